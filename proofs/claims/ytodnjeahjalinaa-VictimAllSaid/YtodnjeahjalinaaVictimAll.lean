/-
  VictimAll holds for every input: of full blocks, times enough, each one is erased, and as often as each other one, but for the spread.
-/
import Derived.Test.YtodnjeahjalinaaRows
import Derived.Test.YtodnjeahjalinaaAllP
import Derived.Test.YtodnjeahjalinaaAgain
import Derived.Test.YtodnjeahjalinaaHas
import Derived.Test.YtodnjeahjalinaaPlay
import Derived.Test.YtodnjeahjalinaaAlive
import Derived.Test.YtodnjeahjalinaaFrame
import Derived.WalkKit
import Derived.ProofKit
import Derived.OpenShut
import Derived.ShutString
import Derived.ChangeOld
import Derived.Below
import Derived.SizedLaws
import Derived.RegionTactic
import Derived.Deep.RegionWith
import Derived.Deep.CutBlock
import Derived.ChangeAlike
namespace Go.Proofs.Ytodnjeahjalinaa.victimAll
open Go.ChangeShapes Go.WideShapes Go.ChangeAt Go.RowKit Words Go.Proofs.Ytodnjeahjalinaa.Vic
open Go.ChangeMaps (open_string shut_string)
set_option linter.unusedVariables false

theorem own : ownKnob Try.prog.godebug = none := by kernel_rfl
theorem laidOut : laidOutB Try.prog = true := by kernel_rfl

set_option maxRecDepth 100000 in
set_option maxHeartbeats 4000000 in
/-- The walk: the Go text returns true and writes nothing that was there. -/
theorem walk (a0 : Int) (a1 : Int) (a2 : Int) (w : World) (w0 : (Lit.int .i64 a0).wf = true) (w1 : (Lit.int .i64 a1).wf = true) (w2 : (Lit.int .i64 a2).wf = true)  :
    Calls Try.prog 7 #[.int .i64 a0, .int .i64 a1, .int .i64 a2] w fun e w' => e = .returned (.bool true) ∧ Below w.heap.size w w' := by
  have HA := Lib.hid (alive18 w)
  clear w0 w1 w2
  by_cases h0 : a0 < 1
  · as_aux_lemma =>
      go_enter Try.func7, Try.ntmps7
      go_wp2_with fail
      refine (HA.out).mono ?_; rintro e x1 ⟨rfl, b1⟩
      have B1 := Lib.hid b1
      clear b1
      go_wp2_with fail
      go_ret
      exact ⟨rfl, B1.out⟩
  ·
    by_cases h1 : a0 > 20
    · as_aux_lemma =>
        go_enter Try.func7, Try.ntmps7
        go_wp2_with fail
        refine (HA.out).mono ?_; rintro e x1 ⟨rfl, b1⟩
        have B1 := Lib.hid b1
        clear b1
        go_wp2_with fail
        go_ret
        exact ⟨rfl, B1.out⟩
    ·
      by_cases h2 : a1 < 1
      · as_aux_lemma =>
          go_enter Try.func7, Try.ntmps7
          go_wp2_with fail
          refine (HA.out).mono ?_; rintro e x1 ⟨rfl, b1⟩
          have B1 := Lib.hid b1
          clear b1
          go_wp2_with fail
          go_ret
          exact ⟨rfl, B1.out⟩
      ·
        by_cases h3 : a1 > 5
        · as_aux_lemma =>
            go_enter Try.func7, Try.ntmps7
            go_wp2_with fail
            refine (HA.out).mono ?_; rintro e x1 ⟨rfl, b1⟩
            have B1 := Lib.hid b1
            clear b1
            go_wp2_with fail
            go_ret
            exact ⟨rfl, B1.out⟩
        ·
          by_cases h4 : a2 < 0
          · as_aux_lemma =>
              go_enter Try.func7, Try.ntmps7
              go_wp2_with fail
              refine (HA.out).mono ?_; rintro e x1 ⟨rfl, b1⟩
              have B1 := Lib.hid b1
              clear b1
              go_wp2_with fail
              go_ret
              exact ⟨rfl, B1.out⟩
          ·
            by_cases h5 : a2 > 400
            · as_aux_lemma =>
                go_enter Try.func7, Try.ntmps7
                go_wp2_with fail
                refine (HA.out).mono ?_; rintro e x1 ⟨rfl, b1⟩
                have B1 := Lib.hid b1
                clear b1
                go_wp2_with fail
                go_ret
                exact ⟨rfl, B1.out⟩
            ·
              obtain ⟨n, rfl⟩ : ∃ n : Nat, a0 = n := ⟨a0.toNat, by omega⟩
              obtain ⟨t, rfl⟩ : ∃ t : Nat, a2 = t := ⟨a2.toNat, by omega⟩
              have hn1 : 1 ≤ n := by omega
              have hn2 : n ≤ 20 := by omega
              have ht2 : t ≤ 400 := by omega
              have HK := Lib.hid (fresh_all (s := a1) hn1 hn2 (by omega) (by omega) ht2)
              have hpe := fresh_err (s := a1) (t := t) hn2 (by omega) (by omega) ht2
              have HR := Lib.hid (fun (wa : World) => repeat19 ⟨1, 4, 0⟩ _ _ 1 n (wa.alloc (.cells #[.int .i64 1, .int .i64 4, .int .i64 0] 28)) (lit_fl wa [⟨1, 4, 0⟩] #[.int .i64 1, .int .i64 4, .int .i64 0] 1 rfl rfl (by omega)) (by simp) hn1 (by omega))
              have HP := Lib.hid (fun (A : Option Addr) (c : Nat) (wa : World) (h : Fl wa wa.heap.size A n c (fresh n)) => play14 _ A n c (fresh n) a1 t wa h (Nat.le_refl _))
              unfold PlayedV at HP
              rw [hpe] at HP
              clear hpe
              generalize pch (fresh n) a1 t = ch at *
              generalize pls (fresh n) a1 t = nx at *
              obtain ⟨p, hp⟩ : ∃ p, p = (n : Int) * a1 := ⟨_, rfl⟩
              have hp0 : 0 ≤ p := by rw [hp]; exact Int.mul_nonneg (by omega) (by omega)
              have hp1 : p ≤ 20 * a1 := by rw [hp]; exact Int.mul_le_mul_of_nonneg_right (by omega) (by omega)
              have hpe : (n : Int) * a1 = p := hp.symm
              have hpw : IntKind.i64.wrap p = p := by rw [IntKind.wrap_i64]; omega
              have HNO := Lib.hid HK.out.none_
              rw [hpe] at HNO
              have hsp := HK.out.spr_
              have hrg := spr_range HK.out.rt
              obtain ⟨sp0, sp1⟩ := hrg
              have HSR := Lib.hid (fun j (hj : j ≤ n) => sumK_range HK.out.rt (k := j) (by rw [HK.out.nxl]; exact hj))
              have HSA : Hid (sumK nx n = t) := Lib.hid ((sumK_all HK.out.nxl.symm).trans HK.out.sum)
              have q1 : ((n : Int) != (n : Int)) = false := by rw [bne_eq_false_iff_eq]
              have q2 : ((t : Int) != (t : Int)) = false := by rw [bne_eq_false_iff_eq]
              clear hp
              go_enter Try.func7, Try.ntmps7
              go_wp2_with fail
              refine (HA.out).mono ?_; rintro e x1 ⟨rfl, b1⟩
              have B1 := Lib.hid b1
              clear b1
              go_wp2_with fail
              refine (HR.out _).mono ?_; rintro e x2 ⟨A1, c1, rfl, o1, b2⟩
              have B2 : Hid (Below w.heap.size w x2) := Lib.hid ((B1.out.alloc B1.out.size _).trans (b2.mono (by have := B1.out.size; simp; omega)))
              have HP2 := Lib.hid (HP.out A1 c1 x2 (OwnFl.fl o1))
              clear o1 b2
              go_wp2_with fail
              refine (HP2.out).mono ?_; rintro e x3 ⟨A2, i, c2, A3, m, c3, rfl, i3⟩
              obtain rfl : i = t := by
                have := Words.Rd.len (Words.Rd.of_own i3.row)
                rw [icells_length, HK.out.chl] at this
                omega
              obtain rfl : m = n := by rw [← i3.fl.len, HK.out.nxl]
              have B3 := Lib.hid (B2.out.trans (i3.bel.mono B2.out.size))
              have O3 : Hid (OwnFl x3 x2.heap.size A3 m c3 nx) := Lib.hid i3.fl
              clear i3 HP2 HP HR
              go_wp2_with fail
              go_loopw [10, 64] (fun a j wr => ∃ (k : Nat), a = .int .i64 (sumK nx k) ∧ j = .int .i64 k ∧ k ≤ m ∧ Below x3.heap.size x3 wr) (fun _ j _ => (m - intOf j).toNat)
              case atStart => exact ⟨0, rfl, rfl, by omega, Below.refl _ _⟩
              case round =>
                obtain ⟨k, rfl, rfl, hkn, hbel⟩ := hrel
                have HB := Lib.hid hbel
                have O4 := Lib.hid (O3.out.below hbel (Nat.le_refl _))
                clear hbel
                obtain ⟨s0, s1⟩ := HSR.out k hkn
                by_cases hlt : k < m
                · obtain ⟨g, rfl, _, _⟩ := O4.out.addr (by omega)
                  have hk : k < nx.length := by rw [HK.out.nxl]; exact hlt
                  obtain ⟨c0, c1', c2'⟩ := O4.out.cells (nth_get hk)
                  have HN := Lib.hid (sumK_next hk)
                  have hry := right_nth HK.out.rt hk
                  obtain ⟨y0, y1, y2, y3, y4⟩ := hry
                  have HB2 := Lib.hid (HB.out.alloc HB.out.size (fbox (nth nx k)))
                  obtain ⟨y, hy⟩ : ∃ y, y = nth nx k := ⟨_, rfl⟩
                  rw [← hy] at c0 c1' c2' HN HB2 y3 y4
                  clear y0 y1 y2 hy hk
                  obtain ⟨yn, yf, yw⟩ := y
                  simp only at y3 y4
                  have c0 : wr.cell? ⟨g, k * 3, none⟩ = some (.int .i64 yn) := c0
                  have c1' : wr.cell? ⟨g, k * 3 + 1, none⟩ = some (.int .i64 yf) := c1'
                  have c2' : wr.cell? ⟨g, k * 3 + 2, none⟩ = some (.int .i64 yw) := c2'
                  obtain ⟨sm, hsm⟩ : ∃ sm, sm = sumK nx k := ⟨_, rfl⟩
                  rw [← hsm] at HN s0 s1 ⊢
                  clear hsm
                  go_wp2_with fail
                  go_roundw
                  case rel => exact ⟨k + 1, by rw [HN.out], by go_num, by omega, HB2.out⟩
                  case measure => simp [intOf]; omega
                · obtain rfl : k = m := by omega
                  rw [HSA.out]
                  have q3 : ((i : Int) == (i : Int)) = true := by simp
                  have HS := Lib.hid (spread13 _ _ _ _ nx wr O4.out.fl (Nat.le_refl _) HK.out.rt)
                  have B4 := Lib.hid (B3.out.trans (HB.out.mono B3.out.size))
                  generalize spr nx = v at *
                  have hsd : decide (v ≤ a1) = true := decide_eq_true hsp
                  by_cases hlt2 : (i : Int) < p
                  · have hld : decide ((i : Int) < p) = true := decide_eq_true hlt2
                    go_wp2_with fail
                    refine (HS.out).mono ?_; rintro e x5 ⟨rfl, b5⟩
                    have B5 := Lib.hid (B4.out.trans (b5.mono B4.out.size))
                    clear b5
                    go_wp2_with fail
                    go_ret
                    exact ⟨rfl, B5.out⟩
                  · have hld : decide ((i : Int) < p) = false := decide_eq_false hlt2
                    have HNN := Lib.hid (HNO.out (by omega))
                    go_wp2_with fail
                    refine (HS.out).mono ?_; rintro e x5 ⟨rfl, b5⟩
                    have B5 := Lib.hid (B4.out.trans (b5.mono B4.out.size))
                    have O5 := Lib.hid (O4.out.below b5 (Nat.le_refl _))
                    have HH := has20 A3 k c3 nx x5 O5.out.fl (by omega)
                    rw [HNN.out] at HH
                    have HH := Lib.hid HH
                    clear b5
                    go_wp2_with fail
                    refine (HH.out).mono ?_; rintro e x6 ⟨rfl, b6⟩
                    have B6 := Lib.hid (B5.out.trans (b6.mono B5.out.size))
                    clear b6
                    go_wp2_with fail
                    go_ret
                    exact ⟨rfl, B6.out⟩

set_option maxRecDepth 100000 in
theorem contract (H : Type) (enc : TypeId × Value → H) (W : World) (base : Nat) (args : Array Value) (ds gs : List (DataW H)) (before : List MemPlace)
    (hval : ∀ (j : Nat) t v, Try.f7.params[j]? = some t → args[j]? = some v → Value.okWide Try.prog W .any base t v)
    (hW : DataW.Whole enc Try.prog Try.f7.params.toList Rows.victimAllSpec.vars false W args.toList ds gs before) :
    Calls Try.prog 7 args W fun e W' => ∃ v, e = .returned v ∧ Rows.victimAllSpec.post enc Try.prog Try.f7 false true false false W args v W' := by
  have hW' := hW
  obtain ⟨p, q, hA0, hV, rfl, hfz, hnd⟩ := hW
  have hA : DataW.TrodAll enc Try.prog W 0 (fun _ => true) true Try.f7.params.toList args.toList ds p := hA0
  rw [Try.params7] at hA hval
  obtain ⟨v0, vs0, d0, ds0, p0, q0, hargs, rfl, rfl, h0, rr0⟩ := trodAll_cons hA
  obtain ⟨v1, vs1, d1, ds1, p1, q1, rfl, rfl, rfl, h1, rr1⟩ := trodAll_cons rr0
  obtain ⟨v2, vs2, d2, ds2, p2, q2, rfl, rfl, rfl, h2, rr2⟩ := trodAll_cons rr1
  obtain ⟨rfl, rfl, rfl⟩ := trodAll_nil rr2
  obtain rfl : args = #[v0, v1, v2] := by cases args; simp_all
  obtain ⟨rfl, rfl⟩ := trodVars_none hV
  obtain ⟨a0, rfl, rfl, rfl, w0⟩ := open_int Try.underlying3 (hval 0 3 v0 rfl rfl) h0
  obtain ⟨a1, rfl, rfl, rfl, w1⟩ := open_int Try.underlying3 (hval 1 3 v1 rfl rfl) h1
  obtain ⟨a2, rfl, rfl, rfl, w2⟩ := open_int Try.underlying3 (hval 2 3 v2 rfl rfl) h2
  clear hA0
  refine (walk a0 a1 a2 W w0 w1 w2).mono fun e W' ⟨he, bel⟩ => ?_
  subst he
  exact ⟨_, rfl, _, _, _, [], _, [], hW', trodAll_mk1 (shut_bool Try.underlying4 _), (trodAll_cons_mk (shut_int Try.underlying3 w0) (trodAll_cons_mk (shut_int Try.underlying3 w1) (trodAll_cons_mk (shut_int Try.underlying3 w2) trodAll_mk0))), rfl, bel.frame _, fun h => by cases h⟩

set_option maxRecDepth 100000 in
theorem lifted (os : Os) (started : os.Started) (H : Type) (enc : TypeId × Value → H) :
    ReturnsInHanded {} Try.checked os 7 .any (Rows.victimAllSpec.pre6 enc Try.prog Try.f7 Rows.victimAllRow.domain false) (Rows.victimAllSpec.post enc Try.prog Try.f7 false true false false) := by
  refine returnsInHanded_of_change (C := Try.checked) own started (by kernel_rfl) Try.func7
    (ChangeSpec.witness6 (enc := enc) (C := Try.checked) false ⟨#[], #[.int .i64 0, .int .i64 0, .int .i64 0], []⟩ 8 (by kernel_rfl) (by kernel_rfl) (by kernel_rfl) (by kernel_rfl)) ?_
  intro W base args ds gs before hval hW _ _
  exact contract H enc W base args ds gs before hval hW

theorem over : Rows.victimAllRow.holds Try.pinned (OpenSpec.ofChange Rows.victimAllSpec) :=
  OpenClaim.holds_of_wide 7 Try.f7 rfl rfl rfl rfl rfl rfl rfl ⟨rfl, rfl, rfl, rfl, rfl⟩ rfl rfl rfl rfl rfl (by kernel_rfl) Try.func7 (by kernel_rfl)
    (of_decide_eq_true (by kernel_rfl)) (by unfold Func.isWrapper; first | (rw [if_pos (by decide +kernel)]; kernel_rfl) | (rw [if_neg (by decide +kernel)]; exact ⟨rfl, rfl⟩))
    (fun os started H enc _ => lifted os started H enc)

/-- ████ THE STATEMENT ████ -/
theorem proved : Rows.VictimAllSaid := over
#print axioms proved
end Go.Proofs.Ytodnjeahjalinaa.victimAll
