/-
  VictimLeast holds for every input: no block that may be erased is cheaper than the one that Greedy names.
-/
import Derived.Test.YtodnjeahjalinaaRows
import Derived.Test.YtodnjeahjalinaaLeast
import Derived.Test.YtodnjeahjalinaaAlive
import Derived.Test.YtodnjeahjalinaaFrame
import Derived.WalkKit
import Derived.ProofKit
import Derived.OpenShut
import Derived.ShutString
import Derived.ChangeOld
import Derived.Below
import Derived.SizedLaws
import Derived.RegionTactic
import Derived.Deep.RegionWith
import Derived.Deep.CutBlock
import Derived.ChangeAlike
namespace Go.Proofs.Ytodnjeahjalinaa.victimLeast
open Go.ChangeShapes Go.WideShapes Go.ChangeAt Go.RowKit Words Go.Proofs.Ytodnjeahjalinaa.Vic
open Go.ChangeMaps (open_string shut_string)
set_option linter.unusedVariables false

theorem own : ownKnob Try.prog.godebug = none := by kernel_rfl
theorem laidOut : laidOutB Try.prog = true := by kernel_rfl

set_option maxRecDepth 100000 in
set_option maxHeartbeats 4000000 in
/-- The walk: the Go text returns true and writes nothing that was there. -/
theorem walk (a0 : Option Addr) (len0 cap0 : Nat) (z0 : List Fil) (a1 : Int) (w : World) (w0 : Fl w w.heap.size a0 len0 cap0 z0) (w1 : (Lit.int .i64 a1).wf = true)  :
    Calls Try.prog 5 #[.slice a0 len0 cap0, .int .i64 a1] w fun e w' => e = .returned (.bool true) ∧ Below w.heap.size w w' := by
  have R := Lib.hid (fun (wa : World) (b : Below w.heap.size w wa) => (Words.Rd.below w0 b (Nat.le_refl _) : Fl wa w.heap.size a0 len0 cap0 z0))
  have HA := Lib.hid (alive18 w)
  have L := Lib.hid w0.len
  have mx := Go.Proofs.Ytodnjeahjalinaa.Stab.mixedO
  have HG := fun (wa : World) (b : Below w.heap.size w wa) => greedy9 _ _ _ _ z0 a1 wa (R.out wa b) b.size
  clear w0 w1
  by_cases he : gerr z0 a1 = 0
  · obtain ⟨hz, hf⟩ := gerr_zero he
    obtain ⟨hr, hs1, hs2⟩ := chk_zero hz
    have hpk := pk_of (l := z0) (s := a1) rfl hf
    have hgi := gidx_ok hz
    rw [he, hgi] at HG
    have HG := Lib.hid HG
    obtain ⟨K, hK⟩ : ∃ K, K = (pick z0 a1).1 := ⟨_, rfl⟩
    rw [← hK] at hpk
    simp only [← hK] at HG
    have HPK := Lib.hid hpk
    have HRT := Lib.hid hr
    have hKn : K < len0 := by rw [← L.out]; exact hpk.lt
    have hn : 0 < len0 := by omega
    have hlen := right_len hr
    rw [L.out] at hlen
    have HL0 := Lib.hid (LI.start (l := z0) (by rw [L.out]; exact hn))
    clear he hz hf hpk hgi hr hK
    have hK1 : decide ((K : Int) < 0) = false := by rw [decide_eq_false_iff_not]; omega
    have hK2 : decide (len0 ≤ K) = false := by rw [decide_eq_false_iff_not]; omega
    go_enter Try.func5, Try.ntmps5
    go_wp2_with fail
    refine (HA.out).mono ?_; rintro e x1 ⟨rfl, b1⟩
    have B1 := Lib.hid b1
    clear b1
    go_wp2_with fail
    refine (HG.out _ B1.out).mono ?_; rintro e x2 ⟨rfl, b2⟩
    have B2 := Lib.hid (B1.out.trans (b2.mono B1.out.size))
    clear b2
    obtain ⟨g, o, rfl, _, _⟩ := Words.Rd.row (R.out _ B2.out) hn
    obtain ⟨p0, p1, p2⟩ := Fl.cells (R.out _ B2.out) rfl (nth_get (l := z0) (k := 0) (by rw [L.out]; exact hn))
    rw [Nat.zero_mul, Nat.add_zero] at p0 p1 p2
    go_wp2_with fail
    go_loopw [9, 41] (fun a i wr => ∃ (k : Nat) (v : Int), a = .int .i64 v ∧ i = .int .i64 k ∧ k ≤ len0 ∧ LI z0 k v ∧ Below w.heap.size w wr) (fun _ i _ => (len0 - intOf i).toNat)
    case atStart => exact ⟨0, _, rfl, rfl, by omega, HL0.out, B2.out⟩
    case round =>
      obtain ⟨k, v, rfl, rfl, hkn, hli, hbel⟩ := hrel
      have HI := Lib.hid hli
      have HB := Lib.hid hbel
      clear hli hbel p0 p1 p2
      by_cases hlt : k < len0
      · obtain ⟨c0, c1, c2⟩ := Fl.cells (R.out _ HB.out) rfl (nth_get (l := z0) (k := k) (by rw [L.out]; exact hlt))
        have HN := Lib.hid (HI.out.next (by rw [L.out]; exact hlt))
        have HB2 := Lib.hid (HB.out.alloc HB.out.size (fbox (nth z0 k)))
        obtain ⟨y, hy⟩ : ∃ y, y = nth z0 k := ⟨_, rfl⟩
        rw [← hy] at c0 c1 c2 HN HB2
        clear hy
        obtain ⟨yn, yf, yw⟩ := y
        go_wp2_with fail
        go_roundw
        case rel => exact ⟨k + 1, _, rfl, by go_num, by omega, HN.out, HB2.out⟩
        case measure => simp [intOf]; omega
      · obtain rfl : k = len0 := by omega
        obtain rfl : v = lw z0 := HI.out.fin L.out.symm
        obtain ⟨v0, v1⟩ := HI.out.range HRT.out
        have HSR := Lib.hid (fun j (hj : j ≤ k) => sumN_range HRT.out (k := j) (by rw [L.out]; exact hj))
        go_wp2_with fail
        go_loopw [7, 8, 52] (fun a b i wr => ∃ (j : Nat), a = .int .i64 (sumN z0 j) ∧ b = .bool (allM z0 a1 j) ∧ i = .int .i64 j ∧ j ≤ k ∧ Below w.heap.size w wr) (fun _ _ i _ => (k - intOf i).toNat)
        case atStart => exact ⟨0, rfl, rfl, rfl, by omega, HB.out⟩
        case round =>
          obtain ⟨j, rfl, rfl, rfl, hjn, hbel⟩ := hrel
          have HB := Lib.hid hbel
          clear hbel
          obtain ⟨s0, s1⟩ := HSR.out j hjn
          by_cases hj : j < k
          · obtain ⟨c0, c1, c2⟩ := Fl.cells (R.out _ HB.out) rfl (nth_get (l := z0) (k := j) (by rw [L.out]; exact hj))
            obtain ⟨d0, d1, d2⟩ := box_cells wr (nth z0 j)
            have HB2 := Lib.hid (HB.out.alloc HB.out.size (fbox (nth z0 j)))
            obtain ⟨q0, q1, q2⟩ := Fl.cellsG (R.out _ HB2.out) HB2.out.size rfl (nth_get (l := z0) (k := K) (by rw [L.out]; exact hKn))
            have HSN := Lib.hid (sumN_next (l := z0) (k := j) (by rw [L.out]; exact hj))
            have HAN := Lib.hid (allM_next (l := z0) (s := a1) (k := j) (by rw [L.out]; exact hj))
            have hry := right_nth HRT.out (k := j) (by rw [L.out]; exact hj)
            obtain ⟨y0, y1, y2, y3, y4⟩ := hry
            have HLE := Lib.hid (HPK.out.least j (by rw [L.out]; exact hj))
            obtain ⟨z, hz⟩ : ∃ z, z = nth z0 K := ⟨_, rfl⟩
            rw [← hz] at q0 q1 q2 HLE
            obtain ⟨y, hy⟩ : ∃ y, y = nth z0 j := ⟨_, rfl⟩
            rw [← hy] at c0 c1 c2 d0 d1 d2 q0 q1 q2 HB2 HSN HAN y0 y1 y2 y3 y4 HLE
            clear hy hz
            obtain ⟨yn, yf, yw⟩ := y
            obtain ⟨zn, zf, zw⟩ := z
            simp only at y0 y1 y2 y3 y4
            have d0 : ∀ m os, (Go.Sort.grow ((wr.alloc (.cells #[.int .i64 yn, .int .i64 yf, .int .i64 yw] 28)).drewN m) os).cell? ⟨wr.heap.size, 0, none⟩ = some (.int .i64 yn) := d0
            have q0 : ∀ m os, (Go.Sort.grow ((wr.alloc (.cells #[.int .i64 yn, .int .i64 yf, .int .i64 yw] 28)).drewN m) os).cell? ⟨g, o + K * 3, none⟩ = some (.int .i64 zn) := q0
            obtain ⟨sm, hsm⟩ : ∃ sm, sm = sumN z0 j := ⟨_, rfl⟩
            obtain ⟨q, hq⟩ : ∃ q, q = allM z0 a1 j := ⟨_, rfl⟩
            rw [← hsm] at HSN s0 s1 ⊢
            rw [← hq] at HAN ⊢
            clear d1 d2 q1 q2 hsm hq
            have HMW : Hid (mayW z0 a1 ⟨yn, yf, yw⟩ = (decide (yf = 4) && decide (yw - lw z0 < a1))) := Lib.hid rfl
            generalize lw z0 = v at *
            have hsum : sm + yn ≤ 20000 := by omega
            by_cases h4 : yf = 4
            · subst h4
              have hb : ((4 : Int) == 4) = true := rfl
              by_cases hw : yw - v < a1
              · have hle : ¬ yn < zn := by have := HLE.out (by rw [HMW.out]; simp [hw]); simp only at this; omega
                have hld : decide (yn < zn) = false := decide_eq_false hle
                cases q with
                | true =>
                  have HE : Hid (allM z0 a1 (j + 1) = true) := Lib.hid (by rw [HAN.out, HMW.out]; simp [hw])
                  go_wp2_with fail
                  refine wp_region_quiet_grown (by assumption) (by kernel_rfl) ?_
                  repeat (go_big_quiet_step (fail))
                  refine wpQuiet_nil ?_
                  intro _ hw2
                  obtain ⟨⟨nq, osq⟩, hw3⟩ := hw2
                  subst hw3
                  have HB3 := Lib.hid (Go.Proofs.Ytodnjeahjalinaa.Stab.below_grow HB2.out HB2.out.size nq osq)
                  clear c0 c1 c2 d0 q0
                  go_wp2_with fail
                  go_roundw
                  case rel => exact ⟨j + 1, by rw [HSN.out], by rw [HE.out], by go_num, by omega, HB3.out⟩
                  case measure => simp [intOf]; omega
                | false =>
                  have HE : Hid (allM z0 a1 (j + 1) = false) := Lib.hid (by rw [HAN.out, HMW.out]; simp [hw])
                  go_wp2_with fail
                  refine wp_region_quiet_grown (by assumption) (by kernel_rfl) ?_
                  repeat (go_big_quiet_step (fail))
                  refine wpQuiet_nil ?_
                  intro _ hw2
                  obtain ⟨⟨nq, osq⟩, hw3⟩ := hw2
                  subst hw3
                  have HB3 := Lib.hid (Go.Proofs.Ytodnjeahjalinaa.Stab.below_grow HB2.out HB2.out.size nq osq)
                  clear c0 c1 c2 d0 q0
                  go_wp2_with fail
                  go_roundw
                  case rel => exact ⟨j + 1, by rw [HSN.out], by rw [HE.out], by go_num, by omega, HB3.out⟩
                  case measure => simp [intOf]; omega
              · cases q with
                | true =>
                  have HE : Hid (allM z0 a1 (j + 1) = false) := Lib.hid (by rw [HAN.out, HMW.out]; simp [hw])
                  go_wp2_with fail
                  refine wp_region_quiet_grown (by assumption) (by kernel_rfl) ?_
                  repeat (go_big_quiet_step (fail))
                  refine wpQuiet_nil ?_
                  intro _ hw2
                  obtain ⟨⟨nq, osq⟩, hw3⟩ := hw2
                  subst hw3
                  have HB3 := Lib.hid (Go.Proofs.Ytodnjeahjalinaa.Stab.below_grow HB2.out HB2.out.size nq osq)
                  clear c0 c1 c2 d0 q0
                  go_wp2_with fail
                  go_roundw
                  case rel => exact ⟨j + 1, by rw [HSN.out], by rw [HE.out], by go_num, by omega, HB3.out⟩
                  case measure => simp [intOf]; omega
                | false =>
                  have HE : Hid (allM z0 a1 (j + 1) = false) := Lib.hid (by rw [HAN.out, HMW.out]; simp [hw])
                  go_wp2_with fail
                  refine wp_region_quiet_grown (by assumption) (by kernel_rfl) ?_
                  repeat (go_big_quiet_step (fail))
                  refine wpQuiet_nil ?_
                  intro _ hw2
                  obtain ⟨⟨nq, osq⟩, hw3⟩ := hw2
                  subst hw3
                  have HB3 := Lib.hid (Go.Proofs.Ytodnjeahjalinaa.Stab.below_grow HB2.out HB2.out.size nq osq)
                  clear c0 c1 c2 d0 q0
                  go_wp2_with fail
                  go_roundw
                  case rel => exact ⟨j + 1, by rw [HSN.out], by rw [HE.out], by go_num, by omega, HB3.out⟩
                  case measure => simp [intOf]; omega
            · have hb : (yf == 4) = false := by rw [beq_eq_false_iff_ne]; exact h4
              cases q with
              | true =>
                have HE : Hid (allM z0 a1 (j + 1) = false) := Lib.hid (by rw [HAN.out, HMW.out]; simp [h4])
                go_wp2_with fail
                refine wp_region_quiet_grown (by assumption) (by kernel_rfl) ?_
                repeat (go_big_quiet_step (fail))
                refine wpQuiet_nil ?_
                intro _ hw2
                obtain ⟨⟨nq, osq⟩, hw3⟩ := hw2
                subst hw3
                have HB3 := Lib.hid (Go.Proofs.Ytodnjeahjalinaa.Stab.below_grow HB2.out HB2.out.size nq osq)
                clear c0 c1 c2 d0 q0
                go_wp2_with fail
                go_roundw
                case rel => exact ⟨j + 1, by rw [HSN.out], by rw [HE.out], by go_num, by omega, HB3.out⟩
                case measure => simp [intOf]; omega
              | false =>
                have HE : Hid (allM z0 a1 (j + 1) = false) := Lib.hid (by rw [HAN.out, HMW.out]; simp [h4])
                go_wp2_with fail
                refine wp_region_quiet_grown (by assumption) (by kernel_rfl) ?_
                repeat (go_big_quiet_step (fail))
                refine wpQuiet_nil ?_
                intro _ hw2
                obtain ⟨⟨nq, osq⟩, hw3⟩ := hw2
                subst hw3
                have HB3 := Lib.hid (Go.Proofs.Ytodnjeahjalinaa.Stab.below_grow HB2.out HB2.out.size nq osq)
                clear c0 c1 c2 d0 q0
                go_wp2_with fail
                go_roundw
                case rel => exact ⟨j + 1, by rw [HSN.out], by rw [HE.out], by go_num, by omega, HB3.out⟩
                case measure => simp [intOf]; omega
          · obtain rfl : j = k := by omega
            obtain ⟨c0, c1, c2⟩ := Fl.cells (R.out _ HB.out) rfl (nth_get (l := z0) (k := K) (by rw [L.out]; exact hKn))
            have hf4 := HPK.out.fill
            have hfw := HPK.out.wear
            have hry := right_nth HRT.out (k := K) (by rw [L.out]; exact hKn)
            obtain ⟨y0, y1, y2, y3, y4⟩ := hry
            have HSL := Lib.hid (fun ha => sum_least HPK.out (k := j) (by rw [L.out]; exact Nat.le_refl _) ha)
            obtain ⟨y, hy⟩ : ∃ y, y = nth z0 K := ⟨_, rfl⟩
            rw [← hy] at c0 c1 c2 hf4 hfw y0 y1 y2 y3 y4
            simp only [← hy] at HSL
            clear hy
            obtain ⟨yn, yf, yw⟩ := y
            simp only at hf4 hfw y0 y1 y2 y3 y4
            subst hf4
            generalize lw z0 = v at *
            generalize sumN z0 j = sm at *
            obtain ⟨p, hp⟩ : ∃ p, p = yn * (j : Int) := ⟨_, rfl⟩
            have hp0 : 0 ≤ p := by rw [hp]; exact Int.mul_nonneg y0 (by omega)
            have hp1 : p ≤ 4 * (j : Int) := by rw [hp]; exact Int.mul_le_mul_of_nonneg_right (by omega) (by omega)
            have hpe : yn * (j : Int) = p := hp.symm
            have hpw : IntKind.i64.wrap p = p := by rw [IntKind.wrap_i64]; omega
            cases ha : allM z0 a1 j with
            | true =>
              have hle : p ≤ sm := by have := HSL.out ha; rw [hp]; exact this
              have hld : decide (p ≤ sm) = true := decide_eq_true hle
              clear hp ha
              go_wp2_with fail
              go_ret
              exact ⟨rfl, HB.out⟩
            | false =>
              clear hp ha
              go_wp2_with fail
              go_ret
              exact ⟨rfl, HB.out⟩
  · have hne : (gerr z0 a1 != 0) = true := by rw [bne_iff_ne]; exact he
    rw [gidx_err he] at HG
    have HG := Lib.hid HG
    generalize gerr z0 a1 = k at *
    clear he
    go_enter Try.func5, Try.ntmps5
    go_wp2_with fail
    refine (HA.out).mono ?_; rintro e x1 ⟨rfl, b1⟩
    have B1 := Lib.hid b1
    clear b1
    go_wp2_with fail
    refine (HG.out _ B1.out).mono ?_; rintro e x2 ⟨rfl, b2⟩
    have B2 := Lib.hid (B1.out.trans (b2.mono B1.out.size))
    clear b2
    go_wp2_with fail
    go_ret
    exact ⟨rfl, B2.out⟩

set_option maxRecDepth 100000 in
theorem contract (H : Type) (enc : TypeId × Value → H) (W : World) (base : Nat) (args : Array Value) (ds gs : List (DataW H)) (before : List MemPlace)
    (hval : ∀ (j : Nat) t v, Try.f5.params[j]? = some t → args[j]? = some v → Value.okWide Try.prog W .any base t v)
    (hW : DataW.Whole enc Try.prog Try.f5.params.toList Rows.victimLeastSpec.vars false W args.toList ds gs before) :
    Calls Try.prog 5 args W fun e W' => ∃ v, e = .returned v ∧ Rows.victimLeastSpec.post enc Try.prog Try.f5 false true false false W args v W' := by
  have hW' := hW
  obtain ⟨p, q, hA0, hV, rfl, hfz, hnd⟩ := hW
  have hA : DataW.TrodAll enc Try.prog W 0 (fun _ => true) true Try.f5.params.toList args.toList ds p := hA0
  rw [Try.params5] at hA hval
  obtain ⟨v0, vs0, d0, ds0, p0, q0, hargs, rfl, rfl, h0, rr0⟩ := trodAll_cons hA
  obtain ⟨v1, vs1, d1, ds1, p1, q1, rfl, rfl, rfl, h1, rr1⟩ := trodAll_cons rr0
  obtain ⟨rfl, rfl, rfl⟩ := trodAll_nil rr1
  obtain rfl : args = #[v0, v1] := by cases args; simp_all
  obtain ⟨rfl, rfl⟩ := trodVars_none hV
  obtain ⟨a0, len0, cap0, rfl⟩ := okWide_slice Try.underlying22 (hval 0 22 v0 rfl rfl)
  have k0 := h0
  have lt0 : ∀ x ∈ p0, x.block < W.heap.size := by obtain ⟨m, hm⟩ := k0; exact DataW.trod_lt m _ _ _ hm
  obtain ⟨⟨z0, w0⟩, u0⟩ := open_fl h0
  obtain ⟨a1, rfl, rfl, rfl, w1⟩ := open_int Try.underlying3 (hval 1 3 v1 rfl rfl) h1
  clear hA0
  refine (walk a0 len0 cap0 z0 a1 W w0 w1).mono fun e W' ⟨he, bel⟩ => ?_
  subst he
  exact ⟨_, rfl, _, _, _, [], _, [], hW', trodAll_mk1 (shut_bool Try.underlying4 _), (trodAll_cons_mk (Below.trod laidOut (by kernel_rfl) (of_decide_eq_true (by kernel_rfl)) k0 bel lt0) (trodAll_cons_mk (shut_int Try.underlying3 w1) trodAll_mk0)), rfl, bel.frame _, fun h => by cases h⟩

set_option maxRecDepth 100000 in
theorem lifted (os : Os) (started : os.Started) (H : Type) (enc : TypeId × Value → H) :
    ReturnsInHanded {} Try.checked os 5 .any (Rows.victimLeastSpec.pre6 enc Try.prog Try.f5 Rows.victimLeastRow.domain false) (Rows.victimLeastSpec.post enc Try.prog Try.f5 false true false false) := by
  refine returnsInHanded_of_change (C := Try.checked) own started (by kernel_rfl) Try.func5
    (ChangeSpec.witness6 (enc := enc) (C := Try.checked) false ⟨#[], #[.slice none 0 0, .int .i64 0], []⟩ 8 (by kernel_rfl) (by kernel_rfl) (by kernel_rfl) (by kernel_rfl)) ?_
  intro W base args ds gs before hval hW _ _
  exact contract H enc W base args ds gs before hval hW

theorem over : Rows.victimLeastRow.holds Try.pinned (OpenSpec.ofChange Rows.victimLeastSpec) :=
  OpenClaim.holds_of_wide 5 Try.f5 rfl rfl rfl rfl rfl rfl rfl ⟨rfl, rfl, rfl, rfl, rfl⟩ rfl rfl rfl rfl rfl (by kernel_rfl) Try.func5 (by kernel_rfl)
    (of_decide_eq_true (by kernel_rfl)) (by unfold Func.isWrapper; first | (rw [if_pos (by decide +kernel)]; kernel_rfl) | (rw [if_neg (by decide +kernel)]; exact ⟨rfl, rfl⟩))
    (fun os started H enc _ => lifted os started H enc)

/-- ████ THE STATEMENT ████ -/
theorem proved : Rows.VictimLeastSaid := over
#print axioms proved
end Go.Proofs.Ytodnjeahjalinaa.victimLeast
