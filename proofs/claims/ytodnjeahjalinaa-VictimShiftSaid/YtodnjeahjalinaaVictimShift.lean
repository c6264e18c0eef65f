/-
  VictimShift holds for every input: so much more wear for each block changes nothing of what Greedy tells.
-/
import Derived.Test.YtodnjeahjalinaaRows
import Derived.Test.YtodnjeahjalinaaShift
import Derived.Test.YtodnjeahjalinaaAlive
import Derived.Test.YtodnjeahjalinaaFrame
import Derived.WalkKit
import Derived.ProofKit
import Derived.OpenShut
import Derived.ShutString
import Derived.ChangeOld
import Derived.Below
import Derived.SizedLaws
import Derived.RegionTactic
import Derived.Deep.RegionWith
import Derived.Deep.CutBlock
import Derived.ChangeAlike
namespace Go.Proofs.Ytodnjeahjalinaa.victimShift
open Go.ChangeShapes Go.WideShapes Go.ChangeAt Go.RowKit Words Go.Proofs.Ytodnjeahjalinaa.Vic
open Go.ChangeMaps (open_string shut_string)
set_option linter.unusedVariables false

theorem own : ownKnob Try.prog.godebug = none := by kernel_rfl
theorem laidOut : laidOutB Try.prog = true := by kernel_rfl

set_option maxRecDepth 20000 in
set_option maxHeartbeats 4000000 in
/-- The walk: the Go text returns true and writes nothing that was there. -/
theorem walk (a0 : Option Addr) (len0 cap0 : Nat) (z0 : List Fil) (a1 : Int) (a2 : Int) (w : World) (w0 : Fl w w.heap.size a0 len0 cap0 z0) (w1 : (Lit.int .i64 a1).wf = true) (w2 : (Lit.int .i64 a2).wf = true) (r0 : cap0 * 24 ≤ 140737488351232) :
    Calls Try.prog 8 #[.slice a0 len0 cap0, .int .i64 a1, .int .i64 a2] w fun e w' => e = .returned (.bool true) ∧ Below w.heap.size w w' := by
  have R := Lib.hid (fun (wa : World) (b : Below w.heap.size w wa) => (Words.Rd.below w0 b (Nat.le_refl _) : Fl wa w.heap.size a0 len0 cap0 z0))
  have HA := Lib.hid (alive18 w)
  have L := Lib.hid w0.len
  have hcap := Words.Rd.le w0
  have hn : len0 ≤ 5864062014805 := by omega
  clear w0 w1 w2
  by_cases h0 : a2 < 0
  · go_enter Try.func8, Try.ntmps8
    go_wp2_with fail
    refine (HA.out).mono ?_; rintro e x1 ⟨rfl, b1⟩
    have B1 := Lib.hid b1
    clear b1
    go_wp2_with fail
    go_ret
    exact ⟨rfl, B1.out⟩
  · by_cases h1 : a2 > 1000
    · go_enter Try.func8, Try.ntmps8
      go_wp2_with fail
      refine (HA.out).mono ?_; rintro e x1 ⟨rfl, b1⟩
      have B1 := Lib.hid b1
      clear b1
      go_wp2_with fail
      go_ret
      exact ⟨rfl, B1.out⟩
    · have HK := Lib.hid (fun (wa : World) (b : Below w.heap.size w wa) => clone22 _ _ _ _ z0 wa (R.out wa b) b.size hn)
      have HG := Lib.hid (fun (wa : World) (b : Below w.heap.size w wa) => greedy9 _ _ _ _ z0 a1 wa (R.out wa b) b.size)
      have HT := Lib.hid (fun (e1 : gerr z0 a1 ≠ 1) (e2 : gerr (z0.map (moreW a2)) a1 ≠ 1) => shift_told (l := z0) (s := a1) (m := a2) (by omega) (by omega) e1 e2)
      go_enter Try.func8, Try.ntmps8
      go_wp2_with fail
      refine (HA.out).mono ?_; rintro e x1 ⟨rfl, b1⟩
      have B1 := Lib.hid b1
      clear b1
      go_wp2_with fail
      refine (HK.out _ B1.out).mono ?_; rintro e x2 ⟨A2, c2, rfl, o2, b2⟩
      have B2 := Lib.hid (B1.out.trans (b2.mono B1.out.size))
      have O2 : Hid (OwnFl x2 w.heap.size A2 len0 c2 (shl z0 a2 0)) := Lib.hid (by rw [shl_zero]; exact own_base o2 B1.out.size)
      clear b2 o2
      go_wp2_with fail
      go_loopw [25] (fun i wr => ∃ k : Nat, i = .int .i64 k ∧ k ≤ len0 ∧ OwnFl wr w.heap.size A2 len0 c2 (shl z0 a2 k) ∧ Below w.heap.size w wr) (fun i _ => (len0 - intOf i).toNat)
      case atStart => exact ⟨0, rfl, by omega, O2.out, B2.out⟩
      case round =>
        obtain ⟨k, rfl, hkn, hown, hbel⟩ := hrel
        have HO := Lib.hid hown
        have HB := Lib.hid hbel
        clear hown hbel
        by_cases hlt : k < len0
        · obtain ⟨g, rfl, _, _⟩ := HO.out.addr (by omega)
          have hk : k < z0.length := by rw [L.out]; exact hlt
          have hnth := shl_nth (m := a2) hk
          have hks : k < (shl z0 a2 k).length := by rw [shl_length (by omega)]; exact hk
          obtain ⟨c0, c1, c2'⟩ := HO.out.cells (nth_get hks)
          have hput := HO.out.put2 (nth_get hks) (IntKind.i64.wrap ((nth z0 k).wear + a2))
          have fz := HO.out.frozen (k * 3 + 2)
          have hnext := shl_next (m := a2) hk
          rw [hnth] at c0 c1 c2' hput
          rw [hnext] at hput
          have HB2 := Lib.hid (below_grown (v := .slice (some ⟨g, 0, none⟩) len0 c2) HB.out HO.out hput.2 HB.out.size (Nat.le_refl _))
          have HPT := Lib.hid hput.1
          obtain ⟨y, hy⟩ : ∃ y, y = nth z0 k := ⟨_, rfl⟩
          rw [← hy] at c0 c1 c2' HB2 HPT
          clear hput hnext hnth hk hks hy
          obtain ⟨yn, yf, yw⟩ := y
          obtain ⟨r, hr⟩ : ∃ r, r = IntKind.i64.wrap (yw + a2) := ⟨_, rfl⟩
          have c2' : wr.cell? ⟨g, k * 3 + 2, none⟩ = some (.int .i64 yw) := c2'
          have hrw : IntKind.i64.wrap (yw + a2) = r := hr.symm
          have HB2 : Hid (Below w.heap.size w (wr.setCell ⟨g, k * 3 + 2, none⟩ (.int .i64 r))) := Lib.hid (by rw [hr]; exact HB2.out)
          have HPT : Hid (OwnFl (wr.setCell ⟨g, k * 3 + 2, none⟩ (.int .i64 r)) w.heap.size (some ⟨g, 0, none⟩) len0 c2 (shl z0 a2 (k + 1))) := Lib.hid (by rw [hr]; exact HPT.out)
          clear hr
          go_wp2_with fail
          go_roundw
          case rel => exact ⟨k + 1, by go_num, by omega, HPT.out, HB2.out⟩
          case measure => simp [intOf]; omega
        · obtain rfl : k = len0 := by omega
          have HO := HO.out
          rw [shl_all L.out.symm] at HO
          have HO := Lib.hid HO
          generalize z0.map (moreW a2) = zm at *
          go_wp2_with fail
          refine (HG.out _ HB.out).mono ?_; rintro e x3 ⟨rfl, b3⟩
          have B3 := Lib.hid (HB.out.trans (b3.mono HB.out.size))
          have O3 := Lib.hid (HO.out.below b3 (Nat.le_refl _))
          have HG2 := Lib.hid (greedy9 _ _ _ _ zm a1 x3 O3.out.fl (Nat.le_refl _))
          clear b3
          go_wp2_with fail
          refine (HG2.out).mono ?_; rintro e x4 ⟨rfl, b4⟩
          have B4 := Lib.hid (B3.out.trans (b4.mono B3.out.size))
          clear b4
          by_cases e1 : gerr z0 a1 = 1
          · have t1 : (gerr z0 a1 == 1) = true := by rw [beq_iff_eq]; exact e1
            clear e1
            go_wp2_with fail
            go_ret
            exact ⟨rfl, B4.out⟩
          · have t1 : (gerr z0 a1 == 1) = false := by rw [beq_eq_false_iff_ne]; exact e1
            by_cases e2 : gerr zm a1 = 1
            · have t2 : (gerr zm a1 == 1) = true := by rw [beq_iff_eq]; exact e2
              clear e1 e2
              go_wp2_with fail
              go_ret
              exact ⟨rfl, B4.out⟩
            · have t2 : (gerr zm a1 == 1) = false := by rw [beq_eq_false_iff_ne]; exact e2
              obtain ⟨t3, t4⟩ := HT.out e1 e2
              have t3 : (gerr z0 a1 == gerr zm a1) = true := by rw [beq_iff_eq]; exact t3
              have t4 : (gidx z0 a1 == gidx zm a1) = true := by rw [beq_iff_eq]; exact t4
              clear e1 e2
              go_wp2_with fail
              go_ret
              exact ⟨rfl, B4.out⟩

set_option maxRecDepth 100000 in
theorem contract (H : Type) (enc : TypeId × Value → H) (W : World) (base : Nat) (args : Array Value) (ds gs : List (DataW H)) (before : List MemPlace)
    (hval : ∀ (j : Nat) t v, Try.f8.params[j]? = some t → args[j]? = some v → Value.okWide Try.prog W .any base t v)
    (hW : DataW.Whole enc Try.prog Try.f8.params.toList Rows.victimShiftSpec.vars false W args.toList ds gs before) (hsz : (DataW.weightsEach Try.prog (Try.f8.params.toList ++ Rows.victimShiftSpec.plain.varTypes Try.prog) (ds ++ gs)).all (· ≤ reachBytes) = true) :
    Calls Try.prog 8 args W fun e W' => ∃ v, e = .returned v ∧ Rows.victimShiftSpec.post enc Try.prog Try.f8 false true false false W args v W' := by
  have hW' := hW
  obtain ⟨p, q, hA0, hV, rfl, hfz, hnd⟩ := hW
  have hA : DataW.TrodAll enc Try.prog W 0 (fun _ => true) true Try.f8.params.toList args.toList ds p := hA0
  rw [Try.params8] at hA hval hsz
  obtain ⟨v0, vs0, d0, ds0, p0, q0, hargs, rfl, rfl, h0, rr0⟩ := trodAll_cons hA
  obtain ⟨v1, vs1, d1, ds1, p1, q1, rfl, rfl, rfl, h1, rr1⟩ := trodAll_cons rr0
  obtain ⟨v2, vs2, d2, ds2, p2, q2, rfl, rfl, rfl, h2, rr2⟩ := trodAll_cons rr1
  obtain ⟨rfl, rfl, rfl⟩ := trodAll_nil rr2
  obtain rfl : args = #[v0, v1, v2] := by cases args; simp_all
  obtain ⟨rfl, rfl⟩ := trodVars_none hV
  obtain ⟨a0, len0, cap0, rfl⟩ := okWide_slice Try.underlying22 (hval 0 22 v0 rfl rfl)
  have k0 := h0
  have lt0 : ∀ x ∈ p0, x.block < W.heap.size := by obtain ⟨m, hm⟩ := k0; exact DataW.trod_lt m _ _ _ hm
  obtain ⟨⟨z0, w0⟩, u0⟩ := open_fl h0
  have r0 := reach_fl hsz (j := 0) rfl rfl u0
  obtain ⟨a1, rfl, rfl, rfl, w1⟩ := open_int Try.underlying3 (hval 1 3 v1 rfl rfl) h1
  obtain ⟨a2, rfl, rfl, rfl, w2⟩ := open_int Try.underlying3 (hval 2 3 v2 rfl rfl) h2
  clear hA0
  refine (walk a0 len0 cap0 z0 a1 a2 W w0 w1 w2 r0).mono fun e W' ⟨he, bel⟩ => ?_
  subst he
  exact ⟨_, rfl, _, _, _, [], _, [], hW', trodAll_mk1 (shut_bool Try.underlying4 _), (trodAll_cons_mk (Below.trod laidOut (by kernel_rfl) (of_decide_eq_true (by kernel_rfl)) k0 bel lt0) (trodAll_cons_mk (shut_int Try.underlying3 w1) (trodAll_cons_mk (shut_int Try.underlying3 w2) trodAll_mk0))), rfl, bel.frame _, fun h => by cases h⟩

set_option maxRecDepth 100000 in
theorem lifted (os : Os) (started : os.Started) (H : Type) (enc : TypeId × Value → H) :
    ReturnsInHanded {} Try.checked os 8 .any (Rows.victimShiftSpec.pre6 enc Try.prog Try.f8 Rows.victimShiftRow.domain false) (Rows.victimShiftSpec.post enc Try.prog Try.f8 false true false false) := by
  refine returnsInHanded_of_change_sized (C := Try.checked) own started (by kernel_rfl) Try.func8
    (ChangeSpec.witness6 (enc := enc) (C := Try.checked) false ⟨#[], #[.slice none 0 0, .int .i64 0, .int .i64 0], []⟩ 8 (by kernel_rfl) (by kernel_rfl) (by kernel_rfl) (by kernel_rfl)) ?_
  intro W base args ds gs before hval hW _ hsz _
  exact contract H enc W base args ds gs before hval hW hsz

theorem over : Rows.victimShiftRow.holds Try.pinned (OpenSpec.ofChange Rows.victimShiftSpec) :=
  OpenClaim.holds_of_wide 8 Try.f8 rfl rfl rfl rfl rfl rfl rfl ⟨rfl, rfl, rfl, rfl, rfl⟩ rfl rfl rfl rfl rfl (by kernel_rfl) Try.func8 (by kernel_rfl)
    (of_decide_eq_true (by kernel_rfl)) (by unfold Func.isWrapper; first | (rw [if_pos (by decide +kernel)]; kernel_rfl) | (rw [if_neg (by decide +kernel)]; exact ⟨rfl, rfl⟩))
    (fun os started H enc _ => lifted os started H enc)

/-- ████ THE STATEMENT ████ -/
theorem proved : Rows.VictimShiftSaid := over
#print axioms proved
end Go.Proofs.Ytodnjeahjalinaa.victimShift
