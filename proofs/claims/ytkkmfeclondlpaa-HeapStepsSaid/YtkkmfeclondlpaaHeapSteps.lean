/-
  HeapSteps holds for every input: Right, Push and Pop return what F1 says, for every list and every block.
-/
import Derived.Test.YtkkmfeclondlpaaRows
import Derived.Test.YtkkmfeclondlpaaRights2
import Derived.Test.YtkkmfeclondlpaaFPush
import Derived.Test.YtkkmfeclondlpaaFPop
import Derived.Test.YtkkmfeclondlpaaFrame
import Derived.WalkKit
import Derived.ProofKit
import Derived.OpenShut
import Derived.ShutString
import Derived.ChangeOld
import Derived.Below
import Derived.SizedLaws
import Derived.RegionTactic
import Derived.Deep.RegionWith
import Derived.Deep.CutBlock
import Derived.ChangeAlike
namespace Go.Proofs.Ytkkmfeclondlpaa.heapSteps
open Go.ChangeShapes Go.WideShapes Go.ChangeAt Go.RowKit Words Go.Proofs.Ytkkmfeclondlpaa.Heap
open Go.ChangeMaps (open_string shut_string)
set_option linter.unusedVariables false

theorem own : ownKnob Try.prog.godebug = none := by kernel_rfl
theorem laidOut : laidOutB Try.prog = true := by kernel_rfl

set_option maxRecDepth 20000 in
set_option maxHeartbeats 4000000 in
/-- The walk: the Go text returns true and writes nothing that was there. -/
theorem walk (a0 : Option Addr) (len0 cap0 : Nat) (z0 : List Wn) (o1 : Wn) (w : World) (w0 : Hp w w.heap.size a0 len0 cap0 z0) (r0 : cap0 * 16 ≤ 140737488351232) :
    Calls Try.prog 3 #[.slice a0 len0 cap0, wval o1] w fun e w' => e = .returned (.bool true) ∧ Below w.heap.size w w' := by
  have hs := small_of w0 r0
  have B0 := Lib.hid ((Below.refl w.heap.size w).alloc (Nat.le_refl _) (.cells #[.int .i64 o1.id, .int .i64 o1.wear] 24))
  have R := Lib.hid (fun (wa : World) (b : Below w.heap.size w wa) => (Words.Rd.below w0 b (Nat.le_refl _) : Hp wa w.heap.size a0 len0 cap0 z0))
  have HP := Lib.hid (fun (wa : World) (b : Below w.heap.size w wa) => push9 _ _ _ _ z0 o1 wa (R.out wa b) b.size hs)
  have HF := Lib.hid (fun (wa : World) (b : Below w.heap.size w wa) => fpush10 _ _ _ _ z0 o1 wa (R.out wa b) b.size hs)
  have HT := Lib.hid (fun (wa : World) (b : Below w.heap.size w wa) => pop11 _ _ _ _ z0 wa (R.out wa b) b.size hs)
  have HG := Lib.hid (fun (wa : World) (b : Below w.heap.size w wa) => fpop12 _ _ _ _ z0 wa (R.out wa b) b.size hs)
  have HR := Lib.hid (fun (wa : World) (b : Below w.heap.size w wa) => right13 _ _ _ _ z0 wa (R.out wa b) b.size hs)
  have HS := Lib.hid (fun (wa : World) (b : Below w.heap.size w wa) => right14 _ _ _ _ z0 wa (R.out wa b) b.size hs)
  clear w0 r0 hs
  unfold wval at HP HF ⊢
  generalize pval z0 o1 = pv at *
  generalize perr z0 = pe at *
  generalize tlist z0 = tl at *
  generalize tval z0 = tv at *
  generalize terr z0 = te at *
  generalize right z0 = rt at *
  have heq := fun w => (eql_wn tv tv w).trans (by rw [decide_eq_true rfl])
  go_enter Try.func3, Try.ntmps3
  go_wp2_with fail
  refine (HP.out _ B0.out).mono ?_; rintro e w1 ⟨A1, c1, m1, rfl, o1', b1⟩
  have B1 := Lib.hid (B0.out.trans (b1.mono B0.out.size))
  have k1 := box_kept b1
  have O1 := Lib.hid o1'
  have hsz : w.heap.size < w1.heap.size := by have := b1.size; simp at this; omega
  clear o1' b1
  obtain ⟨k10, k11⟩ := k1
  go_wp2_with fail
  refine (HF.out _ B1.out).mono ?_; rintro e w2 ⟨A2, c2, m2, rfl, o2, b2⟩
  have B2 := Lib.hid (B1.out.trans (b2.mono B1.out.size))
  have O12 := Lib.hid (O1.out.below b2 (Nat.le_refl _))
  have O2 := Lib.hid o2
  clear o2 b2
  go_wp2_with fail
  refine (HT.out _ B2.out).mono ?_; rintro e w3 ⟨A3, c3, m3, rfl, o3, b3⟩
  have B3 := Lib.hid (B2.out.trans (b3.mono B2.out.size))
  have bx := ((Below.refl w3.heap.size w3).alloc (Nat.le_refl _) (.cells #[.int .i64 tv.id, .int .i64 tv.wear] 24))
  have O13 := Lib.hid ((O12.out.below b3 (Nat.le_refl _)).below bx (Nat.le_refl _))
  have O23 := Lib.hid ((O2.out.below b3 (Nat.le_refl _)).below bx (Nat.le_refl _))
  have O3 := Lib.hid (OwnHp.below o3 bx (Nat.le_refl _))
  have B3 := Lib.hid (B3.out.trans (bx.mono B3.out.size))
  clear o3 b3 bx k10 k11
  unfold wval
  go_wp2_with fail
  refine (HG.out _ B3.out).mono ?_; rintro e w4 ⟨A4, c4, m4, rfl, o4, b4⟩
  have k3 := box_kept (x := tv) b4
  have B4 := Lib.hid (B3.out.trans (b4.mono B3.out.size))
  have bx := ((Below.refl w4.heap.size w4).alloc (Nat.le_refl _) (.cells #[.int .i64 tv.id, .int .i64 tv.wear] 24))
  have O14 := Lib.hid ((O13.out.below b4 (Nat.le_refl _)).below bx (Nat.le_refl _))
  have O24 := Lib.hid ((O23.out.below b4 (Nat.le_refl _)).below bx (Nat.le_refl _))
  have O34 := Lib.hid ((O3.out.below b4 (Nat.le_refl _)).below bx (Nat.le_refl _))
  have O4 := Lib.hid (OwnHp.below o4 bx (Nat.le_refl _))
  have hs4 : w3.heap.size < w4.heap.size := by have := b4.size; simp at this; omega
  have B4 := Lib.hid (B4.out.trans (bx.mono B4.out.size))
  have k30 := (bx.cell (p := ⟨w3.heap.size, 0, none⟩) hs4).trans k3.1
  have k31 := (bx.cell (p := ⟨w3.heap.size, 1, none⟩) hs4).trans k3.2
  have k40 : (w4.alloc (.cells #[.int .i64 tv.id, .int .i64 tv.wear] 24)).cell? ⟨w4.heap.size, 0, none⟩ = some (.int .i64 tv.id) := cell_of_row _ _ 0 _ 24 (0, 0) (heap_alloc_new w4 _)
  have k41 : (w4.alloc (.cells #[.int .i64 tv.id, .int .i64 tv.wear] 24)).cell? ⟨w4.heap.size, 1, none⟩ = some (.int .i64 tv.wear) := cell_of_row _ _ 1 _ 24 (0, 0) (heap_alloc_new w4 _)
  clear o4 b4 bx k3
  unfold wval
  have h1 : (rt == rt) = true := by simp
  have h2 : (pe == pe) = true := by simp
  have h3 : (te == te) = true := by simp
  go_wp2_with fail
  refine (HR.out _ B4.out).mono ?_; rintro e w5 ⟨rfl, b5⟩
  have B5 := Lib.hid (B4.out.trans (b5.mono B4.out.size))
  have O15 := Lib.hid (O14.out.below b5 (Nat.le_refl _))
  have O25 := Lib.hid (O24.out.below b5 (Nat.le_refl _))
  have O35 := Lib.hid (O34.out.below b5 (Nat.le_refl _))
  have O45 := Lib.hid (O4.out.below b5 (Nat.le_refl _))
  have k30 := (b5.cell (p := ⟨w3.heap.size, 0, none⟩) (by simp; omega)).trans k30
  have k31 := (b5.cell (p := ⟨w3.heap.size, 1, none⟩) (by simp; omega)).trans k31
  have k40 := (b5.cell (p := ⟨w4.heap.size, 0, none⟩) (by simp)).trans k40
  have k41 := (b5.cell (p := ⟨w4.heap.size, 1, none⟩) (by simp)).trans k41
  have hs5 : w4.heap.size < w5.heap.size := by have := b5.size; simp at this; omega
  clear b5
  go_wp2_with fail
  refine (HS.out _ B5.out).mono ?_; rintro e w6 ⟨rfl, b6⟩
  have B6 := Lib.hid (B5.out.trans (b6.mono B5.out.size))
  have O16 := Lib.hid (O15.out.below b6 (Nat.le_refl _))
  have O26 := Lib.hid (O25.out.below b6 (Nat.le_refl _))
  have O36 := Lib.hid (O35.out.below b6 (Nat.le_refl _))
  have O46 := Lib.hid (O45.out.below b6 (Nat.le_refl _))
  have k30 := (b6.cell (p := ⟨w3.heap.size, 0, none⟩) (by simp; omega)).trans k30
  have k31 := (b6.cell (p := ⟨w3.heap.size, 1, none⟩) (by simp; omega)).trans k31
  have k40 := (b6.cell (p := ⟨w4.heap.size, 0, none⟩) (by simp; omega)).trans k40
  have k41 := (b6.cell (p := ⟨w4.heap.size, 1, none⟩) (by simp; omega)).trans k41
  have hs6 : w4.heap.size < w6.heap.size := by have := b6.size; omega
  have HQ := Lib.hid (equal15_yes _ _ A1 A2 m1 m2 c1 c2 pv pv w6 O16.out.hp O26.out.hp rfl)
  clear b6
  go_wp2_with fail
  refine (HQ.out).mono ?_; rintro e w7 ⟨rfl, hw7⟩
  have b7 := hw7.below
  have B7 := Lib.hid (B6.out.trans (b7.mono B6.out.size))
  have O37 := Lib.hid (O36.out.below b7 (Nat.le_refl _))
  have O47 := Lib.hid (O46.out.below b7 (Nat.le_refl _))
  have k30 := (b7.cell (p := ⟨w3.heap.size, 0, none⟩) (by simp; omega)).trans k30
  have k31 := (b7.cell (p := ⟨w3.heap.size, 1, none⟩) (by simp; omega)).trans k31
  have k40 := (b7.cell (p := ⟨w4.heap.size, 0, none⟩) (by simp; omega)).trans k40
  have k41 := (b7.cell (p := ⟨w4.heap.size, 1, none⟩) (by simp; omega)).trans k41
  have HQ2 := Lib.hid (equal15_yes _ _ A3 A4 m3 m4 c3 c4 tl tl w7 O37.out.hp O47.out.hp rfl)
  clear b7 hw7
  go_wp2_with fail
  refine (HQ2.out).mono ?_; rintro e w8 ⟨rfl, hw8⟩
  have B8 := Lib.hid (B7.out.trans (hw8.below.mono B7.out.size))
  clear hw8
  go_wp2_with fail
  go_ret
  exact ⟨rfl, B8.out⟩

set_option maxRecDepth 100000 in
theorem contract (H : Type) (enc : TypeId × Value → H) (W : World) (base : Nat) (args : Array Value) (ds gs : List (DataW H)) (before : List MemPlace)
    (hval : ∀ (j : Nat) t v, Try.f3.params[j]? = some t → args[j]? = some v → Value.okWide Try.prog W .any base t v)
    (hW : DataW.Whole enc Try.prog Try.f3.params.toList Rows.heapStepsSpec.vars false W args.toList ds gs before) (hsz : (DataW.weightsEach Try.prog (Try.f3.params.toList ++ Rows.heapStepsSpec.plain.varTypes Try.prog) (ds ++ gs)).all (· ≤ reachBytes) = true) :
    Calls Try.prog 3 args W fun e W' => ∃ v, e = .returned v ∧ Rows.heapStepsSpec.post enc Try.prog Try.f3 false true false false W args v W' := by
  have hW' := hW
  obtain ⟨p, q, hA0, hV, rfl, hfz, hnd⟩ := hW
  have hA : DataW.TrodAll enc Try.prog W 0 (fun _ => true) true Try.f3.params.toList args.toList ds p := hA0
  rw [Try.params3] at hA hval hsz
  obtain ⟨v0, vs0, d0, ds0, p0, q0, hargs, rfl, rfl, h0, rr0⟩ := trodAll_cons hA
  obtain ⟨v1, vs1, d1, ds1, p1, q1, rfl, rfl, rfl, h1, rr1⟩ := trodAll_cons rr0
  obtain ⟨rfl, rfl, rfl⟩ := trodAll_nil rr1
  obtain rfl : args = #[v0, v1] := by cases args; simp_all
  obtain ⟨rfl, rfl⟩ := trodVars_none hV
  obtain ⟨a0, len0, cap0, rfl⟩ := okWide_slice Try.underlying22 (hval 0 22 v0 rfl rfl)
  have k0 := h0
  have lt0 : ∀ x ∈ p0, x.block < W.heap.size := by obtain ⟨m, hm⟩ := k0; exact DataW.trod_lt m _ _ _ hm
  obtain ⟨⟨z0, w0⟩, u0⟩ := open_hp h0
  have r0 := reach_hp hsz (j := 0) rfl rfl u0
  have k1 := h1
  have lt1 : ∀ x ∈ p1, x.block < W.heap.size := by obtain ⟨m, hm⟩ := k1; exact DataW.trod_lt m _ _ _ hm
  obtain ⟨o1, rfl⟩ := open_wn (hval 1 24 v1 rfl rfl) h1
  clear hA0
  refine (walk a0 len0 cap0 z0 o1 W w0 r0).mono fun e W' ⟨he, bel⟩ => ?_
  subst he
  exact ⟨_, rfl, _, _, _, [], _, [], hW', trodAll_mk1 (shut_bool Try.underlying4 _), (trodAll_cons_mk (Below.trod laidOut (by kernel_rfl) (of_decide_eq_true (by kernel_rfl)) k0 bel lt0) (trodAll_cons_mk (Below.trod laidOut (by kernel_rfl) (of_decide_eq_true (by kernel_rfl)) k1 bel lt1) trodAll_mk0)), rfl, bel.frame _, fun h => by cases h⟩

set_option maxRecDepth 100000 in
theorem lifted (os : Os) (started : os.Started) (H : Type) (enc : TypeId × Value → H) :
    ReturnsInHanded {} Try.checked os 3 .any (Rows.heapStepsSpec.pre6 enc Try.prog Try.f3 Rows.heapStepsRow.domain false) (Rows.heapStepsSpec.post enc Try.prog Try.f3 false true false false) := by
  refine returnsInHanded_of_change_sized (C := Try.checked) own started (by kernel_rfl) Try.func3
    (ChangeSpec.witness6 (enc := enc) (C := Try.checked) false ⟨#[], #[.slice none 0 0, .agg #[.int .i64 0, .int .i64 0]], []⟩ 8 (by kernel_rfl) (by kernel_rfl) (by kernel_rfl) (by kernel_rfl)) ?_
  intro W base args ds gs before hval hW _ hsz _
  exact contract H enc W base args ds gs before hval hW hsz

theorem over : Rows.heapStepsRow.holds Try.pinned (OpenSpec.ofChange Rows.heapStepsSpec) :=
  OpenClaim.holds_of_wide 3 Try.f3 rfl rfl rfl rfl rfl rfl rfl ⟨rfl, rfl, rfl, rfl, rfl⟩ rfl rfl rfl rfl rfl (by kernel_rfl) Try.func3 (by kernel_rfl)
    (of_decide_eq_true (by kernel_rfl)) (by unfold Func.isWrapper; first | (rw [if_pos (by decide +kernel)]; kernel_rfl) | (rw [if_neg (by decide +kernel)]; exact ⟨rfl, rfl⟩))
    (fun os started H enc _ => lifted os started H enc)

/-- ████ THE STATEMENT ████ -/
theorem proved : Rows.HeapStepsSaid := over
#print axioms proved
end Go.Proofs.Ytkkmfeclondlpaa.heapSteps
