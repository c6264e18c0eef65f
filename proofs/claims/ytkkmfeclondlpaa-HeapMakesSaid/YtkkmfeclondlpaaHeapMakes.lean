/-
  HeapMakes holds for every input: Make and Sorted return what F2 says, for every list.
-/
import Derived.Test.YtkkmfeclondlpaaRows
import Derived.Test.YtkkmfeclondlpaaMakes
import Derived.Test.YtkkmfeclondlpaaFrame
import Derived.WalkKit
import Derived.ProofKit
import Derived.OpenShut
import Derived.ShutString
import Derived.ChangeOld
import Derived.Below
import Derived.SizedLaws
import Derived.RegionTactic
import Derived.Deep.RegionWith
import Derived.Deep.CutBlock
import Derived.ChangeAlike
namespace Go.Proofs.Ytkkmfeclondlpaa.heapMakes
open Go.ChangeShapes Go.WideShapes Go.ChangeAt Go.RowKit Words Go.Proofs.Ytkkmfeclondlpaa.Heap
open Go.ChangeMaps (open_string shut_string)
set_option linter.unusedVariables false

theorem own : ownKnob Try.prog.godebug = none := by kernel_rfl
theorem laidOut : laidOutB Try.prog = true := by kernel_rfl

set_option maxRecDepth 20000 in
set_option maxHeartbeats 2000000 in
/-- The walk: the Go text returns true and writes nothing that was there. -/
theorem walk (a0 : Option Addr) (len0 cap0 : Nat) (z0 : List Wn) (w : World) (w0 : Hp w w.heap.size a0 len0 cap0 z0) (r0 : cap0 * 16 ≤ 140737488351232) :
    Calls Try.prog 4 #[.slice a0 len0 cap0] w fun e w' => e = .returned (.bool true) ∧ Below w.heap.size w w' := by
  have hn : len0 ≤ 8796093022207 := by have := small_of w0 r0; unfold Small at this; omega
  have R := Lib.hid (fun (wa : World) (b : Below w.heap.size w wa) => (Words.Rd.below w0 b (Nat.le_refl _) : Hp wa w.heap.size a0 len0 cap0 z0))
  have H1 := Lib.hid (make16 _ a0 len0 cap0 z0 w w0 (Nat.le_refl _) hn)
  have H2 := Lib.hid (fun (wa : World) (b : Below w.heap.size w wa) => fmake17 _ a0 len0 cap0 z0 wa (R.out wa b) b.size hn)
  have H3 := Lib.hid (fun (wa : World) (b : Below w.heap.size w wa) => sorted18 _ a0 len0 cap0 z0 wa (R.out wa b) b.size hn)
  have H4 := Lib.hid (fun (wa : World) (b : Below w.heap.size w wa) => fsorted19 _ a0 len0 cap0 z0 wa (R.out wa b) b.size hn)
  clear w0 r0 hn
  generalize made z0 = mk at *
  generalize sorted z0 = st at *
  go_enter Try.func4, Try.ntmps4
  go_wp2_with fail
  refine (H1.out).mono ?_; rintro e w1 ⟨A1, c1, rfl, o1, b1⟩
  have B1 := Lib.hid b1
  have O1 := Lib.hid o1
  clear o1 b1
  go_wp2_with fail
  refine (H2.out _ B1.out).mono ?_; rintro e w2 ⟨A2, c2, rfl, o2, b2⟩
  have B2 := Lib.hid (B1.out.trans (b2.mono B1.out.size))
  have HQ := Lib.hid (equal15_yes _ _ A1 A2 len0 len0 c1 c2 mk mk w2 (O1.out.below b2 (Nat.le_refl _)).hp o2.hp rfl)
  clear o2 b2
  go_wp2_with fail
  refine (HQ.out).mono ?_; rintro e w3 ⟨rfl, hw3⟩
  have B3 := Lib.hid (B2.out.trans (hw3.below.mono B2.out.size))
  clear hw3
  go_wp2_with fail
  refine (H3.out _ B3.out).mono ?_; rintro e w4 ⟨A4, c4, rfl, o4, b4⟩
  have B4 := Lib.hid (B3.out.trans (b4.mono B3.out.size))
  have O4 := Lib.hid o4
  clear o4 b4
  go_wp2_with fail
  refine (H4.out _ B4.out).mono ?_; rintro e w5 ⟨A5, c5, rfl, o5, b5⟩
  have B5 := Lib.hid (B4.out.trans (b5.mono B4.out.size))
  have HQ2 := Lib.hid (equal15_yes _ _ A4 A5 len0 len0 c4 c5 st st w5 (O4.out.below b5 (Nat.le_refl _)).hp o5.hp rfl)
  clear o5 b5
  go_wp2_with fail
  refine (HQ2.out).mono ?_; rintro e w6 ⟨rfl, hw6⟩
  have B6 := Lib.hid (B5.out.trans (hw6.below.mono B5.out.size))
  clear hw6
  go_wp2_with fail
  go_ret
  exact ⟨rfl, B6.out⟩

set_option maxRecDepth 100000 in
theorem contract (H : Type) (enc : TypeId × Value → H) (W : World) (base : Nat) (args : Array Value) (ds gs : List (DataW H)) (before : List MemPlace)
    (hval : ∀ (j : Nat) t v, Try.f4.params[j]? = some t → args[j]? = some v → Value.okWide Try.prog W .any base t v)
    (hW : DataW.Whole enc Try.prog Try.f4.params.toList Rows.heapMakesSpec.vars false W args.toList ds gs before) (hsz : (DataW.weightsEach Try.prog (Try.f4.params.toList ++ Rows.heapMakesSpec.plain.varTypes Try.prog) (ds ++ gs)).all (· ≤ reachBytes) = true) :
    Calls Try.prog 4 args W fun e W' => ∃ v, e = .returned v ∧ Rows.heapMakesSpec.post enc Try.prog Try.f4 false true false false W args v W' := by
  have hW' := hW
  obtain ⟨p, q, hA0, hV, rfl, hfz, hnd⟩ := hW
  have hA : DataW.TrodAll enc Try.prog W 0 (fun _ => true) true Try.f4.params.toList args.toList ds p := hA0
  rw [Try.params4] at hA hval hsz
  obtain ⟨v0, vs0, d0, ds0, p0, q0, hargs, rfl, rfl, h0, rr0⟩ := trodAll_cons hA
  obtain ⟨rfl, rfl, rfl⟩ := trodAll_nil rr0
  obtain rfl : args = #[v0] := by cases args; simp_all
  obtain ⟨rfl, rfl⟩ := trodVars_none hV
  obtain ⟨a0, len0, cap0, rfl⟩ := okWide_slice Try.underlying22 (hval 0 22 v0 rfl rfl)
  have k0 := h0
  have lt0 : ∀ x ∈ p0, x.block < W.heap.size := by obtain ⟨m, hm⟩ := k0; exact DataW.trod_lt m _ _ _ hm
  obtain ⟨⟨z0, w0⟩, u0⟩ := open_hp h0
  have r0 := reach_hp hsz (j := 0) rfl rfl u0
  clear hA0
  refine (walk a0 len0 cap0 z0 W w0 r0).mono fun e W' ⟨he, bel⟩ => ?_
  subst he
  exact ⟨_, rfl, _, _, _, [], _, [], hW', trodAll_mk1 (shut_bool Try.underlying4 _), (trodAll_cons_mk (Below.trod laidOut (by kernel_rfl) (of_decide_eq_true (by kernel_rfl)) k0 bel lt0) trodAll_mk0), rfl, bel.frame _, fun h => by cases h⟩

set_option maxRecDepth 100000 in
theorem lifted (os : Os) (started : os.Started) (H : Type) (enc : TypeId × Value → H) :
    ReturnsInHanded {} Try.checked os 4 .any (Rows.heapMakesSpec.pre6 enc Try.prog Try.f4 Rows.heapMakesRow.domain false) (Rows.heapMakesSpec.post enc Try.prog Try.f4 false true false false) := by
  refine returnsInHanded_of_change_sized (C := Try.checked) own started (by kernel_rfl) Try.func4
    (ChangeSpec.witness6 (enc := enc) (C := Try.checked) false ⟨#[], #[.slice none 0 0], []⟩ 8 (by kernel_rfl) (by kernel_rfl) (by kernel_rfl) (by kernel_rfl)) ?_
  intro W base args ds gs before hval hW _ hsz _
  exact contract H enc W base args ds gs before hval hW hsz

theorem over : Rows.heapMakesRow.holds Try.pinned (OpenSpec.ofChange Rows.heapMakesSpec) :=
  OpenClaim.holds_of_wide 4 Try.f4 rfl rfl rfl rfl rfl rfl rfl ⟨rfl, rfl, rfl, rfl, rfl⟩ rfl rfl rfl rfl rfl (by kernel_rfl) Try.func4 (by kernel_rfl)
    (of_decide_eq_true (by kernel_rfl)) (by unfold Func.isWrapper; first | (rw [if_pos (by decide +kernel)]; kernel_rfl) | (rw [if_neg (by decide +kernel)]; exact ⟨rfl, rfl⟩))
    (fun os started H enc _ => lifted os started H enc)

/-- ████ THE STATEMENT ████ -/
theorem proved : Rows.HeapMakesSaid := over
#print axioms proved
end Go.Proofs.Ytkkmfeclondlpaa.heapMakes
