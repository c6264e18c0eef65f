/-
  What slices.ContainsFunc says with the claim's own test.
-/
import Derived.Shelf.SlicesQ.IndexFunc
import Derived.Test.YtodnjeahjalinaaOwn
namespace Go.Proofs.Ytodnjeahjalinaa.Vic
open Go.ChangeShapes Go.WideShapes Go.ChangeAt Go.RowKit Words Go.Sort
open Go.Proofs.Ytodnjeahjalinaa.Stab (Laid below_grow mixedO)
set_option linter.unusedVariables false

def hasRen : Go.Shelf.Ren := ⟨fun | 8 => 20 | 6 => 32 | n => n, fun | 22 => 22 | 23 => 28 | 25 => 40 | 4 => 4 | 3 => 3 | 0 => 0 | n => n, fun | n => n⟩
theorem hasFil : Go.Proofs.SlLaysH0.n8 Try.prog hasRen := {
  mixed := by kernel_rfl
  f6 := ⟨Try.f32.name, by decide, Try.func32.trans (congrArg some (by kernel_rfl))⟩
  f8 := ⟨Try.f20.name, by decide, Try.func20.trans (congrArg some (by kernel_rfl))⟩
  t0 := Try.underlying0
  a0 := Try.isAgg0
  z0 := Try.sizeOf0
  v0 := Try.zeroValue0
  t3 := Try.underlying3
  a3 := Try.isAgg3
  z3 := Try.sizeOf3
  v3 := Try.zeroValue3
  t4 := Try.underlying4
  a4 := Try.isAgg4
  z4 := Try.sizeOf4
  v4 := Try.zeroValue4
  t22 := Try.underlying22
  a22 := Try.isAgg22
  z22 := Try.sizeOf22
  v22 := Try.zeroValue22
  t25 := Try.underlying40
  a25 := Try.isAgg40
  z25 := Try.sizeOf40
  v25 := Try.zeroValue40 }
theorem enter21 : ∀ args w, (callFunc 21 args).run Try.prog w = .ok (.enter 21 args) w := enters_of Try.func21 (by kernel_rfl) rfl
theorem has20 (A : Option Addr) (n c : Nat) (l : List Fil) (w : World) (h : Fl w w.heap.size A n c l) (hn : 0 < n) :
    Calls Try.prog 20 #[.slice A n c, .func (.func 21) #[] #[]] w fun e w' => e = .returned (.bool (l.any fun x => x.wear == 0)) ∧ Below w.heap.size w w' := by
  have hl := h.len
  obtain ⟨b, o, rfl, hb, _⟩ := Words.Rd.row h hn
  have hp : PredBelow Try.prog 21 #[] (fun x : Fil => .agg (fcells x).toArray) (fun x => x.wear == 0) w := by
    intro W x hW
    refine (fresh21 x W).mono ?_
    rintro e w' ⟨rfl, hw⟩
    exact ⟨rfl, hW.trans (hw.below.mono hW.size)⟩
  have hc := AnyQ.slices_ContainsFunc hasFil 3 Try.isAgg28 Try.sizeOf28 fcells (fun _ => rfl) (fun x => x.wear == 0) 21 #[] enter21 b o n c l w hp (by omega) (Words.Rd.small h) hb (fun j hj i v hi => by
    have e1 : l[j]! = nth l j := by rw [getElem!_pos l j hj, nth_eq hj]
    rw [e1] at hi
    have hi2 : i < 3 := by
      have := (List.getElem?_eq_some_iff.1 hi).1
      rwa [fcells_length] at this
    have := Words.Rd.cellAt h rfl hn (j * 3 + i) v (by unfold lcells; rw [flat_get fcells_length (nth_get hj) hi2]; exact hi)
    rwa [← Nat.add_assoc] at this)
  rw [List.take_of_length_le (by omega)] at hc
  exact hc
end Go.Proofs.Ytodnjeahjalinaa.Vic
