/-
  A list with so much more wear for each, place by place, as the program's numbers wrap.
-/
import Derived.Test.YtodnjeahjalinaaOwn
namespace Go.Proofs.Ytodnjeahjalinaa.Vic
open Go.ChangeShapes Go.WideShapes Go.ChangeAt Go.RowKit Words Go.Sort
set_option linter.unusedVariables false

def moreW (m : Int) (x : Fil) : Fil := ⟨x.need, x.fill, IntKind.i64.wrap (x.wear + m)⟩
/-- After the first k. -/
def shl (l : List Fil) (m : Int) (k : Nat) : List Fil := (l.take k).map (moreW m) ++ l.drop k
theorem shl_zero (l : List Fil) (m : Int) : shl l m 0 = l := by simp [shl]
theorem shl_all {l : List Fil} {m : Int} {k : Nat} (h : k = l.length) : shl l m k = l.map (moreW m) := by subst h; simp [shl]
theorem shl_length {l : List Fil} {m : Int} {k : Nat} (h : k ≤ l.length) : (shl l m k).length = l.length := by
  unfold shl
  rw [List.length_append, List.length_map, List.length_take, List.length_drop]
  omega
theorem shl_nth {l : List Fil} {m : Int} {k : Nat} (h : k < l.length) : nth (shl l m k) k = nth l k := by
  refine nth_of ?_
  unfold shl
  rw [List.getElem?_append_right (by rw [List.length_map, List.length_take]; omega), List.length_map, List.length_take, List.getElem?_drop, show k + (k - min k l.length) = k by omega]
  exact nth_get h
theorem shl_next {l : List Fil} {m : Int} {k : Nat} (h : k < l.length) : (shl l m k).set k ⟨(nth l k).need, (nth l k).fill, IntKind.i64.wrap ((nth l k).wear + m)⟩ = shl l m (k + 1) := by
  unfold shl
  rw [take_succ_nth h, List.map_append, List.set_append_right _ _ (by rw [List.length_map, List.length_take]; omega), List.length_map, List.length_take, show k - min k l.length = 0 by omega]
  have e : l.drop k = nth l k :: l.drop (k + 1) := by rw [nth_eq h]; exact List.drop_eq_getElem_cons h
  rw [e, List.set_cons_zero, List.append_assoc]
  rfl
theorem more_same {l : List Fil} {m : Int} (hr : right l = true) (h0 : 0 ≤ m) (h1 : m ≤ 1000) : l.map (moreW m) = l.map (more m) := by
  refine List.map_congr_left fun x hx => ?_
  have := right_mem hr hx
  unfold moreW more
  rw [IntKind.wrap_i64]
  exact Fil.ext' rfl rfl (by simp only; omega)
/-- What is told of both lists. -/
theorem shift_told {l : List Fil} {s m : Int} (h0 : 0 ≤ m) (h1 : m ≤ 1000) (e1 : gerr l s ≠ 1) (e2 : gerr (l.map (moreW m)) s ≠ 1) : gerr l s = gerr (l.map (moreW m)) s ∧ gidx l s = gidx (l.map (moreW m)) s := by
  have hr : right l = true := by
    cases e : right l with
    | true => rfl
    | false => exact absurd (by rw [gerr_bad (by rw [chk_form e]; omega), chk_form e]) e1
  rw [more_same hr h0 h1] at e2 ⊢
  exact shift_same e1 e2
end Go.Proofs.Ytodnjeahjalinaa.Vic
