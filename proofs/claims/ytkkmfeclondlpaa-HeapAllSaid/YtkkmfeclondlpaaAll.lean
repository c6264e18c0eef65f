/-
  What the proof of HeapAll wants of the lists that are pushed and popped.
-/
import Derived.Test.YtkkmfeclondlpaaFrame
import Derived.Test.YtkkmfeclondlpaaMakes
namespace Go.Proofs.Ytkkmfeclondlpaa.Heap
open Go.ChangeShapes Go.WideShapes Go.ChangeAt Go.RowKit Words Go.Sort
set_option linter.unusedVariables false

/-- A row of the call's own, behind a change of an older one. -/
theorem own_grown {w w' : World} {base : Nat} {A : Option Addr} {n c : Nat} {l : List Wn} {r : Option Nat} (h : OwnHp w base A n c l) (hg : w.grownBy w' r) (hr : ∀ k, r = some k → k < base) : OwnHp w' base A n c l := by
  refine ⟨h.1, ?_⟩
  rcases h.2 with hn | ⟨g, cap, cur, hv, h1, hgg, rest⟩
  · exact .inl hn
  · refine .inr ⟨g, cap, cur, hv, h1, (hg.block g (Array.getElem?_eq_some_iff.1 hgg).1 (fun e => ?_)).trans hgg, rest⟩
    have := hr g e.symm
    omega
theorem own_block {w : World} {base : Nat} {A : Option Addr} {n c : Nat} {l : List Wn} (h : OwnHp w base A n c l) : ∀ k, (Value.slice A n c).ownBlock = some k → k < w.heap.size := fun k hk => (Go.World.ownsRow.lt h k hk).2
/-- The next push: no error, and what comes of it. -/
theorem push_next {l more : List Wn} {k : Nat} (hk : k < more.length) (hn : l.length + more.length ≤ 300) : perr (pushAll (made l) (more.take k)) = 0 ∧ pval (pushAll (made l) (more.take k)) (nth more k) = pushAll (made l) (more.take (k + 1)) := by
  have hh := pushAll_heap (more.take k) _ (made_heap l)
  have hl : (pushAll (made l) (more.take k)).length = l.length + k := by rw [pushAll_length, made_length, List.length_take]; omega
  have he : perr (pushAll (made l) (more.take k)) = 0 := perr_ok (right_iff.2 hh) (by omega)
  exact ⟨he, by rw [pval_ok he, pushAll_take more (made l) k hk]⟩
/-- The next pop: no error, and what comes of it. -/
theorem pop_next {l : List Wn} (h : IsHeap l) {j : Nat} (hj : j < l.length) : terr (pops l j) = 0 ∧ tlist (pops l j) = pops l (j + 1) ∧ taken l j ++ [tval (pops l j)] = taken l (j + 1) := by
  have he : terr (pops l j) = 0 := terr_ok (right_iff.2 (pops_heap h j)) (by rw [pops_length]; omega)
  exact ⟨he, by rw [tlist_ok he]; rfl, by rw [tval_ok he]; rfl⟩
end Go.Proofs.Ytkkmfeclondlpaa.Heap
