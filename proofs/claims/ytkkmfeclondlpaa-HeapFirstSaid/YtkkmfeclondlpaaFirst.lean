/-
  What the proof of HeapFirst keeps from call to call: two lists of the call's own, the box of one of them, the box of a block.
-/
import Derived.Test.YtkkmfeclondlpaaFrame
namespace Go.Proofs.Ytkkmfeclondlpaa.Heap
open Go.ChangeShapes Go.WideShapes Go.ChangeAt Go.RowKit Words Go.Sort
set_option linter.unusedVariables false

structure K7 (w W : World) (b5 b8 : Nat) (A2 : Option Addr) (m2 c2 : Nat) (pv : List Wn) (A4 : Option Addr) (m4 c4 : Nat) (tl : List Wn) (tv : Wn) : Prop where
  bel : Below w.heap.size w W
  own2 : OwnHp W w.heap.size A2 m2 c2 pv
  own4 : OwnHp W w.heap.size A4 m4 c4 tl
  lt5 : b5 < W.heap.size
  lt8 : b8 < W.heap.size
  c5 : W.cell? ⟨b5, 0, none⟩ = some (.slice A2 m2 c2)
  u0 : W.cell? ⟨b8, 0, none⟩ = some (.int .i64 tv.id)
  u1 : W.cell? ⟨b8, 1, none⟩ = some (.int .i64 tv.wear)
theorem K7.next {w W W' : World} {b5 b8 : Nat} {A2 : Option Addr} {m2 c2 : Nat} {pv : List Wn} {A4 : Option Addr} {m4 c4 : Nat} {tl : List Wn} {tv : Wn} (h : K7 w W b5 b8 A2 m2 c2 pv A4 m4 c4 tl tv) (b : Below W.heap.size W W') : K7 w W' b5 b8 A2 m2 c2 pv A4 m4 c4 tl tv :=
  ⟨h.bel.trans (b.mono h.bel.size), h.own2.below b (Nat.le_refl _), h.own4.below b (Nat.le_refl _), Nat.lt_of_lt_of_le h.lt5 b.size, Nat.lt_of_lt_of_le h.lt8 b.size, (b.cell (p := ⟨b5, 0, none⟩) h.lt5).trans h.c5, (b.cell (p := ⟨b8, 0, none⟩) h.lt8).trans h.u0, (b.cell (p := ⟨b8, 1, none⟩) h.lt8).trans h.u1⟩
theorem K7.start {w w2 w4 : World} {A2 : Option Addr} {m2 c2 : Nat} {pv : List Wn} {A4 : Option Addr} {m4 c4 : Nat} {tl : List Wn} {tv : Wn} (h2 : Below w.heap.size w w2) (o2 : OwnHp w2 w.heap.size A2 m2 c2 pv)
    (h4 : Below (w2.alloc (.cells #[.slice A2 m2 c2] 22)).heap.size (w2.alloc (.cells #[.slice A2 m2 c2] 22)) w4) (o4 : OwnHp w4 (w2.alloc (.cells #[.slice A2 m2 c2] 22)).heap.size A4 m4 c4 tl) :
    K7 w (w4.alloc (.cells #[.int .i64 tv.id, .int .i64 tv.wear] 24)) w2.heap.size w4.heap.size A2 m2 c2 pv A4 m4 c4 tl tv := by
  have hs : w2.heap.size < w4.heap.size := by have := h4.size; simp at this; omega
  have hw := h2.size
  have bx : Below w4.heap.size w4 (w4.alloc (.cells #[.int .i64 tv.id, .int .i64 tv.wear] 24)) := (Below.refl _ _).alloc (Nat.le_refl _) _
  have b2 : Below w2.heap.size w2 (w2.alloc (.cells #[.slice A2 m2 c2] 22)) := (Below.refl _ _).alloc (Nat.le_refl _) _
  have b24 : Below w2.heap.size w2 w4 := b2.trans (h4.mono b2.size)
  have o4' : OwnHp w4 w.heap.size A4 m4 c4 tl := own_base o4 (by simp; omega)
  refine ⟨h2.trans ((b24.trans (bx.mono b24.size)).mono h2.size), (o2.below b24 (Nat.le_refl _)).below bx (Nat.le_refl _), o4'.below bx (Nat.le_refl _), by simp; omega, by simp, ?_, ?_, ?_⟩
  · rw [bx.cell (p := ⟨w2.heap.size, 0, none⟩) hs, h4.cell (p := ⟨w2.heap.size, 0, none⟩) (by simp), cell_of_row _ _ _ _ 22 (0, 0) (heap_alloc_new w2 _)]
    rfl
  · exact cell_of_row _ _ 0 _ 24 (0, 0) (heap_alloc_new w4 _)
  · exact cell_of_row _ _ 1 _ 24 (0, 0) (heap_alloc_new w4 _)
theorem any_least {l : List Wn} (h : IsHeap l) : (l.any fun x => less x (nth l 0)) = false := by
  rw [List.any_eq_false]
  intro x hx
  rw [heap_least_mem h hx]
  simp
end Go.Proofs.Ytkkmfeclondlpaa.Heap
