/-
  Plain facts of NandAgain: an erased block takes four pages in their order.
-/
import Derived.Test.YtellfblfalpdiaaBacks
import Derived.Test.YtellfblfalpdiaaRefR
import Derived.Test.YtellfblfalpdiaaFrame
import Derived.IntWalk
namespace Go.Proofs.Ytellfblfalpdiaa.Nand
open Go.ChangeShapes Go.WideShapes Go.ChangeAt Go.RowKit Words

/-- The block behind k pages. -/
def fillTo (x y z t we : Int) : Nat → Blk
  | 0 => Nand.blank we
  | 1 => ⟨x, 0, 0, 0, 1, we⟩
  | 2 => ⟨x, y, 0, 0, 2, we⟩
  | 3 => ⟨x, y, z, 0, 3, we⟩
  | _ => ⟨x, y, z, t, 4, we⟩
def pick4 (x y z t : Int) (p : Nat) : Int := (Blk.mk x y z t 0 0).at p
theorem fill_done (x y z t we : Int) {p : Nat} (hp : p ≤ 4) : (fillTo x y z t we p).done = (p : Int) := by
  have : p = 0 ∨ p = 1 ∨ p = 2 ∨ p = 3 ∨ p = 4 := by omega
  rcases this with rfl | rfl | rfl | rfl | rfl <;> rfl
theorem fill_next (x y z t we : Int) {p : Nat} (hp : p < 4) : { (fillTo x y z t we p).put p (pick4 x y z t p) with done := (p : Int) + 1 } = fillTo x y z t we (p + 1) := by
  have : p = 0 ∨ p = 1 ∨ p = 2 ∨ p = 3 := by omega
  rcases this with rfl | rfl | rfl | rfl <;> rfl
theorem erase_of {l : List Blk} {a : Int} (h : errOf l ⟨2, a, 0, 0⟩ = 0) : ∃ (i : Nat) (b : Blk), i < 8 ∧ a = (i : Int) ∧ l[i]? = some b ∧ right l = true ∧ 0 ≤ b.wear ∧ b.wear < 1048576 ∧
    nextOf l ⟨2, a, 0, 0⟩ = l.set i (fillTo 0 0 0 0 (b.wear + 1) 0) := by
  obtain ⟨hr, _, _, i, b, hi, hib, hb, he⟩ := err_zero h
  obtain ⟨_, _, h3, h4, _⟩ := okB_iff.1 (right_get hr hb)
  refine ⟨i, b, hi, hib, hb, hr, h3, ?_, ?_⟩
  · unfold blkErr at he
    simp at he
    omega
  · unfold nextOf
    rw [if_pos h, (upd_of hib hb).1]
    rfl
theorem fill_step {l : List Blk} {i : Nat} {b : Blk} (hi : i < 8) (hb : l[i]? = some b) (x y z t we : Int) {p : Nat} (hp : p < 4) (hr : right (l.set i (fillTo x y z t we p)) = true) :
    errOf (l.set i (fillTo x y z t we p)) ⟨1, (i : Int), (p : Int), pick4 x y z t p⟩ = 0 ∧ nextOf (l.set i (fillTo x y z t we p)) ⟨1, (i : Int), (p : Int), pick4 x y z t p⟩ = l.set i (fillTo x y z t we (p + 1)) ∧ right (l.set i (fillTo x y z t we (p + 1))) = true := by
  obtain ⟨m, e, hn, he, hm⟩ := next_of (d := pick4 x y z t p) hr hi hp (get_set_same hb _) (fill_done x y z t we (by omega))
  rw [fill_next x y z t we hp] at he
  subst he
  rw [List.set_set] at hm
  subst hm
  exact ⟨hn.err, hn.next, hn.right⟩
theorem index_pick (x y z t : Int) {p : Nat} (hp : p < 4) (w : World) : (Instr.index 29 (.agg #[.int .i64 x, .int .i64 y, .int .i64 z, .int .i64 t]) (.int .i64 (p : Int))).run Try.prog w = .ok (.int .i64 (pick4 x y z t p)) w :=
  index_page ⟨x, y, z, t, 0, 0⟩ hp w
def abox (x y z t : Int) : Obj := .cells #[.int .i64 x, .int .i64 y, .int .i64 z, .int .i64 t] 29
/-- What stays: the boxed numbers, and all that was there. -/
def KeptA (w : World) (x y z t : Int) (v : World) : Prop := Below (w.heap.size + 1) (w.alloc (abox x y z t)) v
section
variable {w v u : World} {x y z t : Int}
theorem KeptA.below (h : KeptA w x y z t v) : Below w.heap.size w v := ((Below.refl w.heap.size w).alloc (Nat.le_refl _) (abox x y z t)).trans (Below.mono h (by omega))
theorem KeptA.lt (h : KeptA w x y z t v) : w.heap.size < v.heap.size := by have := h.size; simp at this; omega
theorem KeptA.next (h : KeptA w x y z t v) (hb : Below v.heap.size v u) : KeptA w x y z t u := Below.trans h (hb.mono h.lt)
theorem KeptA.cells (h : KeptA w x y z t v) : v.cell? ⟨w.heap.size, 0, none⟩ = some (.int .i64 x) ∧ v.cell? ⟨w.heap.size, 1, none⟩ = some (.int .i64 y) ∧ v.cell? ⟨w.heap.size, 2, none⟩ = some (.int .i64 z) ∧ v.cell? ⟨w.heap.size, 3, none⟩ = some (.int .i64 t) := by
  have hc : ∀ j, v.cell? ⟨w.heap.size, j, none⟩ = #[Value.int .i64 x, .int .i64 y, .int .i64 z, .int .i64 t][j]? := fun j => by
    rw [h.cell (p := ⟨w.heap.size, j, none⟩) (by simp)]
    exact cell_of_row _ _ _ _ 29 (0, 0) (heap_alloc_new w _)
  exact ⟨hc 0, hc 1, hc 2, hc 3⟩
end
end Go.Proofs.Ytellfblfalpdiaa.Nand
