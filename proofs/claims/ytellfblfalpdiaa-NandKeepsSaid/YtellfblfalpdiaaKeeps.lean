/-
  What the loop of NandKeeps goes by.
-/
import Derived.Test.YtellfblfalpdiaaFrame
import Derived.Test.YtellfblfalpdiaaThree
import Derived.IntWalk
namespace Go.Proofs.Ytellfblfalpdiaa.Nand
open Go.ChangeShapes Go.WideShapes Go.ChangeAt Go.RowKit Words

theorem pages_head {w : World} {g of p B : Nat} {b : Blk} (hp : p ≤ 4) (hg : g < B)
    (c0 : w.cell? ⟨g, of, none⟩ = some (.int .i64 b.d0)) (c1 : w.cell? ⟨g, of + 1, none⟩ = some (.int .i64 b.d1)) (c2 : w.cell? ⟨g, of + 2, none⟩ = some (.int .i64 b.d2)) (c3 : w.cell? ⟨g, of + 3, none⟩ = some (.int .i64 b.d3)) :
    Ints w B (some ⟨g, of, none⟩) p 4 (b.pages.take p) := by
  refine ⟨by rw [icells_length, List.length_take]; simp [Blk.pages]; omega, hp, by unfold maxLen; omega, (fun h => by cases h), fun _ => ⟨_, _, rfl, hg, fun j u hu => ?_⟩⟩
  have hj : j < 4 := by
    have := (List.getElem?_eq_some_iff.1 hu).1
    rw [icells_length, List.length_take] at this
    omega
  rw [page_cell hj c0 c1 c2 c3, ← hu, icells_get, List.getElem?_take]
  have hjp : j < p := by
    have := (List.getElem?_eq_some_iff.1 hu).1
    rw [icells_length, List.length_take] at this
    omega
  rw [if_pos hjp]
  have : j = 0 ∨ j = 1 ∨ j = 2 ∨ j = 3 := by omega
  rcases this with h | h | h | h <;> rw [h] <;> rfl
theorem put_take (b : Blk) (x : Int) {p : Nat} (hp : p < 4) : (b.put p x).pages.take p = b.pages.take p := by
  have : p = 0 ∨ p = 1 ∨ p = 2 ∨ p = 3 := by omega
  rcases this with h | h | h | h <;> subst h <;> rfl
theorem put_rest (b : Blk) (x : Int) (p : Nat) : (b.put p x).wear = b.wear := by unfold Blk.put; split <;> rfl
/-- What stays in the loop: all that was there, the operation's box, and the new flash. -/
structure Kp (w : World) (o : Nop) (base : Nat) (A : Option Addr) (c : Nat) (m : List Blk) (x : World) : Prop where
  kept : Kept w o x
  own : OwnFl x base A 8 c m
theorem Kp.drewN {w : World} {o : Nop} {base : Nat} {A : Option Addr} {c : Nat} {m : List Blk} {x : World} (h : Kp w o base A c m x) (k : Nat) : Kp w o base A c m (x.drewN k) := ⟨below_drewN h.kept k, h.own⟩
theorem Kp.next {w : World} {o : Nop} {base : Nat} {A : Option Addr} {c : Nat} {m : List Blk} {x y : World} (h : Kp w o base A c m x) (hb : Below x.heap.size x y) : Kp w o base A c m y := ⟨h.kept.next hb, own_below h.own hb (Nat.le_refl _)⟩
/-- The quiet call in the midst of the region. -/
theorem same_heads {wr : World} {g1 o1 g2 o2 p : Nat} {e b : Blk} (hp : p ≤ 4)
    (d0 : wr.cell? ⟨g1, o1, none⟩ = some (.int .i64 e.d0)) (d1 : wr.cell? ⟨g1, o1 + 1, none⟩ = some (.int .i64 e.d1)) (d2 : wr.cell? ⟨g1, o1 + 2, none⟩ = some (.int .i64 e.d2)) (d3 : wr.cell? ⟨g1, o1 + 3, none⟩ = some (.int .i64 e.d3))
    (c0 : wr.cell? ⟨g2, o2, none⟩ = some (.int .i64 b.d0)) (c1 : wr.cell? ⟨g2, o2 + 1, none⟩ = some (.int .i64 b.d1)) (c2 : wr.cell? ⟨g2, o2 + 2, none⟩ = some (.int .i64 b.d2)) (c3 : wr.cell? ⟨g2, o2 + 3, none⟩ = some (.int .i64 b.d3))
    (h : e.pages.take p = b.pages.take p) (j : Nat) :
    Calls Try.prog 18 #[.slice (some ⟨g1, o1, none⟩) p 4, .slice (some ⟨g2, o2, none⟩) p 4] (wr.drewN j) fun e w' => e = .returned (.bool true) ∧ ∃ m, w' = wr.drewN m :=
  Calls.quiet_of ((equal18 _ _ _ _ _ _ _ _ _ _ (wr.drewN j) (Words.Rd.drewN (pages_head hp (Nat.lt_succ_self g1) d0 d1 d2 d3) j) (Words.Rd.drewN (pages_head hp (Nat.lt_succ_self g2) c0 c1 c2 c3) j)).mono fun _ _ hq => EqB.yes hq h)
end Go.Proofs.Ytellfblfalpdiaa.Nand
