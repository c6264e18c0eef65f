/-
  What the last statement of NandSteps goes by: whatever is called, the two flashes stay.
-/
import Derived.Test.YtellfblfalpdiaaRefS
import Derived.Test.YtellfblfalpdiaaFrame
import Derived.Laws.MakeOwn
import Derived.Deep.RegionHeld3
namespace Go.Proofs.Ytellfblfalpdiaa.Nand
open Go.ChangeShapes Go.WideShapes Go.ChangeAt Go.RowKit Words

def freshCells : Array Value := (fcells fresh).toArray
theorem run_fresh (x : World) : (Instr.makeSlice 22 (.int .i64 8) (.int .i64 8)).run Try.prog x = .ok (.slice (some ⟨x.heap.size, 0, none⟩) 8 8) (x.alloc (.cells freshCells 31)) := by kernel_rfl
theorem fresh_new (x : World) : Fl (x.alloc (.cells freshCells 31)) (x.heap.size + 1) (some ⟨x.heap.size, 0, none⟩) 8 8 fresh := by
  refine Words.Rd.new x 31 freshCells (0, 0) (fcells fresh) 8 ?_ ?_ ?_
  · simp [freshCells]
  · rw [fcells_length]; rfl
  · unfold maxLen; omega
/-- What stays: all that was there, and the two answers. -/
structure S3 (w : World) (A : Option Addr) (n c : Nat) (A' : Option Addr) (c' : Nat) (l : List Blk) (x : World) : Prop where
  bel : Below w.heap.size w x
  a : Fl x x.heap.size A n c l
  b : Fl x x.heap.size A' n c' l
section
variable {w x y : World} {A A' : Option Addr} {n c c' : Nat} {l : List Blk}
theorem S3.next (h : S3 w A n c A' c' l x) (hb : Below x.heap.size x y) : S3 w A n c A' c' l y :=
  ⟨h.bel.trans (hb.mono h.bel.size), Words.Rd.more (Words.Rd.below h.a hb (Nat.le_refl _)) hb.size, Words.Rd.more (Words.Rd.below h.b hb (Nat.le_refl _)) hb.size⟩
theorem S3.drew (h : S3 w A n c A' c' l x) : S3 w A n c A' c' l x.drew := h.next (below_drewN (Below.refl _ _) 1)
theorem S3.drewN (h : S3 w A n c A' c' l x) (k : Nat) : S3 w A n c A' c' l (x.drewN k) := h.next (below_drewN (Below.refl _ _) k)
theorem S3.alloc (h : S3 w A n c A' c' l x) (o : Obj) : S3 w A n c A' c' l (x.alloc o) := h.next ((Below.refl _ _).alloc (Nat.le_refl _) _)
end
theorem new12s {w : World} {A A' : Option Addr} {n c c' : Nat} {l : List Blk} (x : World) (h : S3 w A n c A' c' l x) : Calls Try.prog 12 #[] x fun e y => ∃ D, e = .returned (.slice D 8 8) ∧ Fl y y.heap.size D 8 8 fresh ∧ Below x.heap.size x y ∧ S3 w A n c A' c' l y :=
  (new12 x).mono fun _ _ ⟨he, ho, hb⟩ => ⟨_, he, ho.fl, hb, h.next hb⟩
theorem two_fresh {w : World} {A A' : Option Addr} {n c c' : Nat} {l : List Blk} (x : World) (A1 A2 : Option Addr) (h : S3 w A n c A' c' l x) (h1 : Fl x x.heap.size A1 8 8 fresh) (h2 : Fl x x.heap.size A2 8 8 fresh) : Calls Try.prog 11 #[.slice A1 8 8, .slice A2 8 8] x fun e y => e = .returned (.bool true) ∧ S3 w A n c A' c' l y :=
  (equal11 _ _ _ _ _ _ _ _ fresh fresh x h1 h2).mono fun e y hq => by
    obtain ⟨he, nd, hy⟩ := EqB.yes hq rfl
    exact ⟨he, by rw [hy]; exact h.drewN _⟩
theorem two_same {w : World} {A A' : Option Addr} {n c c' : Nat} {l : List Blk} (x : World) (h : S3 w A n c A' c' l x) : Calls Try.prog 11 #[.slice A n c, .slice A' n c'] x fun e y => e = .returned (.bool true) ∧ S3 w A n c A' c' l y :=
  (equal11 _ _ _ _ _ _ _ _ l l x h.a h.b).mono fun e y hq => by
    obtain ⟨he, nd, hy⟩ := EqB.yes hq rfl
    exact ⟨he, by rw [hy]; exact h.drewN _⟩
theorem fl_a {x : World} {A : Option Addr} {n c : Nat} {l : List Blk} (h : Fl x x.heap.size A n c l) (o : Obj) : Fl (x.alloc o) (x.alloc o).heap.size A n c l := Words.Rd.more (Words.Rd.alloc h (Nat.le_refl _) o) (by simp)
theorem fl_b (x : World) : Fl (x.alloc (.cells freshCells 31)) (x.alloc (.cells freshCells 31)).heap.size (some ⟨x.heap.size, 0, none⟩) 8 8 fresh := Words.Rd.more (fresh_new x) (by simp)
theorem fl_c {x y : World} (hb : Below ((x.alloc (.cells freshCells 31)).drew).heap.size ((x.alloc (.cells freshCells 31)).drew) y) : Fl y y.heap.size (some ⟨x.heap.size, 0, none⟩) 8 8 fresh :=
  Words.Rd.more (Words.Rd.below (Words.Rd.drew (fl_b x)) hb (Nat.le_refl _)) (by have := hb.size; exact this)
theorem eql_same (t : TypeId) (k : Int) (x : World) : (binOp .eql t (.int .i64 k) (.int .i64 k)).run Try.prog x = .ok (.bool true) x := by
  simp [binOp, Op.intCmp]
theorem eql_bool (r : Bool) (x : World) : (binOp .eql 4 (.bool r) (.bool r)).run Try.prog x = .ok (.bool true) x := by
  have h := run_equalIn_bool' (P := Try.prog) x 9999 4 r r Try.underlying4
  simp only [binOp, Op.equal, Op.maxDepth, Sem.run_bind, h, Result.andThen_ok, Sem.run_pure, beq_self_eq_true]
theorem guard_int (t : TypeId) (a b : Operand) (k : Int) (x : World) : (eqGuard .eql t a b (.int .i64 k) (.int .i64 k)).run Try.prog x = .ok () x := by
  simp [eqGuard]
theorem guard_bool (t : TypeId) (a b : Operand) (k : Bool) (x : World) : (eqGuard .eql t a b (.bool k) (.bool k)).run Try.prog x = .ok () x := by
  simp [eqGuard]
theorem Made3.getV {w w' : World} {l : List Blk} {d k : Int} {n : Nat} {e : Ending} {vd vk : Value} (h : Made3 w l d k e w') (hn : l.length = n) (hd : vd = .int .i64 d) (hk : vk = .int .i64 k) : ∃ A c, e = .returned (.tuple #[.slice A n c, vd, vk]) ∧ OwnFl w' w.heap.size A n c l ∧ Below w.heap.size w w' := by
  subst hn hd hk
  exact h
end Go.Proofs.Ytellfblfalpdiaa.Nand
