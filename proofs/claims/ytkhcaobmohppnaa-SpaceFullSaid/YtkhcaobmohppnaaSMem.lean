/-
  Gaps and rows of blocks in memory: lists that are read, rows of the call's own.
-/
import Derived.Test.YtkhcaobmohppnaaProg
import Derived.Test.YtkhcaobmohppnaaSPlain
import Derived.Deep.QuietTactic
import Derived.BigQuiet
import Derived.RegionTactic
import Derived.ChangeAlike
import Derived.Deep.RegionWith
import Derived.Deep.CutBlock
import Derived.Laws.CopyOwn
import Derived.Deep.DeepCutAuto
import Derived.StillTailTactics
import Derived.Laws.OwnMore
import Derived.Shelf.SlSortCmp.QuietGrown
namespace Go.Proofs.Ytkhcaobmohppnaa.Spc
open Go.ChangeShapes Go.WideShapes Go.ChangeAt Go.RowKit Words Go.Sort
set_option linter.unusedVariables false

def gcells (x : Gp) : List Value := [.int .i64 x.a, .int .i64 x.m]
def gval (x : Gp) : Value := .agg #[.int .i64 x.a, .int .i64 x.m]
theorem gcells_length (x : Gp) : (gcells x).length = 2 := rfl
def lcells (l : List Gp) : List Value := l.flatMap gcells
theorem lcells_length (l : List Gp) : (lcells l).length = l.length * 2 := flat_length gcells_length l
theorem lcells_append (a b : List Gp) : lcells (a ++ b) = lcells a ++ lcells b := List.flatMap_append
theorem lcells_one (l : List Gp) : ∀ u ∈ lcells l, u.oneCell' = true := by
  intro u hu
  obtain ⟨b, _, hb⟩ := List.mem_flatMap.1 hu
  simp [gcells] at hb
  rcases hb with rfl | rfl <;> rfl
/-- The []api.Gap value reads as the list. -/
def Gps (w : World) (B : Nat) (A : Option Addr) (n c : Nat) (l : List Gp) : Prop := Words.Rd w B 2 A n c (lcells l)
structure GAt (w : World) (g o : Nat) (b : Gp) : Prop where
  c0 : w.cell? ⟨g, o, none⟩ = some (.int .i64 b.a)
  c1 : w.cell? ⟨g, o + 1, none⟩ = some (.int .i64 b.m)
section
variable {w : World} {B : Nat} {A : Option Addr} {n c : Nat} {l : List Gp}
theorem Gps.len (h : Gps w B A n c l) : l.length = n := by
  have := Words.Rd.len h
  rw [lcells_length] at this
  omega
theorem Gps.cells (h : Gps w B A n c l) {g o : Nat} (e : A = some ⟨g, o, none⟩) {i : Nat} {b : Gp} (hb : l[i]? = some b) : GAt w g (o + i * 2) b := by
  have hi := (List.getElem?_eq_some_iff.1 hb).1
  have hl := Gps.len h
  have hc : ∀ j, j < 2 → ∀ u, (gcells b)[j]? = some u → w.cell? ⟨g, o + i * 2 + j, none⟩ = some u := fun j hj u hu => by
    have := Words.Rd.cellAt h e (by omega) (i * 2 + j) u (by rw [lcells, flat_get gcells_length hb hj, hu])
    rwa [← Nat.add_assoc] at this
  exact ⟨hc 0 (by omega) _ rfl, hc 1 (by omega) _ rfl⟩
end
theorem info36 : (Try.prog.info? 36).map (fun i => (i.zero, i.size, i.bytes)) = some (some (.agg #[.int .i64 0, .int .i64 0]), 2, 16) := by kernel_rfl
theorem info4 : (Try.prog.info? 4).map (fun i => (i.zero, i.size, i.bytes)) = some (some (.bool false), 1, 1) := by kernel_rfl
/-- A list of the call's own. -/
def OwnGp (w : World) (base : Nat) (A : Option Addr) (n c : Nat) (l : List Gp) : Prop := w.ownsRow base 36 2 (.slice A n c) n (lcells l)
section
variable {w w' : World} {base g : Nat} {A : Option Addr} {n c : Nat} {l : List Gp}
theorem OwnGp.gps (h : OwnGp w base A n c l) : Gps w w.heap.size A n c l := Words.Rd.of_own h
theorem OwnGp.len (h : OwnGp w base A n c l) : l.length = n := h.gps.len
theorem OwnGp.below {D : Nat} (h : OwnGp w base A n c l) (hb : Below D w w') (hD : w.heap.size ≤ D) : OwnGp w' base A n c l := own_below h hb hD
theorem OwnGp.more (h : OwnGp w base A n c l) {base' : Nat} (hb : base' ≤ base) : OwnGp w base' A n c l := own_base h hb
theorem OwnGp.addr (h : OwnGp w base A n c l) (hn : 0 < n) : ∃ g, A = some ⟨g, 0, none⟩ ∧ base ≤ g ∧ g < w.heap.size := by
  obtain ⟨g, c', hv, h1, h2⟩ := own_form_pos h hn
  injection hv with hv _ _
  exact ⟨g, hv, h1, h2⟩
theorem OwnGp.at_ (h : OwnGp w base (some ⟨g, 0, none⟩) n c l) {i : Nat} (hi : i < n) : GAt w g (i * 2) (gth l i) := by
  have := Gps.cells h.gps rfl (gth_get (by rw [h.len]; exact hi))
  rw [Nat.zero_add] at this
  exact this
theorem OwnGp.frozen (h : OwnGp w base (some ⟨g, 0, none⟩) n c l) (j : Nat) : w.frozen? ⟨g, j, none⟩ = false := Go.World.ownsRow.frozenAt h j
theorem OwnGp.drew (h : OwnGp w base A n c l) : OwnGp w.drew base A n c l := h
/-- Many stored anew. -/
theorem OwnGp.put1 (h : OwnGp w base (some ⟨g, 0, none⟩) n c l) {t : Nat} (ht : t < n) (y : Int) :
    OwnGp (w.setCell ⟨g, t * 2 + 1, none⟩ (.int .i64 y)) base (some ⟨g, 0, none⟩) n c (l.set t ⟨(gth l t).a, y⟩) ∧ w.grownBy (w.setCell ⟨g, t * 2 + 1, none⟩ (.int .i64 y)) (some g) := by
  have := Go.World.ownsRow.stored h (t * 2 + 1) (.int .i64 y)
  rw [lcells, flat_set (f := gcells) gcells_length (gth_get (by rw [h.len]; exact ht)) (j := 1) (by omega) (y := ⟨(gth l t).a, y⟩) rfl] at this
  exact this
end
theorem boxed (x : World) (o : Obj) : Below x.heap.size x (x.alloc o) := (Below.refl _ _).alloc (Nat.le_refl _) o
theorem one_gap (w : World) (p : Gp) : Gps (w.alloc (.cells (gcells p).toArray 36)) (w.heap.size + 1) (some ⟨w.heap.size, 0, none⟩) 1 1 [p] :=
  Words.Rd.new w 36 _ (0, 0) _ 1 (by simp [lcells]) rfl (by unfold maxLen; omega)
theorem whole_below2 {w w' : World} {g : Nat} {t : TypeId} {cs : Array Value} (h : Whole w g t cs) (hb : Below w.heap.size w w') : Whole w' g t cs := by
  have hlt := h.lt
  unfold Whole at *
  rw [hb.block _ hlt]
  exact h
theorem take_next {α : Type} {l : List α} {k : Nat} {x : α} (h : l[k]? = some x) : l.take (k + 1) = l.take k ++ [x] := by
  rw [List.take_add_one, h]; rfl
theorem drop_next {α : Type} {l : List α} {k : Nat} {x : α} (h : l[k]? = some x) : l.drop k = x :: l.drop (k + 1) := by
  obtain ⟨hk, hkr⟩ := List.getElem?_eq_some_iff.1 h
  rw [← hkr, List.getElem_cons_drop]
/-! ### rows of blocks -/
def bcells (row : List Bool) : List Value := row.map Value.bool
theorem bcells_length (row : List Bool) : (bcells row).length = row.length := List.length_map ..
def Bls (w : World) (B : Nat) (A : Option Addr) (n c : Nat) (row : List Bool) : Prop := Words.Rd w B 1 A n c (bcells row)
def OwnB (w : World) (base : Nat) (A : Option Addr) (n c : Nat) (row : List Bool) : Prop := w.ownsRow base 4 1 (.slice A n c) n (bcells row)
section
variable {w w' : World} {B base g : Nat} {A : Option Addr} {n c : Nat} {row : List Bool}
theorem Bls.len (h : Bls w B A n c row) : row.length = n := by
  have := Words.Rd.len h
  rw [bcells_length] at this
  omega
theorem Bls.cell (h : Bls w B A n c row) {g o : Nat} (e : A = some ⟨g, o, none⟩) {i : Nat} (hi : i < n) : w.cell? ⟨g, o + i, none⟩ = some (.bool (at_ row i)) :=
  Words.Rd.cellAt h e (by omega) i _ (by rw [bcells, List.getElem?_map, get_at (by rw [h.len]; exact hi)]; rfl)
theorem OwnB.bls (h : OwnB w base A n c row) : Bls w w.heap.size A n c row := Words.Rd.of_own h
theorem OwnB.len (h : OwnB w base A n c row) : row.length = n := h.bls.len
theorem OwnB.below {D : Nat} (h : OwnB w base A n c row) (hb : Below D w w') (hD : w.heap.size ≤ D) : OwnB w' base A n c row := own_below h hb hD
theorem OwnB.more (h : OwnB w base A n c row) {base' : Nat} (hb : base' ≤ base) : OwnB w base' A n c row := own_base h hb
theorem OwnB.addr (h : OwnB w base A n c row) (hn : 0 < n) : ∃ g, A = some ⟨g, 0, none⟩ ∧ base ≤ g ∧ g < w.heap.size := by
  obtain ⟨g, c', hv, h1, h2⟩ := own_form_pos h hn
  injection hv with hv _ _
  exact ⟨g, hv, h1, h2⟩
theorem OwnB.at_ (h : OwnB w base (some ⟨g, 0, none⟩) n c row) {i : Nat} (hi : i < n) : w.cell? ⟨g, i, none⟩ = some (.bool (at_ row i)) := by
  have := h.bls.cell rfl hi
  rwa [Nat.zero_add] at this
theorem OwnB.frozen (h : OwnB w base (some ⟨g, 0, none⟩) n c row) (j : Nat) : w.frozen? ⟨g, j, none⟩ = false := Go.World.ownsRow.frozenAt h j
theorem OwnB.set (h : OwnB w base (some ⟨g, 0, none⟩) n c row) (k : Nat) (b : Bool) :
    OwnB (w.setCell ⟨g, k, none⟩ (.bool b)) base (some ⟨g, 0, none⟩) n c (row.set k b) ∧ w.grownBy (w.setCell ⟨g, k, none⟩ (.bool b)) (some g) := by
  have := Go.World.ownsRow.stored h k (.bool b)
  unfold OwnB bcells
  rw [List.map_set]
  exact this
end
theorem made_bools : ∀ n : Nat, (madeCells (Value.bool false).cells (n * 1)).toList = bcells (List.replicate n false) := fun n => by
  rw [Nat.mul_one]
  show (madeCells #[Value.bool false] n).toList = _
  rw [toList_madeCells_one, bcells, List.map_replicate]
theorem at_replicate (n k : Nat) (b : Bool) : at_ (List.replicate n b) k = (decide (k < n) && b) := by
  unfold at_
  rw [List.getD_eq_getElem?_getD, List.getElem?_replicate]
  by_cases h : k < n <;> simp [h]
theorem at_set {row : List Bool} {k : Nat} (h : k < row.length) (b : Bool) (x : Nat) : at_ (row.set k b) x = if x = k then b else at_ row x := by
  unfold at_
  rw [List.getD_eq_getElem?_getD, List.getD_eq_getElem?_getD, List.getElem?_set]
  by_cases hx : k = x
  · subst hx; simp [h]
  · have : ¬ x = k := fun e => hx e.symm
    simp [hx, this]
end Go.Proofs.Ytkhcaobmohppnaa.Spc
