/-
  Entries in memory: lists that are read, rows of the call's own.
-/
import Derived.Test.YtiagbacmjiimpaaProg
import Derived.Test.YtiagbacmjiimpaaEPlain
import Derived.Deep.QuietTactic
import Derived.BigQuiet
import Derived.RegionTactic
import Derived.ChangeAlike
import Derived.Deep.RegionWith
import Derived.Deep.CutBlock
import Derived.Laws.CopyOwn
import Derived.Deep.DeepCutAuto
import Derived.StillTailTactics
import Derived.Laws.OwnMore
import Derived.Shelf.SlSortCmp.QuietGrown
namespace Go.Proofs.Ytiagbacmjiimpaa.Dir
open Go.ChangeShapes Go.WideShapes Go.ChangeAt Go.RowKit Words Go.Sort
set_option linter.unusedVariables false

def eth (l : List En) (k : Nat) : En := l.getD k ⟨[], 0⟩
theorem eth_get {l : List En} {k : Nat} (h : k < l.length) : l[k]? = some (eth l k) := by unfold eth; rw [List.getD_eq_getElem?_getD, List.getElem?_eq_getElem h]; rfl
theorem eth_of {l : List En} {k : Nat} {x : En} (h : l[k]? = some x) : eth l k = x := by unfold eth; rw [List.getD_eq_getElem?_getD, h]; rfl
def ecells (x : En) : List Value := [.string (str x.n), .int .i64 x.i]
def eval_ (x : En) : Value := .agg #[.string (str x.n), .int .i64 x.i]
theorem ecells_length (x : En) : (ecells x).length = 2 := rfl
def lcells (l : List En) : List Value := l.flatMap ecells
theorem lcells_length (l : List En) : (lcells l).length = l.length * 2 := flat_length ecells_length l
theorem lcells_append (a b : List En) : lcells (a ++ b) = lcells a ++ lcells b := List.flatMap_append
theorem lcells_one (l : List En) : ∀ u ∈ lcells l, u.oneCell' = true := by
  intro u hu
  obtain ⟨b, _, hb⟩ := List.mem_flatMap.1 hu
  simp [ecells] at hb
  rcases hb with rfl | rfl <;> rfl
/-- The []api.Entry value reads as the list. -/
def Ens (w : World) (B : Nat) (A : Option Addr) (n c : Nat) (l : List En) : Prop := Words.Rd w B 2 A n c (lcells l)
structure EAt (w : World) (g o : Nat) (b : En) : Prop where
  c0 : w.cell? ⟨g, o, none⟩ = some (.string (str b.n))
  c1 : w.cell? ⟨g, o + 1, none⟩ = some (.int .i64 b.i)
section
variable {w : World} {B : Nat} {A : Option Addr} {n c : Nat} {l : List En}
theorem Ens.len (h : Ens w B A n c l) : l.length = n := by
  have := Words.Rd.len h
  rw [lcells_length] at this
  omega
theorem Ens.cells (h : Ens w B A n c l) {g o : Nat} (e : A = some ⟨g, o, none⟩) {i : Nat} {b : En} (hb : l[i]? = some b) : EAt w g (o + i * 2) b := by
  have hi := (List.getElem?_eq_some_iff.1 hb).1
  have hl := Ens.len h
  have hc : ∀ j, j < 2 → ∀ u, (ecells b)[j]? = some u → w.cell? ⟨g, o + i * 2 + j, none⟩ = some u := fun j hj u hu => by
    have := Words.Rd.cellAt h e (by omega) (i * 2 + j) u (by rw [lcells, flat_get ecells_length hb hj, hu])
    rwa [← Nat.add_assoc] at this
  exact ⟨hc 0 (by omega) _ rfl, hc 1 (by omega) _ rfl⟩
end
theorem info24 : (Try.prog.info? 24).map (fun i => (i.zero, i.size, i.bytes)) = some (some (.agg #[.string (str []), .int .i64 0]), 2, 24) := by kernel_rfl
/-- A list of the call's own. -/
def OwnEn (w : World) (base : Nat) (A : Option Addr) (n c : Nat) (l : List En) : Prop := w.ownsRow base 24 2 (.slice A n c) n (lcells l)
section
variable {w w' : World} {base g : Nat} {A : Option Addr} {n c : Nat} {l : List En}
theorem OwnEn.gps (h : OwnEn w base A n c l) : Ens w w.heap.size A n c l := Words.Rd.of_own h
theorem OwnEn.len (h : OwnEn w base A n c l) : l.length = n := h.gps.len
theorem OwnEn.below {D : Nat} (h : OwnEn w base A n c l) (hb : Below D w w') (hD : w.heap.size ≤ D) : OwnEn w' base A n c l := own_below h hb hD
theorem OwnEn.more (h : OwnEn w base A n c l) {base' : Nat} (hb : base' ≤ base) : OwnEn w base' A n c l := own_base h hb
theorem OwnEn.addr (h : OwnEn w base A n c l) (hn : 0 < n) : ∃ g, A = some ⟨g, 0, none⟩ ∧ base ≤ g ∧ g < w.heap.size := by
  obtain ⟨g, c', hv, h1, h2⟩ := own_form_pos h hn
  injection hv with hv _ _
  exact ⟨g, hv, h1, h2⟩
theorem OwnEn.at_ (h : OwnEn w base (some ⟨g, 0, none⟩) n c l) {i : Nat} (hi : i < n) : EAt w g (i * 2) (eth l i) := by
  have := Ens.cells h.gps rfl (eth_get (by rw [h.len]; exact hi))
  rw [Nat.zero_add] at this
  exact this
theorem OwnEn.frozen (h : OwnEn w base (some ⟨g, 0, none⟩) n c l) (j : Nat) : w.frozen? ⟨g, j, none⟩ = false := Go.World.ownsRow.frozenAt h j
theorem OwnEn.drew (h : OwnEn w base A n c l) : OwnEn w.drew base A n c l := h
end
theorem boxed (x : World) (o : Obj) : Below x.heap.size x (x.alloc o) := (Below.refl _ _).alloc (Nat.le_refl _) o
theorem one_en (w : World) (p : En) : Ens (w.alloc (.cells (ecells p).toArray 24)) (w.heap.size + 1) (some ⟨w.heap.size, 0, none⟩) 1 1 [p] :=
  Words.Rd.new w 24 _ (0, 0) _ 1 (by simp [lcells]) rfl (by unfold maxLen; omega)
theorem whole_below2 {w w' : World} {g : Nat} {t : TypeId} {cs : Array Value} (h : Whole w g t cs) (hb : Below w.heap.size w w') : Whole w' g t cs := by
  have hlt := h.lt
  unfold Whole at *
  rw [hb.block _ hlt]
  exact h
theorem take_next {α : Type} {l : List α} {k : Nat} {x : α} (h : l[k]? = some x) : l.take (k + 1) = l.take k ++ [x] := by
  rw [List.take_add_one, h]; rfl
theorem drop_next {α : Type} {l : List α} {k : Nat} {x : α} (h : l[k]? = some x) : l.drop k = x :: l.drop (k + 1) := by
  obtain ⟨hk, hkr⟩ := List.getElem?_eq_some_iff.1 h
  rw [← hkr, List.getElem_cons_drop]
end Go.Proofs.Ytiagbacmjiimpaa.Dir
