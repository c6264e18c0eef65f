/-
  Words for a block of sixteen whole numbers, by value; over any program.
-/
import Derived.Test.YtiiadclcfbghkaaBase
import Derived.Deep.MidRow
import Derived.Laws.CopyOwn
namespace Go.Proofs.Ytiiadclcfbghkaa.Words
open Go.RowKit
set_option linter.unusedVariables false

/-- An array of ints, by value. -/
def av (l : List Int) : Value := .agg (icells l).toArray
theorem av_eq {a b : List Int} (h : a = b) : av a = av b := by rw [h]
theorem icells_set (l : List Int) (j : Nat) (x : Int) : (icells l).set j (.int .i64 x) = icells (l.set j x) := by unfold icells; rw [List.map_set]
theorem toArray_setI {α : Type} (l : List α) (j : Nat) (x : α) : l.toArray.setIfInBounds j x = (l.set j x).toArray := by simp
/-- A block of ints that is known whole. -/
def WI (w : World) (g : Nat) (t : TypeId) (l : List Int) : Prop := Whole w g t (icells l).toArray
section
variable {w w' : World} {g : Nat} {t : TypeId} {l : List Int}
theorem WI.lt (h : WI w g t l) : g < w.heap.size := Whole.lt h
theorem WI.cell (h : WI w g t l) {i : Nat} {x : Int} (hx : l[i]? = some x) : w.cell? ⟨g, i, none⟩ = some (.int .i64 x) := by
  rw [Whole.cell h i, List.getElem?_toArray, icells_get, hx]; rfl
theorem WI.cell0 (h : WI w g t l) {i : Nat} {x : Int} (hx : l[i]? = some x) : w.cell? ⟨g, 0 + i, none⟩ = some (.int .i64 x) := by rw [Nat.zero_add]; exact h.cell hx
theorem WI.frozen (h : WI w g t l) (i : Nat) : w.frozen? ⟨g, i, none⟩ = false := Whole.frozen h i
theorem WI.alloc (h : WI w g t l) (o : Obj) : WI (w.alloc o) g t l := Whole.alloc h o
theorem WI.set_ (h : WI w g t l) (i : Nat) (x : Int) : WI (w.setCell ⟨g, i, none⟩ (.int .i64 x)) g t (l.set i x) := by
  have := Whole.set_ h i (.int .i64 x)
  rw [toArray_setI, icells_set] at this
  exact this
theorem WI.of (h : w.heap[g]? = some (.cells (icells l).toArray t (0, 0))) : WI w g t l := h
theorem whole_other {cs : Array Value} (h : Whole w g t cs) {p : Addr} (hp : p.block ≠ g) (u : Value) : Whole (w.setCell p u) g t cs := by
  unfold Whole at *
  rw [heap_setCell_other _ _ _ _ (Ne.symm hp)]
  exact h
theorem WI.other (h : WI w g t l) {p : Addr} (hp : p.block ≠ g) (u : Value) : WI (w.setCell p u) g t l := whole_other h hp u
theorem whole_below {D : Nat} {cs : Array Value} (h : Whole w g t cs) (hb : Below D w w') (hg : g < D) : Whole w' g t cs := by
  unfold Whole at *
  rw [hb.block _ hg]
  exact h
theorem WI.below (h : WI w g t l) (hb : Below w.heap.size w w') : WI w' g t l := whole_below h hb h.lt
theorem WI.drewN (h : WI w g t l) (n : Nat) : WI (w.drewN n) g t l := h
theorem WI.as {l' : List Int} (h : WI w g t l) (e : l' = l) : WI w g t l' := by subst e; exact h
theorem WI.new (w : World) (t : TypeId) (l : List Int) : WI (w.alloc (.cells (icells l).toArray t)) w.heap.size t l := Whole.new w t _
theorem WI.row (h : WI w g t l) (cs : Array Value) (g' : Nat) (hne : g ≠ g') : WI (w.setRow g' cs) g t l := by
  unfold WI Whole at *
  simp only [World.setRow, Array.getElem?_modify]
  rw [if_neg (Ne.symm hne)]
  exact h
theorem whole_setRow {cs cs' : Array Value} (h : Whole w g t cs) : Whole (w.setRow g cs') g t cs' := setRow_heap w g cs cs' t _ h
theorem wi_setRow (h : WI w g t l) (l' : List Int) : WI (w.setRow g (icells l').toArray) g t l' := setRow_heap w g _ _ t _ h
theorem wi_setRow_other (h : WI w g t l) {g' : Nat} (cs : Array Value) (hne : g' ≠ g) : WI (w.setRow g' cs) g t l := h.row cs g' (Ne.symm hne)
theorem WI.range (h : WI w g t l) : w.rangeAt g 0 (icells l) := fun j v hv => by
  rw [Nat.zero_add, Whole.cell h j, List.getElem?_toArray, hv]
end
theorem arr_all (l : List Int) : (icells l).toArray.all (·.oneCell') = true := all_oneCell_toArray (icells_one l)
/-! ### many cells stored in a row -/
theorem heap_setCells_other (b : Nat) {k : Nat} (hne : k ≠ b) : ∀ (vs : List Value) (o : Nat) (w : World), (w.setCells b o vs).heap[k]? = w.heap[k]?
  | [], _, _ => rfl
  | v :: vs, o, w => (heap_setCells_other b hne vs (o + 1) _).trans (heap_setCell_other w ⟨b, o, none⟩ k v hne)
theorem below_setCells {B b : Nat} {a : World} (hb : B ≤ b) : ∀ (vs : List Value) (o : Nat) (w : World), Below B a w → Below B a (w.setCells b o vs)
  | [], _, _, h => h
  | v :: vs, o, w, h => below_setCells hb vs (o + 1) _ (h.setCell hb v)
theorem whole_setCells {b : Nat} {t : TypeId} : ∀ (vs mid pre : List Value) (w : World), mid.length = vs.length → Whole w b t (pre ++ mid).toArray → Whole (w.setCells b pre.length vs) b t (pre ++ vs).toArray
  | [], mid, pre, w, hm, h => by
    have : mid = [] := List.eq_nil_of_length_eq_zero (by simpa using hm)
    subst this
    exact h
  | v :: vs, [], pre, w, hm, h => by simp at hm
  | v :: vs, m :: mid, pre, w, hm, h => by
    have h1 := Whole.set_ h pre.length v
    rw [toArray_setI, List.set_append_right _ _ (Nat.le_refl _), Nat.sub_self, List.set_cons_zero] at h1
    have h2 : Whole (w.setCell ⟨b, pre.length, none⟩ v) b t ((pre ++ [v]) ++ mid).toArray := by rw [List.append_assoc]; exact h1
    have h3 := whole_setCells vs mid (pre ++ [v]) _ (by simpa using hm) h2
    rw [List.length_append, List.append_assoc] at h3
    exact h3
theorem wi_setCells {w : World} {b : Nat} {t : TypeId} {l l' : List Int} (h : WI w b t l) (hl : l.length = l'.length) : WI (w.setCells b 0 (icells l')) b t l' := by
  have := whole_setCells (icells l') (icells l) [] w (by rw [icells_length, icells_length, hl]) h
  exact this
theorem whole_setCells_other {w : World} {b g : Nat} {t : TypeId} {cs : Array Value} (h : Whole w g t cs) (hne : g ≠ b) (o : Nat) (vs : List Value) : Whole (w.setCells b o vs) g t cs := by
  unfold Whole at *
  rw [heap_setCells_other b hne]
  exact h
theorem size_setCells (b : Nat) : ∀ (vs : List Value) (o : Nat) (w : World), (w.setCells b o vs).heap.size = w.heap.size
  | [], _, _ => rfl
  | v :: vs, o, w => (size_setCells b vs (o + 1) _).trans (by simp [World.setCell])
theorem WI.there {w : World} {b : Nat} {t : TypeId} {l : List Int} (h : WI w b t l) {n : Nat} (hn : n = l.length) : w.there b 0 n := fun j hj => by
  subst hn
  rw [Nat.zero_add]
  exact ⟨by rw [h.cell (List.getElem?_eq_getElem hj)]; rfl, h.frozen j⟩
end Go.Proofs.Ytiiadclcfbghkaa.Words
