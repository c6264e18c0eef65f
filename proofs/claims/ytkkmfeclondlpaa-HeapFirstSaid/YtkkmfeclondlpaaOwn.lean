/-
  Lists of blocks in a row of the call's own; two elements of it exchanged.
-/
import Derived.Test.YtkkmfeclondlpaaRights
import Derived.Maps.AppendAt
namespace Go.Proofs.Ytkkmfeclondlpaa.Heap
open Go.ChangeShapes Go.WideShapes Go.ChangeAt Go.RowKit Words Go.Sort
set_option linter.unusedVariables false

theorem info24 : (Try.prog.info? 24).map (fun i => (i.zero, i.size, i.bytes)) = some (some (.agg #[.int .i64 0, .int .i64 0]), 2, 16) := by kernel_rfl
/-- A list of the call's own. -/
def OwnHp (w : World) (base : Nat) (A : Option Addr) (n c : Nat) (l : List Wn) : Prop := w.ownsRow base 24 2 (.slice A n c) n (hcells l)
section
variable {w w' : World} {base g : Nat} {A : Option Addr} {n c : Nat} {l : List Wn}
theorem OwnHp.hp (h : OwnHp w base A n c l) : Hp w w.heap.size A n c l := Words.Rd.of_own h
theorem OwnHp.len (h : OwnHp w base A n c l) : l.length = n := h.hp.len
theorem OwnHp.addr (h : OwnHp w base A n c l) (hn : 0 < n) : ∃ g, A = some ⟨g, 0, none⟩ ∧ base ≤ g ∧ g < w.heap.size := by
  obtain ⟨g, c', hv, h1, h2⟩ := own_form_pos h hn
  injection hv with hv _ _
  exact ⟨g, hv, h1, h2⟩
theorem OwnHp.at_ (h : OwnHp w base (some ⟨g, 0, none⟩) n c l) : base ≤ g ∧ g < w.heap.size := by
  rcases h.2 with ⟨hv, _⟩ | ⟨g', cap, cur, hv, hb, hg, _⟩
  · cases hv
  · cases hv
    exact ⟨hb, (Array.getElem?_eq_some_iff.1 hg).1⟩
theorem OwnHp.cells (h : OwnHp w base (some ⟨g, 0, none⟩) n c l) {i : Nat} {b : Wn} (hb : l[i]? = some b) :
    w.cell? ⟨g, i * 2, none⟩ = some (.int .i64 b.id) ∧ w.cell? ⟨g, i * 2 + 1, none⟩ = some (.int .i64 b.wear) := by
  have := Hp.cells h.hp rfl hb
  simpa only [Nat.zero_add] using this
theorem OwnHp.cellsG (h : OwnHp w base (some ⟨g, 0, none⟩) n c l) {i : Nat} {b : Wn} (hb : l[i]? = some b) :
    (∀ m os, (grow (w.drewN m) os).cell? ⟨g, i * 2, none⟩ = some (.int .i64 b.id)) ∧ (∀ m os, (grow (w.drewN m) os).cell? ⟨g, i * 2 + 1, none⟩ = some (.int .i64 b.wear)) := by
  have := Hp.cellsG h.hp (Nat.le_refl _) rfl hb
  simpa only [Nat.zero_add] using this
theorem OwnHp.below {D : Nat} (h : OwnHp w base A n c l) (hb : Below D w w') (hD : w.heap.size ≤ D) : OwnHp w' base A n c l := own_below h hb hD
theorem OwnHp.frozen (h : OwnHp w base (some ⟨g, 0, none⟩) n c l) (j : Nat) : w.frozen? ⟨g, j, none⟩ = false := Go.World.ownsRow.frozenAt h j
theorem OwnHp.put0 (h : OwnHp w base (some ⟨g, 0, none⟩) n c l) {i : Nat} {b : Wn} (hb : l[i]? = some b) (x : Int) :
    OwnHp (w.setCell ⟨g, i * 2, none⟩ (.int .i64 x)) base (some ⟨g, 0, none⟩) n c (l.set i ⟨x, b.wear⟩) ∧ w.grownBy (w.setCell ⟨g, i * 2, none⟩ (.int .i64 x)) (some g) := by
  have := Go.World.ownsRow.stored h (i * 2) (.int .i64 x)
  have e := flat_set (f := wcells) wcells_length hb (j := 0) (by omega) (y := ⟨x, b.wear⟩) (u := .int .i64 x) rfl
  rw [Nat.add_zero] at e
  rw [hcells, e] at this
  exact this
theorem OwnHp.put1 (h : OwnHp w base (some ⟨g, 0, none⟩) n c l) {i : Nat} {b : Wn} (hb : l[i]? = some b) (x : Int) :
    OwnHp (w.setCell ⟨g, i * 2 + 1, none⟩ (.int .i64 x)) base (some ⟨g, 0, none⟩) n c (l.set i ⟨b.id, x⟩) ∧ w.grownBy (w.setCell ⟨g, i * 2 + 1, none⟩ (.int .i64 x)) (some g) := by
  have := Go.World.ownsRow.stored h (i * 2 + 1) (.int .i64 x)
  rw [hcells, flat_set (f := wcells) wcells_length hb (j := 1) (by omega) (y := ⟨b.id, x⟩) rfl] at this
  exact this
/-- Element i stored anew. -/
def putW (w : World) (g i : Nat) (x : Wn) : World := (w.setCell ⟨g, i * 2, none⟩ (.int .i64 x.id)).setCell ⟨g, i * 2 + 1, none⟩ (.int .i64 x.wear)
theorem get_set_same {l : List Wn} {i : Nat} (hi : i < l.length) (b' : Wn) : (l.set i b')[i]? = some b' := by
  rw [List.getElem?_set, if_pos rfl, if_pos hi]
theorem OwnHp.put (h : OwnHp w base (some ⟨g, 0, none⟩) n c l) {i : Nat} (hi : i < n) (x : Wn) :
    OwnHp (putW w g i x) base (some ⟨g, 0, none⟩) n c (l.set i x) ∧ w.grownBy (putW w g i x) (some g) := by
  have hl := h.len
  have h0 := h.put0 (nth_get (l := l) (k := i) (by omega)) x.id
  have h1 := h0.1.put1 (get_set_same (by omega) _) x.wear
  rw [List.set_set] at h1
  exact ⟨h1.1, h0.2.trans h1.2⟩
theorem OwnHp.drew (h : OwnHp w base A n c l) : OwnHp w.drew base A n c l := h
theorem OwnHp.swap (h : OwnHp w base (some ⟨g, 0, none⟩) n c l) {i j : Nat} (hi : i < n) (hj : j < n) :
    OwnHp (putW (putW w g i (nth l j)) g j (nth l i)) base (some ⟨g, 0, none⟩) n c (swap l i j) ∧ w.grownBy (putW (putW w g i (nth l j)) g j (nth l i)) (some g) := by
  have h1 := h.put hi (nth l j)
  have h2 := h1.1.put hj (nth l i)
  exact ⟨h2.1, h1.2.trans h2.2⟩
end
/-- A row changed in place; nothing else that was there is. -/
structure Turned (w : World) (base g n c : Nat) (l : List Wn) (w' : World) : Prop where
  own : OwnHp w' base (some ⟨g, 0, none⟩) n c l
  grown : w.grownBy w' (some g)
theorem grown_grow (w : World) (m : Nat) (os : Array Obj) (r : Option Nat) : w.grownBy (grow (w.drewN m) os) r :=
  ⟨rfl, rfl, rfl, by rw [size_grow]; exact Nat.le_add_right _ _, fun k hk _ => heap_grow_old _ _ (by exact hk)⟩
theorem grown_drew (w : World) (r : Option Nat) : w.grownBy w.drew r := ⟨rfl, rfl, rfl, Nat.le_refl _, fun k hk _ => rfl⟩
theorem grown_below {w w' : World} (h : Below w.heap.size w w') (r : Option Nat) : w.grownBy w' r := ⟨h.os, h.tape, h.output, h.size, fun k hk _ => h.block k hk⟩
theorem Turned.refl {w : World} {base g n c : Nat} {l : List Wn} (h : OwnHp w base (some ⟨g, 0, none⟩) n c l) : Turned w base g n c l w := ⟨h, World.grownBy.refl _ _⟩
theorem Turned.more {w w1 : World} {base g n c : Nat} {l : List Wn} (h : Turned w base g n c l w1) (m : Nat) (os : Array Obj) : Turned w base g n c l (grow (w1.drewN m) os) :=
  ⟨h.own.below (below_grow (Below.refl _ _) (Nat.le_refl _) m os) (Nat.le_refl _), h.grown.trans (grown_grow _ _ _ _)⟩
theorem Turned.drew {w w1 : World} {base g n c : Nat} {l : List Wn} (h : Turned w base g n c l w1) : Turned w base g n c l w1.drew := ⟨h.own.drew, h.grown.trans (grown_drew _ _)⟩
theorem Turned.below {w w1 w2 : World} {base g n c : Nat} {l : List Wn} (h : Turned w base g n c l w1) (hb : Below w1.heap.size w1 w2) : Turned w base g n c l w2 :=
  ⟨h.own.below hb (Nat.le_refl _), h.grown.trans (grown_below hb _)⟩
theorem Turned.swap {w w1 : World} {base g n c : Nat} {l : List Wn} (h : Turned w base g n c l w1) {i j : Nat} (hi : i < n) (hj : j < n) : Turned w base g n c (swap l i j) (putW (putW w1 g i (nth l j)) g j (nth l i)) :=
  ⟨(h.own.swap hi hj).1, h.grown.trans (h.own.swap hi hj).2⟩
theorem Turned.put {w w1 : World} {base g n c : Nat} {l : List Wn} (h : Turned w base g n c l w1) {i : Nat} (hi : i < n) (x : Wn) : Turned w base g n c (l.set i x) (putW w1 g i x) :=
  ⟨(h.own.put hi x).1, h.grown.trans (h.own.put hi x).2⟩
/-- What an exchange reads and writes: the cells as each store finds them. -/
structure SwapF (w : World) (g i j : Nat) (x y : Wn) : Prop where
  i0 : w.cell? ⟨g, i * 2, none⟩ = some (.int .i64 x.id)
  i1 : w.cell? ⟨g, i * 2 + 1, none⟩ = some (.int .i64 x.wear)
  j0 : w.cell? ⟨g, j * 2, none⟩ = some (.int .i64 y.id)
  j1 : w.cell? ⟨g, j * 2 + 1, none⟩ = some (.int .i64 y.wear)
  fi0 : w.frozen? ⟨g, i * 2, none⟩ = false
  fi1 : w.frozen? ⟨g, i * 2 + 1, none⟩ = false
  fj0 : w.frozen? ⟨g, j * 2, none⟩ = false
  fj1 : w.frozen? ⟨g, j * 2 + 1, none⟩ = false
  a1 : (w.setCell ⟨g, i * 2, none⟩ (.int .i64 y.id)).cell? ⟨g, i * 2 + 1, none⟩ = some (.int .i64 x.wear)
  b0 : ((w.setCell ⟨g, i * 2, none⟩ (.int .i64 y.id)).setCell ⟨g, i * 2 + 1, none⟩ (.int .i64 y.wear)).cell? ⟨g, j * 2, none⟩ = some (.int .i64 y.id)
  b1 : (((w.setCell ⟨g, i * 2, none⟩ (.int .i64 y.id)).setCell ⟨g, i * 2 + 1, none⟩ (.int .i64 y.wear)).setCell ⟨g, j * 2, none⟩ (.int .i64 x.id)).cell? ⟨g, j * 2 + 1, none⟩ = some (.int .i64 y.wear)
theorem OwnHp.swapF {w : World} {base g n c : Nat} {l : List Wn} (h : OwnHp w base (some ⟨g, 0, none⟩) n c l) {i j : Nat} (hi : i < n) (hj : j < n) (hij : i ≠ j) : SwapF w g i j (nth l i) (nth l j) := by
  have hl := h.len
  obtain ⟨c0, c1⟩ := h.cells (nth_get (l := l) (k := i) (by omega))
  obtain ⟨d0, d1⟩ := h.cells (nth_get (l := l) (k := j) (by omega))
  have o : ∀ (w : World) (a b : Nat) (u : Value), a ≠ b → (w.setCell ⟨g, a, none⟩ u).cell? ⟨g, b, none⟩ = w.cell? ⟨g, b, none⟩ := fun w a b u hab => World.cell?_setCell_other w _ _ u (fun e => hab (by injection e))
  refine ⟨c0, c1, d0, d1, h.frozen _, h.frozen _, h.frozen _, h.frozen _, ?_, ?_, ?_⟩
  · rw [o _ _ _ _ (by omega)]; exact c1
  · rw [o _ _ _ _ (by omega), o _ _ _ _ (by omega)]; exact d0
  · rw [o _ _ _ _ (by omega), o _ _ _ _ (by omega), o _ _ _ _ (by omega)]; exact d1
end Go.Proofs.Ytkkmfeclondlpaa.Heap
