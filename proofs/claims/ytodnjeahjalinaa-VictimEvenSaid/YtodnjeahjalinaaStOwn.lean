/-
  Rows of whole numbers of the call's own, changed in place; and what a comparison of the call's own must do.
-/
import Derived.Test.YtodnjeahjalinaaProg
import Derived.Test.YtodnjeahjalinaaStMerge
import Derived.Test.YtodnjeahjalinaaBase
import Derived.Maps.AppendAt
import Derived.Deep.QuietTactic
import Derived.BigQuiet
import Derived.RegionTactic
import Derived.ChangeAlike
import Derived.Deep.RegionWith
import Derived.Deep.CutBlock
import Derived.Deep.DeepCutAuto
import Derived.Shelf.SlSortCmp.QuietGrown
namespace Go.Proofs.Ytodnjeahjalinaa.Stab
open Go.ChangeShapes Go.WideShapes Go.ChangeAt Go.RowKit Words Go.Sort
set_option linter.unusedVariables false

theorem mixedO : Try.prog.follows .mixedOrders = true := by kernel_rfl
def OwnI (w : World) (base : Nat) (A : Option Addr) (n c : Nat) (l : List Int) : Prop := w.ownsRow base 3 1 (.slice A n c) n (icells l)
section
variable {w w' : World} {base g : Nat} {A : Option Addr} {n c : Nat} {l : List Int}
theorem OwnI.ints (h : OwnI w base A n c l) : Ints w w.heap.size A n c l := Words.Rd.of_own h
theorem OwnI.len (h : OwnI w base A n c l) : l.length = n := h.ints.len
theorem OwnI.at_ (h : OwnI w base (some ⟨g, 0, none⟩) n c l) : base ≤ g ∧ g < w.heap.size := by
  rcases h.2 with ⟨hv, _⟩ | ⟨g', cap, cur, hv, hb, hg, _⟩
  · cases hv
  · cases hv
    exact ⟨hb, (Array.getElem?_eq_some_iff.1 hg).1⟩
theorem OwnI.cell (h : OwnI w base (some ⟨g, 0, none⟩) n c l) {k : Nat} (hk : k < n) : w.cell? ⟨g, k, none⟩ = some (.int .i64 (nti l k)) := by
  have := Ints.cellAt h.ints rfl (nti_get (l := l) (k := k) (by rw [h.len]; exact hk))
  rwa [Nat.zero_add] at this
theorem OwnI.cellG (h : OwnI w base (some ⟨g, 0, none⟩) n c l) {k : Nat} (hk : k < n) : ∀ m os, (grow (w.drewN m) os).cell? ⟨g, k, none⟩ = some (.int .i64 (nti l k)) := fun m os => cell_grown (a := ⟨g, k, none⟩) h.at_.2 (h.cell hk) m os
theorem OwnI.frozen (h : OwnI w base (some ⟨g, 0, none⟩) n c l) (j : Nat) : w.frozen? ⟨g, j, none⟩ = false := Go.World.ownsRow.frozenAt h j
theorem OwnI.below {D : Nat} (h : OwnI w base A n c l) (hb : Below D w w') (hD : w.heap.size ≤ D) : OwnI w' base A n c l := own_below h hb hD
theorem OwnI.set_ (h : OwnI w base (some ⟨g, 0, none⟩) n c l) (j : Nat) (x : Int) : OwnI (w.setCell ⟨g, j, none⟩ (.int .i64 x)) base (some ⟨g, 0, none⟩) n c (l.set j x) ∧ w.grownBy (w.setCell ⟨g, j, none⟩ (.int .i64 x)) (some g) := by
  have := Go.World.ownsRow.stored h j (.int .i64 x)
  rw [show (icells l).set j (.int .i64 x) = icells (l.set j x) by unfold icells; rw [List.map_set]] at this
  exact this
end
/-- Behind the call: some draws, and some blocks more. -/
def Laid (W w' : World) : Prop := ∃ q os', w' = grow (W.drewN q) os'
theorem below_grow {B : Nat} {a w : World} (h : Below B a w) (hB : B ≤ w.heap.size) (m : Nat) (os : Array Obj) : Below B a (grow (w.drewN m) os) :=
  ⟨h.os, h.tape, h.output, by rw [size_grow]; exact Nat.le_trans h.size (Nat.le_add_right _ _), fun k hk => by
    rw [heap_grow_old _ _ (by show k < w.heap.size; omega)]
    exact h.block k hk⟩
theorem Laid.below {W w' : World} (h : Laid W w') : Below W.heap.size W w' := by
  obtain ⟨q, os, rfl⟩ := h
  exact below_grow (Below.refl _ _) (Nat.le_refl _) q os
/-- A row changed in place; nothing else that was there is. -/
structure St (w : World) (base g n c : Nat) (l : List Int) (w' : World) : Prop where
  own : OwnI w' base (some ⟨g, 0, none⟩) n c l
  grown : w.grownBy w' (some g)
section
variable {w w1 w2 : World} {base g n c : Nat} {l l' : List Int}
theorem grown_grow (w : World) (m : Nat) (os : Array Obj) (r : Option Nat) : w.grownBy (grow (w.drewN m) os) r :=
  ⟨rfl, rfl, rfl, by rw [size_grow]; exact Nat.le_add_right _ _, fun k hk _ => heap_grow_old _ _ (by exact hk)⟩
theorem St.refl (h : OwnI w base (some ⟨g, 0, none⟩) n c l) : St w base g n c l w := ⟨h, World.grownBy.refl _ _⟩
theorem St.more (h : St w base g n c l w1) (m : Nat) (os : Array Obj) : St w base g n c l (grow (w1.drewN m) os) :=
  ⟨h.own.below (below_grow (Below.refl _ _) (Nat.le_refl _) m os) (Nat.le_refl _), h.grown.trans (grown_grow _ _ _ _)⟩
theorem St.drew (h : St w base g n c l w1) : St w base g n c l w1.drew := ⟨h.own, h.grown.trans ⟨rfl, rfl, rfl, Nat.le_refl _, fun k hk _ => rfl⟩⟩
theorem St.trans (h : St w base g n c l w1) (h2 : St w1 base g n c l' w2) : St w base g n c l' w2 := ⟨h2.own, h.grown.trans h2.grown⟩
theorem St.swp (h : St w base g n c l w1) (i j : Nat) : St w base g n c (swp l i j) ((w1.setCell ⟨g, i, none⟩ (.int .i64 (nti l j))).setCell ⟨g, j, none⟩ (.int .i64 (nti l i))) := by
  have h1 := h.own.set_ i (nti l j)
  have h2 := h1.1.set_ j (nti l i)
  exact ⟨h2.1, (h.grown.trans h1.2).trans h2.2⟩
theorem St.below (h : St w base g n c l w1) (hb : base ≤ w.heap.size) : Below base w w1 :=
  (Below.refl base w).grown h.grown hb fun k hk => by
    injection hk with hk
    subst hk
    exact h.own.at_.1
/-- What an exchange reads and writes. -/
structure SwF (w : World) (g i j : Nat) (x y : Int) : Prop where
  i0 : w.cell? ⟨g, i, none⟩ = some (.int .i64 x)
  j0 : w.cell? ⟨g, j, none⟩ = some (.int .i64 y)
  fi : w.frozen? ⟨g, i, none⟩ = false
  fj : w.frozen? ⟨g, j, none⟩ = false
  b0 : (w.setCell ⟨g, i, none⟩ (.int .i64 y)).cell? ⟨g, j, none⟩ = some (.int .i64 y)
theorem OwnI.swF (h : OwnI w base (some ⟨g, 0, none⟩) n c l) {i j : Nat} (hi : i < n) (hj : j < n) (hij : i ≠ j) : SwF w g i j (nti l i) (nti l j) :=
  ⟨h.cell hi, h.cell hj, h.frozen _, h.frozen _, by rw [World.cell?_setCell_other _ _ _ _ (fun e => hij (by injection e))]; exact h.cell hj⟩
end
/-- What a comparison of the call's own must do: say 'cf' of two numbers that it may be asked of, and leave what is there. -/
def Cmpr (f : Nat) (cb : Array Value) (cf : Int → Int → Int) (V : Int → Prop) (base : Nat) (w : World) : Prop :=
  ∀ W, Below base w W → ∀ x y, V x → V y → Calls Try.prog f (#[.int .i64 x, .int .i64 y] ++ cb) W fun e w' => e = .returned (.int .i64 (cf x y)) ∧ Laid W w'
theorem Cmpr.next {f : Nat} {cb : Array Value} {cf : Int → Int → Int} {V : Int → Prop} {base : Nat} {w w1 : World} (h : Cmpr f cb cf V base w) (hb : Below base w w1) : Cmpr f cb cf V base w1 := fun W hW => h W (hb.trans hW)
/-- .. in every world of the class that a region goes through. -/
theorem Cmpr.at_ {f : Nat} {cb : Array Value} {cf : Int → Int → Int} {V : Int → Prop} {base : Nat} {w w1 : World} (h : Cmpr f cb cf V base w) (hb : Below base w w1) (hs : base ≤ w1.heap.size) {x y : Int} (hx : V x) (hy : V y) (m : Nat) (os : Array Obj) :
    Calls Try.prog f (#[.int .i64 x, .int .i64 y] ++ cb) (grow (w1.drewN m) os) fun e w' => e = .returned (.int .i64 (cf x y)) ∧ ∃ q os', w' = grow ((grow (w1.drewN m) os).drewN q) os' := h _ (below_grow hb hs m os) x y hx hy
def lessOf (cf : Int → Int → Int) (x y : Int) : Bool := decide (cf x y < 0)
end Go.Proofs.Ytodnjeahjalinaa.Stab
