/-
  What the functions return that compare two blocks, or look whether a list is a heap: walked through the program's text.
-/
import Derived.Test.YtkkmfeclondlpaaRows
import Derived.Test.YtkkmfeclondlpaaPlain
import Derived.Test.YtkkmfeclondlpaaBase
import Derived.Deep.QuietTactic
import Derived.BigQuiet
import Derived.RegionTactic
import Derived.ChangeAlike
import Derived.Deep.RegionWith
import Derived.Deep.CutBlock
import Derived.Shelf.SlSortCmp.QuietGrown
namespace Go.Proofs.Ytkkmfeclondlpaa.Heap
open Go.ChangeShapes Go.WideShapes Go.ChangeAt Go.RowKit Words Go.Sort
set_option linter.unusedVariables false

/-! ### blocks in memory -/
def wcells (x : Wn) : List Value := [.int .i64 x.id, .int .i64 x.wear]
def wval (x : Wn) : Value := .agg #[.int .i64 x.id, .int .i64 x.wear]
def wbox (x : Wn) : Obj := .cells #[.int .i64 x.id, .int .i64 x.wear] 24
theorem wcells_length (x : Wn) : (wcells x).length = 2 := rfl
def hcells (l : List Wn) : List Value := l.flatMap wcells
theorem hcells_length (l : List Wn) : (hcells l).length = l.length * 2 := flat_length wcells_length l
theorem hcells_append (a b : List Wn) : hcells (a ++ b) = hcells a ++ hcells b := List.flatMap_append
theorem hcells_one (l : List Wn) : ∀ u ∈ hcells l, u.oneCell' = true := by
  intro u hu
  unfold hcells at hu
  rw [List.mem_flatMap] at hu
  obtain ⟨b, _, hb⟩ := hu
  simp [wcells] at hb
  rcases hb with rfl | rfl <;> rfl
/-- The []api.Worn value reads as the list. -/
def Hp (w : World) (B : Nat) (A : Option Addr) (n c : Nat) (l : List Wn) : Prop := Words.Rd w B 2 A n c (hcells l)
section
variable {w : World} {B : Nat} {A : Option Addr} {n c : Nat} {l : List Wn}
theorem Hp.len (h : Hp w B A n c l) : l.length = n := by
  have := Words.Rd.len h
  rw [hcells_length] at this
  omega
theorem Hp.cells (h : Hp w B A n c l) {g o : Nat} (e : A = some ⟨g, o, none⟩) {i : Nat} {b : Wn} (hb : l[i]? = some b) :
    w.cell? ⟨g, o + i * 2, none⟩ = some (.int .i64 b.id) ∧ w.cell? ⟨g, o + i * 2 + 1, none⟩ = some (.int .i64 b.wear) := by
  have hi := (List.getElem?_eq_some_iff.1 hb).1
  have hl := Hp.len h
  have hc : ∀ j, j < 2 → ∀ u, (wcells b)[j]? = some u → w.cell? ⟨g, o + i * 2 + j, none⟩ = some u := fun j hj u hu => by
    have := Words.Rd.cellAt h e (by omega) (i * 2 + j) u (by rw [hcells, flat_get wcells_length hb hj, hu])
    rwa [← Nat.add_assoc] at this
  exact ⟨hc 0 (by omega) _ rfl, hc 1 (by omega) _ rfl⟩
/-- .. also behind some draws and some blocks more. -/
theorem Hp.cellsG (h : Hp w B A n c l) (hB : B ≤ w.heap.size) {g o : Nat} (e : A = some ⟨g, o, none⟩) {i : Nat} {b : Wn} (hb : l[i]? = some b) :
    (∀ m os, (grow (w.drewN m) os).cell? ⟨g, o + i * 2, none⟩ = some (.int .i64 b.id)) ∧ (∀ m os, (grow (w.drewN m) os).cell? ⟨g, o + i * 2 + 1, none⟩ = some (.int .i64 b.wear)) := by
  have hi := (List.getElem?_eq_some_iff.1 hb).1
  have hl := Hp.len h
  obtain ⟨g', o', e', hg, _⟩ := Words.Rd.row h (by omega)
  rw [e] at e'
  injection e' with e'
  injection e' with e1 e2
  subst e1 e2
  obtain ⟨h0, h1⟩ := Hp.cells h e hb
  exact ⟨fun m os => cell_grown (by exact Nat.lt_of_lt_of_le hg hB) h0 m os, fun m os => cell_grown (by exact Nat.lt_of_lt_of_le hg hB) h1 m os⟩
end
theorem below_grow {B : Nat} {a w : World} (h : Below B a w) (hB : B ≤ w.heap.size) (m : Nat) (os : Array Obj) : Below B a (grow (w.drewN m) os) :=
  ⟨h.os, h.tape, h.output, by rw [size_grow]; exact Nat.le_trans h.size (Nat.le_add_right _ _), fun k hk => by
    rw [heap_grow_old _ _ (by show k < w.heap.size; omega)]
    exact h.block k hk⟩

/-! ### comparing -/
/-- Behind the call: some draws, and some blocks more. -/
def Laid (W w' : World) : Prop := ∃ q os', w' = grow (W.drewN q) os'
theorem Laid.below {W w' : World} (h : Laid W w') : Below W.heap.size W w' := by
  obtain ⟨q, os, rfl⟩ := h
  exact below_grow (Below.refl _ _) (Nat.le_refl _) q os
theorem Laid.refl (W : World) : Laid W W := ⟨0, #[], by rw [grow_empty]; rfl⟩
theorem laid_two (W : World) (a b : Obj) : Laid W ((W.alloc a).alloc b) := ⟨0, #[a, b], by rw [alloc_eq_grow, alloc_eq_grow, grow_grow]; rfl⟩
theorem laid_four (W : World) (a b c d : Obj) : Laid W ((((W.alloc a).alloc b).alloc c).alloc d) := ⟨0, #[a, b, c, d], by simp only [alloc_eq_grow, grow_grow]; rfl⟩
theorem less_same {a b : Wn} (h : a.wear = b.wear) : less a b = decide (a.id < b.id) := by unfold less; rw [if_pos h]
theorem less_diff {a b : Wn} (h : a.wear ≠ b.wear) : less a b = decide (a.wear < b.wear) := by unfold less; rw [if_neg h]
theorem less23 (a b : Wn) (w : World) : Calls Try.prog 23 #[wval a, wval b] w fun e w' => e = .returned (.bool (less a b)) ∧ Laid w w' := by
  obtain ⟨ai, aw⟩ := a
  obtain ⟨bi, bw⟩ := b
  unfold wval
  by_cases h : aw = bw
  · have hb : (aw != bw) = false := by rw [bne_eq_false_iff_eq]; exact h
    have HL := Lib.hid (less_same (a := ⟨ai, aw⟩) (b := ⟨bi, bw⟩) h)
    clear h
    go_enter Try.func23, Try.ntmps23
    go_wp2_with fail
    go_ret
    exact ⟨ret_bool HL.out.symm, laid_two _ _ _⟩
  · have hb : (aw != bw) = true := by rw [bne_iff_ne]; exact h
    have HL := Lib.hid (less_diff (a := ⟨ai, aw⟩) (b := ⟨bi, bw⟩) h)
    clear h
    go_enter Try.func23, Try.ntmps23
    go_wp2_with fail
    go_ret
    exact ⟨ret_bool HL.out.symm, laid_two _ _ _⟩
theorem isNaN53 (x : Int) (w : World) : Calls Try.prog 53 #[.int .i64 x] w fun e w' => e = .returned (.bool false) ∧ w' = w := by
  have hb : (x != x) = false := by rw [bne_eq_false_iff_eq]
  go_enter Try.func53, Try.ntmps53
  go_wp2_with fail
  go_ret
  exact ⟨rfl, rfl⟩
def cmpI (x y : Int) : Int := if x < y then -1 else if y < x then 1 else 0
theorem cmp42 (x y : Int) (w : World) : Calls Try.prog 42 #[.int .i64 x, .int .i64 y] w fun e w' => e = .returned (.int .i64 (cmpI x y)) ∧ w' = w := by
  have H1 := Lib.hid (isNaN53 x)
  have H2 := Lib.hid (isNaN53 y)
  by_cases h : x < y
  · have HL : Hid (cmpI x y = -1) := Lib.hid (by unfold cmpI; rw [if_pos h])
    go_enter Try.func42, Try.ntmps42
    go_wp2_with fail
    refine (H1.out _).mono ?_; rintro e w' ⟨rfl, rfl⟩
    go_wp2_with fail
    refine (H2.out _).mono ?_; rintro e w' ⟨rfl, rfl⟩
    go_wp2_with fail
    go_ret
    exact ⟨ret_int HL.out.symm, rfl⟩
  · by_cases h2 : y < x
    · have HL : Hid (cmpI x y = 1) := Lib.hid (by unfold cmpI; rw [if_neg h, if_pos h2])
      go_enter Try.func42, Try.ntmps42
      go_wp2_with fail
      refine (H1.out _).mono ?_; rintro e w' ⟨rfl, rfl⟩
      go_wp2_with fail
      refine (H2.out _).mono ?_; rintro e w' ⟨rfl, rfl⟩
      go_wp2_with fail
      go_ret
      exact ⟨ret_int HL.out.symm, rfl⟩
    · have HL : Hid (cmpI x y = 0) := Lib.hid (by unfold cmpI; rw [if_neg h, if_neg h2])
      go_enter Try.func42, Try.ntmps42
      go_wp2_with fail
      refine (H1.out _).mono ?_; rintro e w' ⟨rfl, rfl⟩
      go_wp2_with fail
      refine (H2.out _).mono ?_; rintro e w' ⟨rfl, rfl⟩
      go_wp2_with fail
      go_ret
      exact ⟨ret_int HL.out.symm, rfl⟩
/-- What the program's comparison returns. -/
def cf (a b : Wn) : Int := if a.wear = b.wear then cmpI a.id b.id else cmpI a.wear b.wear
theorem cmpI_neg (x y : Int) : decide (cmpI x y < 0) = decide (x < y) := by
  unfold cmpI
  split
  · rename_i h; simp [h]
  · split
    · rename_i h h2; simp; omega
    · rename_i h h2; simp; omega
theorem cf_less (a b : Wn) : decide (cf a b < 0) = less a b := by
  unfold cf less
  split
  · exact cmpI_neg _ _
  · exact cmpI_neg _ _
theorem compare35 (a b : Wn) (w : World) : Calls Try.prog 35 #[wval a, wval b] w fun e w' => e = .returned (.int .i64 (cf a b)) ∧ Laid w w' := by
  have H1 := Lib.hid (cmp42 a.wear b.wear)
  have H2 := Lib.hid (cmp42 a.id b.id)
  obtain ⟨ai, aw⟩ := a
  obtain ⟨bi, bw⟩ := b
  unfold wval
  by_cases h : aw = bw
  · have hb : (aw != bw) = false := by rw [bne_eq_false_iff_eq]; exact h
    have HL : Hid (cf ⟨ai, aw⟩ ⟨bi, bw⟩ = cmpI ai bi) := Lib.hid (by unfold cf; rw [if_pos h])
    clear h
    go_enter Try.func35, Try.ntmps35
    go_wp2_with fail
    refine (H2.out _).mono ?_; rintro e w' ⟨rfl, rfl⟩
    go_wp2_with fail
    go_ret
    exact ⟨ret_int HL.out.symm, laid_two _ _ _⟩
  · have hb : (aw != bw) = true := by rw [bne_iff_ne]; exact h
    have HL : Hid (cf ⟨ai, aw⟩ ⟨bi, bw⟩ = cmpI aw bw) := Lib.hid (by unfold cf; rw [if_neg h])
    clear h
    go_enter Try.func35, Try.ntmps35
    go_wp2_with fail
    refine (H1.out _).mono ?_; rintro e w' ⟨rfl, rfl⟩
    go_wp2_with fail
    go_ret
    exact ⟨ret_int HL.out.symm, laid_two _ _ _⟩
theorem Laid.trans {a b c : World} (h1 : Laid a b) (h2 : Laid b c) : Laid a c := by
  obtain ⟨q, os, rfl⟩ := h1
  obtain ⟨q2, os2, rfl⟩ := h2
  exact ⟨q + q2, os ++ os2, by show grow (grow ((a.drewN q).drewN q2) os) os2 = _; rw [grow_grow, World.drewN_drewN]⟩
theorem isLess32 (a b : Wn) (w : World) : Calls Try.prog 32 #[wval a, wval b] w fun e w' => e = .returned (.bool (less a b)) ∧ Laid w w' := by
  have H1 := Lib.hid (compare35 a b)
  have hc := cf_less a b
  obtain ⟨ai, aw⟩ := a
  obtain ⟨bi, bw⟩ := b
  unfold wval at H1 ⊢
  generalize cf ⟨ai, aw⟩ ⟨bi, bw⟩ = r at *
  have HC := Lib.hid hc
  clear hc
  go_enter Try.func32, Try.ntmps32
  go_wp2_with fail
  refine (H1.out _).mono ?_; rintro e w1 ⟨rfl, hw⟩
  have HW := Lib.hid hw
  clear hw
  go_wp2_with fail
  go_ret
  exact ⟨ret_bool HC.out, (laid_two _ _ _).trans HW.out⟩
theorem parent33 (k : Nat) (hk : 1 ≤ k) (hm : k ≤ 4611686018427387904) (w : World) : Calls Try.prog 33 #[.int .i64 k] w fun e w' => e = .returned (.int .i64 ((k - 1) / 2 : Nat)) ∧ Laid w w' := by
  have HE : Hid (((k : Int) - 1).tdiv 2 = (((k - 1) / 2 : Nat) : Int)) := Lib.hid (by rw [Int.tdiv_eq_ediv_of_nonneg (by omega)]; omega)
  go_enter Try.func33, Try.ntmps33
  go_wp2_with fail
  go_ret
  exact ⟨ret_int (by have := HE.out; first | exact this | omega), Laid.refl _⟩
end Go.Proofs.Ytkkmfeclondlpaa.Heap
