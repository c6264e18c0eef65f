/-
  What the functions return that look at one block, or compare two, or look whether a list is valid: walked through the program's text.
-/
import Derived.Test.YtodnjeahjalinaaRows
import Derived.Test.YtodnjeahjalinaaPlain
import Derived.Test.YtodnjeahjalinaaStOwn
namespace Go.Proofs.Ytodnjeahjalinaa.Vic
open Go.ChangeShapes Go.WideShapes Go.ChangeAt Go.RowKit Words Go.Sort
open Go.Proofs.Ytodnjeahjalinaa.Stab (Laid below_grow mixedO)
set_option linter.unusedVariables false

/-! ### blocks in memory -/
def fcells (x : Fil) : List Value := [.int .i64 x.need, .int .i64 x.fill, .int .i64 x.wear]
def fval (x : Fil) : Value := .agg #[.int .i64 x.need, .int .i64 x.fill, .int .i64 x.wear]
theorem fcells_length (x : Fil) : (fcells x).length = 3 := rfl
def lcells (l : List Fil) : List Value := l.flatMap fcells
theorem lcells_length (l : List Fil) : (lcells l).length = l.length * 3 := flat_length fcells_length l
theorem lcells_append (a b : List Fil) : lcells (a ++ b) = lcells a ++ lcells b := List.flatMap_append
theorem lcells_one (l : List Fil) : ∀ u ∈ lcells l, u.oneCell' = true := by
  intro u hu
  unfold lcells at hu
  rw [List.mem_flatMap] at hu
  obtain ⟨b, _, hb⟩ := hu
  simp [fcells] at hb
  rcases hb with rfl | rfl | rfl <;> rfl
/-- The []api.Fill value reads as the list. -/
def Fl (w : World) (B : Nat) (A : Option Addr) (n c : Nat) (l : List Fil) : Prop := Words.Rd w B 3 A n c (lcells l)
section
variable {w : World} {B : Nat} {A : Option Addr} {n c : Nat} {l : List Fil}
theorem Fl.len (h : Fl w B A n c l) : l.length = n := by
  have := Words.Rd.len h
  rw [lcells_length] at this
  omega
theorem Fl.cells (h : Fl w B A n c l) {g o : Nat} (e : A = some ⟨g, o, none⟩) {i : Nat} {b : Fil} (hb : l[i]? = some b) :
    w.cell? ⟨g, o + i * 3, none⟩ = some (.int .i64 b.need) ∧ w.cell? ⟨g, o + i * 3 + 1, none⟩ = some (.int .i64 b.fill) ∧ w.cell? ⟨g, o + i * 3 + 2, none⟩ = some (.int .i64 b.wear) := by
  have hi := (List.getElem?_eq_some_iff.1 hb).1
  have hl := Fl.len h
  have hc : ∀ j, j < 3 → ∀ u, (fcells b)[j]? = some u → w.cell? ⟨g, o + i * 3 + j, none⟩ = some u := fun j hj u hu => by
    have := Words.Rd.cellAt h e (by omega) (i * 3 + j) u (by rw [lcells, flat_get fcells_length hb hj, hu])
    rwa [← Nat.add_assoc] at this
  exact ⟨hc 0 (by omega) _ rfl, hc 1 (by omega) _ rfl, hc 2 (by omega) _ rfl⟩
/-- .. also behind some draws and some blocks more. -/
theorem Fl.cellsG (h : Fl w B A n c l) (hB : B ≤ w.heap.size) {g o : Nat} (e : A = some ⟨g, o, none⟩) {i : Nat} {b : Fil} (hb : l[i]? = some b) :
    (∀ m os, (grow (w.drewN m) os).cell? ⟨g, o + i * 3, none⟩ = some (.int .i64 b.need)) ∧ (∀ m os, (grow (w.drewN m) os).cell? ⟨g, o + i * 3 + 1, none⟩ = some (.int .i64 b.fill)) ∧ (∀ m os, (grow (w.drewN m) os).cell? ⟨g, o + i * 3 + 2, none⟩ = some (.int .i64 b.wear)) := by
  have hi := (List.getElem?_eq_some_iff.1 hb).1
  have hl := Fl.len h
  obtain ⟨g', o', e', hg, _⟩ := Words.Rd.row h (by omega)
  rw [e] at e'
  injection e' with e'
  injection e' with e1 e2
  subst e1 e2
  obtain ⟨h0, h1, h2⟩ := Fl.cells h e hb
  exact ⟨fun m os => cell_grown (by exact Nat.lt_of_lt_of_le hg hB) h0 m os, fun m os => cell_grown (by exact Nat.lt_of_lt_of_le hg hB) h1 m os, fun m os => cell_grown (by exact Nat.lt_of_lt_of_le hg hB) h2 m os⟩
end

/-! ### comparing -/
theorem Laid.refl (W : World) : Laid W W := ⟨0, #[], by rw [grow_empty]; rfl⟩
theorem laid_one (W : World) (a : Obj) : Laid W (W.alloc a) := ⟨0, #[a], by rw [alloc_eq_grow]; rfl⟩
theorem laid_two (W : World) (a b : Obj) : Laid W ((W.alloc a).alloc b) := ⟨0, #[a, b], by rw [alloc_eq_grow, alloc_eq_grow, grow_grow]; rfl⟩
theorem Laid.trans {a b c : World} (h1 : Laid a b) (h2 : Laid b c) : Laid a c := by
  obtain ⟨q, os, rfl⟩ := h1
  obtain ⟨q2, os2, rfl⟩ := h2
  exact ⟨q + q2, os ++ os2, by show grow (grow ((a.drewN q).drewN q2) os) os2 = _; rw [grow_grow, World.drewN_drewN]⟩
theorem isNaN41 (x : Int) (w : World) : Calls Try.prog 41 #[.int .i64 x] w fun e w' => e = .returned (.bool false) ∧ w' = w := by
  have hb : (x != x) = false := by rw [bne_eq_false_iff_eq]
  go_enter Try.func41, Try.ntmps41
  go_wp2_with fail
  go_ret
  exact ⟨rfl, rfl⟩
def cmpI (x y : Int) : Int := if x < y then -1 else if y < x then 1 else 0
theorem cmpI_neg (x y : Int) : cmpI x y < 0 ↔ x < y := by
  unfold cmpI
  split
  · omega
  · split <;> omega
theorem cmpI_pos (x y : Int) : 0 < cmpI x y ↔ y < x := by
  unfold cmpI
  split
  · omega
  · split <;> omega
theorem cmp35 (x y : Int) (w : World) : Calls Try.prog 35 #[.int .i64 x, .int .i64 y] w fun e w' => e = .returned (.int .i64 (cmpI x y)) ∧ w' = w := by
  have H1 := Lib.hid (isNaN41 x)
  have H2 := Lib.hid (isNaN41 y)
  by_cases h : x < y
  · have HL : Hid (cmpI x y = -1) := Lib.hid (by unfold cmpI; rw [if_pos h])
    go_enter Try.func35, Try.ntmps35
    go_wp2_with fail
    refine (H1.out _).mono ?_; rintro e w' ⟨rfl, rfl⟩
    go_wp2_with fail
    refine (H2.out _).mono ?_; rintro e w' ⟨rfl, rfl⟩
    go_wp2_with fail
    go_ret
    exact ⟨ret_int HL.out.symm, rfl⟩
  · by_cases h2 : y < x
    · have HL : Hid (cmpI x y = 1) := Lib.hid (by unfold cmpI; rw [if_neg h, if_pos h2])
      go_enter Try.func35, Try.ntmps35
      go_wp2_with fail
      refine (H1.out _).mono ?_; rintro e w' ⟨rfl, rfl⟩
      go_wp2_with fail
      refine (H2.out _).mono ?_; rintro e w' ⟨rfl, rfl⟩
      go_wp2_with fail
      go_ret
      exact ⟨ret_int HL.out.symm, rfl⟩
    · have HL : Hid (cmpI x y = 0) := Lib.hid (by unfold cmpI; rw [if_neg h, if_neg h2])
      go_enter Try.func35, Try.ntmps35
      go_wp2_with fail
      refine (H1.out _).mono ?_; rintro e w' ⟨rfl, rfl⟩
      go_wp2_with fail
      refine (H2.out _).mono ?_; rintro e w' ⟨rfl, rfl⟩
      go_wp2_with fail
      go_ret
      exact ⟨ret_int HL.out.symm, rfl⟩
/-- What the program's comparison by wear returns. -/
def cfW (a b : Fil) : Int := cmpI a.wear b.wear
theorem compareWear29 (a b : Fil) (w : World) : Calls Try.prog 29 #[fval a, fval b] w fun e w' => e = .returned (.int .i64 (cfW a b)) ∧ Laid w w' := by
  have H1 := Lib.hid (cmp35 a.wear b.wear)
  unfold cfW
  obtain ⟨an, af, aw⟩ := a
  obtain ⟨bn, bf, bw⟩ := b
  unfold fval
  go_enter Try.func29, Try.ntmps29
  go_wp2_with fail
  refine (H1.out _).mono ?_; rintro e w' ⟨rfl, rfl⟩
  go_wp2_with fail
  go_ret
  exact ⟨rfl, laid_two _ _ _⟩
theorem better_same {a b : Fil} (h : a.need = b.need) : better a b = decide (a.wear < b.wear) := by unfold better; rw [if_pos h]
theorem better_diff {a b : Fil} (h : a.need ≠ b.need) : better a b = decide (a.need < b.need) := by unfold better; rw [if_neg h]
theorem isBetter33 (a b : Fil) (w : World) : Calls Try.prog 33 #[fval a, fval b] w fun e w' => e = .returned (.bool (better a b)) ∧ Laid w w' := by
  obtain ⟨an, af, aw⟩ := a
  obtain ⟨bn, bf, bw⟩ := b
  unfold fval
  by_cases h : an = bn
  · have hb : (an != bn) = false := by rw [bne_eq_false_iff_eq]; exact h
    have HL := Lib.hid (better_same (a := ⟨an, af, aw⟩) (b := ⟨bn, bf, bw⟩) h)
    clear h
    go_enter Try.func33, Try.ntmps33
    go_wp2_with fail
    go_ret
    exact ⟨ret_bool HL.out.symm, laid_two _ _ _⟩
  · have hb : (an != bn) = true := by rw [bne_iff_ne]; exact h
    have HL := Lib.hid (better_diff (a := ⟨an, af, aw⟩) (b := ⟨bn, bf, bw⟩) h)
    clear h
    go_enter Try.func33, Try.ntmps33
    go_wp2_with fail
    go_ret
    exact ⟨ret_bool HL.out.symm, laid_two _ _ _⟩
theorem isBlock27 (x : Fil) (w : World) : Calls Try.prog 27 #[fval x] w fun e w' => e = .returned (.bool (okB x)) ∧ Laid w w' := by
  obtain ⟨a, b, c⟩ := x
  unfold fval
  cases h0 : decide (0 ≤ a) with
  | false =>
    have HL : Hid (okB ⟨a, b, c⟩ = false) := Lib.hid (by simp [okB, h0])
    go_enter Try.func27, Try.ntmps27
    go_wp2_with fail
    go_ret
    exact ⟨ret_bool HL.out.symm, laid_one _ _⟩
  | true =>
    cases h1 : decide (a ≤ b) with
    | false =>
      have HL : Hid (okB ⟨a, b, c⟩ = false) := Lib.hid (by simp [okB, h0, h1])
      go_enter Try.func27, Try.ntmps27
      go_wp2_with fail
      go_ret
      exact ⟨ret_bool HL.out.symm, laid_one _ _⟩
    | true =>
      cases h2 : decide (b ≤ 4) with
      | false =>
        have HL : Hid (okB ⟨a, b, c⟩ = false) := Lib.hid (by simp [okB, h0, h1, h2])
        go_enter Try.func27, Try.ntmps27
        go_wp2_with fail
        go_ret
        exact ⟨ret_bool HL.out.symm, laid_one _ _⟩
      | true =>
        cases h3 : decide (0 ≤ c) with
        | false =>
          have HL : Hid (okB ⟨a, b, c⟩ = false) := Lib.hid (by simp [okB, h0, h1, h2, h3])
          go_enter Try.func27, Try.ntmps27
          go_wp2_with fail
          go_ret
          exact ⟨ret_bool HL.out.symm, laid_one _ _⟩
        | true =>
          cases h4 : decide (c ≤ 1048576) with
          | false =>
            have HL : Hid (okB ⟨a, b, c⟩ = false) := Lib.hid (by simp [okB, h0, h1, h2, h3, h4])
            go_enter Try.func27, Try.ntmps27
            go_wp2_with fail
            go_ret
            exact ⟨ret_bool HL.out.symm, laid_one _ _⟩
          | true =>
            have HL : Hid (okB ⟨a, b, c⟩ = true) := Lib.hid (by simp [okB, h0, h1, h2, h3, h4])
            go_enter Try.func27, Try.ntmps27
            go_wp2_with fail
            go_ret
            exact ⟨ret_bool HL.out.symm, laid_one _ _⟩
/-- The test of the claim's own: never erased. -/
theorem fresh21 (x : Fil) (w : World) : Calls Try.prog 21 #[fval x] w fun e w' => e = .returned (.bool (x.wear == 0)) ∧ Laid w w' := by
  obtain ⟨a, b, c⟩ := x
  unfold fval
  go_enter Try.func21, Try.ntmps21
  go_wp2_with fail
  go_ret
  exact ⟨rfl, laid_one _ _⟩
end Go.Proofs.Ytodnjeahjalinaa.Vic
