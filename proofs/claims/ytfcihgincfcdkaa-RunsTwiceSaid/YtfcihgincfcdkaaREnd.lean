/-
  A run's end, whether it is within the bounds, whether one run continues another: the program's own.
-/
import Derived.Test.YtfcihgincfcdkaaRCut
import Derived.Shelf.SlSortCmp.QuietGrown
namespace Go.Proofs.Ytfcihgincfcdkaa.Rns
open Go.ChangeShapes Go.WideShapes Go.ChangeAt Go.RowKit Words Go.Sort
set_option linter.unusedVariables false

theorem mixedO : Try.prog.follows .mixedOrders = true := by kernel_rfl
theorem below_grow {B : Nat} {a w : World} (h : Below B a w) (hB : B ≤ w.heap.size) (m : Nat) (os : Array Obj) : Below B a (grow (w.drewN m) os) :=
  ⟨h.os, h.tape, h.output, by rw [size_grow]; exact Nat.le_trans h.size (Nat.le_add_right _ _), fun k hk => by
    rw [heap_grow_old _ _ (by show k < w.heap.size; omega)]
    exact h.block k hk⟩
/-- Behind the call: some draws, and some blocks more. -/
def Laid (W w' : World) : Prop := ∃ q os', w' = grow (W.drewN q) os'
theorem Laid.below {W w' : World} (h : Laid W w') : Below W.heap.size W w' := by
  obtain ⟨q, os, rfl⟩ := h
  exact below_grow (Below.refl _ _) (Nat.le_refl _) q os
theorem laid_one (W : World) (a : Obj) : Laid W (W.alloc a) := ⟨0, #[a], by rw [alloc_eq_grow]; rfl⟩
theorem laid_two (W : World) (a b : Obj) : Laid W ((W.alloc a).alloc b) := ⟨0, #[a, b], by rw [alloc_eq_grow, alloc_eq_grow, grow_grow]; rfl⟩
theorem Rns.cellsG {w : World} {B : Nat} {A : Option Addr} {n c : Nat} {l : List Rn} (h : Rns w B A n c l) (hB : B ≤ w.heap.size) {g o : Nat} (e : A = some ⟨g, o, none⟩) {i : Nat} {b : Rn} (hb : l[i]? = some b) :
    (∀ m os, (grow (w.drewN m) os).cell? ⟨g, o + i * 3, none⟩ = some (.int .i64 b.a)) ∧ (∀ m os, (grow (w.drewN m) os).cell? ⟨g, o + i * 3 + 1, none⟩ = some (.int .i64 b.d)) ∧ (∀ m os, (grow (w.drewN m) os).cell? ⟨g, o + i * 3 + 2, none⟩ = some (.int .i64 b.m)) := by
  have hi := (List.getElem?_eq_some_iff.1 hb).1
  have hl := Rns.len h
  obtain ⟨g', o', e', hg, _⟩ := Words.Rd.row h (by omega)
  rw [e] at e'
  injection e' with e'
  injection e' with e1 e2
  subst e1 e2
  obtain ⟨h0, h1, h2⟩ := Rns.cells h e hb
  exact ⟨fun m os => cell_grown (by exact Nat.lt_of_lt_of_le hg hB) h0 m os, fun m os => cell_grown (by exact Nat.lt_of_lt_of_le hg hB) h1 m os, fun m os => cell_grown (by exact Nat.lt_of_lt_of_le hg hB) h2 m os⟩
/-- A box behind some draws and some blocks more. -/
theorem boxG {w : World} {g : Nat} {x : Rn} (h : Whole w g 34 (rcells x).toArray) :
    (∀ m os, (grow (w.drewN m) os).cell? ⟨g, 0, none⟩ = some (.int .i64 x.a)) ∧ (∀ m os, (grow (w.drewN m) os).cell? ⟨g, 1, none⟩ = some (.int .i64 x.d)) ∧ (∀ m os, (grow (w.drewN m) os).cell? ⟨g, 2, none⟩ = some (.int .i64 x.m)) :=
  ⟨fun m os => cell_grown (by exact h.lt) (by rw [h.cell]; rfl) m os, fun m os => cell_grown (by exact h.lt) (by rw [h.cell]; rfl) m os, fun m os => cell_grown (by exact h.lt) (by rw [h.cell]; rfl) m os⟩
theorem end19 (x : Rn) (w : World) (h : IntKind.i64.wrap (x.a + x.m) = x.a + x.m) : Calls Try.prog 19 #[rval x] w fun e w' => e = .returned (.int .i64 (x.a + x.m)) ∧ Laid w w' := by
  obtain ⟨a, d, m⟩ := x
  unfold rval
  simp only at h ⊢
  go_enter Try.func19, Try.ntmps19
  go_wp2_with fail
  go_ret
  exact ⟨rfl, laid_one _ _⟩
theorem okR_is {a d m : Int} : okR ⟨a, d, m⟩ = (decide (0 ≤ a) && decide (a ≤ 1099511627776) && decide (0 ≤ d) && decide (d ≤ 1099511627776) && decide (1 ≤ m) && decide (m ≤ 1099511627776)) := by
  rw [Bool.eq_iff_iff, okR_yes]; simp [and_assoc]; omega
theorem limits20 (x : Rn) (w : World) : Calls Try.prog 20 #[rval x] w fun e w' => e = .returned (.bool (okR x)) ∧ Laid w w' := by
  obtain ⟨a, d, m⟩ := x
  unfold rval
  have HK := Lib.hid (okR_is (a := a) (d := d) (m := m))
  go_enter Try.func20, Try.ntmps20
  by_cases h1 : 0 ≤ a
  · by_cases h2 : a ≤ 1099511627776
    · by_cases h3 : 0 ≤ d
      · by_cases h4 : d ≤ 1099511627776
        · by_cases h5 : 1 ≤ m
          · by_cases h6 : m ≤ 1099511627776
            · have HV : Hid (okR ⟨a, d, m⟩ = true) := Lib.hid (by rw [HK.out]; simp [h1, h2, h3, h4, h5, h6])
              go_wp2_with fail
              go_ret
              exact ⟨ret_bool HV.out.symm, laid_one _ _⟩
            · have HV : Hid (okR ⟨a, d, m⟩ = false) := Lib.hid (by rw [HK.out]; simp [h1, h2, h3, h4, h5, h6])
              go_wp2_with fail
              go_ret
              exact ⟨ret_bool HV.out.symm, laid_one _ _⟩
          · have HV : Hid (okR ⟨a, d, m⟩ = false) := Lib.hid (by rw [HK.out]; simp [h1, h2, h3, h4, h5])
            go_wp2_with fail
            go_ret
            exact ⟨ret_bool HV.out.symm, laid_one _ _⟩
        · have HV : Hid (okR ⟨a, d, m⟩ = false) := Lib.hid (by rw [HK.out]; simp [h1, h2, h3, h4])
          go_wp2_with fail
          go_ret
          exact ⟨ret_bool HV.out.symm, laid_one _ _⟩
      · have HV : Hid (okR ⟨a, d, m⟩ = false) := Lib.hid (by rw [HK.out]; simp [h1, h2, h3])
        go_wp2_with fail
        go_ret
        exact ⟨ret_bool HV.out.symm, laid_one _ _⟩
    · have HV : Hid (okR ⟨a, d, m⟩ = false) := Lib.hid (by rw [HK.out]; simp [h1, h2])
      go_wp2_with fail
      go_ret
      exact ⟨ret_bool HV.out.symm, laid_one _ _⟩
  · have HV : Hid (okR ⟨a, d, m⟩ = false) := Lib.hid (by rw [HK.out]; simp [h1])
    go_wp2_with fail
    go_ret
    exact ⟨ret_bool HV.out.symm, laid_one _ _⟩
theorem cont_at {x y : Rn} (h1 : y.a = x.a + x.m) : cont x y = decide (y.d = x.d + x.m) := by
  rw [Bool.eq_iff_iff, cont_yes]; simp; omega
theorem cont_off {x y : Rn} (h1 : ¬ y.a = x.a + x.m) : cont x y = false := by
  rw [← Bool.not_eq_true, cont_yes]; omega
set_option maxHeartbeats 1000000 in
theorem cont21 (x y : Rn) (w : World) (h : IntKind.i64.wrap (x.a + x.m) = x.a + x.m) (hd : IntKind.i64.wrap (x.d + x.m) = x.d + x.m) :
    Calls Try.prog 21 #[rval x, rval y] w fun e w' => e = .returned (.bool (cont x y)) ∧ Laid w w' := by
  have mx := mixedO
  obtain ⟨wb, hwb⟩ : ∃ wb, (w.alloc (.cells (rcells x).toArray 34)).alloc (.cells (rcells y).toArray 34) = wb := ⟨_, rfl⟩
  have hx : Whole wb w.heap.size 34 (rcells x).toArray := by rw [← hwb]; exact (Whole.new w 34 _).alloc _
  have hy : Whole wb (w.heap.size + 1) 34 (rcells y).toArray := by
    rw [← hwb]
    have := Whole.new (w.alloc (.cells (rcells x).toArray 34)) 34 (rcells y).toArray
    rwa [World.size_alloc] at this
  have LW : Hid (∀ q os, Laid w (grow (wb.drewN q) os)) := Lib.hid fun q os => ⟨q, #[.cells (rcells x).toArray 34, .cells (rcells y).toArray 34] ++ os, by
    rw [← hwb, alloc_eq_grow, alloc_eq_grow, grow_grow]
    have e : ∀ (w : World) (a : Array Obj) (q : Nat), (grow w a).drewN q = grow (w.drewN q) a := fun _ _ _ => rfl
    rw [e, grow_grow]; rfl⟩
  obtain ⟨x0, x1, x2⟩ := boxG hx
  obtain ⟨y0, y1, y2⟩ := boxG hy
  have HE := Lib.hid (fun w => end19 x w h)
  have C1 := Lib.hid (cont_at (x := x) (y := y))
  have C2 := Lib.hid (cont_off (x := x) (y := y))
  obtain ⟨xa, xd, xm⟩ := x
  obtain ⟨ya, yd, ym⟩ := y
  simp only at h hd x0 x1 x2 y0 y1 y2
  have HWB : Hid ((w.alloc (.cells #[.int .i64 xa, .int .i64 xd, .int .i64 xm] 34)).alloc (.cells #[.int .i64 ya, .int .i64 yd, .int .i64 ym] 34) = wb) := Lib.hid hwb
  unfold rval at HE ⊢
  simp only at HE
  clear hwb hx hy h
  go_enter Try.func21, Try.ntmps21
  by_cases e1 : ya = xa + xm
  · have hb : (ya == xa + xm) = true := by rw [beq_iff_eq]; exact e1
    have CV := Lib.hid (C1.out e1)
    clear e1
    go_wp2_with fail
    rw [HWB.out]
    refine wp_region_quiet_grown (by assumption) (by kernel_rfl) ?_
    repeat (go_big_quiet_step (first | (go_at_call 19; exact Calls.grown_of (HE.out _))))
    refine wpQuiet_nil ?_
    intro _ hw2
    obtain ⟨⟨nq, osq⟩, hw3⟩ := hw2
    subst hw3
    go_wp2_with fail
    go_ret
    exact ⟨ret_bool (by rw [CV.out]; rfl), LW.out _ _⟩
  · have hb : (ya == xa + xm) = false := by rw [beq_eq_false_iff_ne]; exact e1
    have CV := Lib.hid (C2.out e1)
    clear e1
    go_wp2_with fail
    rw [HWB.out]
    refine wp_region_quiet_grown (by assumption) (by kernel_rfl) ?_
    repeat (go_big_quiet_step (first | (go_at_call 19; exact Calls.grown_of (HE.out _))))
    refine wpQuiet_nil ?_
    intro _ hw2
    obtain ⟨⟨nq, osq⟩, hw3⟩ := hw2
    subst hw3
    go_wp2_with fail
    go_ret
    exact ⟨ret_bool (by rw [CV.out]), LW.out _ _⟩
end Go.Proofs.Ytfcihgincfcdkaa.Rns
