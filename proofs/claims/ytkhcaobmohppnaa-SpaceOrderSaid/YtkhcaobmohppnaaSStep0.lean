/-
  The document's own step on a row of blocks.
-/
import Derived.Test.YtkhcaobmohppnaaSSpec
namespace Go.Proofs.Ytkhcaobmohppnaa.Spc
open Go.ChangeShapes Go.WideShapes Go.ChangeAt Go.RowKit Words Go.Sort
set_option linter.unusedVariables false

def NS (w : World) (s : Int) (l : List Gp) (o : Sp) (e : Ending) (w' : World) : Prop :=
  ∃ A c, e = .returned (.tuple #[.slice A (sgl s l o).length c, aval (ser s l o) (sat s l o)]) ∧ OwnGp w' w.heap.size A (sgl s l o).length c (sgl s l o) ∧ Below w.heap.size w w'
theorem ns_err {w w' : World} {s : Int} {l : List Gp} {o : Sp} {x : Int} (h : ser s l o = x) (hx : x ≠ 0) (b : Below w.heap.size w w') : NS w s l o (.returned (.tuple #[.slice none 0 0, aval x 0])) w' := by
  obtain ⟨h1, h2⟩ := sgl_no (s := s) (l := l) (o := o) (by rw [h]; exact hx)
  unfold NS
  rw [h1, h2, h]
  exact ⟨none, 0, rfl, Go.World.ownsRow_nil w' _ 36 2, b⟩
theorem ns_ok {w w' : World} {s : Int} {l L : List Gp} {o : Sp} {a : Int} {A : Option Addr} {m c : Nat} (h : ser s l o = 0) (hL : gk (setR s.toNat l (ats o l) o.m (decide (o.k = 3))) s.toNat = L) (ha : ats o l = a) (hm : L.length = m) (ho : OwnGp w' w.heap.size A m c L) (b : Below w.heap.size w w') :
    NS w s l o (.returned (.tuple #[.slice A m c, aval 0 a])) w' := by
  obtain ⟨h1, h2⟩ := sgl_yes h
  unfold NS
  rw [h1, h2, h, hL, ha, hm]
  exact ⟨A, c, rfl, ho, b⟩
theorem box_set {y : World} {b : Nat} {e a e' a' : Int} (h : Whole y b 27 #[.int .i64 e, .int .i64 a]) : Whole ((y.setCell ⟨b, 0, none⟩ (.int .i64 e')).setCell ⟨b, 1, none⟩ (.int .i64 a')) b 27 #[.int .i64 e', .int .i64 a'] := by
  have := (h.set_ 0 (.int .i64 e')).set_ 1 (.int .i64 a')
  simpa using this
/-- What is kept: the row of blocks. -/
structure ST (wb : World) (g z c : Nat) (row : List Bool) (W : World) : Prop where
  bel : Below wb.heap.size wb W
  row : OwnB W wb.heap.size (some ⟨g, 0, none⟩) z c row
section
variable {wb W W' : World} {g z c : Nat} {row : List Bool}
theorem ST.next (h : ST wb g z c row W) (hb : Below W.heap.size W W') : ST wb g z c row W' := ⟨h.bel.trans (hb.mono h.bel.size), h.row.below hb (Nat.le_refl _)⟩
theorem ST.set (h : ST wb g z c row W) (k : Nat) (b : Bool) : ST wb g z c (row.set k b) (W.setCell ⟨g, k, none⟩ (.bool b)) := ⟨h.bel.setCell (h.row.lt g rfl).1 _, (h.row.set k b).1⟩
end
/-- The row behind j of the blocks. -/
def RS (row : List Bool) (z : Nat) (l : List Gp) (a : Int) (j : Nat) (b : Bool) : Prop := row.length = z ∧ ∀ x : Nat, x < z → at_ row x = if a ≤ x ∧ (x : Int) < a + j then b else mem l x
theorem rs_start (l : List Gp) (z : Nat) (a : Int) (b : Bool) : RS (rowOf l z) z l a 0 b := ⟨rowOf_length l z, fun x hx => by rw [at_rowOf hx, if_neg (by omega)]⟩
theorem RS.next {row : List Bool} {z : Nat} {l : List Gp} {a : Int} {j k : Nat} {b : Bool} (h : RS row z l a j b) (hk : (k : Int) = a + j) (hkz : k < z) : RS (row.set k b) z l a (j + 1) b := by
  refine ⟨by rw [List.length_set]; exact h.1, fun x hx => ?_⟩
  rw [at_set (by rw [h.1]; exact hkz)]
  by_cases hxk : x = k
  · subst hxk
    rw [if_pos rfl, if_pos (by omega)]
  · rw [if_neg hxk, h.2 x hx]
    by_cases h1 : a ≤ x ∧ (x : Int) < a + j
    · rw [if_pos h1, if_pos (by omega)]
    · rw [if_neg h1, if_neg (by omega)]
theorem RS.done {row : List Bool} {z : Nat} {l : List Gp} {a m : Int} {j : Nat} {b : Bool} (h : RS row z l a j b) (hj : (j : Int) = m) : row = setR z l a m b :=
  row_ext (by rw [h.1, setR_length]) fun x hx => by
    rw [h.1] at hx
    rw [h.2 x hx, at_setR hx, hj]
theorem held_no {l : List Gp} {a : Int} : ∀ {n : Nat}, (∀ j : Nat, j < n → mem l (a + j) = false) → heldF l a n = false := fun {n} h => by
  unfold heldF
  rw [← Bool.not_eq_true, List.any_eq_true]
  rintro ⟨j, hj, h2⟩
  rw [h j (List.mem_range.1 hj)] at h2
  cases h2
theorem held_yes {l : List Gp} {a : Int} {n j : Nat} (hj : j < n) (h : mem l (a + j) = true) : heldF l a n = true := by
  unfold heldF
  rw [List.any_eq_true]
  exact ⟨j, List.mem_range.2 hj, h⟩

set_option maxRecDepth 100000 in
set_option maxHeartbeats 8000000 in
theorem nstep_form (B : Nat) (A : Option Addr) (n c : Nat) (l : List Gp) (s : Int) (ok oa om : Int) (w : World) (h : Gps w B A n c l) (hB : B ≤ w.heap.size) (hf : okRow s l = false) :
    Calls Try.prog 10 #[.int .i64 s, .slice A n c, .agg #[.int .i64 ok, .int .i64 oa, .int .i64 om]] w (NS w s l ⟨ok, oa, om⟩) := by
  obtain ⟨wb, hwb⟩ : ∃ wb, (w.alloc (.cells #[.int .i64 ok, .int .i64 oa, .int .i64 om] 24)).alloc (.cells #[.int .i64 0, .int .i64 0] 27) = wb := ⟨_, rfl⟩
  have BX : Hid (Below w.heap.size w wb) := Lib.hid (by rw [← hwb]; exact two_blocks w _ _)
  have G5 : Hid (Whole wb w.heap.size 24 #[.int .i64 ok, .int .i64 oa, .int .i64 om]) := Lib.hid (by rw [← hwb]; exact (Whole.new w 24 _).alloc _)
  have G7 : Hid (Whole wb (w.heap.size + 1) 27 #[.int .i64 0, .int .i64 0]) := Lib.hid (by
    rw [← hwb]
    have := Whole.new (w.alloc (.cells #[.int .i64 ok, .int .i64 oa, .int .i64 om] 24)) 27 #[.int .i64 0, .int .i64 0]
    rwa [World.size_alloc] at this)
  have HWB := Lib.hid hwb
  have HNR := Lib.hid (nrow11 B A n c l s wb (Words.Rd.below h BX.out hB) (Nat.le_trans hB BX.out.size))
  clear hwb h
  have SE := Lib.hid (ser_form (s := s) (l := l) ⟨ok, oa, om⟩ hf)
  have HF := Lib.hid hf
  clear hf
  go_enter Try.func10, Try.ntmps10
  go_wp2_with fail
  rw [HWB.out]
  refine (HNR.out).mono ?_; intro e w2 h2
  obtain ⟨rfl, b2⟩ := h2.no HF.out
  have B2 := Lib.hid b2
  clear h2 b2
  have HN := Lib.hid (no29 1)
  go_wp2_with fail
  refine (HN.out _).mono ?_; rintro e y1 ⟨rfl, b1⟩
  have BY := Lib.hid (B2.out.trans (b1.mono B2.out.size))
  have GY := Lib.hid (whole_below2 G7.out BY.out)
  have q0 := Whole.cell GY.out 0
  have q1 := Whole.cell GY.out 1
  have q2 := Whole.frozen GY.out 0
  have q3 := Whole.frozen GY.out 1
  simp at q0 q1
  clear b1
  unfold aval
  go_wp2_with fail
  refine bodyPost_ret (results_two rfl rfl (box_set GY.out)) rfl ?_
  exact ns_err SE.out (by decide) (((BX.out.trans (BY.out.mono BX.out.size)).setCell (by show w.heap.size ≤ w.heap.size + 1; omega) _).setCell (by show w.heap.size ≤ w.heap.size + 1; omega) _)
set_option maxRecDepth 100000 in
set_option maxHeartbeats 8000000 in
theorem nstep_kind (B : Nat) (A : Option Addr) (n c : Nat) (l : List Gp) (s : Int) (ok oa om : Int) (w : World) (h : Gps w B A n c l) (hB : B ≤ w.heap.size) (hf : okRow s l = true) (hk : ¬ (ok = 1 ∨ ok = 2 ∨ ok = 3)) :
    Calls Try.prog 10 #[.int .i64 s, .slice A n c, .agg #[.int .i64 ok, .int .i64 oa, .int .i64 om]] w (NS w s l ⟨ok, oa, om⟩) := by
  obtain ⟨wb, hwb⟩ : ∃ wb, (w.alloc (.cells #[.int .i64 ok, .int .i64 oa, .int .i64 om] 24)).alloc (.cells #[.int .i64 0, .int .i64 0] 27) = wb := ⟨_, rfl⟩
  have BX : Hid (Below w.heap.size w wb) := Lib.hid (by rw [← hwb]; exact two_blocks w _ _)
  have G5 : Hid (Whole wb w.heap.size 24 #[.int .i64 ok, .int .i64 oa, .int .i64 om]) := Lib.hid (by rw [← hwb]; exact (Whole.new w 24 _).alloc _)
  have G7 : Hid (Whole wb (w.heap.size + 1) 27 #[.int .i64 0, .int .i64 0]) := Lib.hid (by
    rw [← hwb]
    have := Whole.new (w.alloc (.cells #[.int .i64 ok, .int .i64 oa, .int .i64 om] 24)) 27 #[.int .i64 0, .int .i64 0]
    rwa [World.size_alloc] at this)
  have HWB := Lib.hid hwb
  have HNR := Lib.hid (nrow11 B A n c l s wb (Words.Rd.below h BX.out hB) (Nat.le_trans hB BX.out.size))
  clear hwb h
  have SE := Lib.hid (ser_kind (o := ⟨ok, oa, om⟩) hf hk)
  have n1 : (ok != 1) = true := by rw [bne_iff_ne]; omega
  have n2 : (ok != 2) = true := by rw [bne_iff_ne]; omega
  have n3 : (ok != 3) = true := by rw [bne_iff_ne]; omega
  clear hk
  have HF := Lib.hid hf
  obtain ⟨s0, s1, sch⟩ := ok_ch hf
  have SCH := Lib.hid sch
  clear hf sch
  go_enter Try.func10, Try.ntmps10
  go_wp2_with fail
  rw [HWB.out]
  refine (HNR.out).mono ?_; intro e w2 h2
  obtain ⟨⟨g, c2, rfl, o2⟩, b2⟩ := h2.yes HF.out
  have B2 := Lib.hid b2
  have S2 : Hid (ST wb g s.toNat c2 (rowOf l s.toNat) w2) := Lib.hid ⟨b2, o2⟩
  clear h2 o2 b2
  obtain ⟨z, rfl⟩ : ∃ z : Nat, s = z := ⟨s.toNat, by omega⟩
  have HZ : Hid ((z : Int).toNat = z) := Lib.hid (by omega)
  rw [HZ.out] at S2
  rw [HZ.out]
  have k0 := Whole.cell (whole_below2 G5.out B2.out) 0
  have k1 := Whole.cell (whole_below2 G5.out B2.out) 1
  have k2 := Whole.cell (whole_below2 G5.out B2.out) 2
  simp at k0 k1 k2
  have HN := Lib.hid (no29 5)
  go_wp2_with fail
  refine (HN.out _).mono ?_; rintro e y1 ⟨rfl, b1⟩
  have BY := Lib.hid (B2.out.trans (b1.mono B2.out.size))
  have GY := Lib.hid (whole_below2 G7.out BY.out)
  have q0 := Whole.cell GY.out 0
  have q1 := Whole.cell GY.out 1
  have q2 := Whole.frozen GY.out 0
  have q3 := Whole.frozen GY.out 1
  simp at q0 q1
  clear b1
  unfold aval
  go_wp2_with fail
  refine bodyPost_ret (results_two rfl rfl (box_set GY.out)) rfl ?_
  exact ns_err SE.out (by decide) (((BX.out.trans (BY.out.mono BX.out.size)).setCell (by show w.heap.size ≤ w.heap.size + 1; omega) _).setCell (by show w.heap.size ≤ w.heap.size + 1; omega) _)
set_option maxRecDepth 100000 in
set_option maxHeartbeats 8000000 in
theorem nstep_range1 (B : Nat) (A : Option Addr) (n c : Nat) (l : List Gp) (s : Int) (oa om : Int) (w : World) (h : Gps w B A n c l) (hB : B ≤ w.heap.size) (hf : okRow s l = true) (hr : om < 1 ∨ s < om) :
    Calls Try.prog 10 #[.int .i64 s, .slice A n c, .agg #[.int .i64 1, .int .i64 oa, .int .i64 om]] w (NS w s l ⟨1, oa, om⟩) := by
  obtain ⟨wb, hwb⟩ : ∃ wb, (w.alloc (.cells #[.int .i64 1, .int .i64 oa, .int .i64 om] 24)).alloc (.cells #[.int .i64 0, .int .i64 0] 27) = wb := ⟨_, rfl⟩
  have BX : Hid (Below w.heap.size w wb) := Lib.hid (by rw [← hwb]; exact two_blocks w _ _)
  have G5 : Hid (Whole wb w.heap.size 24 #[.int .i64 1, .int .i64 oa, .int .i64 om]) := Lib.hid (by rw [← hwb]; exact (Whole.new w 24 _).alloc _)
  have G7 : Hid (Whole wb (w.heap.size + 1) 27 #[.int .i64 0, .int .i64 0]) := Lib.hid (by
    rw [← hwb]
    have := Whole.new (w.alloc (.cells #[.int .i64 1, .int .i64 oa, .int .i64 om] 24)) 27 #[.int .i64 0, .int .i64 0]
    rwa [World.size_alloc] at this)
  have HWB := Lib.hid hwb
  have HNR := Lib.hid (nrow11 B A n c l s wb (Words.Rd.below h BX.out hB) (Nat.le_trans hB BX.out.size))
  clear hwb h
  have SE := Lib.hid (ser_range (o := ⟨1, oa, om⟩) hf (by simp) (by simp only; omega))
  have HF := Lib.hid hf
  obtain ⟨s0, s1, sch⟩ := ok_ch hf
  have SCH := Lib.hid sch
  clear hf sch
  go_enter Try.func10, Try.ntmps10
  go_wp2_with fail
  rw [HWB.out]
  refine (HNR.out).mono ?_; intro e w2 h2
  obtain ⟨⟨g, c2, rfl, o2⟩, b2⟩ := h2.yes HF.out
  have B2 := Lib.hid b2
  have S2 : Hid (ST wb g s.toNat c2 (rowOf l s.toNat) w2) := Lib.hid ⟨b2, o2⟩
  clear h2 o2 b2
  obtain ⟨z, rfl⟩ : ∃ z : Nat, s = z := ⟨s.toNat, by omega⟩
  have HZ : Hid ((z : Int).toNat = z) := Lib.hid (by omega)
  rw [HZ.out] at S2
  rw [HZ.out]
  have k0 := Whole.cell (whole_below2 G5.out B2.out) 0
  have k1 := Whole.cell (whole_below2 G5.out B2.out) 1
  have k2 := Whole.cell (whole_below2 G5.out B2.out) 2
  simp at k0 k1 k2
  by_cases t1 : om < 1
  · clear hr
    have HN := Lib.hid (no29 2)
    go_wp2_with fail
    refine (HN.out _).mono ?_; rintro e y1 ⟨rfl, b1⟩
    have BY := Lib.hid (B2.out.trans (b1.mono B2.out.size))
    have GY := Lib.hid (whole_below2 G7.out BY.out)
    have q0 := Whole.cell GY.out 0
    have q1 := Whole.cell GY.out 1
    have q2 := Whole.frozen GY.out 0
    have q3 := Whole.frozen GY.out 1
    simp at q0 q1
    clear b1
    unfold aval
    go_wp2_with fail
    refine bodyPost_ret (results_two rfl rfl (box_set GY.out)) rfl ?_
    exact ns_err SE.out (by decide) (((BX.out.trans (BY.out.mono BX.out.size)).setCell (by show w.heap.size ≤ w.heap.size + 1; omega) _).setCell (by show w.heap.size ≤ w.heap.size + 1; omega) _)
  by_cases t2 : (z : Int) < om
  · clear hr
    have HN := Lib.hid (no29 2)
    go_wp2_with fail
    refine (HN.out _).mono ?_; rintro e y1 ⟨rfl, b1⟩
    have BY := Lib.hid (B2.out.trans (b1.mono B2.out.size))
    have GY := Lib.hid (whole_below2 G7.out BY.out)
    have q0 := Whole.cell GY.out 0
    have q1 := Whole.cell GY.out 1
    have q2 := Whole.frozen GY.out 0
    have q3 := Whole.frozen GY.out 1
    simp at q0 q1
    clear b1
    unfold aval
    go_wp2_with fail
    refine bodyPost_ret (results_two rfl rfl (box_set GY.out)) rfl ?_
    exact ns_err SE.out (by decide) (((BX.out.trans (BY.out.mono BX.out.size)).setCell (by show w.heap.size ≤ w.heap.size + 1; omega) _).setCell (by show w.heap.size ≤ w.heap.size + 1; omega) _)
  exact absurd hr (by omega)
set_option maxRecDepth 100000 in
set_option maxHeartbeats 8000000 in
theorem nstep_range2 (B : Nat) (A : Option Addr) (n c : Nat) (l : List Gp) (s : Int) (oa om : Int) (w : World) (h : Gps w B A n c l) (hB : B ≤ w.heap.size) (hf : okRow s l = true) (hr : om < 1 ∨ s < om) :
    Calls Try.prog 10 #[.int .i64 s, .slice A n c, .agg #[.int .i64 2, .int .i64 oa, .int .i64 om]] w (NS w s l ⟨2, oa, om⟩) := by
  obtain ⟨wb, hwb⟩ : ∃ wb, (w.alloc (.cells #[.int .i64 2, .int .i64 oa, .int .i64 om] 24)).alloc (.cells #[.int .i64 0, .int .i64 0] 27) = wb := ⟨_, rfl⟩
  have BX : Hid (Below w.heap.size w wb) := Lib.hid (by rw [← hwb]; exact two_blocks w _ _)
  have G5 : Hid (Whole wb w.heap.size 24 #[.int .i64 2, .int .i64 oa, .int .i64 om]) := Lib.hid (by rw [← hwb]; exact (Whole.new w 24 _).alloc _)
  have G7 : Hid (Whole wb (w.heap.size + 1) 27 #[.int .i64 0, .int .i64 0]) := Lib.hid (by
    rw [← hwb]
    have := Whole.new (w.alloc (.cells #[.int .i64 2, .int .i64 oa, .int .i64 om] 24)) 27 #[.int .i64 0, .int .i64 0]
    rwa [World.size_alloc] at this)
  have HWB := Lib.hid hwb
  have HNR := Lib.hid (nrow11 B A n c l s wb (Words.Rd.below h BX.out hB) (Nat.le_trans hB BX.out.size))
  clear hwb h
  have SE := Lib.hid (ser_range (o := ⟨2, oa, om⟩) hf (by simp) (by simp only; omega))
  have HF := Lib.hid hf
  obtain ⟨s0, s1, sch⟩ := ok_ch hf
  have SCH := Lib.hid sch
  clear hf sch
  go_enter Try.func10, Try.ntmps10
  go_wp2_with fail
  rw [HWB.out]
  refine (HNR.out).mono ?_; intro e w2 h2
  obtain ⟨⟨g, c2, rfl, o2⟩, b2⟩ := h2.yes HF.out
  have B2 := Lib.hid b2
  have S2 : Hid (ST wb g s.toNat c2 (rowOf l s.toNat) w2) := Lib.hid ⟨b2, o2⟩
  clear h2 o2 b2
  obtain ⟨z, rfl⟩ : ∃ z : Nat, s = z := ⟨s.toNat, by omega⟩
  have HZ : Hid ((z : Int).toNat = z) := Lib.hid (by omega)
  rw [HZ.out] at S2
  rw [HZ.out]
  have k0 := Whole.cell (whole_below2 G5.out B2.out) 0
  have k1 := Whole.cell (whole_below2 G5.out B2.out) 1
  have k2 := Whole.cell (whole_below2 G5.out B2.out) 2
  simp at k0 k1 k2
  by_cases t1 : om < 1
  · clear hr
    have HN := Lib.hid (no29 2)
    go_wp2_with fail
    refine (HN.out _).mono ?_; rintro e y1 ⟨rfl, b1⟩
    have BY := Lib.hid (B2.out.trans (b1.mono B2.out.size))
    have GY := Lib.hid (whole_below2 G7.out BY.out)
    have q0 := Whole.cell GY.out 0
    have q1 := Whole.cell GY.out 1
    have q2 := Whole.frozen GY.out 0
    have q3 := Whole.frozen GY.out 1
    simp at q0 q1
    clear b1
    unfold aval
    go_wp2_with fail
    refine bodyPost_ret (results_two rfl rfl (box_set GY.out)) rfl ?_
    exact ns_err SE.out (by decide) (((BX.out.trans (BY.out.mono BX.out.size)).setCell (by show w.heap.size ≤ w.heap.size + 1; omega) _).setCell (by show w.heap.size ≤ w.heap.size + 1; omega) _)
  by_cases t2 : (z : Int) < om
  · clear hr
    have HN := Lib.hid (no29 2)
    go_wp2_with fail
    refine (HN.out _).mono ?_; rintro e y1 ⟨rfl, b1⟩
    have BY := Lib.hid (B2.out.trans (b1.mono B2.out.size))
    have GY := Lib.hid (whole_below2 G7.out BY.out)
    have q0 := Whole.cell GY.out 0
    have q1 := Whole.cell GY.out 1
    have q2 := Whole.frozen GY.out 0
    have q3 := Whole.frozen GY.out 1
    simp at q0 q1
    clear b1
    unfold aval
    go_wp2_with fail
    refine bodyPost_ret (results_two rfl rfl (box_set GY.out)) rfl ?_
    exact ns_err SE.out (by decide) (((BX.out.trans (BY.out.mono BX.out.size)).setCell (by show w.heap.size ≤ w.heap.size + 1; omega) _).setCell (by show w.heap.size ≤ w.heap.size + 1; omega) _)
  exact absurd hr (by omega)
set_option maxRecDepth 100000 in
set_option maxHeartbeats 8000000 in
theorem nstep_range3 (B : Nat) (A : Option Addr) (n c : Nat) (l : List Gp) (s : Int) (oa om : Int) (w : World) (h : Gps w B A n c l) (hB : B ≤ w.heap.size) (hf : okRow s l = true) (hr : om < 1 ∨ s < om ∨ oa < 0 ∨ s - om < oa) :
    Calls Try.prog 10 #[.int .i64 s, .slice A n c, .agg #[.int .i64 3, .int .i64 oa, .int .i64 om]] w (NS w s l ⟨3, oa, om⟩) := by
  obtain ⟨wb, hwb⟩ : ∃ wb, (w.alloc (.cells #[.int .i64 3, .int .i64 oa, .int .i64 om] 24)).alloc (.cells #[.int .i64 0, .int .i64 0] 27) = wb := ⟨_, rfl⟩
  have BX : Hid (Below w.heap.size w wb) := Lib.hid (by rw [← hwb]; exact two_blocks w _ _)
  have G5 : Hid (Whole wb w.heap.size 24 #[.int .i64 3, .int .i64 oa, .int .i64 om]) := Lib.hid (by rw [← hwb]; exact (Whole.new w 24 _).alloc _)
  have G7 : Hid (Whole wb (w.heap.size + 1) 27 #[.int .i64 0, .int .i64 0]) := Lib.hid (by
    rw [← hwb]
    have := Whole.new (w.alloc (.cells #[.int .i64 3, .int .i64 oa, .int .i64 om] 24)) 27 #[.int .i64 0, .int .i64 0]
    rwa [World.size_alloc] at this)
  have HWB := Lib.hid hwb
  have HNR := Lib.hid (nrow11 B A n c l s wb (Words.Rd.below h BX.out hB) (Nat.le_trans hB BX.out.size))
  clear hwb h
  have SE := Lib.hid (ser_range (o := ⟨3, oa, om⟩) hf (by simp) (by rcases hr with h | h | h | h <;> first | exact .inl h | exact .inr (.inl h) | exact .inr (.inr ⟨rfl, .inl h⟩) | exact .inr (.inr ⟨rfl, .inr h⟩)))
  have HF := Lib.hid hf
  obtain ⟨s0, s1, sch⟩ := ok_ch hf
  have SCH := Lib.hid sch
  clear hf sch
  go_enter Try.func10, Try.ntmps10
  go_wp2_with fail
  rw [HWB.out]
  refine (HNR.out).mono ?_; intro e w2 h2
  obtain ⟨⟨g, c2, rfl, o2⟩, b2⟩ := h2.yes HF.out
  have B2 := Lib.hid b2
  have S2 : Hid (ST wb g s.toNat c2 (rowOf l s.toNat) w2) := Lib.hid ⟨b2, o2⟩
  clear h2 o2 b2
  obtain ⟨z, rfl⟩ : ∃ z : Nat, s = z := ⟨s.toNat, by omega⟩
  have HZ : Hid ((z : Int).toNat = z) := Lib.hid (by omega)
  rw [HZ.out] at S2
  rw [HZ.out]
  have k0 := Whole.cell (whole_below2 G5.out B2.out) 0
  have k1 := Whole.cell (whole_below2 G5.out B2.out) 1
  have k2 := Whole.cell (whole_below2 G5.out B2.out) 2
  simp at k0 k1 k2
  by_cases t1 : om < 1
  · clear hr
    have HN := Lib.hid (no29 2)
    go_wp2_with fail
    refine (HN.out _).mono ?_; rintro e y1 ⟨rfl, b1⟩
    have BY := Lib.hid (B2.out.trans (b1.mono B2.out.size))
    have GY := Lib.hid (whole_below2 G7.out BY.out)
    have q0 := Whole.cell GY.out 0
    have q1 := Whole.cell GY.out 1
    have q2 := Whole.frozen GY.out 0
    have q3 := Whole.frozen GY.out 1
    simp at q0 q1
    clear b1
    unfold aval
    go_wp2_with fail
    refine bodyPost_ret (results_two rfl rfl (box_set GY.out)) rfl ?_
    exact ns_err SE.out (by decide) (((BX.out.trans (BY.out.mono BX.out.size)).setCell (by show w.heap.size ≤ w.heap.size + 1; omega) _).setCell (by show w.heap.size ≤ w.heap.size + 1; omega) _)
  by_cases t2 : (z : Int) < om
  · clear hr
    have HN := Lib.hid (no29 2)
    go_wp2_with fail
    refine (HN.out _).mono ?_; rintro e y1 ⟨rfl, b1⟩
    have BY := Lib.hid (B2.out.trans (b1.mono B2.out.size))
    have GY := Lib.hid (whole_below2 G7.out BY.out)
    have q0 := Whole.cell GY.out 0
    have q1 := Whole.cell GY.out 1
    have q2 := Whole.frozen GY.out 0
    have q3 := Whole.frozen GY.out 1
    simp at q0 q1
    clear b1
    unfold aval
    go_wp2_with fail
    refine bodyPost_ret (results_two rfl rfl (box_set GY.out)) rfl ?_
    exact ns_err SE.out (by decide) (((BX.out.trans (BY.out.mono BX.out.size)).setCell (by show w.heap.size ≤ w.heap.size + 1; omega) _).setCell (by show w.heap.size ≤ w.heap.size + 1; omega) _)
  have hw1 : IntKind.i64.wrap ((z : Int) - om) = z - om := by rw [IntKind.wrap_i64]; omega
  by_cases t3 : oa < 0
  · clear hr
    have HN := Lib.hid (no29 2)
    go_wp2_with fail
    refine (HN.out _).mono ?_; rintro e y1 ⟨rfl, b1⟩
    have BY := Lib.hid (B2.out.trans (b1.mono B2.out.size))
    have GY := Lib.hid (whole_below2 G7.out BY.out)
    have q0 := Whole.cell GY.out 0
    have q1 := Whole.cell GY.out 1
    have q2 := Whole.frozen GY.out 0
    have q3 := Whole.frozen GY.out 1
    simp at q0 q1
    clear b1
    unfold aval
    go_wp2_with fail
    refine bodyPost_ret (results_two rfl rfl (box_set GY.out)) rfl ?_
    exact ns_err SE.out (by decide) (((BX.out.trans (BY.out.mono BX.out.size)).setCell (by show w.heap.size ≤ w.heap.size + 1; omega) _).setCell (by show w.heap.size ≤ w.heap.size + 1; omega) _)
  have t4 : (z : Int) - om < oa := by omega
  clear hr
  have HN := Lib.hid (no29 2)
  go_wp2_with fail
  refine (HN.out _).mono ?_; rintro e y1 ⟨rfl, b1⟩
  have BY := Lib.hid (B2.out.trans (b1.mono B2.out.size))
  have GY := Lib.hid (whole_below2 G7.out BY.out)
  have q0 := Whole.cell GY.out 0
  have q1 := Whole.cell GY.out 1
  have q2 := Whole.frozen GY.out 0
  have q3 := Whole.frozen GY.out 1
  simp at q0 q1
  clear b1
  unfold aval
  go_wp2_with fail
  refine bodyPost_ret (results_two rfl rfl (box_set GY.out)) rfl ?_
  exact ns_err SE.out (by decide) (((BX.out.trans (BY.out.mono BX.out.size)).setCell (by show w.heap.size ≤ w.heap.size + 1; omega) _).setCell (by show w.heap.size ≤ w.heap.size + 1; omega) _)
end Go.Proofs.Ytkhcaobmohppnaa.Spc
