/-
  slices.Replace of one gap, or two that stand side by side, by one: in a row of the call's own.
-/
import Derived.Test.YtkhcaobmohppnaaDIns2
namespace Go.Proofs.Ytkhcaobmohppnaa.Spc
open Go.ChangeShapes Go.WideShapes Go.ChangeAt Go.RowKit Words
set_option linter.unusedVariables false

theorem run_clear0 (w : World) (ty : TypeId) (A : Option Addr) (c : Nat) : (Builtin.clear_ #[22] ty #[.slice A 0 c]).run Try.prog w = .ok (.tuple #[]) w := by
  cases A <;> simp [Builtin.clear_, run_underlying Try.underlying22]
theorem put_one {w : World} {base g n c i : Nat} {l : List Gp} (h : OwnGp w base (some ⟨g, 0, none⟩) n c l) (hi : i < n) (p : Gp) :
    OwnGp (w.setCells g (i * 2) (gcells p)) base (some ⟨g, 0, none⟩) n c (l.set i p) ∧ w.grownBy (w.setCells g (i * 2) (gcells p)) (some g) := by
  have h1 := own_setCells (gcells p) (i * 2) h
  have hl := h.len
  have e : setAll (lcells l) (i * 2) (gcells p) = lcells (l.set i p) := by
    show ((lcells l).set (i * 2) (.int .i64 p.a)).set (i * 2 + 1) (.int .i64 p.m) = _
    have e1 := flat_set (f := gcells) gcells_length (gth_get (l := l) (k := i) (by omega)) (j := 0) (by omega) (u := .int .i64 p.a) (y := ⟨p.a, (gth l i).m⟩) rfl
    have e2 := flat_set (f := gcells) gcells_length (l := l.set i ⟨p.a, (gth l i).m⟩) (i := i) (x := ⟨p.a, (gth l i).m⟩) (by rw [List.getElem?_set_self (by omega)]) (j := 1) (by omega) (u := .int .i64 p.m) (y := p) rfl
    rw [Nat.add_zero] at e1
    unfold lcells
    rw [e1, e2, List.set_set]
  rw [e] at h1
  exact h1
theorem cut_last {w : World} {base g n m c : Nat} {l : List Gp} (h : OwnGp w base (some ⟨g, 0, none⟩) n c l) (hm : m ≤ n) : OwnGp w base (some ⟨g, 0, none⟩) m c (l.take m) := by
  have := own_head h hm
  rw [lc_take] at this
  exact this
theorem clear_past {w : World} {base g m c : Nat} {l : List Gp} (h : OwnGp w base (some ⟨g, 0, none⟩) m c l) : OwnGp (w.setCells g (m * 2) (gcells zeroG)) base (some ⟨g, 0, none⟩) m c l ∧ w.grownBy (w.setCells g (m * 2) (gcells zeroG)) (some g) := by
  have h3 := own_setCells (gcells zeroG) (m * 2) h
  rw [setAll_past _ _ _ (by rw [h.1]; exact Nat.le_refl _)] at h3
  exact h3
/-- One put at i, the elements from j on behind it. -/
theorem put_over {cur : List Value} {l : List Gp} {p : Gp} {n c i j : Nat} (hl : cur.length = c * 2) (hn : l.length = n) (hc : n ≤ c) (hi : i < j) (hj : j ≤ n) (ht : cur.take (n * 2) = lcells l) :
    (splice (splice cur (i * 2) (gcells p)) ((i + 1) * 2) (lcells (l.drop j))).length = c * 2 ∧ (splice (splice cur (i * 2) (gcells p)) ((i + 1) * 2) (lcells (l.drop j))).take ((i + 1 + (n - j)) * 2) = lcells (l.take i ++ p :: l.drop j) := by
  have e1 : (lcells (l.drop j)).length = (n - j) * 2 := by rw [lcells_length, List.length_drop, hn]
  have l1 : (splice cur (i * 2) (gcells p)).length = c * 2 := by rw [length_splice _ _ _ (by rw [gcells_length]; omega)]; exact hl
  refine ⟨by rw [length_splice _ _ _ (by omega)]; exact l1, ?_⟩
  have h1 := splice_grow (cur := cur) (A := lcells (l.take i)) (B := gcells p) (k := i * 2) (head_take ht (by omega)) (by omega)
  rw [gcells_length, show i * 2 + 2 = (i + 1) * 2 by omega] at h1
  have h2 := splice_grow (cur := splice cur (i * 2) (gcells p)) (B := lcells (l.drop j)) (k := (i + 1) * 2) h1 (by omega)
  rw [e1, show (i + 1) * 2 + (n - j) * 2 = (i + 1 + (n - j)) * 2 by omega] at h2
  rw [h2, lcells_append, List.append_assoc]
  rfl
set_option maxHeartbeats 8000000 in
set_option maxRecDepth 100000 in
theorem repEnd1 (base g vb i n c : Nat) (l : List Gp) (p : Gp) (w : World) (h : OwnGp w base (some ⟨g, 0, none⟩) n c l) (hin : n = i + 1) (hv : Whole w vb 36 (gcells p).toArray) (hn : n ≤ 5000) :
    Calls Try.prog 42 #[.slice (some ⟨g, 0, none⟩) n c, .int .i64 i, .int .i64 n, .slice (some ⟨vb, 0, none⟩) 1 1] w (RowTo base w (some g) (l.take i ++ [p])) := by
  obtain ⟨i0, hi0, hz0, hz1, hz2⟩ := info_parts info36
  have hnc : n ≤ c := Words.Rd.le h.gps
  have hcm := Words.Rd.max h.gps
  have hll := h.len
  have HP := put_one h (i := i) (by omega) p
  obtain ⟨W1, hW1⟩ : ∃ W1, W1 = w.setCells g (i * 2) (gcells p) := ⟨_, rfl⟩
  rw [← hW1] at HP
  have hrun := fun ty => run_append_room_cells (P := Try.prog) w 22 ty 36 i0 Try.underlying22 hi0 g 0 i c ⟨vb, 0, none⟩ 1 1 (gcells p) (by rw [gcells_length, hz1]) (fun j u hu => by rw [Addr.add_lit, Nat.zero_add, Whole.cell hv, List.getElem?_toArray]; exact hu) (gcells_one p) (by omega)
    (fun j hj => by rw [hz1, Nat.zero_add]; rw [gcells_length] at hj; exact (own_there h (by omega)).1) (fun j hj => by rw [hz1, Nat.zero_add]; rw [gcells_length] at hj; exact (own_there h (by omega)).2)
  rw [hz1, Nat.zero_add, ← hW1] at hrun
  have HRUN := Lib.hid hrun
  have ho : OwnGp W1 base (some ⟨g, 0, none⟩) (i + 1) c (l.take i ++ [p]) := by
    have := cut_last HP.1 (m := i + 1) (by omega)
    rw [List.take_add_one, List.take_set_of_le (Nat.le_refl _), List.getElem?_set_self (by omega)] at this
    exact this
  have HE := Lib.hid (show RowTo base w (some g) (l.take i ++ [p]) _ W1 from row_to (by rw [List.length_append, List.length_take]; simp; omega) ho HP.2)
  have hne1 : ¬ ((i : Int) = (n : Int)) := by omega
  have hb1 : (i : Int) ≤ (n : Int) := by omega
  have hic : i ≤ c := by omega
  have hw1 : IntKind.i64.wrap ((i : Int) + 1) = (i : Int) + 1 := by rw [IntKind.wrap_i64]; omega
  have hlt1 : ¬ ((i : Int) + 1 < (n : Int)) := by omega
  clear hW1 HP hrun h hv ho hll hin
  go_enter Try.func42, Try.ntmps42
  go_wp2_with (at_builtin; refine Lib.wpList_append_run _ rfl (.tmp 32) (.tmp 33) 22 22 rfl _ _ rfl rfl _ _ (HRUN.out _) ?_)
  go_ret
  exact HE.out
set_option maxHeartbeats 8000000 in
set_option maxRecDepth 100000 in
theorem repEnd2 (base g vb i n c : Nat) (l : List Gp) (p : Gp) (w : World) (h : OwnGp w base (some ⟨g, 0, none⟩) n c l) (hin : n = i + 2) (hv : Whole w vb 36 (gcells p).toArray) (hn : n ≤ 5000) :
    Calls Try.prog 42 #[.slice (some ⟨g, 0, none⟩) n c, .int .i64 i, .int .i64 n, .slice (some ⟨vb, 0, none⟩) 1 1] w (RowTo base w (some g) (l.take i ++ [p])) := by
  obtain ⟨i0, hi0, hz0, hz1, hz2⟩ := info_parts info36
  have hnc : n ≤ c := Words.Rd.le h.gps
  have hcm := Words.Rd.max h.gps
  have hll := h.len
  have HP := put_one h (i := i) (by omega) p
  obtain ⟨W1, hW1⟩ : ∃ W1, W1 = w.setCells g (i * 2) (gcells p) := ⟨_, rfl⟩
  rw [← hW1] at HP
  have hrun := fun ty => run_append_room_cells (P := Try.prog) w 22 ty 36 i0 Try.underlying22 hi0 g 0 i c ⟨vb, 0, none⟩ 1 1 (gcells p) (by rw [gcells_length, hz1]) (fun j u hu => by rw [Addr.add_lit, Nat.zero_add, Whole.cell hv, List.getElem?_toArray]; exact hu) (gcells_one p) (by omega)
    (fun j hj => by rw [hz1, Nat.zero_add]; rw [gcells_length] at hj; exact (own_there h (by omega)).1) (fun j hj => by rw [hz1, Nat.zero_add]; rw [gcells_length] at hj; exact (own_there h (by omega)).2)
  rw [hz1, Nat.zero_add, ← hW1] at hrun
  have HRUN := Lib.hid hrun
  have ho : OwnGp W1 base (some ⟨g, 0, none⟩) (i + 1) c (l.take i ++ [p]) := by
    have := cut_last HP.1 (m := i + 1) (by omega)
    rw [List.take_add_one, List.take_set_of_le (Nat.le_refl _), List.getElem?_set_self (by omega)] at this
    exact this
  have HC := clear_past ho
  have HE := Lib.hid (show RowTo base w (some g) (l.take i ++ [p]) _ (W1.setCells g ((i + 1) * 2) (gcells zeroG)) from row_to (by rw [List.length_append, List.length_take]; simp; omega) HC.1 (HP.2.trans HC.2))
  have HT : Hid (∀ j, j < 2 → (W1.cell? ⟨g, (i + 1) * 2 + j, none⟩).isSome = true ∧ W1.frozen? ⟨g, (i + 1) * 2 + j, none⟩ = false) := Lib.hid (fun j hj => own_there HP.1 (by omega))
  have hne1 : ¬ ((i : Int) = (n : Int)) := by omega
  have hb1 : (i : Int) ≤ (n : Int) := by omega
  have hic : i ≤ c := by omega
  have hw1 : IntKind.i64.wrap ((i : Int) + 1) = (i : Int) + 1 := by rw [IntKind.wrap_i64]; omega
  have hlt1 : (i : Int) + 1 < (n : Int) := by omega
  have e4 : ((i : Int) + 1).toNat = i + 1 := by omega
  have e2 : n - (i + 1) = 1 := by omega
  have hc1 : ¬ (c = i + 1) := by omega
  have hb4 : (0 : Int) ≤ (i : Int) + 1 := by omega
  have hb5 : (i : Int) + 1 ≤ (n : Int) := by omega
  have hcl := fun ty C => run_clear1 W1 ty g ((i + 1) * 2) C (fun j hj => (HT.out j hj).1) (fun j hj => (HT.out j hj).2)
  clear hW1 HP hrun h hv ho hll hin HC
  go_enter Try.func42, Try.ntmps42
  go_wp2_with (at_builtin; refine Lib.wpList_append_run _ rfl (.tmp 32) (.tmp 33) 22 22 rfl _ _ rfl rfl _ _ (HRUN.out _) ?_)
  go_ret
  exact HE.out
end Go.Proofs.Ytkhcaobmohppnaa.Spc
