/-
  Plain facts of the laws: what pages and numbers tell of each other; what one more operation changes; how many writes fit; what is recovered.
-/
import Derived.Test.YtegllglfnngijaaLaws
import Derived.Test.YtegllglfnngijaaAgainW
namespace Go.Proofs.Ytegllglfnngijaa.Rem
open Go.ChangeShapes Go.WideShapes Go.ChangeAt Go.RowKit Words
set_option linter.unusedVariables false

theorem index16 {l : List Int} {k : Nat} {x : Int} (hx : l[k]? = some x) (hl : l.length = 16) (w : World) : (Instr.index 25 (.agg (icells l).toArray) (.int .i64 (k : Int))).run Try.prog w = .ok (.int .i64 x) w := by
  have hk := (List.getElem?_eq_some_iff.1 hx).1
  have e16 : k < 16 := by omega
  obtain ⟨i3, hi3, _, hz3, _⟩ := info_parts info3
  have hc : (icells l)[k]? = some (.int .i64 x) := by rw [icells_get, hx]; rfl
  have hlen : (icells l).length = 16 := by rw [icells_length, hl]
  generalize icells l = cs at *
  simp [Instr.index, go_sem, run_underlying Try.underlying25, sizeOf, typeInfo, hi3, hz3, hc]
  intro h
  omega
/-- Where pages is in its bounds. -/
structure Good (pages : Int) (l : List Mop) (P : Nat) (wr : List Int) : Prop where
  pg : pages = P
  le : P ≤ 4096
  err : pErrs pages l = errs P [] l
  at_ : pAt pages l = ats wr
  no : pNo pages l = nos P wr
  code : perr pages = 0
  ok : Ok wr
  len : wr.length ≤ P
  is : wr = runW P [] l
theorem good_of {pages : Int} (h : pok pages = true) (l : List Mop) : ∃ P wr, Good pages l P wr := by
  obtain ⟨h0, h1⟩ := pok_iff.1 h
  obtain ⟨P, rfl⟩ : ∃ P : Nat, pages = P := ⟨pages.toNat, by omega⟩
  refine ⟨P, runW P [] l, rfl, by omega, ?_, ?_, ?_, ?_, (run_ok l ok_nil (Nat.zero_le _)).1, (run_ok l ok_nil (Nat.zero_le _)).2, rfl⟩
  · unfold pErrs; rw [h]; rfl
  · unfold pAt; rw [h]; rfl
  · unfold pNo; rw [h]; rfl
  · unfold perr; rw [h]; rfl
theorem bad_of {pages : Int} (h : pok pages = false) (l : List Mop) : pErrs pages l = [] ∧ pNo pages l = [] ∧ perr pages = 2 ∧ pAt pages l = zero16 := by
  unfold pErrs pNo perr pAt
  rw [h]
  exact ⟨rfl, rfl, rfl, rfl⟩
theorem both_at {P : Nat} {wr : List Int} (h : Ok wr) (hl : wr.length ≤ P) {n p : Nat} (hp : idx wr (n : Int) = p) : p < P ∧ (nos P wr)[p]? = some (n : Int) := by
  obtain ⟨q, hq, hql, hqg, _⟩ := idx_is (l := wr) (x := (n : Int)) (by omega)
  have : q = p := by omega
  subst this
  exact ⟨by omega, by rw [nos_left hql]; exact hqg⟩
theorem both_no {P : Nat} {wr : List Int} (h : Ok wr) (hl : wr.length ≤ P) {p x : Nat} (hp : (nos P wr)[p]? = some (x : Int)) : x < 16 ∧ (ats wr)[x]? = some (p : Int) := by
  have hpP := (List.getElem?_eq_some_iff.1 hp).1
  rw [nos_length hl] at hpP
  rcases Nat.lt_or_ge p wr.length with h1 | h1
  · rw [nos_left h1] at hp
    have := (h.rng p x hp).2
    refine ⟨by omega, ?_⟩
    rw [ats_get wr (by omega), h.idx (by omega) hp]
  · rw [nos_right h1 hpP] at hp
    injection hp with hp
    omega
/-! ### one more operation -/
theorem run_last (P : Nat) (l : List Mop) (o : Mop) : runW P [] (l ++ [o]) = mnx P (runW P [] l) o := by rw [runW_append]; rfl
theorem errs_last (P : Nat) (l : List Mop) (o : Mop) : errs P [] (l ++ [o]) = errs P [] l ++ [merr P (runW P [] l) o] := by rw [errs_append]; rfl
theorem last_other {P : Nat} {wr : List Int} {o : Mop} (h : Ok wr) (hl : wr.length ≤ P) (he : merr P wr o = 0) {n : Nat} (hn : n < 16) (hne : (n : Int) ≠ o.n) : idx (mnx P wr o) n = idx wr n := by
  obtain ⟨hr, ⟨_, _, hm⟩ | ⟨_, _, hm⟩⟩ := merr_zero he
  · rw [hm, put_idx_other h hr.1 hr.2 (by omega) hne]
  · rw [hm, fg_idx_other h (by omega) hne]
theorem last_same {P : Nat} {wr : List Int} {o : Mop} (h : Ok wr) (hl : wr.length ≤ P) (he : merr P wr o = 0) : (0 ≤ o.n ∧ o.n < 16) ∧ ((o.kind = 2 ∧ idx (mnx P wr o) o.n = -1) ∨ (o.kind = 1 ∧ idx wr o.n < idx (mnx P wr o) o.n)) := by
  obtain ⟨hr, ⟨hk, _, hm⟩ | ⟨hk, _, hm⟩⟩ := merr_zero he
  · refine ⟨hr, .inr ⟨hk, ?_⟩⟩
    rw [hm, put_idx_same h hr.1 hr.2]
    exact idx_lt
  · refine ⟨hr, .inl ⟨hk, ?_⟩⟩
    rw [hm, fg_idx_same h hr.1]
/-! ### how many writes fit -/
def isW (o : Mop) : Bool := (o.kind == 1) && decide (0 ≤ o.n) && decide (o.n < 16)
theorem isW_iff {o : Mop} : isW o = true ↔ o.kind = 1 ∧ 0 ≤ o.n ∧ o.n < 16 := by
  unfold isW
  rw [Bool.and_eq_true, Bool.and_eq_true, beq_iff_eq, decide_eq_true_eq, decide_eq_true_eq, and_assoc]
def cnt (l : List Mop) (k : Nat) : Nat := ((l.take k).filter isW).length
theorem cnt_zero (l : List Mop) : cnt l 0 = 0 := by unfold cnt; simp
theorem cnt_le (l : List Mop) (k : Nat) : cnt l k ≤ k := by
  unfold cnt
  refine Nat.le_trans (List.length_filter_le _ _) ?_
  rw [List.length_take]; omega
theorem cnt_yes {l : List Mop} {k : Nat} {o : Mop} (h : l[k]? = some o) (hw : isW o = true) : cnt l (k + 1) = cnt l k + 1 := by
  unfold cnt
  rw [take_next h, List.filter_append, List.length_append]
  simp [hw]
theorem cnt_no {l : List Mop} {k : Nat} {o : Mop} (h : l[k]? = some o) (hw : isW o = false) : cnt l (k + 1) = cnt l k := by
  unfold cnt
  rw [take_next h, List.filter_append, List.length_append]
  simp [hw]
theorem mnx_len_no {P : Nat} {wr : List Int} {o : Mop} (hw : isW o = false) : (mnx P wr o).length = wr.length := by
  by_cases he : merr P wr o = 0
  · obtain ⟨hr, ⟨hk, _, hm⟩ | ⟨_, _, hm⟩⟩ := merr_zero he
    · rw [isW_iff.2 ⟨hk, hr.1, hr.2⟩] at hw; cases hw
    · rw [hm, fg_length]
  · rw [mnx_ne he]
theorem merr_w {P : Nat} {wr : List Int} {o : Mop} (hw : isW o = true) : merr P wr o = if wr.length = P then 4 else 0 := by
  obtain ⟨hk, hr⟩ := isW_iff.1 hw
  exact merr_write hk hr
theorem mnx_len_yes {P : Nat} {wr : List Int} {o : Mop} (hw : isW o = true) (hne : wr.length ≠ P) : (mnx P wr o).length = wr.length + 1 := by
  have he := merr_w (P := P) (wr := wr) hw
  rw [if_neg hne] at he
  obtain ⟨hr, ⟨hk, _, hm⟩ | ⟨hk, _, hm⟩⟩ := merr_zero he
  · rw [hm, put_length]
  · have := (isW_iff.1 hw).1; omega
theorem len_cnt (P : Nat) (l : List Mop) (k : Nat) : (W P l k).length = min (cnt l k) P := by
  induction k with
  | zero => rw [W_zero, cnt_zero]; simp
  | succ k ih =>
    rcases Nat.lt_or_ge k l.length with hk | hk
    · have ho : l[k]? = some l[k] := List.getElem?_eq_getElem hk
      rw [W_next ho]
      cases hw : isW l[k] with
      | false => rw [mnx_len_no hw, cnt_no ho hw, ih]
      | true =>
        rw [cnt_yes ho hw]
        by_cases hne : (W P l k).length = P
        · have he := merr_w (P := P) (wr := W P l k) hw
          rw [if_pos hne] at he
          rw [mnx_ne (by omega)]
          omega
        · rw [mnx_len_yes hw hne]
          omega
    · have e1 : l.take (k + 1) = l.take k := by rw [List.take_of_length_le (by omega), List.take_of_length_le hk]
      unfold W cnt at *
      rw [e1]
      exact ih
/-- A write's code says whether there was room. -/
theorem full_at {P : Nat} {l : List Mop} {k : Nat} {o : Mop} (h : l[k]? = some o) (hw : isW o = true) : (errs P [] l)[k]? = some (if cnt l k < P then 0 else 4) := by
  have hk := (List.getElem?_eq_some_iff.1 h).1
  have e : errs P [] l = errs P [] (l.take (k + 1)) ++ errs P (runW P [] (l.take (k + 1))) (l.drop (k + 1)) := by rw [← errs_append, List.take_append_drop]
  have hE : errs P [] (l.take (k + 1)) = E P l (k + 1) := rfl
  rw [e, hE, E_next h, List.append_assoc, List.getElem?_append_right (by rw [E_length (by omega)]; exact Nat.le_refl _), E_length (by omega), Nat.sub_self]
  simp only [List.cons_append, List.getElem?_cons_zero]
  rw [merr_w hw, len_cnt]
  congr 1
  by_cases hc : cnt l k < P
  · rw [if_pos hc, if_neg (by omega)]
  · rw [if_neg hc, if_pos (by omega)]
/-! ### what is recovered -/
def wops (l : List Int) : List Mop := l.map fun n => ⟨1, n⟩
theorem wops_length (l : List Int) : (wops l).length = l.length := List.length_map _
theorem wops_append (a b : List Int) : wops (a ++ b) = wops a ++ wops b := List.map_append
theorem allN_get {l : List Int} (h : allN l = true) {k : Nat} {x : Int} (hx : l[k]? = some x) : 0 ≤ x ∧ x < 16 := allN_iff.1 h x (List.mem_iff_getElem?.2 ⟨k, hx⟩)
theorem again_at {P : Nat} {l : List Int} (h : allN l = true) {k : Nat} (hk : k ≤ l.length) : ats (W P (wops l) k) = lasts l (min k P) ∧ (W P (wops l) k).length = min k P := by
  induction k with
  | zero => rw [W_zero]; exact ⟨by rw [ats_nil, Nat.zero_min]; rfl, by simp⟩
  | succ k ih =>
    obtain ⟨h1, h2⟩ := ih (by omega)
    have hx : l[k]? = some l[k] := List.getElem?_eq_getElem (by omega)
    have hr := allN_get h hx
    have ho : (wops l)[k]? = some ⟨1, l[k]⟩ := by unfold wops; rw [List.getElem?_map, hx]; rfl
    have hok := (W_ok P (wops l) k)
    rw [W_next ho]
    have he := merr_write (P := P) (wr := W P (wops l) k) (o := ⟨1, l[k]⟩) rfl hr
    by_cases hf : (W P (wops l) k).length = P
    · rw [if_pos hf] at he
      rw [mnx_ne (by omega)]
      have e : min (k + 1) P = min k P := by omega
      rw [e]
      exact ⟨h1, h2⟩
    · rw [if_neg hf] at he
      obtain ⟨_, ⟨_, _, hm⟩ | ⟨hk2, _⟩⟩ := merr_zero he
      · have e : min (k + 1) P = k + 1 := by omega
        have e0 : min k P = k := by omega
        rw [e0] at h1 h2
        obtain ⟨y, hy⟩ : ∃ y : Nat, l[k] = y := ⟨l[k].toNat, by omega⟩
        rw [hm, e]
        show ats (put _ l[k]) = _ ∧ (put _ l[k]).length = _
        rw [hy] at hx ⊢
        refine ⟨?_, by rw [put_length, h2]⟩
        rw [ats_put hok.1 (by omega), ats_fg hok.1 (by omega), List.set_set, h1, h2, lasts_next hx]
      · cases hk2
end Go.Proofs.Ytegllglfnngijaa.Rem
