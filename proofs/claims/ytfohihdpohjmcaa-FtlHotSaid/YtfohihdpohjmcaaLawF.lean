/-
  FtlHot, walked under what is asked of Play.
-/
import Derived.Test.YtfohihdpohjmcaaLawE
namespace Go.Proofs.Ytfohihdpohjmcaa.Ftl
open Go.ChangeShapes Go.WideShapes Go.ChangeAt Go.RowKit Words
set_option linter.unusedVariables false

def hot1 (l : List Int) (k : Nat) : List Fop := (List.range k).map fun (j : Nat) => ⟨1, (j : Int), l.getD j 0⟩
def hot2 (N : Int) (k : Nat) : List Fop := (List.range k).map fun (j : Nat) => ⟨1, N, (j : Int)⟩
def hot3 (k : Nat) : List Fop := (List.range k).map fun (j : Nat) => ⟨2, (j : Int), 0⟩
theorem hot1_next (l : List Int) (k : Nat) : hot1 l (k + 1) = hot1 l k ++ [⟨1, (k : Int), l.getD k 0⟩] := by unfold hot1; rw [List.range_succ, List.map_append]; rfl
theorem hot2_next (N : Int) (k : Nat) : hot2 N (k + 1) = hot2 N k ++ [⟨1, N, (k : Int)⟩] := by unfold hot2; rw [List.range_succ, List.map_append]; rfl
theorem hot3_next (k : Nat) : hot3 (k + 1) = hot3 k ++ [⟨2, (k : Int), 0⟩] := by unfold hot3; rw [List.range_succ, List.map_append]; rfl
theorem hot1_length (l : List Int) (k : Nat) : (hot1 l k).length = k := by unfold hot1; simp
theorem hot2_length (N : Int) (k : Nat) : (hot2 N k).length = k := by unfold hot2; simp
theorem hot3_length (k : Nat) : (hot3 k).length = k := by unfold hot3; simp
theorem run_hot1 (l : List Int) (s : Sto) {k : Nat} (hk : k ≤ 16) (x : Int) : runS s (hot1 l k) x = if 0 ≤ x ∧ x < k then some (l.getD x.toNat 0) else s x := by
  induction k with
  | zero => rw [if_neg (by omega)]; rfl
  | succ k ih =>
    rw [hot1_next, runS_append]
    show fnx (runS s (hot1 l k)) ⟨1, (k : Int), l.getD k 0⟩ x = _
    rw [(fx_write (s := runS s (hot1 l k)) (o := ⟨1, (k : Int), l.getD k 0⟩) rfl ⟨by show (0 : Int) ≤ k; omega, by show (k : Int) < 16; omega⟩).2]
    by_cases e : x = k
    · subst e
      rw [if_pos (by omega)]
      exact upd_same _ _ _
    · rw [upd_other _ _ e, ih (by omega)]
      by_cases h : 0 ≤ x ∧ x < k
      · rw [if_pos h, if_pos (by omega)]
      · rw [if_neg h, if_neg (by omega)]
theorem run_hot2 {N : Int} (hN : 0 ≤ N ∧ N < 16) (s : Sto) (k : Nat) (x : Int) : runS s (hot2 N k) x = if x = N ∧ 0 < k then some ((k : Int) - 1) else s x := by
  induction k with
  | zero => rw [if_neg (by omega)]; rfl
  | succ k ih =>
    rw [hot2_next, runS_append]
    show fnx (runS s (hot2 N k)) ⟨1, N, (k : Int)⟩ x = _
    rw [(fx_write (s := runS s (hot2 N k)) (o := ⟨1, N, (k : Int)⟩) rfl hN).2]
    by_cases e : x = N
    · subst e
      rw [if_pos ⟨rfl, by omega⟩]
      show upd _ x _ x = _
      rw [upd_same]
      show some (k : Int) = some (((k + 1 : Nat) : Int) - 1)
      congr 1
      omega
    · rw [if_neg (fun h => e h.1)]
      show upd _ N _ x = _
      rw [upd_other _ _ e, ih, if_neg (fun h => e h.1)]
theorem run_hot3 {s : Sto} {k : Nat} (hk : k ≤ 16) (h : ∀ j : Nat, j < k → s j ≠ none) : runS s (hot3 k) = s := by
  induction k with
  | zero => rfl
  | succ k ih =>
    rw [hot3_next, runS_append, ih (by omega) (fun j hj => h j (by omega))]
    show fnx s ⟨2, (k : Int), 0⟩ = s
    cases hs : s (k : Int) with
    | none => exact absurd hs (h k (by omega))
    | some v => exact (fx_read (o := ⟨2, (k : Int), 0⟩) rfl ⟨by show (0 : Int) ≤ k; omega, by show (k : Int) < 16; omega⟩ hs).2
theorem hot3_take {m j : Nat} (h : j ≤ m) : (hot3 m).take j = hot3 j := by
  unfold hot3
  rw [← List.map_take, List.take_range, Nat.min_eq_left h]
/-- What is read at the end. -/
theorem hot_ans (l : List Int) {N : Int} (hN : 0 ≤ N ∧ N < 16) (t : Nat) {m j : Nat} (hm : m ≤ 16) (hj : j < m) :
    (anss sto0 ((hot1 l m ++ hot2 N t) ++ hot3 m))[m + t + j]? = some ⟨0, if (j : Int) = N ∧ 0 < t then (t : Int) - 1 else l.getD j 0⟩ := by
  have hst : ∀ i : Nat, i < m → runS sto0 (hot1 l m ++ hot2 N t) i = some (if (i : Int) = N ∧ 0 < t then (t : Int) - 1 else l.getD i 0) := fun i hi => by
    rw [runS_append, run_hot2 hN, run_hot1 l sto0 hm]
    by_cases h : (i : Int) = N ∧ 0 < t
    · rw [if_pos h, if_pos h]
    · rw [if_neg h, if_neg h, if_pos (by omega)]; rfl
  have hl : (anss sto0 (hot1 l m ++ hot2 N t)).length = m + t := by rw [anss_length, List.length_append, hot1_length, hot2_length]
  rw [anss_append, List.getElem?_append_right (by omega), hl, show m + t + j - (m + t) = j by omega]
  have ho : (hot3 m)[j]? = some ⟨2, (j : Int), 0⟩ := by unfold hot3; simp [hj]
  rw [anss_get ho, hot3_take (by omega), run_hot3 (by omega) (fun i hi => by rw [hst i (by omega)]; simp)]
  rw [(fx_read (o := ⟨2, (j : Int), 0⟩) rfl ⟨by show (0 : Int) ≤ j; omega, by show (j : Int) < 16; omega⟩ (hst j hj)).1]
theorem wf_small (j : Nat) (h : j < 1000) : (Lit.int .i64 (j : Int)).wf = true := WalkArith.wf_i64 (by omega)
theorem hot_wf (l : List Int) (hl : ∀ x ∈ l, (Lit.int .i64 x).wf = true) {N : Int} (hwN : (Lit.int .i64 N).wf = true) {t m : Nat} (hm : m ≤ 16) (hml : m ≤ l.length) (ht : t ≤ 300) : ∀ o ∈ (hot1 l m ++ hot2 N t) ++ hot3 m, Wf o := by
  intro o ho
  rcases List.mem_append.1 ho with h | h
  · rcases List.mem_append.1 h with h | h
    · obtain ⟨j, hj, rfl⟩ := List.mem_map.1 h
      have hj := List.mem_range.1 hj
      refine ⟨rfl, wf_small j (by omega), ?_⟩
      show (Lit.int .i64 (l.getD j 0)).wf = true
      rw [List.getD_eq_getElem?_getD, List.getElem?_eq_getElem (by omega)]
      exact hl _ (List.getElem_mem _)
    · obtain ⟨j, hj, rfl⟩ := List.mem_map.1 h
      have hj := List.mem_range.1 hj
      exact ⟨rfl, hwN, wf_small j (by omega)⟩
  · obtain ⟨j, hj, rfl⟩ := List.mem_map.1 h
    have hj := List.mem_range.1 hj
    exact ⟨rfl, wf_small j (by omega), rfl⟩
end Go.Proofs.Ytfohihdpohjmcaa.Ftl
