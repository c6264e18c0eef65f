/-
  Sorting by insertion: the plain mathematics.
-/
import Derived.Test.YtfcihgincfcdkaaRPlain
namespace Go.Proofs.Ytfcihgincfcdkaa.Rns
set_option linter.unusedVariables false

def nth (l : List Rn) (k : Nat) : Rn := l.getD k ⟨0, 0, 0⟩
theorem nth_get {l : List Rn} {k : Nat} (h : k < l.length) : l[k]? = some (nth l k) := by
  unfold nth; rw [List.getD_eq_getElem?_getD, List.getElem?_eq_getElem h]; rfl
theorem nth_of {l : List Rn} {k : Nat} {x : Rn} (h : l[k]? = some x) : nth l k = x := by unfold nth; rw [List.getD_eq_getElem?_getD, h]; rfl
theorem mem_nth {l : List Rn} {p : Rn} : p ∈ l ↔ ∃ k, k < l.length ∧ nth l k = p := by
  constructor
  · intro h
    obtain ⟨k, hk⟩ := List.getElem?_of_mem h
    exact ⟨k, (List.getElem?_eq_some_iff.1 hk).1, nth_of hk⟩
  · rintro ⟨k, hk, rfl⟩
    exact List.mem_of_getElem? (nth_get hk)
/-- Two that stand side by side exchanged. -/
def sw (l : List Rn) (t : Nat) : List Rn := (l.set (t + 1) (nth l t)).set t (nth l (t + 1))
theorem sw_length (l : List Rn) (t : Nat) : (sw l t).length = l.length := by unfold sw; rw [List.length_set, List.length_set]
theorem nth_sw {l : List Rn} {t : Nat} (h : t + 1 < l.length) (k : Nat) (hk : k < l.length) : nth (sw l t) k = if k = t then nth l (t + 1) else if k = t + 1 then nth l t else nth l k := by
  refine nth_of ?_
  unfold sw
  rw [List.getElem?_set, List.length_set, List.getElem?_set]
  by_cases h1 : t = k
  · subst h1
    rw [if_pos rfl, if_pos (by omega), if_pos rfl]
  · have h1' : ¬ k = t := fun e => h1 e.symm
    rw [if_neg h1, if_neg h1']
    by_cases h2 : t + 1 = k
    · subst h2
      rw [if_pos rfl, if_pos h, if_pos rfl]
    · have h2' : ¬ k = t + 1 := fun e => h2 e.symm
      rw [if_neg h2, if_neg h2']
      exact nth_get hk
/-- The same runs, none at one place with another. -/
structure Sm (ps qs : List Rn) : Prop where
  len : qs.length = ps.length
  mem : ∀ p, p ∈ qs ↔ p ∈ ps
  ne : ∀ i j, i < qs.length → j < qs.length → i ≠ j → (nth qs i).a ≠ (nth qs j).a
theorem sm_start {ps : List Rn} (h : ps.Pairwise fun p q => p.a ≠ q.a) : Sm ps ps := ⟨rfl, fun p => Iff.rfl, fun i j hi hj hij => by
  have key : ∀ i j, i < j → j < ps.length → (nth ps i).a ≠ (nth ps j).a := fun i j hij hj => by
    have := List.pairwise_iff_getElem.1 h i j (by omega) hj hij
    have e1 := nth_of (List.getElem?_eq_getElem (show i < ps.length by omega))
    have e2 := nth_of (List.getElem?_eq_getElem hj)
    rw [e1, e2]; exact this
  rcases Nat.lt_or_ge i j with h1 | h1
  · exact key i j h1 hj
  · exact (key j i (by omega) hi).symm⟩
theorem Sm.swap {ps qs : List Rn} {t : Nat} (h : Sm ps qs) (ht : t + 1 < qs.length) : Sm ps (sw qs t) := by
  have hl := sw_length qs t
  refine ⟨hl.trans h.len, fun p => ?_, fun i j hi hj hij => ?_⟩
  · rw [← h.mem p, mem_nth, mem_nth]
    constructor
    · rintro ⟨k, hk, rfl⟩
      rw [hl] at hk
      rw [nth_sw ht k hk]
      split
      · exact ⟨t + 1, ht, rfl⟩
      · split
        · exact ⟨t, by omega, rfl⟩
        · exact ⟨k, hk, rfl⟩
    · rintro ⟨k, hk, rfl⟩
      by_cases h1 : k = t
      · subst h1
        exact ⟨k + 1, by omega, by rw [nth_sw ht _ ht, if_neg (by omega), if_pos rfl]⟩
      · by_cases h2 : k = t + 1
        · subst h2
          exact ⟨t, by omega, by rw [nth_sw ht _ (by omega), if_pos rfl]⟩
        · exact ⟨k, by omega, by rw [nth_sw ht _ hk, if_neg h1, if_neg h2]⟩
  · rw [hl] at hi hj
    rw [nth_sw ht i hi, nth_sw ht j hj]
    repeat' split
    all_goals first
      | (subst_vars; exact absurd rfl hij)
      | exact h.ne _ _ (by omega) (by omega) (by omega)
/-- Sorted up to k. -/
def Up (qs : List Rn) (k : Nat) : Prop := ∀ p q, p < q → q < k → (nth qs p).a < (nth qs q).a
/-- Sorted up to i but for the one at j, which lies below those behind it. -/
structure Ins (qs : List Rn) (i j : Nat) : Prop where
  rest : ∀ p q, p < q → q ≤ i → p ≠ j → q ≠ j → (nth qs p).a < (nth qs q).a
  low : ∀ q, j < q → q ≤ i → (nth qs j).a < (nth qs q).a
theorem ins_start {qs : List Rn} {i : Nat} (h : Up qs i) : Ins qs i i := ⟨fun p q h1 h2 h3 h4 => h p q h1 (by omega), fun q h1 h2 => by omega⟩
theorem Ins.step {qs : List Rn} {i t : Nat} (h : Ins qs i (t + 1)) (hi : i < qs.length) (ht : t + 1 ≤ i) (hlt : (nth qs (t + 1)).a < (nth qs t).a) : Ins (sw qs t) i t := by
  have hs : ∀ k, k ≤ i → nth (sw qs t) k = if k = t then nth qs (t + 1) else if k = t + 1 then nth qs t else nth qs k := fun k hk => nth_sw (by omega) k (by omega)
  refine ⟨fun p q h1 h2 h3 h4 => ?_, fun q h1 h2 => ?_⟩
  · rw [hs p (by omega), hs q h2, if_neg h3, if_neg h4]
    split
    · rename_i e
      rw [if_neg (by omega)]
      exact h.rest t q (by omega) h2 (by omega) (by omega)
    · split
      · rename_i e1 e
        exact h.rest p t (by omega) (by omega) (by omega) (by omega)
      · exact h.rest p q h1 h2 (by omega) (by omega)
  · rw [hs t (by omega), hs q h2, if_pos rfl, if_neg (by omega)]
    split
    · exact hlt
    · exact h.low q (by omega) h2
theorem Ins.done {qs : List Rn} {i j : Nat} (h : Ins qs i j) (hj : j ≤ i) (hi : i < qs.length) (hne : ∀ p q, p < qs.length → q < qs.length → p ≠ q → (nth qs p).a ≠ (nth qs q).a)
    (he : j = 0 ∨ ∃ t, j = t + 1 ∧ ¬ (nth qs (t + 1)).a < (nth qs t).a) : Up qs (i + 1) := fun p q h1 h2 => by
  by_cases hp : p = j
  · subst hp; exact h.low q h1 (by omega)
  · by_cases hq : q = j
    · subst hq
      rcases he with rfl | ⟨t, rfl, hnl⟩
      · omega
      · have hn := hne (t + 1) t (by omega) (by omega) (by omega)
        by_cases hpt : p = t
        · subst hpt; omega
        · have := h.rest p t (by omega) (by omega) (by omega) (by omega)
          omega
    · exact h.rest p q h1 (by omega) hp hq
theorem up_srt {qs : List Rn} (h : Up qs qs.length) : Srt qs := by
  unfold Srt
  rw [List.pairwise_iff_getElem]
  intro i j hi hj hij
  have := h i j hij hj
  rw [nth_of (List.getElem?_eq_getElem hi), nth_of (List.getElem?_eq_getElem hj)] at this
  exact this
end Go.Proofs.Ytfcihgincfcdkaa.Rns
