/-
  What the claim on the cheapest block adds up, plainly.
-/
import Derived.Test.YtodnjeahjalinaaPlain
namespace Go.Proofs.Ytodnjeahjalinaa.Vic
set_option linter.unusedVariables false

/-- The least wear among the first k, and one that has it. -/
structure LI (l : List Fil) (k : Nat) (v : Int) : Prop where
  is : ∃ x ∈ l, x.wear = v
  le : ∀ i, i < k → v ≤ (nth l i).wear
theorem LI.start {l : List Fil} (h : 0 < l.length) : LI l 0 (nth l 0).wear := ⟨⟨_, nth_mem h, rfl⟩, fun i hi => absurd hi (Nat.not_lt_zero _)⟩
theorem LI.next {l : List Fil} {k : Nat} {v : Int} (h : LI l k v) (hk : k < l.length) : LI l (k + 1) (min v (nth l k).wear) := by
  refine ⟨?_, fun i hi => ?_⟩
  · by_cases c : v ≤ (nth l k).wear
    · rw [Int.min_eq_left c]; exact h.is
    · rw [Int.min_eq_right (by omega)]; exact ⟨_, nth_mem hk, rfl⟩
  · by_cases e : i < k
    · have := h.le i e; omega
    · obtain rfl : i = k := by omega
      omega
theorem LI.fin {l : List Fil} {k : Nat} {v : Int} (h : LI l k v) (hk : k = l.length) : v = lw l := by
  subst hk
  refine IsLw.eq ⟨h.is, fun x hx => ?_⟩
  obtain ⟨i, hi, rfl⟩ := mem_nth hx
  exact h.le i hi
theorem LI.range {l : List Fil} {k : Nat} {v : Int} (h : LI l k v) (hr : right l = true) : 0 ≤ v ∧ v ≤ 1048576 := by
  obtain ⟨x, hx, rfl⟩ := h.is
  have := right_mem hr hx
  omega
def mayW (l : List Fil) (s : Int) (x : Fil) : Bool := decide (x.fill = 4) && decide (x.wear - lw l < s)
def sumN (l : List Fil) (k : Nat) : Int := ((l.take k).map Fil.need).sum
def allM (l : List Fil) (s : Int) (k : Nat) : Bool := (l.take k).all (mayW l s)
theorem sumN_zero (l : List Fil) : sumN l 0 = 0 := rfl
theorem allM_zero (l : List Fil) (s : Int) : allM l s 0 = true := rfl
theorem sumN_next {l : List Fil} {k : Nat} (h : k < l.length) : sumN l (k + 1) = sumN l k + (nth l k).need := by
  unfold sumN
  rw [take_succ_nth h, List.map_append, List.sum_append]
  simp
theorem allM_next {l : List Fil} {s : Int} {k : Nat} (h : k < l.length) : allM l s (k + 1) = (allM l s k && mayW l s (nth l k)) := by
  unfold allM
  rw [take_succ_nth h, List.all_append]
  simp
theorem sumN_range {l : List Fil} (hr : right l = true) : ∀ {k : Nat}, k ≤ l.length → 0 ≤ sumN l k ∧ sumN l k ≤ 4 * k
  | 0, _ => by rw [sumN_zero]; omega
  | k + 1, h => by
    have ih := sumN_range hr (k := k) (by omega)
    have := right_nth hr (k := k) (by omega)
    rw [sumN_next (by omega)]
    omega
theorem mayW_cand {l : List Fil} {s : Int} {k : Nat} : mayW l s (nth l k) = true ↔ cand l (lw l + s) k := by
  unfold mayW cand
  rw [Bool.and_eq_true, decide_eq_true_eq, decide_eq_true_eq]
  omega
/-- What is told of the block that is picked. -/
structure Pk (l : List Fil) (s : Int) (K : Nat) : Prop where
  lt : K < l.length
  fill : (nth l K).fill = 4
  wear : (nth l K).wear - lw l < s
  least : ∀ i, i < l.length → mayW l s (nth l i) = true → (nth l K).need ≤ (nth l i).need
theorem pk_of {l : List Fil} {s : Int} {p : Nat × Bool} (hp : p = pick l s) (h : p.2 = true) : Pk l s p.1 := by
  subst hp
  have B := pick_best l s
  have hi := B.is h
  refine ⟨B.lt h, hi.1, by have := hi.2; omega, fun i hi2 hm => ?_⟩
  rw [mayW_cand] at hm
  by_cases e : i = (pick l s).1
  · rw [e]; exact Int.le_refl _
  · have := B.best h i hi2 hm e
    unfold before at this
    omega
theorem sum_least {l : List Fil} {s : Int} {K : Nat} (h : Pk l s K) : ∀ {k : Nat}, k ≤ l.length → allM l s k = true → (nth l K).need * (k : Int) ≤ sumN l k
  | 0, _, _ => by rw [sumN_zero]; simp
  | k + 1, hk, ha => by
    rw [allM_next (by omega), Bool.and_eq_true] at ha
    have ih := sum_least h (k := k) (by omega) ha.1
    have := h.least k (by omega) ha.2
    rw [sumN_next (by omega), Int.natCast_add, Int.mul_add]
    simp
    omega
end Go.Proofs.Ytodnjeahjalinaa.Vic
