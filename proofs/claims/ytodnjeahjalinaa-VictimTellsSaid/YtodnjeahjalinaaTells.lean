/-
  The largest difference of wear, found pair by pair.
-/
import Derived.Test.YtodnjeahjalinaaPlain
namespace Go.Proofs.Ytodnjeahjalinaa.Vic
set_option linter.unusedVariables false

/-- What has been found when the rows above k and the first j of row k have been looked at. -/
structure MI (l : List Fil) (k j : Nat) (v : Int) : Prop where
  pos : 0 ≤ v
  le : v ≤ spr l
  rows : ∀ i, i < k → ∀ i2, i2 < l.length → (nth l i).wear - (nth l i2).wear ≤ v
  row : ∀ i2, i2 < j → (nth l k).wear - (nth l i2).wear ≤ v
theorem MI.start {l : List Fil} (h : right l = true) : MI l 0 0 0 := ⟨Int.le_refl _, (spr_range h).1, fun i hi => absurd hi (Nat.not_lt_zero _), fun i hi => absurd hi (Nat.not_lt_zero _)⟩
theorem MI.next {l : List Fil} {k j : Nat} {v d : Int} (h : MI l k j v) (hk : k < l.length) (hj : j < l.length) (hd : d = (nth l k).wear - (nth l j).wear) : MI l k (j + 1) (max v d) := by
  have := le_spr (nth_mem hk) (nth_mem hj)
  refine ⟨by have := h.pos; omega, by have := h.le; omega, fun i hi i2 hi2 => by have := h.rows i hi i2 hi2; omega, fun i2 hi2 => ?_⟩
  by_cases e : i2 < j
  · have := h.row i2 e; omega
  · obtain rfl : i2 = j := by omega
    omega
theorem MI.fin {l : List Fil} {k j : Nat} {v : Int} (h : MI l k j v) (hj : j = l.length) : MI l (k + 1) 0 v := by
  subst hj
  refine ⟨h.pos, h.le, fun i hi i2 hi2 => ?_, fun i hi => absurd hi (Nat.not_lt_zero _)⟩
  by_cases e : i < k
  · exact h.rows i e i2 hi2
  · obtain rfl : i = k := by omega
    exact h.row i2 hi2
theorem MI.all {l : List Fil} {k : Nat} {v : Int} (h : MI l k 0 v) (hk : k = l.length) : v = spr l := by
  subst hk
  have : spr l ≤ v := spr_le h.pos fun x hx y hy => by
    obtain ⟨i, hi, rfl⟩ := mem_nth hx
    obtain ⟨j, hj, rfl⟩ := mem_nth hy
    exact h.rows i hi j hj
  have := h.le
  omega
end Go.Proofs.Ytodnjeahjalinaa.Vic
