/-
  Two slots: which is current, what is read, what a write leaves. No program.
-/
import Derived.Test.YtpjhihmbgahagaaBase
namespace Go.Proofs.Ytpjhihmbgahagaa.Twn
set_option linter.unusedVariables false

structure Slo where
  w : Bool
  c : Int
  d : Int
structure St where
  a : Slo
  b : Slo
def slo0 : Slo := ⟨false, 0, 0⟩
def st0 : St := ⟨slo0, slo0⟩
def okC (c : Int) : Bool := decide (0 ≤ c) && decide (c ≤ 1099511627776)
theorem okC_iff {c : Int} : okC c = true ↔ 0 ≤ c ∧ c ≤ 1099511627776 := by unfold okC; simp
def right (s : St) : Bool := okC s.a.c && okC s.b.c && !(s.a.w && s.b.w && s.a.c == s.b.c)
theorem right_iff {s : St} : right s = true ↔ (0 ≤ s.a.c ∧ s.a.c ≤ 1099511627776) ∧ (0 ≤ s.b.c ∧ s.b.c ≤ 1099511627776) ∧ ¬ (s.a.w = true ∧ s.b.w = true ∧ s.a.c = s.b.c) := by
  unfold right
  have h : (!(s.a.w && s.b.w && s.a.c == s.b.c)) = true ↔ ¬ (s.a.w = true ∧ s.b.w = true ∧ s.a.c = s.b.c) := by
    cases s.a.w <;> cases s.b.w <;> simp
  rw [Bool.and_eq_true, Bool.and_eq_true, okC_iff, okC_iff, h, and_assoc]
/-- The index of the current slot, or -1. -/
def newer (s : St) : Int := if s.a.w && s.b.w then (if s.b.c < s.a.c then 0 else 1) else if s.a.w then 0 else if s.b.w then 1 else -1
def cur (s : St) : Slo := if newer s = 0 then s.a else s.b
theorem newer_cases (s : St) : newer s = -1 ∨ newer s = 0 ∨ newer s = 1 := by
  unfold newer
  split
  · split <;> simp
  · split
    · simp
    · split <;> simp
def readR (s : St) : Int × Int := if right s then (if newer s = -1 then (0, 3) else ((cur s).d, 0)) else (0, 1)
def nextC (s : St) : Int := if newer s = -1 then 1 else (cur s).c + 1
def newS (s : St) (data : Int) (br : Bool) : Slo := if br then slo0 else ⟨true, nextC s, data⟩
def writeR (s : St) (data : Int) (br : Bool) : St × Int :=
  if right s then (if 1099511627776 < nextC s then (st0, 4) else (if newer s = 0 then ⟨s.a, newS s data br⟩ else ⟨newS s data br, s.b⟩, 0)) else (st0, 1)
/-- What a write leaves is valid; what is read of it. -/
theorem write_ok {s : St} {data : Int} {br : Bool} (h : (writeR s data br).2 = 0) : right s = true ∧ nextC s ≤ 1099511627776 ∧ (writeR s data br).1 = (if newer s = 0 then ⟨s.a, newS s data br⟩ else ⟨newS s data br, s.b⟩) := by
  unfold writeR at h ⊢
  by_cases hr : right s = true
  · rw [if_pos hr] at h ⊢
    by_cases hc : 1099511627776 < nextC s
    · rw [if_pos hc] at h; simp at h
    · rw [if_neg hc]
      exact ⟨hr, by omega, rfl⟩
  · rw [if_neg hr] at h; simp at h
theorem write_err (s : St) (data : Int) (br : Bool) : (right s = false ∧ writeR s data br = (st0, 1)) ∨ (right s = true ∧ 1099511627776 < nextC s ∧ writeR s data br = (st0, 4)) ∨ (right s = true ∧ nextC s ≤ 1099511627776 ∧ (writeR s data br).2 = 0) := by
  unfold writeR
  cases hr : right s with
  | false => exact .inl ⟨rfl, rfl⟩
  | true =>
    by_cases hc : 1099511627776 < nextC s
    · exact .inr (.inl ⟨rfl, hc, by rw [if_pos rfl, if_pos hc]⟩)
    · exact .inr (.inr ⟨rfl, by omega, by rw [if_pos rfl, if_neg hc]⟩)
/-- A whole write: valid, and read back. -/
theorem write_whole {s : St} {data : Int} (h : (writeR s data false).2 = 0) : right (writeR s data false).1 = true ∧ readR (writeR s data false).1 = (data, 0) := by
  obtain ⟨hr, hc, he⟩ := write_ok h
  rw [he]
  obtain ⟨⟨wa, ca, da⟩, ⟨wb, cb, db⟩⟩ := s
  rw [right_iff] at hr
  simp only at hr
  have key : ∀ x : St, right x = true → newer x ≠ -1 → readR x = ((cur x).d, 0) := fun x h1 h2 => by unfold readR; rw [if_pos h1, if_neg h2]
  cases wa <;> cases wb <;> simp [newer, nextC, cur, newS] at hc ⊢
  · exact ⟨right_iff.2 ⟨by simp, by simp; omega, by simp⟩, by rw [key _ (right_iff.2 ⟨by simp, by simp; omega, by simp⟩) (by simp [newer])]; simp [cur, newer]⟩
  · have hx : right ⟨⟨true, cb + 1, data⟩, ⟨true, cb, db⟩⟩ = true := right_iff.2 ⟨by simp; omega, by simp; omega, by simp; omega⟩
    refine ⟨hx, ?_⟩
    have hn : newer ⟨⟨true, cb + 1, data⟩, ⟨true, cb, db⟩⟩ = 0 := by simp [newer]; omega
    rw [key _ hx (by rw [hn]; decide)]
    unfold cur
    rw [hn]; rfl
  · have hx : right ⟨⟨true, ca, da⟩, ⟨true, ca + 1, data⟩⟩ = true := right_iff.2 ⟨by simp; omega, by simp; omega, by simp; omega⟩
    refine ⟨hx, ?_⟩
    have hn : newer ⟨⟨true, ca, da⟩, ⟨true, ca + 1, data⟩⟩ = 1 := by simp [newer]; omega
    rw [key _ hx (by rw [hn]; decide)]
    unfold cur
    rw [hn]; rfl
  · by_cases hab : cb < ca
    · simp [hab] at hc ⊢
      have hx : right ⟨⟨true, ca, da⟩, ⟨true, ca + 1, data⟩⟩ = true := right_iff.2 ⟨by simp; omega, by simp; omega, by simp; omega⟩
      refine ⟨hx, ?_⟩
      have hn : newer ⟨⟨true, ca, da⟩, ⟨true, ca + 1, data⟩⟩ = 1 := by simp [newer]; omega
      rw [key _ hx (by rw [hn]; decide)]
      unfold cur
      rw [hn]; rfl
    · simp [hab] at hc ⊢
      have hx : right ⟨⟨true, cb + 1, data⟩, ⟨true, cb, db⟩⟩ = true := right_iff.2 ⟨by simp; omega, by simp; omega, by simp; omega⟩
      refine ⟨hx, ?_⟩
      have hn : newer ⟨⟨true, cb + 1, data⟩, ⟨true, cb, db⟩⟩ = 0 := by simp [newer]; omega
      rw [key _ hx (by rw [hn]; decide)]
      unfold cur
      rw [hn]; rfl
/-- A write that is broken off: valid, and what was read before is read. -/
theorem write_broken {s : St} {data : Int} (h : (writeR s data true).2 = 0) : right (writeR s data true).1 = true ∧ readR (writeR s data true).1 = readR s := by
  obtain ⟨hr, hc, he⟩ := write_ok h
  rw [he]
  have hr0 := hr
  obtain ⟨⟨wa, ca, da⟩, ⟨wb, cb, db⟩⟩ := s
  rw [right_iff] at hr
  simp only at hr
  have hnew : newS ⟨⟨wa, ca, da⟩, ⟨wb, cb, db⟩⟩ data true = slo0 := rfl
  rw [hnew]
  have ha : right ⟨⟨wa, ca, da⟩, slo0⟩ = true := right_iff.2 ⟨by simp; omega, by simp [slo0], by simp [slo0]⟩
  have hb : right ⟨slo0, ⟨wb, cb, db⟩⟩ = true := right_iff.2 ⟨by simp [slo0], by simp; omega, by simp [slo0]⟩
  unfold readR
  rw [if_pos hr0]
  cases wa <;> cases wb
  · simp [newer, cur] at hb ⊢
    rw [if_pos hb]
    simp [slo0]
    exact hb
  · simp [newer, cur] at hb ⊢
    rw [if_pos hb]
    simp [slo0]
    exact hb
  · simp [newer, cur] at ha ⊢
    rw [if_pos ha]
    simp [slo0]
    exact ha
  · by_cases hab : cb < ca
    · simp [newer, cur, hab] at ha ⊢
      rw [if_pos ha]
      simp [slo0]
      exact ha
    · simp [newer, cur, hab] at hb ⊢
      rw [if_pos hb]
      simp [slo0]
      exact hb
/-! ### turns -/
def nthI (l : List Int) (k : Nat) : Int := l.getD k 0
/-- Behind k whole writes. -/
def turn (l : List Int) : Nat → St
  | 0 => st0
  | k + 1 => (writeR (turn l k) (nthI l k) false).1
/-- What the slots hold behind k writes: the last one's slot, the other one's. -/
theorem turn_is (l : List Int) (k : Nat) (hk : k ≤ 1099511627776) : (k = 0 ∧ turn l k = st0) ∨ (k = 1 ∧ turn l k = ⟨⟨true, 1, nthI l 0⟩, slo0⟩) ∨
    (2 ≤ k ∧ k % 2 = 0 ∧ turn l k = ⟨⟨true, (k : Int) - 1, nthI l (k - 2)⟩, ⟨true, k, nthI l (k - 1)⟩⟩) ∨ (2 ≤ k ∧ k % 2 = 1 ∧ turn l k = ⟨⟨true, k, nthI l (k - 1)⟩, ⟨true, (k : Int) - 1, nthI l (k - 2)⟩⟩) := by
  induction k with
  | zero => exact .inl ⟨rfl, rfl⟩
  | succ k ih =>
    rcases ih (by omega) with ⟨rfl, h⟩ | ⟨rfl, h⟩ | ⟨h2, hm, h⟩ | ⟨h2, hm, h⟩
    · refine .inr (.inl ⟨rfl, ?_⟩)
      rw [turn, h]
      simp [writeR, right, okC, st0, slo0, nextC, newer, newS]
    · refine .inr (.inr (.inl ⟨by omega, by omega, ?_⟩))
      rw [turn, h]
      simp [writeR, right, okC, slo0, nextC, newer, newS, cur]
    · refine .inr (.inr (.inr ⟨by omega, by omega, ?_⟩))
      rw [turn, h]
      have hr : right ⟨⟨true, (k : Int) - 1, nthI l (k - 2)⟩, ⟨true, k, nthI l (k - 1)⟩⟩ = true := right_iff.2 ⟨by simp; omega, by simp; omega, by simp; omega⟩
      have hn : newer ⟨⟨true, (k : Int) - 1, nthI l (k - 2)⟩, ⟨true, k, nthI l (k - 1)⟩⟩ = 1 := by simp [newer]; omega
      have hc : nextC ⟨⟨true, (k : Int) - 1, nthI l (k - 2)⟩, ⟨true, k, nthI l (k - 1)⟩⟩ = (k : Int) + 1 := by unfold nextC cur; rw [hn]; simp
      unfold writeR newS
      rw [if_pos hr, hc, if_neg (by omega), hn]
      simp
    · refine .inr (.inr (.inl ⟨by omega, by omega, ?_⟩))
      rw [turn, h]
      have hr : right ⟨⟨true, k, nthI l (k - 1)⟩, ⟨true, (k : Int) - 1, nthI l (k - 2)⟩⟩ = true := right_iff.2 ⟨by simp; omega, by simp; omega, by simp; omega⟩
      have hn : newer ⟨⟨true, k, nthI l (k - 1)⟩, ⟨true, (k : Int) - 1, nthI l (k - 2)⟩⟩ = 0 := by simp [newer]; omega
      have hc : nextC ⟨⟨true, k, nthI l (k - 1)⟩, ⟨true, (k : Int) - 1, nthI l (k - 2)⟩⟩ = (k : Int) + 1 := by unfold nextC cur; rw [hn]; simp
      unfold writeR newS
      rw [if_pos hr, hc, if_neg (by omega), hn]
      simp
end Go.Proofs.Ytpjhihmbgahagaa.Twn
