/-
  Plain facts on the error-correcting code: the check bits of a word as a function of its bits, that it is linear under exclusive or, and what is mended as a function of the difference of the check bits (a table of 256 cases, asked by the kernel). No program is named here.
-/
import Derived.Test.YtdabkoconolclaaBits
namespace Go.Proofs.Ytdabkoconolclaa.Ecc
open Go

/-! ### positions -/
def isP (p : Nat) : Bool := p &&& (p - 1) == 0
def wb (p : Nat) : Nat := p - Lib.bitLen p - 1
/-- The exclusive or of the positions from 3 to n + 2 whose bit is set. -/
def sumTo (d : Nat) : Nat → Nat
  | 0 => 0
  | n + 1 => bif (!isP (n + 3) && d.testBit (wb (n + 3))) then sumTo d n ^^^ (n + 3) else sumTo d n
def PS (d : Nat) : Nat := sumTo d 69
theorem xor_swap (a b c : Nat) : a ^^^ c ^^^ (b ^^^ c) = a ^^^ b := by
  rw [Nat.xor_comm b c, ← Nat.xor_assoc, Nat.xor_assoc a c c, Nat.xor_self, Nat.xor_zero]
theorem xor_mid (a b c : Nat) : a ^^^ c ^^^ b = a ^^^ b ^^^ c := by
  rw [Nat.xor_assoc, Nat.xor_comm c b, ← Nat.xor_assoc]
theorem sumTo_xor (a b : Nat) : ∀ n, sumTo (a ^^^ b) n = sumTo a n ^^^ sumTo b n
  | 0 => by simp [sumTo]
  | n + 1 => by
    have ih := sumTo_xor a b n
    simp only [sumTo, Nat.testBit_xor, ih]
    cases isP (n + 3) <;> cases a.testBit (wb (n + 3)) <;> cases b.testBit (wb (n + 3)) <;> simp only [Bool.not_true, Bool.not_false, Bool.true_and, Bool.false_and, Bool.xor_self, Bool.xor_true, Bool.xor_false, cond_true, cond_false]
    · exact (Nat.xor_assoc _ _ _)
    · exact (xor_mid _ _ _)
    · exact (xor_swap _ _ _).symm
theorem sumTo_lt (d : Nat) : ∀ n, n ≤ 69 → sumTo d n < 128
  | 0, _ => by simp [sumTo]
  | n + 1, h => by
    have ih := sumTo_lt d n (by omega)
    simp only [sumTo]
    cases (!isP (n + 3) && d.testBit (wb (n + 3)))
    · exact ih
    · exact Nat.xor_lt_two_pow (n := 7) ih (by omega)
theorem PS_xor (a b : Nat) : PS (a ^^^ b) = PS a ^^^ PS b := sumTo_xor a b 69
theorem PS_lt (d : Nat) : PS d < 128 := sumTo_lt d 69 (Nat.le_refl _)

/-- The last check bit, 0 or 1. -/
def last (d : Nat) : Nat := (Lib.popAux 64 d + Lib.popAux 8 (PS d)) % 2
def check (d : Nat) : Nat := PS d ^^^ 128 * last d
theorem last_lt (d : Nat) : last d < 2 := Nat.mod_lt _ (by decide)
theorem last_xor (a b : Nat) : 128 * last (a ^^^ b) = 128 * last a ^^^ 128 * last b := by
  have h1 := popAux_xor 64 a b
  have h2 := popAux_xor 8 (PS a) (PS b)
  have h : last (a ^^^ b) = (last a + last b) % 2 := by unfold last; rw [PS_xor]; omega
  rw [h]
  rcases (show last a = 0 ∨ last a = 1 by have := last_lt a; omega) with ha | ha <;> rcases (show last b = 0 ∨ last b = 1 by have := last_lt b; omega) with hb | hb <;> rw [ha, hb] <;> rfl
theorem check_xor (a b : Nat) : check (a ^^^ b) = check a ^^^ check b := by
  unfold check
  rw [PS_xor, last_xor]
  rw [Nat.xor_assoc, Nat.xor_assoc, ← Nat.xor_assoc (PS b), Nat.xor_comm (PS b) (128 * last a), Nat.xor_assoc]
theorem check_lt (d : Nat) : check d < 256 := by
  have h1 := PS_lt d
  have h2 := last_lt d
  exact Nat.xor_lt_two_pow (n := 8) (by omega) (by omega)
theorem or128 : ∀ s, s < 128 → s ||| 128 = s ^^^ 128 := by decide +kernel
theorem low7 : ∀ s, s < 128 → ∀ l, l < 2 → (s ^^^ 128 * l) % 128 = s := by decide +kernel
theorem xor_low (a b : Nat) : (a ^^^ b) % 128 = a % 128 ^^^ b % 128 := Nat.xor_mod_two_pow (n := 7)
/-- The place that a word and its check bits point to. -/
theorem place_eq (d c : Nat) : PS d ^^^ c % 128 = (check d ^^^ c) % 128 := by
  rw [xor_low, show check d % 128 = PS d from low7 _ (PS_lt d) _ (last_lt d)]
theorem xor_cancel (a b : Nat) : a ^^^ (a ^^^ b) = b := by rw [← Nat.xor_assoc, Nat.xor_self, Nat.zero_xor]

theorem pop_last : ∀ s, s < 128 → ∀ l, l < 2 → Lib.popAux 8 (s ^^^ 128 * l) = Lib.popAux 8 s + l := by decide +kernel
/-- Whether the number of 1 bits in both is odd: by the difference of the check bits alone. -/
theorem odd_eq (d c : Nat) : (Lib.popAux 64 d + Lib.popAux 8 c) % 2 = Lib.popAux 8 (check d ^^^ c) % 2 := by
  have h1 := popAux_xor 8 (check d) c
  have h2 : Lib.popAux 8 (check d) = Lib.popAux 8 (PS d) + last d := pop_last _ (PS_lt d) _ (last_lt d)
  have h3 : last d = (Lib.popAux 64 d + Lib.popAux 8 (PS d)) % 2 := rfl
  omega

/-! ### what is mended: bits of the word, bits of the check bits, how many, the error -/
def act (S : Nat) : Nat × Nat × Nat × Nat :=
  if S = 0 then (0, 0, 0, 0)
  else if Lib.popAux 8 S % 2 = 0 then (0, 0, 0, 7)
  else if S % 128 = 0 then (0, 128, 1, 0)
  else if isP (S % 128) then (0, S % 128, 1, 0)
  else if S % 128 ≤ 71 then (2 ^ wb (S % 128), 0, 1, 0)
  else (0, 0, 0, 7)
def ansD (d : Nat) (m : Nat × Nat × Nat × Nat) : Nat := if m.2.2.2 = 0 then d ^^^ m.1 else 0
def ansC (c : Nat) (m : Nat × Nat × Nat × Nat) : Nat := if m.2.2.2 = 0 then c ^^^ m.2.1 else 0
def ansN (m : Nat × Nat × Nat × Nat) : Nat := m.2.2.1
def ansE (m : Nat × Nat × Nat × Nat) : Nat := m.2.2.2
/-- The k-th of the 72 bits, by what it does to the difference. -/
def turn (k : Nat) : Nat := if k < 64 then check (2 ^ k) else 2 ^ (k - 64)
def mask (k : Nat) : Nat × Nat × Nat × Nat := if k < 64 then (2 ^ k, 0, 1, 0) else (0, 2 ^ (k - 64), 1, 0)
theorem act_zero : act 0 = (0, 0, 0, 0) := by decide +kernel
theorem act_turn : ∀ k, k < 72 → act (turn k) = mask k := by decide +kernel
theorem act_none' : ∀ S, S < 256 → (S == 0 || act S == (0, 0, 0, 7) || (List.range 72).any fun k => turn k == S) = true := by decide +kernel
theorem act_none (S : Nat) (h : S < 256) (h0 : S ≠ 0) (hk : ∀ k, k < 72 → turn k ≠ S) : act S = (0, 0, 0, 7) := by
  have a := act_none' S h
  simp only [Bool.or_eq_true, beq_iff_eq, List.any_eq_true, List.mem_range] at a
  rcases a with (a | a) | ⟨k, h1, h2⟩
  · exact absurd a h0
  · exact a
  · exact absurd h2 (hk k h1)
theorem act_two' : ∀ i, i < 72 → ∀ j, j < 72 → (i == j || act (turn i ^^^ turn j) == (0, 0, 0, 7)) = true := by decide +kernel
theorem act_two (i j : Nat) (hi : i < 72) (hj : j < 72) (h : i ≠ j) : act (turn i ^^^ turn j) = (0, 0, 0, 7) := by
  have a := act_two' i hi j hj
  simp only [Bool.or_eq_true, beq_iff_eq] at a
  rcases a with a | a
  · exact absurd a h
  · exact a
theorem act_ok : ∀ S, S < 256 → (act S).2.2.2 = 0 → check (act S).1 ^^^ (act S).2.1 = S ∧ (act S).1 < 18446744073709551616 ∧ (act S).2.1 < 256 ∧ ((act S).2.2.1 = 0 ↔ ((act S).1 = 0 ∧ (act S).2.1 = 0)) := by decide +kernel
theorem act_err : ∀ S, S < 256 → (act S).2.2.2 ≠ 0 → act S = (0, 0, 0, 7) := by decide +kernel
theorem turn_lt : ∀ k, k < 72 → turn k < 256 := by decide +kernel
theorem turn_ne : ∀ k, k < 72 → turn k ≠ 0 := by decide +kernel

/-! ### the same check bits, bit by bit -/
def pows (q : Nat) : Bool := q == 4 || q == 8 || q == 16 || q == 32 || q == 64
/-- The position of the bit before the j-th. -/
def posn : Nat → Nat
  | 0 => 2
  | j + 1 => bif pows (posn j + 1) then posn j + 2 else posn j + 1
def refSum (d : Nat) : Nat → Nat
  | 0 => 0
  | j + 1 => bif d.testBit j then refSum d j ^^^ posn (j + 1) else refSum d j
theorem posn_le : ∀ j, j < 65 → posn j ≤ 71 ∧ pows (posn (j + 1)) = false := by decide +kernel
theorem refSum_lt (d : Nat) : ∀ j, j ≤ 64 → refSum d j < 128
  | 0, _ => by simp [refSum]
  | j + 1, h => by
    have ih := refSum_lt d j (by omega)
    have hp := (posn_le (j + 1) (by omega)).1
    simp only [refSum]
    cases d.testBit j
    · exact ih
    · exact Nat.xor_lt_two_pow (n := 7) ih (by omega)
/-- How many positions from 3 to n + 2 belong to bits of the word. -/
def cnt : Nat → Nat
  | 0 => 0
  | n + 1 => bif isP (n + 3) then cnt n else cnt n + 1
theorem cnt_at : ∀ n, n < 69 → (isP (n + 3) = true ∨ (wb (n + 3) = cnt n ∧ posn (cnt n + 1) = n + 3)) := by decide +kernel
theorem sum_ref (d : Nat) : ∀ n, n ≤ 69 → sumTo d n = refSum d (cnt n)
  | 0, _ => by simp [sumTo, cnt, refSum]
  | n + 1, h => by
    have ih := sum_ref d n (by omega)
    have hc := cnt_at n (by omega)
    simp only [sumTo, cnt]
    cases hp : isP (n + 3)
    · rw [hp] at hc
      rcases hc with hc | ⟨h1, h2⟩
      · exact absurd hc (by decide)
      · simp only [Bool.not_false, Bool.true_and, cond_false, refSum, h1, h2, ih]
    · simp only [Bool.not_true, Bool.false_and, cond_false, cond_true, ih]
theorem cnt_all : cnt 69 = 64 := by decide +kernel
theorem refSum_eq (d : Nat) : refSum d 64 = PS d := by
  have h := sum_ref d 69 (Nat.le_refl _)
  rw [cnt_all] at h
  exact h.symm
theorem pop_half : ∀ x, x < 128 → Lib.popAux 8 x = x % 2 + Lib.popAux 8 (x / 2) := by decide +kernel
theorem pop_next (j d : Nat) : Lib.popAux (j + 1) d = Lib.popAux j d + d / 2 ^ j % 2 := by
  rw [popAux_add j 1 d]; simp [Lib.popAux]
theorem xor_add : ∀ s, s < 128 → ∀ l, l < 2 → s ^^^ 128 * l = s + 128 * l := by decide +kernel
theorem check_add (d : Nat) : check d = PS d + 128 * last d := xor_add _ (PS_lt d) _ (last_lt d)
theorem bit_ref (d j : Nat) : (d / 2 ^ j % 2 = 1 ∧ refSum d (j + 1) = refSum d j ^^^ posn (j + 1)) ∨ (d / 2 ^ j % 2 = 0 ∧ refSum d (j + 1) = refSum d j) := by
  have h : d.testBit j = decide (d / 2 ^ j % 2 = 1) := Nat.testBit_eq_decide_div_mod_eq
  simp only [refSum]
  rcases Nat.mod_two_eq_zero_or_one (d / 2 ^ j) with e | e
  · right; rw [h, e]; exact ⟨rfl, rfl⟩
  · left; rw [h, e]; exact ⟨rfl, rfl⟩
end Go.Proofs.Ytdabkoconolclaa.Ecc
