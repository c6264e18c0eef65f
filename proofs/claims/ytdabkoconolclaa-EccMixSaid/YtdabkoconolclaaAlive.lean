/-
  What the two helpers of the statements return: the small test that the code is not empty returns true, and the turning of one of 72 bits.
-/
import Derived.Test.YtdabkoconolclaaWalks
import Derived.Deep.QuietTactic
import Derived.BigQuiet
namespace Go.Proofs.Ytdabkoconolclaa.Ecc
open Go.ChangeShapes Go.WideShapes Go.ChangeAt Go.RowKit

theorem shl8' (k : Nat) (hk : k < 8) : IntKind.u8.wrap ((2 : Int) ^ k) = ((2 ^ k : Nat) : Int) := by
  have hp : 2 ^ k < 256 := Nat.lt_of_lt_of_le (Nat.pow_lt_pow_right (by decide) hk) (by decide)
  have e : ((2 : Int) ^ k) = ((2 ^ k : Nat) : Int) := by simp
  rw [e, IntKind.wrap_u8]
  generalize 2 ^ k = n at *
  omega
theorem alive (w : World) : Calls Try.prog 12 #[] w fun e w' => e = .returned (.bool true) ∧ w = w' := by
  have c0 := checkBits 0 (by decide) w
  have c1 := checkBits 1 (by decide) w
  have c2 := checkBits 2 (by decide) w
  rw [show check 0 = 0 by decide +kernel] at c0
  rw [show check 1 = 131 by decide +kernel] at c1
  rw [show check 2 = 133 by decide +kernel] at c2
  have m1 := mend 6 133 (by decide) (by decide) w
  have m2 := mend 7 131 (by decide) (by decide) w
  rw [show mendR 6 133 (act (check 6 ^^^ 133)) = .returned (.tuple #[.int .u64 2, .int .u8 133, .int .i64 1, .int .i64 0]) by rw [show act (check 6 ^^^ 133) = (4, 0, 1, 0) by decide +kernel]; rfl] at m1
  rw [show mendR 7 131 (act (check 7 ^^^ 131)) = .returned (.tuple #[.int .u64 0, .int .u8 0, .int .i64 0, .int .i64 7]) by rw [show act (check 7 ^^^ 131) = (0, 0, 0, 7) by decide +kernel]; rfl] at m2
  have C0 := Lib.hid c0
  have C1 := Lib.hid c1
  have C2 := Lib.hid c2
  have M1 := Lib.hid m1
  have M2 := Lib.hid m2
  clear c0 c1 c2 m1 m2
  go_enter Try.func12, Try.ntmps12
  go_wp2_with fail
  refine (C2.out).mono ?_; rintro e w' ⟨rfl, rfl⟩
  go_wp2_with fail
  refine (M1.out).mono ?_; rintro e w' ⟨rfl, rfl⟩
  go_wp2_with fail
  refine (C1.out).mono ?_; rintro e w' ⟨rfl, rfl⟩
  go_wp2_with fail
  refine (M2.out).mono ?_; rintro e w' ⟨rfl, rfl⟩
  go_wp2_with fail
  refine (C0.out).mono ?_; rintro e w' ⟨rfl, rfl⟩
  go_wp2_with fail
  refine (C1.out).mono ?_; rintro e w' ⟨rfl, rfl⟩
  go_wp2_with fail
  refine (C2.out).mono ?_; rintro e w' ⟨rfl, rfl⟩
  go_wp2_with fail
  go_ret
  exact ⟨rfl, rfl⟩

theorem turned_low (d c k : Nat) (hd : d < 18446744073709551616) (hk : k < 64) (w : World) :
    Calls Try.prog 13 #[.int .u64 d, .int .u8 c, .int .i64 k] w fun e w' => e = .returned (.tuple #[.int .u64 (d ^^^ 2 ^ k : Nat), .int .u8 c]) ∧ w = w' := by
  have hpow : 2 ^ k < 18446744073709551616 := Nat.lt_of_lt_of_le (Nat.pow_lt_pow_right (by decide) hk) (by decide)
  have HX : Hid (bits .xor .u64 (d : Int) (IntKind.u64.wrap ((2 : Int) ^ k)) = ((d ^^^ 2 ^ k : Nat) : Int)) := Lib.hid (by rw [shl64 k hk, xor64 d (2 ^ k) hd hpow])
  clear hpow
  go_enter Try.func13, Try.ntmps13
  go_wp2
  go_ret2
  refine ⟨?_, rfl⟩
  rw [← HX.out]
  rfl
theorem turned_high (d c k : Nat) (hc : c < 256) (hk : k < 8) (w : World) :
    Calls Try.prog 13 #[.int .u64 d, .int .u8 c, .int .i64 (64 + k : Nat)] w fun e w' => e = .returned (.tuple #[.int .u64 d, .int .u8 (c ^^^ 2 ^ k : Nat)]) ∧ ∃ n, w' = w.drewN n := by
  have hpow : 2 ^ k < 256 := Nat.lt_of_lt_of_le (Nat.pow_lt_pow_right (by decide) hk) (by decide)
  have HX : Hid (bits .xor .u8 (c : Int) (IntKind.u8.wrap ((2 : Int) ^ k)) = ((c ^^^ 2 ^ k : Nat) : Int)) := Lib.hid (by rw [shl8' k hk, xor8 c (2 ^ k) hc hpow])
  clear hpow
  go_enter Try.func13, Try.ntmps13
  go_wp2
  go_quiet (fail)
  go_wp2
  go_ret2
  refine ⟨?_, nq, rfl⟩
  rw [← HX.out, IntKind.wrap_u8]
  rfl
/-! ### the k-th of the 72 bits -/
def turnD (k d : Nat) : Nat := if k < 64 then d ^^^ 2 ^ k else d
def turnC (k c : Nat) : Nat := if k < 64 then c else c ^^^ 2 ^ (k - 64)
theorem turnD_lt (k d : Nat) (hd : d < 18446744073709551616) : turnD k d < 18446744073709551616 := by
  unfold turnD
  by_cases h : k < 64
  · rw [if_pos h]
    exact Nat.xor_lt_two_pow (n := 64) hd (Nat.lt_of_lt_of_le (Nat.pow_lt_pow_right (by decide) h) (by decide))
  · rw [if_neg h]; exact hd
theorem turnC_lt (k c : Nat) (hk : k < 72) (hc : c < 256) : turnC k c < 256 := by
  unfold turnC
  by_cases h : k < 64
  · rw [if_pos h]; exact hc
  · rw [if_neg h]
    exact Nat.xor_lt_two_pow (n := 8) hc (Nat.lt_of_lt_of_le (Nat.pow_lt_pow_right (by decide) (show k - 64 < 8 by omega)) (by decide))
theorem turned (d c k : Nat) (hd : d < 18446744073709551616) (hc : c < 256) (hk : k < 72) (w : World) :
    Calls Try.prog 13 #[.int .u64 d, .int .u8 c, .int .i64 k] w fun e w' => e = .returned (.tuple #[.int .u64 (turnD k d : Nat), .int .u8 (turnC k c : Nat)]) ∧ ∃ n, w' = w.drewN n := by
  unfold turnD turnC
  by_cases h : k < 64
  · rw [if_pos h, if_pos h]
    exact (turned_low d c k hd h w).mono fun e w' ⟨h1, h2⟩ => ⟨h1, 0, h2.symm⟩
  · rw [if_neg h, if_neg h]
    obtain ⟨m, rfl⟩ : ∃ m, k = 64 + m := ⟨k - 64, by omega⟩
    rw [show 64 + m - 64 = m by omega]
    exact turned_high d c m hc (by omega) w
theorem turn_diff (d c k : Nat) : check (turnD k d) ^^^ turnC k c = check d ^^^ c ^^^ turn k := by
  unfold turnD turnC turn
  by_cases h : k < 64
  · rw [if_pos h, if_pos h, if_pos h, check_xor, xor_mid]
  · rw [if_neg h, if_neg h, if_neg h, Nat.xor_assoc]
/-- One turned bit is mended. -/
theorem mend_one (d k : Nat) (hd : d < 18446744073709551616) (hk : k < 72) (w : World) :
    Calls Try.prog 8 #[.int .u64 (turnD k d : Nat), .int .u8 (turnC k (check d) : Nat)] w fun e w' => e = .returned (.tuple #[.int .u64 d, .int .u8 (check d : Nat), .int .i64 1, .int .i64 0]) ∧ w = w' := by
  have hm := mend (turnD k d) (turnC k (check d)) (turnD_lt k d hd) (turnC_lt k _ hk (check_lt d)) w
  rw [turn_diff, Nat.xor_self, Nat.zero_xor, act_turn k hk] at hm
  refine hm.mono fun e w' ⟨h1, h2⟩ => ⟨?_, h2⟩
  rw [h1]
  unfold mask turnD turnC
  by_cases h : k < 64
  · rw [if_pos h, if_pos h, if_pos h]
    exact (mendR_ok _ _ _ _ 1 _ _ (by rw [Nat.xor_assoc, Nat.xor_self, Nat.xor_zero]) (by rw [Nat.xor_zero])).symm
  · rw [if_neg h, if_neg h, if_neg h]
    exact (mendR_ok _ _ _ _ 1 _ _ (by rw [Nat.xor_zero]) (by rw [Nat.xor_assoc, Nat.xor_self, Nat.xor_zero])).symm
/-- Nothing turned: nothing mended. -/
theorem mend_none (d c : Nat) (hd : d < 18446744073709551616) (hc : c < 256) (h : check d = c) (w : World) :
    Calls Try.prog 8 #[.int .u64 d, .int .u8 c] w fun e w' => e = .returned (.tuple #[.int .u64 d, .int .u8 c, .int .i64 0, .int .i64 0]) ∧ w = w' := by
  have hm := mend d c hd hc w
  rw [h, Nat.xor_self, act_zero] at hm
  refine hm.mono fun e w' ⟨h1, h2⟩ => ⟨?_, h2⟩
  rw [h1]
  exact (mendR_ok _ _ _ _ 0 _ _ (by rw [Nat.xor_zero]) (by rw [Nat.xor_zero])).symm
theorem mend_err (d c : Nat) (hd : d < 18446744073709551616) (hc : c < 256) (h : act (check d ^^^ c) = (0, 0, 0, 7)) (w : World) :
    Calls Try.prog 8 #[.int .u64 d, .int .u8 c] w fun e w' => e = .returned (.tuple #[.int .u64 0, .int .u8 0, .int .i64 0, .int .i64 7]) ∧ w = w' := by
  have hm := mend d c hd hc w
  rw [h] at hm
  exact hm
end Go.Proofs.Ytdabkoconolclaa.Ecc
