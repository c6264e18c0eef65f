/-
  What each function of package ecc, and each that it calls, returns: walked through the program's text.
-/
import Derived.Test.YtdabkoconolclaaRows
import Derived.Test.YtdabkoconolclaaPlain
import Derived.WalkKit
import Derived.ProofKit
import Derived.Lib.Hide
import Derived.Lib.Walk
namespace Go.Proofs.Ytdabkoconolclaa.Ecc
open Go.ChangeShapes Go.WideShapes Go.ChangeAt Go.RowKit

theorem ret_int {k : IntKind} {a b : Int} (h : a = b) : Ending.returned (.int k a) = .returned (.int k b) := by rw [h]
theorem ret_bool {a b : Bool} (h : a = b) : Ending.returned (.bool a) = .returned (.bool b) := by rw [h]

/-! ### math/bits -/
def i1 (x : Int) : Int := IntKind.u64.wrap (bits BinOp.and IntKind.u64 (x / 2) 6148914691236517205 + bits BinOp.and IntKind.u64 x 6148914691236517205)
def i2 (x : Int) : Int := IntKind.u64.wrap (bits BinOp.and IntKind.u64 (x / 4) 3689348814741910323 + bits BinOp.and IntKind.u64 x 3689348814741910323)
def i3 (x : Int) : Int := bits BinOp.and IntKind.u64 (IntKind.u64.wrap (x / 16 + x)) 1085102592571150095
def i4 (x : Int) : Int := IntKind.u64.wrap (x + x / 256)
def i5 (x : Int) : Int := IntKind.u64.wrap (x + x / 65536)
def i6 (x : Int) : Int := IntKind.u64.wrap (x + x / 4294967296)
def i7 (x : Int) : Int := bits BinOp.and IntKind.i64 (wrap64 x) 127
theorem and64 (a b : Nat) (ha : a < 18446744073709551616) (hb : b < 18446744073709551616) : bits .and .u64 (a : Int) (b : Int) = ((a &&& b : Nat) : Int) := u64_and_nat a b ha hb
theorem i1_eq (x : Nat) (h : x < 18446744073709551616) : i1 x = (mb s1 8 x : Nat) := by
  have hb := mb_lt s1 s1_lt 8 x
  have a := and64 (x / 2) 6148914691236517205 (by omega) (by decide)
  have b := and64 x 6148914691236517205 h (by decide)
  unfold i1
  rw [show ((x : Int) / 2) = ((x / 2 : Nat) : Int) by omega, show (6148914691236517205 : Int) = ((6148914691236517205 : Nat) : Int) from rfl, a, b, ← Int.natCast_add, step1, IntKind.wrap_u64]
  omega
theorem i2_eq (x : Nat) : i2 (mb s1 8 x : Nat) = (mb (fun y => s2 (s1 y)) 8 x : Nat) := by
  have hb := mb_lt (fun y => s2 (s1 y)) s21_lt 8 x
  have hc := mb_lt s1 s1_lt 8 x
  have hd := step2 (mb s1 8 x)
  rw [mb_comp s1 s2 s1_lt] at hd
  generalize mb s1 8 x = v at *
  have a := and64 (v / 4) 3689348814741910323 (by omega) (by decide)
  have b := and64 v 3689348814741910323 (by omega) (by decide)
  unfold i2
  rw [show ((v : Int) / 4) = ((v / 4 : Nat) : Int) by omega, show (3689348814741910323 : Int) = ((3689348814741910323 : Nat) : Int) from rfl, a, b, ← Int.natCast_add, hd, IntKind.wrap_u64]
  omega
theorem i3_eq (x : Nat) : i3 (mb (fun y => s2 (s1 y)) 8 x : Nat) = (mb (Lib.popAux 8) 8 x : Nat) := by
  have hd := step3 (fun y => s2 (s1 y)) s21_low 8 x
  rw [mb_congr (fun y => s3 (s2 (s1 y))) (Lib.popAux 8) s321 8 x, m15] at hd
  have hw := s21_all x
  generalize mb (fun y => s2 (s1 y)) 8 x = v at *
  have a := and64 (v / 16 + v) 1085102592571150095 (by omega) (by decide)
  unfold i3
  rw [show ((v : Int) / 16 + (v : Int)) = ((v / 16 + v : Nat) : Int) by omega, IntKind.wrap_u64, show (((v / 16 + v : Nat) : Int) % 18446744073709551616) = ((v / 16 + v : Nat) : Int) by omega, show (1085102592571150095 : Int) = ((1085102592571150095 : Nat) : Int) from rfl, a, hd]
theorem i4567_eq (x : Nat) : i7 (i6 (i5 (i4 (mb (Lib.popAux 8) 8 x : Nat)))) = (Lib.popAux 64 x : Nat) := by
  have hf := fold6_eq x
  unfold fold6 at hf
  generalize mb (Lib.popAux 8) 8 x = v at *
  obtain ⟨h1, h2⟩ := hf
  have e4 : i4 (v : Int) = ((v + v / 256 : Nat) : Int) := by unfold i4; rw [IntKind.wrap_u64]; omega
  rw [e4]
  have hb : v + v / 256 < 1100000000000000000 := by omega
  generalize v + v / 256 = v4 at *
  have e5 : i5 (v4 : Int) = ((v4 + v4 / 65536 : Nat) : Int) := by unfold i5; rw [IntKind.wrap_u64]; omega
  rw [e5]
  have hb2 : v4 + v4 / 65536 < 1200000000000000000 := by omega
  generalize v4 + v4 / 65536 = v5 at *
  have e6 : i6 (v5 : Int) = ((v5 + v5 / 4294967296 : Nat) : Int) := by unfold i6; rw [IntKind.wrap_u64]; omega
  rw [e6]
  have hb3 : v5 + v5 / 4294967296 < 1300000000000000000 := by omega
  generalize v5 + v5 / 4294967296 = v6 at *
  unfold i7
  rw [IntWalk.wrap64_in _ ⟨by omega, by omega⟩, i64_and127]
  omega
theorem ones64_eq (x : Nat) (h : x < 18446744073709551616) : i7 (i6 (i5 (i4 (i3 (i2 (i1 x)))))) = (Lib.popAux 64 x : Nat) := by
  rw [i1_eq x h, i2_eq x, i3_eq x, i4567_eq]
set_option maxHeartbeats 1000000 in
theorem ones64 (x : Nat) (h : x < 18446744073709551616) (w : World) :
    Calls Try.prog 18 #[.int .u64 x] w fun e w' => e = .returned (.int .i64 (Lib.popAux 64 x : Nat)) ∧ w = w' := by
  have H := Lib.hid (ones64_eq x h)
  go_enter Try.func18, Try.ntmps18
  go_wp2
  go_ret
  refine ⟨?_, rfl⟩
  rw [← H.out]
  rfl

theorem pop8tab_get (x : Nat) (h : x < Lib.pop8tab.size) : (Lib.pop8tab[x]).toNat = Lib.popAux 8 x := by
  have all : ∀ j : Fin Lib.pop8tab.size, (Lib.pop8tab[j.val]'j.isLt).toNat = Lib.popAux 8 j.val := by decide +kernel
  exact all ⟨x, h⟩
set_option maxRecDepth 100000 in
theorem ones8 (x : Nat) (h : x < 256) (w : World) :
    Calls Try.prog 19 #[.int .u8 x] w fun e w' => e = .returned (.int .i64 (Lib.popAux 8 x : Nat)) ∧ w = w' := by
  go_enter Try.func19, Try.ntmps19
  go_wp2
  go_ret
  have hl := popAux_le 8 x
  exact ⟨ret_int (by rw [pop8tab_get]; exact IntWalk.wrap64_in _ ⟨by omega, by omega⟩), rfl⟩

set_option maxHeartbeats 4000000 in
set_option maxRecDepth 100000 in
theorem len64 (x : Int) (h0 : 0 ≤ x) (h1 : x ≤ 255) (w : World) :
    Calls Try.prog 22 #[.int .u64 x] w fun e w' => e = .returned (.int .i64 (Lib.bitLen x.toNat)) ∧ w = w' := by
  go_enter Try.func22, Try.ntmps22
  go_wp2
  go_ret
  refine ⟨ret_int ?_, rfl⟩
  have hl := Lib.bitLen_le8' x h0 h1
  rw [Lib.len8_of x h0 h1]
  generalize Lib.bitLen x.toNat = n at *
  rw [IntWalk.wrap64_in (n : Int) ⟨by omega, by omega⟩, IntWalk.wrap64_in (n : Int) ⟨by omega, by omega⟩]
theorem len (x : Int) (h0 : 0 ≤ x) (h1 : x ≤ 255) (w : World) :
    Calls Try.prog 20 #[.int .u64 x] w fun e w' => e = .returned (.int .i64 (Lib.bitLen x.toNat)) ∧ w = w' := by
  go_enter Try.func20, Try.ntmps20
  go_wp2_with (go_at_call 22; refine (len64 _ h0 h1 _).mono ?_; rintro e w' ⟨rfl, rfl⟩)
  go_ret
  exact ⟨rfl, rfl⟩

/-! ### package ecc -/
theorem isPower (p : Nat) (h1 : 1 ≤ p) (h2 : p ≤ 200) (w : World) :
    Calls Try.prog 16 #[.int .u64 p] w fun e w' => e = .returned (.bool (isP p)) ∧ w = w' := by
  have a := and64 p (p - 1) (by omega) (by omega)
  rw [show ((p - 1 : Nat) : Int) = (p : Int) - 1 by omega] at a
  have A := Lib.hid a; clear a
  go_enter Try.func16, Try.ntmps16
  go_wp2
  go_ret
  refine ⟨ret_bool ?_, rfl⟩
  rw [A.out, isP]
  rw [Bool.eq_iff_iff]
  simp only [beq_iff_eq]
  omega
theorem wb_le : ∀ p, p < 72 → 3 ≤ p → isP p = false → Lib.bitLen p + 1 ≤ p ∧ p - Lib.bitLen p - 1 < 64 := by decide +kernel
theorem wordBit (p : Nat) (h1 : 3 ≤ p) (h2 : p ≤ 71) (hp : isP p = false) (w : World) :
    Calls Try.prog 17 #[.int .u64 p] w fun e w' => e = .returned (.int .i64 (wb p : Nat)) ∧ w = w' := by
  have hl := wb_le p (by omega) h1 hp
  have hc := len (p : Int) (by omega) (by omega) w
  rw [Int.toNat_natCast] at hc
  have HC := Lib.hid hc; clear hc hp
  have hlA := hl.1
  have hlB : ((Lib.bitLen p : Nat) : Int) + 1 ≤ (p : Int) := by omega
  clear hl
  go_enter Try.func17, Try.ntmps17
  go_wp2_with (go_at_call 20; refine (HC.out).mono ?_; rintro e w' ⟨rfl, rfl⟩)
  go_ret
  refine ⟨ret_int ?_, rfl⟩
  unfold wb
  omega
def oddB (d c : Nat) : Bool := (Lib.popAux 64 d + Lib.popAux 8 c) % 2 == 1
theorem odd (d c : Nat) (hd : d < 18446744073709551616) (hc : c < 256) (w : World) :
    Calls Try.prog 14 #[.int .u64 d, .int .u8 c] w fun e w' => e = .returned (.bool (oddB d c)) ∧ w = w' := by
  have l1 := popAux_le 64 d
  have l2 := popAux_le 8 c
  have H1 := Lib.hid (ones64 d hd w)
  have H2 := Lib.hid (ones8 c hc w)
  unfold oddB
  generalize Lib.popAux 64 d = m at *
  generalize Lib.popAux 8 c = n at *
  go_enter Try.func14, Try.ntmps14
  go_wp2_with (first | (go_at_call 18; refine (H1.out).mono ?_; rintro e w' ⟨rfl, rfl⟩) | (go_at_call 19; refine (H2.out).mono ?_; rintro e w' ⟨rfl, rfl⟩))
  go_ret
  refine ⟨ret_bool ?_, rfl⟩
  rw [Bool.eq_iff_iff]
  simp only [beq_iff_eq]
  omega

theorem bit_test (d k : Nat) (hd : d < 18446744073709551616) (hk : k < 64) : (bits BinOp.and IntKind.u64 ((d : Int) / 2 ^ min k 64) 1 == 1) = d.testBit k := by
  have hm : min k 64 = k := by omega
  have hq : d / 2 ^ k ≤ d := Nat.div_le_self _ _
  have e : ((d : Int) / 2 ^ k) = ((d / 2 ^ k : Nat) : Int) := by simp
  rw [hm, e, show (1 : Int) = ((1 : Nat) : Int) from rfl, and64 _ _ (by omega) (by decide), nat_mask1, Nat.testBit_eq_decide_div_mod_eq, Bool.eq_iff_iff]
  simp only [beq_iff_eq, decide_eq_true_eq]
  omega
theorem xor64 (a b : Nat) (ha : a < 18446744073709551616) (hb : b < 18446744073709551616) : bits .xor .u64 (a : Int) (b : Int) = ((a ^^^ b : Nat) : Int) := u64_xor_nat a b ha hb
theorem sum_step (d n : Nat) (hd : d < 18446744073709551616) (hp : isP (n + 3) = false) (hn : n < 69) :
    (((bits BinOp.and IntKind.u64 ((d : Int) / 2 ^ min (wb (n + 3)) 64) 1 == 1) = true) → bits BinOp.xor IntKind.u64 (sumTo d n : Nat) ((n : Int) + 3) = ((sumTo d (n + 1) : Nat) : Int)) ∧
    (((bits BinOp.and IntKind.u64 ((d : Int) / 2 ^ min (wb (n + 3)) 64) 1 == 1) = false) → sumTo d (n + 1) = sumTo d n) := by
  have hw := (wb_le (n + 3) (by omega) (by omega) hp).2
  have hs := sumTo_lt d n (by omega)
  rw [bit_test d (wb (n + 3)) hd hw]
  refine ⟨fun h => ?_, fun h => ?_⟩
  · rw [show ((n : Int) + 3) = ((n + 3 : Nat) : Int) by omega, xor64 _ _ (by omega) (by omega)]
    simp only [sumTo, hp, h, Bool.not_false, Bool.true_and, cond_true]
  · simp only [sumTo, hp, h, Bool.not_false, Bool.true_and, cond_false]
theorem u64_num {a b : Int} (h : a = b) : Value.int .u64 a = Value.int .u64 b := by rw [h]
theorem posSum (d : Nat) (hd : d < 18446744073709551616) (w : World) :
    Calls Try.prog 15 #[.int .u64 d] w fun e w' => e = .returned (.int .u8 (PS d : Nat)) ∧ w = w' := by
  go_enter Try.func15, Try.ntmps15
  go_wp2
  go_loop [3, 4] (fun s p => ∃ n : Nat, n ≤ 69 ∧ p = .int .u64 (n + 3 : Nat) ∧ s = .int .u64 (sumTo d n : Nat)) (fun _ p => (72 - intOf p).toNat)
  case atStart => exact ⟨0, by omega, rfl, rfl⟩
  case round =>
    obtain ⟨n, hn, rfl, rfl⟩ := hrel
    by_cases hlt : n < 69
    · cases hp : isP (n + 3)
      · have hw := wordBit (n + 3) (by omega) (by omega) hp w
        have hi := isPower (n + 3) (by omega) (by omega) w
        have HS := Lib.hid (sum_step d n hd hp hlt)
        rw [hp] at hi
        have HI := Lib.hid hi; clear hi
        have HW := Lib.hid hw; clear hw
        clear hp
        go_wp2_with (first | (go_at_call 16; refine (HI.out).mono ?_; rintro e w' ⟨rfl, rfl⟩) | (go_at_call 17; refine (HW.out).mono ?_; rintro e w' ⟨rfl, rfl⟩))
        all_goals
          go_round
          case rel => exact ⟨n + 1, by omega, u64_num (by omega), u64_num (by first | exact HS.out.1 (by assumption) | rw [HS.out.2 (by assumption)])⟩
          case measure => simp [intOf]; omega
      · have hi := isPower (n + 3) (by omega) (by omega) w
        rw [hp] at hi
        have HI := Lib.hid hi; clear hi
        have HS : Hid (sumTo d (n + 1) = sumTo d n) := Lib.hid (by simp only [sumTo, hp, Bool.not_true, Bool.false_and, cond_false])
        clear hp
        go_wp2_with (first | (go_at_call 16; refine (HI.out).mono ?_; rintro e w' ⟨rfl, rfl⟩))
        go_round
        case rel => exact ⟨n + 1, by omega, u64_num (by omega), by rw [HS.out]⟩
        case measure => simp [intOf]; omega
    · obtain rfl : n = 69 := by omega
      have hs := PS_lt d
      have HS : Hid (sumTo d 69 = PS d) := Lib.hid rfl
      have hs2 : sumTo d 69 < 128 := hs
      go_wp2
      go_ret
      exact ⟨ret_int (by rw [HS.out]), rfl⟩
theorem or8 (a b : Nat) (ha : a < 256) (hb : b < 256) : bits .or .u8 (a : Int) (b : Int) = ((a ||| b : Nat) : Int) := u8_or_nat a b ha hb
theorem xor8 (a b : Nat) (ha : a < 256) (hb : b < 256) : bits .xor .u8 (a : Int) (b : Int) = ((a ^^^ b : Nat) : Int) := u8_xor_nat a b ha hb
theorem checkBits (d : Nat) (hd : d < 18446744073709551616) (w : World) :
    Calls Try.prog 10 #[.int .u64 d] w fun e w' => e = .returned (.int .u8 (check d : Nat)) ∧ w = w' := by
  have hs := PS_lt d
  have H1 := Lib.hid (posSum d hd w)
  have ho := odd d (PS d) hd (by omega) w
  have hl := last_lt d
  have hd1 : oddB d (PS d) = (last d == 1) := rfl
  have e1 : bits .or .u8 (PS d : Nat) 128 = ((PS d ^^^ 128 : Nat) : Int) := by
    rw [show (128 : Int) = ((128 : Nat) : Int) from rfl, or8 _ _ (by omega) (by decide), or128 _ hs]
  have hc : check d = PS d ^^^ 128 * last d := rfl
  rcases (show last d = 0 ∨ last d = 1 by omega) with h | h
  · rw [h] at hd1 hc
    rw [hd1] at ho
    rw [hc]
    have H2 := Lib.hid ho
    have HC : Hid (PS d ^^^ 128 * 0 = PS d) := Lib.hid (by simp)
    clear e1 hc ho hd1 h hl
    go_enter Try.func10, Try.ntmps10
    go_wp2_with (first | (go_at_call 15; refine (H1.out).mono ?_; rintro e w' ⟨rfl, rfl⟩) | (go_at_call 14; refine (H2.out).mono ?_; rintro e w' ⟨rfl, rfl⟩))
    go_ret
    exact ⟨ret_int (by rw [HC.out]), rfl⟩
  · rw [h] at hd1 hc
    rw [hd1] at ho
    rw [hc]
    have H2 := Lib.hid ho
    have HC := Lib.hid e1
    clear e1 hc ho hd1 h hl
    go_enter Try.func10, Try.ntmps10
    go_wp2_with (first | (go_at_call 15; refine (H1.out).mono ?_; rintro e w' ⟨rfl, rfl⟩) | (go_at_call 14; refine (H2.out).mono ?_; rintro e w' ⟨rfl, rfl⟩))
    go_ret
    exact ⟨ret_int (by rw [HC.out]), rfl⟩

theorem results_tmp4 {fn : Func} {t u v x : Tmp} (h : fn.results = #[.tmp t, .tmp u, .tmp v, .tmp x]) (tmps : Array Value) (P : Program) (w : World) :
    (results fn tmps).run P w = .ok (.tuple #[tmps.getD t undef, tmps.getD u undef, tmps.getD v undef, tmps.getD x undef]) w := by
  simp [results, h]
theorem shl64 (k : Nat) (hk : k < 64) : IntKind.u64.wrap ((2 : Int) ^ k) = ((2 ^ k : Nat) : Int) := by
  have hp : 2 ^ k < 18446744073709551616 := Nat.lt_of_lt_of_le (Nat.pow_lt_pow_right (by decide) hk) (by decide)
  have e : ((2 : Int) ^ k) = ((2 ^ k : Nat) : Int) := by simp
  rw [e, IntKind.wrap_u64]
  generalize 2 ^ k = n at *
  omega
/-- What Mend returns, by what is to be changed. -/
def mendR (d c : Nat) (m : Nat × Nat × Nat × Nat) : Ending := .returned (.tuple #[.int .u64 (ansD d m : Nat), .int .u8 (ansC c m : Nat), .int .i64 (ansN m : Nat), .int .i64 (ansE m : Nat)])
theorem mendR_ok (d c a b n : Nat) (x y : Int) (hx : x = ((d ^^^ a : Nat) : Int)) (hy : y = ((c ^^^ b : Nat) : Int)) : Ending.returned (.tuple #[.int .u64 x, .int .u8 y, .int .i64 (n : Int), .int .i64 0]) = mendR d c (a, b, n, 0) := by
  rw [hx, hy]; rfl
theorem mendR_err (d c : Nat) : Ending.returned (.tuple #[.int .u64 0, .int .u8 0, .int .i64 0, .int .i64 7]) = mendR d c (0, 0, 0, 7) := rfl
theorem andNot8 : ∀ c, c < 256 → c &&& 127 = c % 128 := by decide +kernel
theorem isP_small : ∀ T, T < 3 → T ≠ 0 → isP T = true := by decide +kernel
theorem mend (d c : Nat) (hd : d < 18446744073709551616) (hc : c < 256) (w : World) :
    Calls Try.prog 8 #[.int .u64 d, .int .u8 c] w fun e w' => e = mendR d c (act (check d ^^^ c)) ∧ w = w' := by
  have hk := check_lt d
  have hx : check d ^^^ c < 256 := Nat.xor_lt_two_pow (n := 8) hk hc
  have HC := Lib.hid (checkBits d hd w)
  have ho := odd d c hd hc w
  have HP := Lib.hid (posSum d hd w)
  have hps := PS_lt d
  have hodd : oddB d c = (Lib.popAux 8 (check d ^^^ c) % 2 == 1) := by unfold oddB; rw [odd_eq]
  rw [hodd] at ho
  have hX := xor8 (check d) c hk hc
  have hpl := place_eq d c
  have hA : bits .andNot .u8 (c : Int) 128 = ((c % 128 : Nat) : Int) := by
    rw [show (128 : Int) = ((128 : Nat) : Int) from rfl, u8_andNot_nat c 128 hc (by decide), andNot8 c hc]
  have hB := xor8 (PS d) (c % 128) (by omega) (by omega)
  rw [hpl] at hB
  clear hpl hodd
  generalize check d ^^^ c = S at *
  generalize check d = K at *
  generalize hc7 : c % 128 = c7 at *
  clear hc7
  by_cases h0 : S = 0
  · subst h0
    have HE : Hid (act 0 = (0, 0, 0, 0)) := Lib.hid act_zero
    clear hB hA ho HP hps
    go_enter Try.func8, Try.ntmps8
    go_wp2_with (go_at_call 10; refine (HC.out).mono ?_; rintro e w' ⟨rfl, rfl⟩)
    try simp only [Exit.inBlock, Exit.then]
    refine bodyPost_ret (results_tmp4 rfl _ _ _) rfl ?_
    refine ⟨?_, rfl⟩
    rw [HE.out]
    exact mendR_ok d c 0 0 0 _ _ (by rw [Nat.xor_zero]) (by rw [Nat.xor_zero])
  · have h0' : ((S : Int) == 0) = false := by rw [beq_eq_false_iff_ne]; omega
    by_cases hq : Lib.popAux 8 S % 2 = 0
    · rw [show (Lib.popAux 8 S % 2 == 1) = false by rw [hq]; rfl] at ho
      have HO := Lib.hid ho
      have HE : Hid (act S = (0, 0, 0, 7)) := Lib.hid (by simp only [act, h0, hq, if_true, if_false])
      clear hB hA ho HP hps hq
      go_enter Try.func8, Try.ntmps8
      go_wp2_with (first | (go_at_call 10; refine (HC.out).mono ?_; rintro e w' ⟨rfl, rfl⟩) | (go_at_call 14; refine (HO.out).mono ?_; rintro e w' ⟨rfl, rfl⟩))
      try simp only [Exit.inBlock, Exit.then]
      refine bodyPost_ret (results_tmp4 rfl _ _ _) rfl ⟨?_, rfl⟩
      rw [HE.out]
      exact mendR_err d c
    · rw [show (Lib.popAux 8 S % 2 == 1) = true by rw [beq_iff_eq]; omega] at ho
      have HO := Lib.hid ho; clear ho
      have hT : S % 128 < 128 := Nat.mod_lt _ (by decide)
      have HE : Hid (act S = if S % 128 = 0 then (0, 128, 1, 0) else if isP (S % 128) then (0, S % 128, 1, 0) else if S % 128 ≤ 71 then (2 ^ wb (S % 128), 0, 1, 0) else (0, 0, 0, 7)) :=
        Lib.hid (by simp only [act, h0, hq, if_false])
      have h128 : bits .xor .u8 (c : Int) 128 = ((c ^^^ 128 : Nat) : Int) := xor8 c 128 hc (by decide)
      have hcT := xor8 c (S % 128) hc (by omega)
      generalize S % 128 = T at *
      clear hq
      by_cases hT0 : T = 0
      · subst hT0
        clear hcT
        go_enter Try.func8, Try.ntmps8
        go_wp2_with (first | (go_at_call 10; refine (HC.out).mono ?_; rintro e w' ⟨rfl, rfl⟩) | (go_at_call 14; refine (HO.out).mono ?_; rintro e w' ⟨rfl, rfl⟩) | (go_at_call 15; refine (HP.out).mono ?_; rintro e w' ⟨rfl, rfl⟩))
        try simp only [Exit.inBlock, Exit.then]
        refine bodyPost_ret (results_tmp4 rfl _ _ _) rfl ⟨?_, rfl⟩
        rw [HE.out, if_pos trivial]
        exact mendR_ok d c 0 128 1 _ _ (by rw [Nat.xor_zero]) rfl
      · have hT0' : ((T : Int) == 0) = false := by rw [beq_eq_false_iff_ne]; omega
        have hi := isPower T (by omega) (by omega) w
        rw [HE.out, if_neg hT0]
        clear HE
        cases hp : isP T
        · rw [hp] at hi
          have HI := Lib.hid hi
          by_cases hle : T ≤ 71
          · have h3 : 3 ≤ T := by
              by_cases h : T < 3
              · rw [isP_small T h hT0] at hp; exact absurd hp (by decide)
              · omega
            have HW := Lib.hid (wordBit T h3 hle hp w)
            have hwb := (wb_le T (by omega) h3 hp).2
            have hwb' : wb T < 64 := hwb
            have HE : Hid ((if false = true then (0, T, 1, 0) else if T ≤ 71 then (2 ^ wb T, 0, 1, 0) else (0, 0, 0, 7) : Nat × Nat × Nat × Nat) = (2 ^ wb T, 0, 1, 0)) := Lib.hid (by simp only [hle, if_true]; rfl)
            rw [HE.out]
            clear HE hi hp hcT h128 hwb
            generalize wb T = k at *
            have hpow : 2 ^ k < 18446744073709551616 := Nat.lt_of_lt_of_le (Nat.pow_lt_pow_right (by decide) hwb') (by decide)
            have hXX := xor64 d (2 ^ k) hd hpow
            clear hpow
            go_enter Try.func8, Try.ntmps8
            go_wp2_with (first | (go_at_call 10; refine (HC.out).mono ?_; rintro e w' ⟨rfl, rfl⟩) | (go_at_call 14; refine (HO.out).mono ?_; rintro e w' ⟨rfl, rfl⟩) | (go_at_call 15; refine (HP.out).mono ?_; rintro e w' ⟨rfl, rfl⟩) | (go_at_call 16; refine (HI.out).mono ?_; rintro e w' ⟨rfl, rfl⟩) | (go_at_call 17; refine (HW.out).mono ?_; rintro e w' ⟨rfl, rfl⟩))
            try simp only [Exit.inBlock, Exit.then]
            refine bodyPost_ret (results_tmp4 rfl _ _ _) rfl ⟨?_, rfl⟩
            refine mendR_ok d c (2 ^ k) 0 1 _ _ ?_ (by rw [Nat.xor_zero])
            rw [shl64 k hwb', hXX]
          · have HE : Hid ((if false = true then (0, T, 1, 0) else if T ≤ 71 then (2 ^ wb T, 0, 1, 0) else (0, 0, 0, 7) : Nat × Nat × Nat × Nat) = (0, 0, 0, 7)) := Lib.hid (by simp only [hle, if_false]; rfl)
            rw [HE.out]
            clear HE hi hp hcT h128
            go_enter Try.func8, Try.ntmps8
            go_wp2_with (first | (go_at_call 10; refine (HC.out).mono ?_; rintro e w' ⟨rfl, rfl⟩) | (go_at_call 14; refine (HO.out).mono ?_; rintro e w' ⟨rfl, rfl⟩) | (go_at_call 15; refine (HP.out).mono ?_; rintro e w' ⟨rfl, rfl⟩) | (go_at_call 16; refine (HI.out).mono ?_; rintro e w' ⟨rfl, rfl⟩))
            try simp only [Exit.inBlock, Exit.then]
            refine bodyPost_ret (results_tmp4 rfl _ _ _) rfl ⟨?_, rfl⟩
            exact mendR_err d c
        · rw [hp] at hi
          have HI := Lib.hid hi
          clear hi hp h128
          go_enter Try.func8, Try.ntmps8
          go_wp2_with (first | (go_at_call 10; refine (HC.out).mono ?_; rintro e w' ⟨rfl, rfl⟩) | (go_at_call 14; refine (HO.out).mono ?_; rintro e w' ⟨rfl, rfl⟩) | (go_at_call 15; refine (HP.out).mono ?_; rintro e w' ⟨rfl, rfl⟩) | (go_at_call 16; refine (HI.out).mono ?_; rintro e w' ⟨rfl, rfl⟩))
          try simp only [Exit.inBlock, Exit.then]
          refine bodyPost_ret (results_tmp4 rfl _ _ _) rfl ⟨?_, rfl⟩
          exact mendR_ok d c 0 T 1 _ _ (by rw [Nat.xor_zero]) rfl
end Go.Proofs.Ytdabkoconolclaa.Ecc
