/-
  What the two functions of the document's own answer return: the same check bits and the same mending, walked through the program's text.
-/
import Derived.Test.YtdabkoconolclaaWalks
namespace Go.Proofs.Ytdabkoconolclaa.Ecc
open Go.ChangeShapes Go.WideShapes Go.ChangeAt Go.RowKit

theorem i64_num {a b : Int} (h : a = b) : Value.int .i64 a = Value.int .i64 b := by rw [h]
theorem xor_i64 (a b : Nat) (ha : a < 128) (hb : b < 128) : bits .xor .i64 (a : Int) (b : Int) = ((a ^^^ b : Nat) : Int) := by
  have hp : a ^^^ b < 2 ^ 7 := Nat.xor_lt_two_pow (n := 7) (by omega) (by omega)
  show IntKind.i64.wrap ((BitVec.ofInt 64 (a : Int) ^^^ BitVec.ofInt 64 (b : Int)).toNat : Int) = _
  rw [BitVec.toNat_xor, ofInt_u64 a (by omega), ofInt_u64 b (by omega), IntKind.wrap_i64]
  omega
theorem pows_no (q : Nat) (h : pows q = false) : ((q : Int) == 4) = false ∧ ((q : Int) == 8) = false ∧ ((q : Int) == 16) = false ∧ ((q : Int) == 32) = false ∧ ((q : Int) == 64) = false := by
  unfold pows at h
  simp only [Bool.or_eq_false_iff, beq_eq_false_iff_ne] at h ⊢
  omega
theorem pows_yes (q : Nat) (h : pows q = true) : q = 4 ∨ q = 8 ∨ q = 16 ∨ q = 32 ∨ q = 64 := by
  unfold pows at h
  simp only [Bool.or_eq_true, beq_iff_eq] at h
  omega
theorem posn_step (j : Nat) : (pows (posn j + 1) = true ∧ posn (j + 1) = posn j + 2) ∨ (pows (posn j + 1) = false ∧ posn (j + 1) = posn j + 1) := by
  simp only [posn]
  cases h : pows (posn j + 1)
  · right; exact ⟨rfl, rfl⟩
  · left; exact ⟨rfl, rfl⟩
theorem checkRef (d : Nat) (hd : d < 18446744073709551616) (w : World) :
    Calls Try.prog 11 #[.int .u64 d] w fun e w' => e = .returned (.int .u8 (check d : Nat)) ∧ w = w' := by
  go_enter Try.func11, Try.ntmps11
  go_wp2
  go_loop [0, 3, 4, 5, 7] (fun x s n p k => ∃ j : Nat, j ≤ 64 ∧ k = .int .i64 j ∧ x = .int .u64 (d / 2 ^ j : Nat) ∧ s = .int .i64 (refSum d j : Nat) ∧ n = .int .i64 (Lib.popAux j d : Nat) ∧ p = .int .i64 (posn j : Nat)) (fun _ _ _ _ k => (64 - intOf k).toNat)
  case atStart => exact ⟨0, by omega, rfl, by simp, rfl, rfl, rfl⟩
  case round =>
    obtain ⟨j, hj, rfl, rfl, rfl, rfl, rfl⟩ := hrel
    by_cases hlt : j < 64
    · have hx1 : d / 2 ^ j < 18446744073709551616 := Nat.lt_of_le_of_lt (Nat.div_le_self _ _) hd
      have hn1 := popAux_le j d
      have hs1 := refSum_lt d j hj
      have hp1 := posn_le j (by omega)
      have hp2 := (posn_le (j + 1) (by omega)).1
      have hp3 := Lib.hid (posn_step j)
      have hN := Lib.hid (pop_next j d)
      have hB := bit_ref d j
      have hX := xor_i64 (refSum d j) (posn (j + 1)) (by omega) (by omega)
      have hD : Hid (d / 2 ^ (j + 1) = d / 2 ^ j / 2) := Lib.hid (by rw [Nat.pow_succ, Nat.div_div_eq_div_mul])
      have hp4 := Lib.hid hp1.2
      have hp5 := hp1.1
      clear hp1
      generalize hg1 : Lib.popAux (j + 1) d = n' at *
      have G1 := Lib.hid hg1; clear hg1
      generalize hg2 : refSum d (j + 1) = s' at *
      have G2 := Lib.hid hg2; clear hg2
      generalize hg3 : d / 2 ^ (j + 1) = x' at *
      have G3 := Lib.hid hg3; clear hg3
      generalize hg4 : posn (j + 1) = p' at *
      have G4 := Lib.hid hg4; clear hg4
      generalize Lib.popAux j d = n at *
      generalize refSum d j = s at *
      generalize d / 2 ^ j = x at *
      generalize posn j = p at *
      have hB' : Hid ((x % 2 = 1 ∧ s' = s ^^^ p') ∨ (x % 2 = 0 ∧ s' = s)) := Lib.hid hB
      clear hB
      have HX := Lib.hid hX
      clear hX
      go_wp2
      go_loop [5] (fun v => ∃ q : Nat, v = .int .i64 q ∧ (q = p + 1 ∨ q = p')) (fun v => ((p' : Int) - intOf v).toNat)
      case atStart => exact ⟨p + 1, rfl, Or.inl rfl⟩
      case round =>
        obtain ⟨q, rfl, hq⟩ := hrel
        by_cases hpq : pows q = true
        · have hq2 : p' = q + 1 ∧ q = p + 1 := by
            have h4 := hp4.out
            rcases hp3.out with ⟨a, b⟩ | ⟨a, b⟩
            · rcases hq with rfl | rfl
              · exact ⟨by omega, rfl⟩
              · rw [h4] at hpq; exact absurd hpq (by decide)
            · rcases hq with rfl | rfl
              · rw [a] at hpq; exact absurd hpq (by decide)
              · rw [h4] at hpq; exact absurd hpq (by decide)
          obtain ⟨rfl, rfl⟩ := hq2
          rcases pows_yes _ hpq with h | h | h | h | h
          all_goals
            obtain rfl : p = _ := Nat.succ.inj h
            go_wp2
            go_round
            case rel => exact ⟨_, i64_num rfl, Or.inr rfl⟩
            case measure => simp [intOf]
        · have hpf : pows q = false := by cases h : pows q; · rfl
                                          · exact absurd h hpq
          obtain rfl : q = p' := by
            rcases hp3.out with ⟨a, b⟩ | ⟨a, b⟩
            · rcases hq with rfl | rfl
              · exact absurd a hpq
              · rfl
            · rcases hq with rfl | rfl
              · exact b.symm
              · rfl
          obtain ⟨e1, e2, e3, e4, e5⟩ := pows_no q hpf
          clear hpf hpq hq
          rcases hB'.out with ⟨hb1, hb2⟩ | ⟨hb1, hb2⟩
          · have hbb : ((x : Int) % 2 == 1) = true := by rw [beq_iff_eq]; omega
            have hN := Lib.hid (by have := hN.out; rw [hb1] at this; exact this)
            have HS := Lib.hid hb2
            clear hb1 hb2
            go_wp2
            go_round
            case rel => exact ⟨j + 1, by omega, i64_num (by omega), u64_num (by rw [G3.out, hD.out]; omega), i64_num (by rw [G2.out, HS.out, HX.out]), i64_num (by rw [G1.out, hN.out]; omega), i64_num (by rw [G4.out])⟩
            case measure => simp [intOf]; omega
          · have hbb : ((x : Int) % 2 == 1) = false := by rw [beq_eq_false_iff_ne]; omega
            have hN := Lib.hid (by have := hN.out; rw [hb1] at this; exact this)
            have HS := Lib.hid hb2
            clear hb1 hb2
            go_wp2
            go_round
            case rel => exact ⟨j + 1, by omega, i64_num (by omega), u64_num (by rw [G3.out, hD.out]; omega), i64_num (by rw [G2.out, HS.out]), i64_num (by rw [G1.out, hN.out]; omega), i64_num (by rw [G4.out])⟩
            case measure => simp [intOf]; omega
    · obtain rfl : j = 64 := by omega
      have hN : Lib.popAux 64 d ≤ 64 := popAux_le 64 d
      have hR := refSum_eq d
      have hs := PS_lt d
      have HC : Hid (check d = PS d + 128 * ((Lib.popAux 64 d + Lib.popAux 8 (PS d)) % 2)) := Lib.hid (check_add d)
      rw [hR]
      clear hR
      generalize Lib.popAux 64 d = m at *
      generalize PS d = s at *
      go_wp2
      go_loop [4, 6] (fun n x => ∃ a b : Nat, n = .int .i64 a ∧ x = .int .i64 b ∧ b < 128 ∧ a + Lib.popAux 8 b = m + Lib.popAux 8 s) (fun _ x => (intOf x).toNat)
      case atStart => exact ⟨m, s, rfl, rfl, hs, rfl⟩
      case round =>
        obtain ⟨a, b, rfl, rfl, hb, hsum⟩ := hrel
        have l1 := popAux_le 8 b
        have l2 := popAux_le 8 s
        have hh := pop_half b hb
        have hle : a ≤ 80 := by omega
        by_cases h0 : 0 < b
        · have H1 : Hid (a + b % 2 + Lib.popAux 8 (b / 2) = m + Lib.popAux 8 s) := Lib.hid (by omega)
          clear hh hsum l1 l2
          go_wp2
          go_round
          case rel => exact ⟨a + b % 2, b / 2, i64_num (by omega), i64_num (by omega), by omega, H1.out⟩
          case measure => simp [intOf]; omega
        · obtain rfl : b = 0 := by omega
          have H1 : Hid (a = m + Lib.popAux 8 s) := Lib.hid (by rw [← hsum]; rfl)
          clear hh hsum l1 l2
          go_wp2
          go_ret
          refine ⟨ret_int ?_, rfl⟩
          rw [HC.out, ← H1.out]
          omega
theorem shl8 (k : Nat) (hk : k < 8) : IntKind.u8.wrap ((2 : Int) ^ k) = ((2 ^ k : Nat) : Int) := by
  have hp : 2 ^ k < 256 := Nat.lt_of_lt_of_le (Nat.pow_lt_pow_right (by decide) hk) (by decide)
  have e : ((2 : Int) ^ k) = ((2 ^ k : Nat) : Int) := by simp
  rw [e, IntKind.wrap_u8]
  generalize 2 ^ k = n at *
  omega
theorem xor_solve (a b c : Nat) : a ^^^ b = c ↔ b = a ^^^ c := ⟨fun h => by rw [← h, xor_cancel], fun h => by rw [h, xor_cancel]⟩
theorem int_eqB (a b : Nat) (p : Prop) [Decidable p] (h : a = b ↔ p) : ((a : Int) == (b : Int)) = decide p := by
  rw [Bool.eq_iff_iff, beq_iff_eq, decide_eq_true_eq, ← h]
  omega
theorem mendRef (d c : Nat) (hd : d < 18446744073709551616) (hc : c < 256) (w : World) :
    Calls Try.prog 9 #[.int .u64 d, .int .u8 c] w fun e w' => e = mendR d c (act (check d ^^^ c)) ∧ w = w' := by
  have hk := check_lt d
  have hx : check d ^^^ c < 256 := Nat.xor_lt_two_pow (n := 8) hk hc
  have HC := Lib.hid (checkRef d hd w)
  by_cases h0 : check d ^^^ c = 0
  · have hb : ((check d : Int) == (c : Int)) = true := by
      have h := xor_cancel (check d) c
      rw [h0, Nat.xor_zero] at h
      rw [h, beq_self_eq_true]
    have HE : Hid (act (check d ^^^ c) = (0, 0, 0, 0)) := Lib.hid (by rw [h0]; exact act_zero)
    clear h0 hx
    rw [HE.out]
    generalize check d = K at *
    go_enter Try.func9, Try.ntmps9
    go_wp2_with (go_at_call 11; refine (HC.out).mono ?_; rintro e w' ⟨rfl, rfl⟩)
    try simp only [Exit.inBlock, Exit.then]
    refine bodyPost_ret (results_tmp4 rfl _ _ _) rfl ⟨?_, rfl⟩
    exact mendR_ok d c 0 0 0 _ _ (by rw [Nat.xor_zero]) (by rw [Nat.xor_zero])
  · have hb : ((check d : Int) == (c : Int)) = false := by
      rw [int_eqB (check d) c (check d ^^^ c = 0) ⟨fun h => by rw [h, Nat.xor_self], fun h => by have := xor_cancel (check d) c; rw [h, Nat.xor_zero] at this; exact this⟩]
      exact decide_eq_false h0
    have ht : ∀ k, k < 64 → check (d ^^^ 2 ^ k) = check d ^^^ turn k := fun k h => by rw [check_xor]; simp only [turn, h, if_true]
    generalize hS : check d ^^^ c = S at *
    have HS := Lib.hid hS; clear hS
    have HT := Lib.hid ht; clear ht
    have H0 := Lib.hid h0; clear h0
    go_enter Try.func9, Try.ntmps9
    go_wp2_with (go_at_call 11; refine (HC.out).mono ?_; rintro e w' ⟨rfl, rfl⟩)
    go_loop [18] (fun v => ∃ k : Nat, v = .int .i64 k ∧ k ≤ 64 ∧ Hid (∀ j, j < k → turn j ≠ S)) (fun v => (64 - intOf v).toNat)
    case atStart => exact ⟨0, rfl, by omega, Lib.hid (fun j h => absurd h (Nat.not_lt_zero _))⟩
    case round =>
      obtain ⟨k, rfl, hk64, hno⟩ := hrel
      by_cases hlt : k < 64
      · have hpow : 2 ^ k < 18446744073709551616 := Nat.lt_of_lt_of_le (Nat.pow_lt_pow_right (by decide) hlt) (by decide)
        have hxlt : d ^^^ 2 ^ k < 18446744073709551616 := Nat.xor_lt_two_pow (n := 64) hd hpow
        have HX : Hid (bits .xor .u64 (d : Int) (IntKind.u64.wrap ((2 : Int) ^ k)) = ((d ^^^ 2 ^ k : Nat) : Int)) := Lib.hid (by rw [shl64 k hlt, xor64 d (2 ^ k) hd hpow])
        have HK := Lib.hid (checkRef (d ^^^ 2 ^ k) hxlt w)
        have hq := int_eqB (check (d ^^^ 2 ^ k)) c (turn k = S) (by rw [HT.out k hlt, xor_solve, HS.out])
        clear hpow
        by_cases hS : turn k = S
        · rw [decide_eq_true hS] at hq
          have HE : Hid (act S = (2 ^ k, 0, 1, 0)) := Lib.hid (by rw [← hS, act_turn k (by omega)]; simp only [mask, hlt, if_true])
          clear hS
          go_wp2_with fail
          rw [HX.out]
          have hX1 : Hid (d ^^^ 2 ^ k = d ^^^ 2 ^ k) := Lib.hid rfl
          generalize hG : d ^^^ 2 ^ k = X at *
          have HG := Lib.hid hG; clear hG
          generalize check X = KX at *
          refine (HK.out).mono ?_; rintro e w' ⟨rfl, rfl⟩
          go_wp2_with fail
          try simp only [Exit.inBlock, Exit.then]
          refine bodyPost_ret (results_tmp4 rfl _ _ _) rfl ⟨?_, rfl⟩
          rw [HE.out]; exact mendR_ok d c (2 ^ k) 0 1 _ _ (by rw [HG.out]) (by rw [Nat.xor_zero])
        · rw [decide_eq_false hS] at hq
          have HN : Hid (∀ j, j < k + 1 → turn j ≠ S) := Lib.hid (fun j hj => by
            rcases Nat.lt_or_ge j k with h | h
            · exact hno.out j h
            · obtain rfl : j = k := by omega
              exact hS)
          clear hS
          go_wp2_with fail
          rw [HX.out]
          generalize d ^^^ 2 ^ k = X at *
          generalize check X = KX at *
          refine (HK.out).mono ?_; rintro e w' ⟨rfl, rfl⟩
          go_wp2_with fail
          go_round
          case rel => exact ⟨k + 1, i64_num (by omega), by omega, HN⟩
          case measure => simp [intOf]; omega
      · obtain rfl : k = 64 := by omega
        go_wp2_with fail
        go_loop [32] (fun v => ∃ k : Nat, v = .int .i64 k ∧ k ≤ 8 ∧ Hid (∀ j, j < 64 + k → turn j ≠ S)) (fun v => (8 - intOf v).toNat)
        case atStart => exact ⟨0, rfl, by omega, hno⟩
        case round =>
          obtain ⟨k, rfl, hk8, hno⟩ := hrel
          by_cases hlt : k < 8
          · have hpow : 2 ^ k < 256 := Nat.lt_of_lt_of_le (Nat.pow_lt_pow_right (by decide) hlt) (by decide)
            have HX : Hid (bits .xor .u8 (c : Int) (IntKind.u8.wrap ((2 : Int) ^ k)) = ((c ^^^ 2 ^ k : Nat) : Int)) := Lib.hid (by rw [shl8 k hlt, xor8 c (2 ^ k) hc hpow])
            have htk : turn (64 + k) = 2 ^ k := by
              unfold turn
              rw [if_neg (by omega), show 64 + k - 64 = k by omega]
            have hq := int_eqB (check d) (c ^^^ 2 ^ k) (turn (64 + k) = S) (by
              rw [htk, ← HS.out]
              constructor
              · intro h; rw [h, Nat.xor_comm c (2 ^ k), Nat.xor_assoc, Nat.xor_self, Nat.xor_zero]
              · intro h; rw [h, Nat.xor_comm c (check d ^^^ c), Nat.xor_assoc, Nat.xor_self, Nat.xor_zero])
            clear hpow
            by_cases hS : turn (64 + k) = S
            · rw [decide_eq_true hS] at hq
              have HE : Hid (act S = (0, 2 ^ k, 1, 0)) := Lib.hid (by
                rw [← hS, act_turn (64 + k) (by omega)]
                unfold mask
                rw [if_neg (by omega), show 64 + k - 64 = k by omega])
              clear hS htk
              have HCX : Hid (c ^^^ 2 ^ k = c ^^^ 2 ^ k) := Lib.hid rfl
              generalize hG : c ^^^ 2 ^ k = Y at *
              have HG := Lib.hid hG; clear hG HCX
              have hx8 : bits BinOp.xor IntKind.u8 (c : Int) ((2 : Int) ^ k % 256) = (Y : Int) := by rw [← IntKind.wrap_u8]; exact HX.out
              go_wp2_with fail
              refine (HC.out).mono ?_; rintro e w' ⟨rfl, rfl⟩
              go_wp2_with fail
              try simp only [Exit.inBlock, Exit.then]
              refine bodyPost_ret (results_tmp4 rfl _ _ _) rfl ⟨?_, rfl⟩
              rw [HE.out]; exact mendR_ok d c 0 (2 ^ k) 1 _ _ (by rw [Nat.xor_zero]) (by rw [HG.out])
            · rw [decide_eq_false hS] at hq
              have HN : Hid (∀ j, j < 64 + (k + 1) → turn j ≠ S) := Lib.hid (fun j hj => by
                rcases Nat.lt_or_ge j (64 + k) with h | h
                · exact hno.out j h
                · obtain rfl : j = 64 + k := by omega
                  exact hS)
              clear hS htk
              generalize c ^^^ 2 ^ k = Y at *
              have hx8 : bits BinOp.xor IntKind.u8 (c : Int) ((2 : Int) ^ k % 256) = (Y : Int) := by rw [← IntKind.wrap_u8]; exact HX.out
              go_wp2_with fail
              refine (HC.out).mono ?_; rintro e w' ⟨rfl, rfl⟩
              go_wp2_with fail
              go_round
              case rel => exact ⟨k + 1, i64_num (by omega), by omega, HN⟩
              case measure => simp [intOf]; omega
          · obtain rfl : k = 8 := by omega
            have HE : Hid (act S = (0, 0, 0, 7)) := Lib.hid (act_none S hx H0.out (fun j hj => hno.out j (by omega)))
            go_wp2_with fail
            try simp only [Exit.inBlock, Exit.then]
            refine bodyPost_ret (results_tmp4 rfl _ _ _) rfl ⟨?_, rfl⟩
            rw [HE.out]; exact mendR_err d c
end Go.Proofs.Ytdabkoconolclaa.Ecc
