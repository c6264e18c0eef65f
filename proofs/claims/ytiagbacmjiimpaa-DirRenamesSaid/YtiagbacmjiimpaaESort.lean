/-
  Sorting by names: the document's own.
-/
import Derived.Test.YtiagbacmjiimpaaESrt
namespace Go.Proofs.Ytiagbacmjiimpaa.Dir
open Go.ChangeShapes Go.WideShapes Go.ChangeAt Go.RowKit Words Go.Sort
set_option linter.unusedVariables false

set_option maxRecDepth 100000 in
set_option maxHeartbeats 8000000 in
theorem osort19 (B : Nat) (A : Option Addr) (n c : Nat) (l : List En) (w : World) (h : Ens w B A n c l) (hd : Dist l) (hB : B ≤ w.heap.size) (hn : n * 24 ≤ 140737488355000) :
    Calls Try.prog 19 #[.slice A n c] w (MadeEn w (srt l)) := by
  have mx := mixedO
  have HC := clone18 B A n c l w h hB hn
  unfold MadeEn at HC
  have HLL := Lib.hid h.len
  rw [h.len] at HC
  have HN := h.small
  have HC := Lib.hid HC
  have S0 := Lib.hid (sm_start (ps := l) hd)
  have HD := Lib.hid hd
  clear h hd hB
  go_enter Try.func19, Try.ntmps19
  go_wp2_with fail
  refine (HC.out).mono ?_; rintro e w2 ⟨A2, c2, rfl, o2, b2⟩
  have R0 := Lib.hid o2
  have B0 := Lib.hid b2
  clear o2 b2
  go_wp2_with fail
  go_loopw [10] (fun v wx => ∃ (q : Nat) (qs : List En), v = .int .i64 q ∧ q ≤ n ∧ OwnEn wx w.heap.size A2 n c2 qs ∧ Below w.heap.size w wx ∧ Sm l qs ∧ Up qs q) (fun v _ => (n - intOf v).toNat)
  case atStart => exact ⟨0, l, rfl, by omega, R0.out, B0.out, S0.out, fun p q h1 h2 => by omega⟩
  case round =>
    obtain ⟨q, qs, rfl, hq, hrow, hbel, hsm, hup⟩ := hrel
    have R1 := Lib.hid hrow
    have B1 := Lib.hid hbel
    have S1 := Lib.hid hsm
    have U1 := Lib.hid hup
    clear hrow hbel hsm hup S0
    by_cases hlt : q < n
    · obtain ⟨gq, rfl, hg1, hg2⟩ := R1.out.addr (by omega)
      have N0 := Lib.hid (ins_start U1.out)
      go_wp2_with fail
      go_loopw [5] (fun v wx => ∃ (j : Nat) (rs : List En), v = .int .i64 j ∧ j ≤ q ∧ OwnEn wx w.heap.size (some ⟨gq, 0, none⟩) n c2 rs ∧ Below w.heap.size w wx ∧ Sm l rs ∧ Ins rs q j) (fun v _ => (intOf v).toNat)
      case atStart => exact ⟨q, qs, rfl, by omega, R1.out, B1.out, S1.out, N0.out⟩
      case round =>
        obtain ⟨j, rs, rfl, hj, hrow, hbel, hsm, hins⟩ := hrel
        have R2 := Lib.hid hrow
        have B2 := Lib.hid hbel
        have S2 := Lib.hid hsm
        have I2 := Lib.hid hins
        have HL2 := Lib.hid hrow.len
        clear hrow hbel hsm hins N0
        rcases Nat.eq_zero_or_pos j with h0 | h0
        · subst h0
          have UD := Lib.hid (I2.out.done (Nat.zero_le _) (by rw [HL2.out]; exact hlt) S2.out.ne (.inl rfl))
          go_wp2_with fail
          go_quiet (fail)
          go_wp2_with fail
          go_roundw
          case rel => exact ⟨q + 1, rs, by go_num, by omega, R2.out, below_drewN B2.out _, S2.out, UD.out⟩
          case measure => simp [intOf]; omega
        · obtain ⟨t, rfl⟩ : ∃ t, j = t + 1 := ⟨j - 1, by omega⟩
          have SF := Lib.hid (fun nq => OwnEn.swapF (w := wr.drewN nq) (t := t) R2.out (by omega))
          obtain ⟨c0, c1⟩ := R2.out.at_ (i := t + 1) (by omega)
          obtain ⟨d0, d1⟩ := R2.out.at_ (i := t) (by omega)
          have hwt : IntKind.i64.wrap ((t : Int) + 1 - 1) = (t : Int) := by rw [IntKind.wrap_i64]; omega
          have hwt2 : IntKind.i64.wrap (((t + 1 : Nat) : Int) - 1) = (t : Int) := by rw [IntKind.wrap_i64]; omega
          have htn : ((t : Int) + 1).toNat = t + 1 := by omega
          have ht1 : t + 1 < n := by omega
          have ht2 : t < n := by omega
          have s1 := str_list (eth rs (t + 1)).n
          have s2 := str_list (eth rs t).n
          cases hb : bl (eth rs (t + 1)).n (eth rs t).n with
          | true =>
            have IN := Lib.hid (I2.out.step (by rw [HL2.out]; exact hlt) hj hb)
            have SN := Lib.hid (S2.out.swap (t := t) (by rw [HL2.out]; omega))
            have SWP := Lib.hid (fun nq => OwnEn.swapped (w := wr.drewN nq) (t := t) R2.out (by omega))
            have hbl : Op.bytesLess (eth rs (t + 1)).n (eth rs t).n = true := hb
            clear h0 hb
            go_wp2_with fail
            go_quiet (fail)
            have S := SF.out nq
            have SW := Lib.hid (SWP.out nq)
            have BW := Lib.hid (below_drewN B2.out nq)
            unfold putE at S
            unfold putE at SW
            have hwz : w.heap.size ≤ (wr.drewN nq).heap.size := BW.out.size
            generalize wr.drewN nq = wz at *
            obtain ⟨s0, s1', s2', s3, s4, s5, s6, s7, s8, s9, s10⟩ := S
            clear c0 c1 d0 d1
            go_wp2_with fail
            go_region
            all_goals
              clear s0 s1' s2' s3 s4 s5 s6 s7 s8 s9 s10
              go_wp2_with fail
              go_roundw
              case rel =>
                refine ⟨t, sw rs t, by go_num, by omega, ?_, ?_, SN.out, IN.out⟩
                · exact OwnEn.drew SW.out.1
                · exact grown_below2 BW.out SW.out.2 hwz (by omega)
              case measure => simp [intOf]
          | false =>
            have UD := Lib.hid (I2.out.done hj (by rw [HL2.out]; exact hlt) S2.out.ne (.inr ⟨t, rfl, hb⟩))
            have hbl : Op.bytesLess (eth rs (t + 1)).n (eth rs t).n = false := hb
            clear h0 hb
            go_wp2_with fail
            go_quiet (fail)
            go_wp2_with fail
            go_roundw
            case rel => exact ⟨q + 1, rs, by go_num, by omega, R2.out, below_drewN B2.out _, S2.out, UD.out⟩
            case measure => simp [intOf]; omega
    · obtain rfl : q = n := by omega
      have HF : Hid (qs = srt l) := Lib.hid (sorted_is HD.out S1.out (by rw [R1.out.len]; exact U1.out))
      have HQ := Lib.hid R1.out.len
      go_wp2_with fail
      go_ret
      have o := R1.out
      unfold MadeEn
      rw [← HF.out, HQ.out]
      exact ⟨A2, c2, rfl, o, B1.out⟩
end Go.Proofs.Ytiagbacmjiimpaa.Dir
