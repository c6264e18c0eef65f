/-
  What the library's stable sort leaves of a row of whole numbers.
-/
import Derived.Test.YtodnjeahjalinaaStPiece
namespace Go.Proofs.Ytodnjeahjalinaa.Stab
open Go.ChangeShapes Go.WideShapes Go.ChangeAt Go.RowKit Words Go.Sort
set_option linter.unusedVariables false

set_option maxRecDepth 100000 in
set_option maxHeartbeats 4000000 in
theorem stable12 (f : Nat) (cb : Array Value) (cf : Int → Int → Int) (V : Int → Prop) (lt : Int → Int → Bool) (T : Tot lt) (ef : ∀ args w, (callFunc f args).run Try.prog w = .ok (.enter f args) w)
    (base g n c : Nat) (D : List Int) (w : World) (h : OwnI w base (some ⟨g, 0, none⟩) n c D) (hbase : base ≤ w.heap.size) (hc : Cmpr f cb cf V base w) (hn : n ≤ 1000000) (hP : Agr cf lt D) (hV : ∀ x ∈ D, V x) :
    Calls Try.prog 34 #[.slice (some ⟨g, 0, none⟩) n c, .int .i64 n, .func (.func f) #[] cb] w fun e w' => e = .returned (.tuple #[]) ∧ St w base g n c (sortT lt D) w' := by
  have T0 := Lib.hid (St.refl h)
  have HL := Lib.hid h.len
  have HC := Lib.hid hc
  have HP := Lib.hid hP
  have HV := Lib.hid hV
  clear h hc hP hV
  have HINS := Lib.hid (fun (d : List Int) (a b k : Nat) (wr : World) (t : St w base g n c d wr) (hab : a ≤ b) (hb : b ≤ n) (e : seg d a b = (D.drop a).take k) =>
    insertion13 f cb cf V lt T ef base g n c d a b wr t.own (by have := t.grown.size; omega) (HC.out.next (t.below hbase)) hn hab hb (val_seg (by rw [t.own.len]; exact hb) e HV.out) (agr_seg (by rw [t.own.len]; exact hb) e HP.out))
  go_enter Try.func34, Try.ntmps34
  go_wp2_with fail
  go_loopw [7, 8] (fun u v wr => ∃ (a : Nat) (b : Nat) (d : List Int), u = .int .i64 a ∧ v = .int .i64 b ∧ b = a + 20 ∧ a ≤ n ∧ Raw lt 20 D d a ∧ St w base g n c d wr) (fun u _ _ => (n - intOf u).toNat)
  case atStart => as_aux_lemma => exact ⟨0, 20, D, rfl, rfl, rfl, Nat.zero_le _, raw_start D, T0.out⟩
  case round =>
    obtain ⟨a, b, d, rfl, rfl, hba, han, hr, ht⟩ := hrel
    have HR := Lib.hid hr
    have HT := Lib.hid ht
    clear hr ht
    by_cases hlt : b ≤ n
    · have hle : (b : Int) ≤ (n : Int) := by omega
      have hR := raw_next (by omega : 0 < 20) HR.out (by rw [HL.out]; omega)
      rw [← hba] at hR
      have HN := Lib.hid hR.2.2
      have HS := Lib.hid (HINS.out d a b 20 _ HT.out (by omega) hlt hR.1)
      clear hR
      have HBA := Lib.hid hba
      clear hba hlt
      go_wp2_with fail
      refine (HS.out).mono ?_; rintro e w1 ⟨rfl, t1⟩
      have T1 := Lib.hid (HT.out.trans t1)
      clear t1
      go_wp2_with fail
      go_roundw
      case rel => exact ⟨b, b + 20, _, rfl, by go_num, rfl, by omega, HN.out, T1.out⟩
      case measure => have := HBA.out; simp [intOf]; omega
    · have hle : ¬ (b : Int) ≤ (n : Int) := by omega
      obtain ⟨k1, k2, k3⟩ := raw_end HR.out (by rw [HL.out]; omega)
      rw [HL.out] at k1 k3
      have HN := Lib.hid k3
      have HS := Lib.hid (HINS.out d a n (n - a) _ HT.out (by omega) (Nat.le_refl _) (by rw [k1]; exact (List.take_of_length_le (by rw [List.length_drop, HL.out]; omega)).symm))
      clear k1 k2 k3 hba
      go_wp2_with fail
      refine (HS.out).mono ?_; rintro e w1 ⟨rfl, t1⟩
      have T1 := Lib.hid (HT.out.trans t1)
      clear t1
      go_wp2_with fail
      go_loopw [6, 7, 8, 9] (fun u v x y wr => ∃ (B : Nat) (d : List Int), u = .int .i64 B ∧ 20 ≤ B ∧ B ≤ 2000000 ∧ Lev lt B D d ∧ St w base g n c d wr) (fun u _ _ _ _ => (n - intOf u).toNat)
      case atStart => as_aux_lemma => exact ⟨20, _, rfl, by omega, by omega, HN.out, T1.out⟩
      case round =>
        obtain ⟨B, dB, rfl, hB1, hB2, hl, ht⟩ := hrel
        have HLV := Lib.hid hl
        have HT := Lib.hid ht
        clear hl ht T1 HN
        by_cases hBn : B < n
        · have hBn' : (B : Int) < (n : Int) := by omega
          obtain ⟨C, hC⟩ : ∃ C, C = 2 * B := ⟨_, rfl⟩
          have ec : (2 : Int) * (B : Int) = (C : Int) := by omega
          have ec2 : (B : Int) * 2 = (C : Int) := by omega
          have hC2 : C ≤ 2000000 := by omega
          have hC3 : B < C := by omega
          have HP0 := Lib.hid (part_start (C := 2 * B) HLV.out)
          have HCC := Lib.hid hC
          clear hC HLV
          go_wp2_with fail
          go_loopw [7, 8] (fun u v ws => ∃ (a b : Nat) (d rest : List Int), u = .int .i64 a ∧ v = .int .i64 b ∧ b = a + C ∧ a ≤ n ∧ Part lt B (2 * B) D d a rest ∧ St w base g n c d ws) (fun u _ _ => (n - intOf u).toNat)
          case atStart => as_aux_lemma => exact ⟨0, C, _, _, rfl, by first | rfl | go_num, by omega, Nat.zero_le _, HP0.out, HT.out⟩
          case round =>
            obtain ⟨a, b, d, rest, rfl, rfl, hba, han, hp, ht⟩ := hrel
            have HPT := Lib.hid hp
            have HT2 := Lib.hid ht
            clear hp ht HT HP0
            obtain ⟨m, hm⟩ : ∃ m, m = a + B := ⟨_, rfl⟩
            have e1 : (a : Int) + (B : Int) = (m : Int) := by omega
            by_cases hlt : b ≤ n
            · have hle : (b : Int) ≤ (n : Int) := by omega
              have hb2 : b = a + 2 * B := by have := HCC.out; omega
              have hmg := part_mrg (w := _) T (by omega) HPT.out (by rw [HL.out]; omega) (HC.out.next (HT2.out.below hbase)) HP.out HV.out
              obtain ⟨_, _, _, k4⟩ := part_merge T (by omega) HPT.out (by rw [HL.out]; omega)
              rw [← hb2, ← hm] at hmg
              rw [← hb2] at k4
              have HN := Lib.hid k4
              have HS := Lib.hid (sym14 f cb cf V lt T ef base g n c d a m b _ HT2.out.own (by have := HT2.out.grown.size; omega) hmg hn (by omega) (by omega) hlt)
              have HBA := Lib.hid hba
              have hab : a < b := by omega
              clear hmg k4 hb2 hm hba hlt
              go_wp2_with fail
              refine (HS.out).mono ?_; rintro e w1 ⟨rfl, t1⟩
              have T1 := Lib.hid (HT2.out.trans t1)
              clear t1
              go_wp2_with fail
              go_roundw
              case rel => exact ⟨b, b + C, _, _, rfl, by go_num, rfl, by omega, HN.out, T1.out⟩
              case measure => simp [intOf]; omega
            · have hle : ¬ (b : Int) ≤ (n : Int) := by omega
              obtain ⟨k1, k2, k3⟩ := part_end T (by omega) HPT.out (by rw [HL.out]; have := HCC.out; omega)
              by_cases hmn : m < n
              · have hmn' : (m : Int) < (n : Int) := by omega
                obtain ⟨_, _, k4⟩ := k3 (by rw [HL.out]; omega)
                have hmg := part_mrg_end (w := _) T (by omega) HPT.out (by rw [HL.out]; have := HCC.out; omega) (by rw [HL.out]; omega) (HC.out.next (HT2.out.below hbase)) HP.out HV.out
                rw [HL.out, ← hm] at hmg
                rw [HL.out] at k4
                have HN := Lib.hid k4
                have HS := Lib.hid (sym14 f cb cf V lt T ef base g n c d a m n _ HT2.out.own (by have := HT2.out.grown.size; omega) hmg hn (by omega) hmn (Nat.le_refl _))
                clear hmg k4 hm hba hlt k1 k2 k3
                go_wp2_with fail
                refine (HS.out).mono ?_; rintro e w1 ⟨rfl, t1⟩
                have T1 := Lib.hid (HT2.out.trans t1)
                clear t1
                go_wp2_with fail
                go_roundw
                case rel => exact ⟨C, _, by first | rfl | go_num, by omega, hC2, by rw [HCC.out]; exact HN.out, T1.out⟩
                case measure => simp [intOf]; omega
              · have hmn' : ¬ (m : Int) < (n : Int) := by omega
                have HN := Lib.hid (k2 (by rw [HL.out]; omega))
                clear hm hba hlt k1 k2 k3
                go_wp2_with fail
                go_roundw
                case rel => exact ⟨C, _, by first | rfl | go_num, by omega, hC2, by rw [HCC.out]; exact HN.out, HT2.out⟩
                case measure => simp [intOf]; omega
        · have hBn' : ¬ (B : Int) < (n : Int) := by omega
          have HE := Lib.hid (HLV.out.all (by rw [HL.out]; omega))
          go_wp2_with fail
          go_end0
          exact ⟨rfl, by
            have := HT.out
            rw [HE.out] at this
            exact this⟩
set_option maxHeartbeats 1000000 in
/-- The library's stable sort: the row holds what the total order says. -/
theorem stable10 (f : Nat) (cb : Array Value) (cf : Int → Int → Int) (V : Int → Prop) (lt : Int → Int → Bool) (T : Tot lt) (ef : ∀ args w, (callFunc f args).run Try.prog w = .ok (.enter f args) w)
    (base g n c : Nat) (D : List Int) (w : World) (h : OwnI w base (some ⟨g, 0, none⟩) n c D) (hbase : base ≤ w.heap.size) (hc : Cmpr f cb cf V base w) (hn : n ≤ 1000000) (hP : Agr cf lt D) (hV : ∀ x ∈ D, V x) :
    Calls Try.prog 25 #[.slice (some ⟨g, 0, none⟩) n c, .func (.func f) #[] cb] w fun e w' => e = .returned (.tuple #[]) ∧ St w base g n c (sortT lt D) w' := by
  have HS := Lib.hid (stable12 f cb cf V lt T ef base g n c D w h hbase hc hn hP hV)
  clear h hc hP hV
  go_enter Try.func25, Try.ntmps25
  go_wp2_with fail
  refine (HS.out).mono ?_; rintro e w1 ⟨rfl, t1⟩
  have T1 := Lib.hid t1
  clear t1
  go_wp2_with fail
  go_end0
  exact ⟨rfl, T1.out⟩
end Go.Proofs.Ytodnjeahjalinaa.Stab
