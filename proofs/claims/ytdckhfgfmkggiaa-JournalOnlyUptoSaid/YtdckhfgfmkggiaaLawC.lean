/-
  JournalTorn, walked under what is asked of Fold and Read.
-/
import Derived.Test.YtdckhfgfmkggiaaLawB
namespace Go.Proofs.Ytdckhfgfmkggiaa.Jrn
open Go.ChangeShapes Go.WideShapes Go.ChangeAt Go.RowKit Words Crc
set_option linter.unusedVariables false

theorem fold_cases (l : List Bytes) : (l.all okR = true ∧ foldR l = (flat l, 0)) ∨ (l.all okR = false ∧ foldR l = ([], 2)) := by
  cases h : l.all okR with
  | true => exact .inl ⟨rfl, fold_ok h⟩
  | false => exact .inr ⟨rfl, by unfold foldR; rw [h]; rfl⟩
theorem run_rows (w : World) (A : Option Addr) (n c j : Nat) (J : Int) (hJ : J = (j : Int)) (hj : j ≤ c) :
    (Instr.slice 26 (.slice A n c) none (some (.int .i64 J)) none).run Try.prog w = .ok (.slice A j c) w := by
  obtain ⟨i0, hi0, _⟩ := info_parts info22
  exact run_head w 26 22 i0 Try.underlying26 hi0 A n c j J hJ hj
set_option maxHeartbeats 8000000 in
theorem torn_walk (HF : FoldC) (HR : ReadC) (A0 : Option Addr) (n c0 : Nat) (vs : List Sl) (l : List Bytes) (a1 : Int) (w : World) (h0 : Grid w w.heap.size A0 n c0 vs l) (hc : c0 ≤ 1048576) :
    Calls Try.prog 5 #[.slice A0 n c0, .int .i64 a1] w fun e w' => e = .returned (.bool true) ∧ Below w.heap.size w w' := by
  have hnc := Rd.le h0.top
  have hn : n ≤ 1048576 := by omega
  have HA := Lib.hid (alive15 HF HR w)
  have HFl := Lib.hid (fun x (b : Below w.heap.size w x) => HF _ _ _ _ _ l x (h0.below b (Nat.le_refl _)) b.size (by omega))
  have HRd := Lib.hid HR
  have G := Lib.hid h0
  have L := Lib.hid h0.count
  clear HF HR h0
  rcases fold_cases l with ⟨hall, hf⟩ | ⟨hall, hf⟩
  · obtain ⟨m, hm⟩ : ∃ m, tot l = m := ⟨_, rfl⟩
    have hml : (flat l).length = m := by rw [flat_length, hm]
    have hm2 := tot_le hall
    rw [hm, L.out] at hm2
    rw [hf] at HFl
    have ALL := Lib.hid hall
    have M := Lib.hid hm
    have ML := Lib.hid hml
    clear hall hf hm hml
    by_cases hin : 0 ≤ a1 ∧ a1 ≤ m
    · obtain ⟨p, rfl⟩ : ∃ p : Nat, a1 = p := ⟨a1.toNat, by omega⟩
      have hp : p ≤ m := by omega
      clear hin
      obtain ⟨K, hK⟩ : ∃ K, (jr ((flat l).take p)).length = K := ⟨_, rfl⟩
      obtain ⟨T, hT⟩ : ∃ T, tot (jr ((flat l).take p)) = T := ⟨_, rfl⟩
      have HK := Lib.hid hK
      have HT := Lib.hid hT
      clear hK hT
      go_enter Try.func5, Try.ntmps5
      go_wp2_with fail
      refine (HA.out).mono ?_; rintro e x0 ⟨rfl, b0⟩
      have B0 := Lib.hid b0
      clear b0
      go_wp2_with fail
      refine (HFl.out _ B0.out).mono ?_; rintro e x1 he
      obtain ⟨P1, q1, rfl, o1, b1⟩ := he.get ML.out
      have B1 := Lib.hid (B0.out.trans (b1.mono B0.out.size))
      have T1 : Txt x1 x1.heap.size P1 m q1 (flat l) := Rd.of_own o1
      have hq := Rd.le T1
      have T2 := T1.head hp
      have hcut := fun w => run_front w P1 m q1 p (p : Int) rfl (by omega)
      have HX := Lib.hid (HRd.out _ P1 p q1 ((flat l).take p) x1 T2 (Nat.le_refl _) (by omega))
      clear he o1 b1 T1 T2
      go_wp2_with fail
      refine (HX.out).mono ?_; rintro e x2 he
      obtain ⟨P3, q3, v3, rfl, g3, b3⟩ := he.get HK.out HT.out
      have G3 := Lib.hid g3
      have B2 := Lib.hid (B1.out.trans (b3.mono B1.out.size))
      clear he g3 b3 hcut
      go_wp2_with fail
      go_loop [9, 10] (fun s i => ∃ k : Nat, k ≤ n ∧ i = .int .i64 k ∧ s = .int .i64 (tot (l.take k) : Nat) ∧ tot (l.take k) ≤ p) (fun _ i => (n - intOf i).toNat)
      case atStart => exact ⟨0, by omega, rfl, rfl, Nat.zero_le _⟩
      case round =>
        obtain ⟨k, hk, rfl, rfl, hkp⟩ := hrel
        by_cases hlt : k < n
        · obtain ⟨g, o, rfl, _, _⟩ := Rd.row G.out.top (by omega)
          obtain ⟨P2, m2, q2, r, hr, _, d2, t2⟩ := (G.out.below B2.out (Nat.le_refl _)).at_ rfl hlt
          have HRr := Lib.hid hr
          have HRL := Lib.hid t2.len
          have NX := Lib.hid (flat_next hr).2
          have hm3 := all_get ALL.out hr
          rw [HRL.out] at hm3
          clear hr t2
          have NX2 : Hid (tot (l.take (k + 1)) = tot (l.take k) + (m2 + 3)) := Lib.hid (by rw [NX.out, HRL.out])
          by_cases hfit : tot (l.take k) + (m2 + 3) ≤ p
          · obtain ⟨t, ht⟩ : ∃ t, t = tot (l.take k) := ⟨_, rfl⟩
            rw [← ht] at hfit hkp NX2 ⊢
            have hfi : (t : Int) + 3 + (m2 : Int) ≤ (p : Int) := by omega
            clear ht
            go_wp2_with fail
            go_round
            case rel => exact ⟨k + 1, by omega, by go_num, by rw [NX2.out]; first | rfl | go_num | (congr 1; omega), by rw [NX2.out]; exact hfit⟩
            case measure => simp [intOf]; omega
          · have hj := jr_torn ALL.out (k := k) (n := p) (by rw [L.out]; omega) (by omega) (fun r hr => by rw [HRr.out] at hr; injection hr with hr; subst hr; rw [HRL.out]; omega) (by rw [M.out]; exact hp)
            have HJ := Lib.hid hj
            obtain ⟨t, ht⟩ : ∃ t, t = tot (l.take k) := ⟨_, rfl⟩
            obtain rfl : T = t := by rw [← HT.out, hj, ht]
            rw [← ht] at hkp hfit ⊢
            have HS := Lib.hid (same13 _ _ _ _ _ _ _ _ _ _ _ _ x2 G3.out ((G.out.below B2.out (Nat.le_refl _)).head (k := k) (by omega)))
            have hrows := fun w => run_rows w (some ⟨g, o, none⟩) n c0 k (k : Int) rfl (by omega)
            have hfi : ¬ (T : Int) + 3 + (m2 : Int) ≤ (p : Int) := by omega
            clear hj ht
            go_wp2_with fail
            refine (HS.out).mono ?_; rintro e w2 he
            obtain ⟨rfl, q, rfl⟩ := he.yes HJ.out
            clear he
            go_wp2_with fail
            go_ret
            exact ⟨rfl, below_drewN B2.out _⟩
        · obtain ⟨k2, hk2⟩ : ∃ k2, k2 = k := ⟨_, rfl⟩
          obtain rfl : k = n := by omega
          clear hk2 k2
          have hj := jr_torn ALL.out (k := k) (n := p) (by rw [L.out]; omega) (by omega) (fun r hr => by have := (List.getElem?_eq_some_iff.1 hr).1; rw [L.out] at this; omega) (by rw [M.out]; exact hp)
          have HJ := Lib.hid hj
          obtain ⟨t, ht⟩ : ∃ t, t = tot (l.take k) := ⟨_, rfl⟩
          obtain rfl : T = t := by rw [← HT.out, hj, ht]
          rw [← ht] at hkp ⊢
          have HS := Lib.hid (same13 _ _ _ _ _ _ _ _ _ _ _ _ x2 G3.out ((G.out.below B2.out (Nat.le_refl _)).head (k := k) (by omega)))
          have hrows := fun w => run_rows w A0 k c0 k (k : Int) rfl (by omega)
          clear hj ht
          go_wp2_with fail
          refine (HS.out).mono ?_; rintro e w2 he
          obtain ⟨rfl, q, rfl⟩ := he.yes HJ.out
          clear he
          go_wp2_with fail
          go_ret
          exact ⟨rfl, below_drewN B2.out _⟩
    · have hor : a1 < 0 ∨ (m : Int) < a1 := by omega
      clear hin
      go_enter Try.func5, Try.ntmps5
      go_wp2_with fail
      refine (HA.out).mono ?_; rintro e x0 ⟨rfl, b0⟩
      have B0 := Lib.hid b0
      clear b0
      go_wp2_with fail
      refine (HFl.out _ B0.out).mono ?_; rintro e x1 he
      obtain ⟨P1, q1, rfl, o1, b1⟩ := he.get ML.out
      have B1 := Lib.hid (B0.out.trans (b1.mono B0.out.size))
      clear he o1 b1
      rcases hor with h1 | h1
      · go_wp2_with fail
        go_ret
        exact ⟨rfl, B1.out⟩
      · have h2 : ¬ a1 < 0 := by omega
        go_wp2_with fail
        go_ret
        exact ⟨rfl, B1.out⟩
  · rw [hf] at HFl
    clear hall hf
    go_enter Try.func5, Try.ntmps5
    go_wp2_with fail
    refine (HA.out).mono ?_; rintro e x0 ⟨rfl, b0⟩
    have B0 := Lib.hid b0
    clear b0
    go_wp2_with fail
    refine (HFl.out _ B0.out).mono ?_; rintro e x1 he
    obtain ⟨P1, q1, rfl, o1, b1⟩ := he.get rfl
    have B1 := Lib.hid (B0.out.trans (b1.mono B0.out.size))
    clear he o1 b1
    go_wp2_with fail
    go_ret
    exact ⟨rfl, B1.out⟩
end Go.Proofs.Ytdckhfgfmkggiaa.Jrn
