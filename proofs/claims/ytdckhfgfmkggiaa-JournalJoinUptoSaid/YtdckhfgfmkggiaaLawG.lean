/-
  JournalSpoilt, walked.
-/
import Derived.Test.YtdckhfgfmkggiaaLawF
namespace Go.Proofs.Ytdckhfgfmkggiaa.Jrn
open Go.ChangeShapes Go.WideShapes Go.ChangeAt Go.RowKit Words Crc
set_option linter.unusedVariables false

set_option maxHeartbeats 8000000 in
theorem spoilt_walk (HF : FoldC) (HR : ReadC) (A0 : Option Addr) (n c0 : Nat) (vs : List Sl) (l : List Bytes) (a1 a2 a3 : Int) (w : World) (h0 : Grid w w.heap.size A0 n c0 vs l) (hc : c0 ≤ 1048576) (w2 : (Lit.int .i64 a2).wf = true) (w3 : (Lit.int .u16 a3).wf = true) :
    Calls Try.prog 6 #[.slice A0 n c0, .int .i64 a1, .int .i64 a2, .int .u16 a3] w fun e w' => e = .returned (.bool true) ∧ Below w.heap.size w w' := by
  have hnc := Rd.le h0.top
  have hn : n ≤ 1048576 := by omega
  obtain ⟨h2, h2'⟩ := bounds_u16 w3
  obtain ⟨z, rfl⟩ := Int.eq_ofNat_of_zero_le h2
  have hzb : z < 65536 := by omega
  have hb2 := bounds_i64 w2
  have HA := Lib.hid (alive15 HF HR w)
  have HFl := Lib.hid (fun x (b : Below w.heap.size w x) => HF _ _ _ _ _ l x (h0.below b (Nat.le_refl _)) b.size (by omega))
  have HRd := Lib.hid HR
  have G := Lib.hid h0
  have L := Lib.hid h0.count
  clear HF HR h0 w2 w3 h2 h2'
  rcases fold_cases l with ⟨hall, hf⟩ | ⟨hall, hf⟩
  · obtain ⟨m, hm⟩ : ∃ m, tot l = m := ⟨_, rfl⟩
    have hml : (flat l).length = m := by rw [flat_length, hm]
    have hm2 := tot_le hall
    rw [hm, L.out] at hm2
    rw [hf] at HFl
    have ALL := Lib.hid hall
    have ML := Lib.hid hml
    clear hall hf hm hml
    by_cases h1 : 0 ≤ a1 ∧ a1 < n
    · obtain ⟨wh, rfl⟩ : ∃ p : Nat, a1 = p := ⟨a1.toNat, by omega⟩
      have hwh : wh < n := by omega
      clear h1
      by_cases hgood : 0 < z ∧ 0 ≤ a2
      · obtain ⟨a, rfl⟩ : ∃ p : Nat, a2 = p := ⟨a2.toNat, by omega⟩
        have hz0 := hgood.1
        clear hgood
        obtain ⟨g, o, rfl, _, _⟩ := Rd.row G.out.top (by omega)
        have hzz : ((z : Int) == 0) = false := by rw [beq_eq_false_iff_ne]; omega
        go_enter Try.func6, Try.ntmps6
        go_wp2_with fail
        refine (HA.out).mono ?_; rintro e x0 ⟨rfl, b0⟩
        have B0 := Lib.hid b0
        clear b0
        go_wp2_with fail
        refine (HFl.out _ B0.out).mono ?_; rintro e x1 he
        obtain ⟨P1, q1, rfl, o1, b1⟩ := he.get ML.out
        have B1 := Lib.hid (B0.out.trans (b1.mono B0.out.size))
        obtain ⟨P2, m2, q2, r, hr, _, d2, t2⟩ := (G.out.below B1.out (Nat.le_refl _)).at_ rfl hwh
        have HRr := Lib.hid hr
        have HRL := Lib.hid t2.len
        have hm3 := all_get ALL.out hr
        rw [HRL.out] at hm3
        have OW := Lib.hid o1
        have hx0 := B0.out.size
        have hmbig : m2 + 3 ≤ m := by
          have := (si_start (a := a) hr hzb).size
          rw [ML.out, HRL.out] at this
          omega
        clear he b1 hr t2 o1
        by_cases hat : (a : Int) ≤ 8 * ((m2 : Int) + 2) - 16
        · have hrows := fun w => run_rows w (some ⟨g, o, none⟩) n c0 wh (wh : Int) rfl (by omega)
          have hle : ¬ 8 * ((m2 : Int) + 2) - 16 < (a : Int) := by omega
          have ha16 : a + 16 ≤ 8 * (m2 + 2) := by omega
          obtain ⟨gb, c5, hv, hgb0, hgb1⟩ := own_form_pos OW.out (by omega)
          injection hv with hv1 _ hv3
          subst hv1 hv3
          clear hat
          go_wp2_with fail
          clear hrows d2 hzz hle
          go_loop [11, 60] (fun s i => ∃ k : Nat, k ≤ wh ∧ i = .int .i64 k ∧ s = .int .i64 (tot (l.take k) : Nat)) (fun _ i => (wh - intOf i).toNat)
          case atStart => exact ⟨0, by omega, rfl, rfl⟩
          case round =>
            obtain ⟨k, hk, rfl, rfl⟩ := hrel
            by_cases hlt : k < wh
            · obtain ⟨P4, m4, q4, r4, hr4, _, d4, t4⟩ := (G.out.below B1.out (Nat.le_refl _)).at_ (k := k) rfl (by omega)
              have NX2 : Hid (tot (l.take (k + 1)) = tot (l.take k) + (m4 + 3)) := Lib.hid (by rw [(flat_next hr4).2, t4.len])
              have hm4 := all_get ALL.out hr4
              rw [t4.len] at hm4
              have htk : tot (l.take k) ≤ 258 * 1048576 := by
                have := tot_le (all_take ALL.out k)
                rw [List.length_take, L.out] at this
                omega
              obtain ⟨t, ht⟩ : ∃ t, t = tot (l.take k) := ⟨_, rfl⟩
              rw [← ht] at NX2 htk ⊢
              clear hr4 t4 ht
              go_wp2_with fail
              go_round
              case rel => exact ⟨k + 1, by omega, by go_num, by rw [NX2.out]; first | rfl | go_num | (congr 1; omega)⟩
              case measure => simp [intOf]; omega
            · obtain ⟨wk, hwk⟩ : ∃ wk, wk = k := ⟨_, rfl⟩
              obtain rfl : wk = wh := by omega
              rw [← hwk]
              clear hwk hk hlt
              obtain ⟨st, hst⟩ : ∃ t, t = tot (l.take wk) := ⟨_, rfl⟩
              have S0 := si_start (a := a) HRr.out hzb
              have hstm : st + (m2 + 3) ≤ m := by
                have := S0.size
                rw [ML.out, HRL.out, ← hst] at this
                omega
              have SH := Lib.hid S0
              have ST := Lib.hid hst
              rw [← hst]
              clear S0 hst
              go_wp2_with fail
              go_loopw [70] (fun i wr => ∃ (k : Nat) (Y X : Bytes), i = .int .i64 k ∧ k ≤ 16 ∧ wr.ownsRow x0.heap.size 5 1 (.slice (some ⟨gb, 0, none⟩) m q1) m (bcells Y) ∧ SI l wk r a z k Y X ∧ Below w.heap.size w wr) (fun i _ => (16 - intOf i).toNat)
              case atStart => exact ⟨0, flat l, enc r, rfl, by omega, OW.out, SH.out, B1.out⟩
              case round =>
                obtain ⟨k, Y, X, rfl, hk, hown, hsi, hbel⟩ := hrel
                have O := Lib.hid hown
                have SK := Lib.hid hsi
                have BW := Lib.hid hbel
                clear hown hsi hbel
                by_cases hlt : k < 16
                · have HBit := Lib.hid (bit_of z k hzb)
                  by_cases hbit : z.testBit (15 - k) = true
                  · have hbt : (bits BinOp.and IntKind.u16 ((z : Int) / 2 ^ (15 - k)) 1 == 1) = true := by rw [HBit.out]; exact hbit
                    obtain ⟨y, hy0, hx0'⟩ := SK.out.at_ (q := (a + k) / 8) (by rw [HRL.out]; omega)
                    rw [← ST.out] at hy0
                    have T1 : Txt _ _ (some ⟨gb, 0, none⟩) m q1 Y := Rd.of_own O.out
                    obtain ⟨ix, hix⟩ : ∃ ix, ix = st + 1 + (a + k) / 8 := ⟨_, rfl⟩
                    rw [← hix] at hy0
                    have l1 := T1.cellAt rfl hy0
                    have f1 := O.out.frozenAt ix
                    rw [Nat.zero_add] at l1
                    have hixm : ix < m := by omega
                    clear T1 hy0
                    go_wp2_with fail
                    obtain ⟨u, hu⟩ : ∃ u, u = a + k := ⟨_, rfl⟩
                    obtain ⟨v, hv⟩ : ∃ v, v = u / 8 := ⟨_, rfl⟩
                    obtain ⟨t, ht⟩ : ∃ t, t = u % 8 := ⟨_, rfl⟩
                    have s1 : IntKind.i64.wrap ((a : Int) + (k : Int)) = (u : Int) := by rw [IntWalk.i64_in _ (by omega)]; omega
                    have s2 : (u : Int).tdiv 8 = (v : Int) := by rw [Int.tdiv_eq_ediv_of_nonneg (by omega)]; omega
                    have s3 : IntKind.i64.wrap (v : Int) = (v : Int) := IntWalk.i64_in _ (by omega)
                    have s4 : (u : Int).tmod 8 = (t : Int) := by rw [Int.tmod_eq_emod_of_nonneg (by omega)]; omega
                    have s5 : IntKind.i64.wrap ((st : Int) + 1 + (v : Int)) = (ix : Int) := by rw [IntWalk.i64_in _ (by omega)]; omega
                    have s6 : (0 : Int) ≤ (t : Int) := by omega
                    have s7 : IntKind.i64.wrap ((st : Int) + 1) = (st : Int) + 1 := IntWalk.i64_in _ (by omega)
                    have s8 : (ix : Int) < (m : Int) := by omega
                    have s9 : (st : Int) + 1 + (v : Int) = (ix : Int) := by omega
                    have HU := Lib.hid hu
                    have HV := Lib.hid hv
                    have HT := Lib.hid ht
                    have HIX := Lib.hid hix
                    clear hu hv ht hix
                    go_region
                    have ht8 : t < 8 := by rw [HT.out]; exact Nat.mod_lt _ (by decide)
                    obtain ⟨d, hd1, hd2⟩ := turned_byte y t ht8
                    obtain ⟨O2, b2⟩ := stored_byte O.out ix d (Nat.le_trans hx0 hgb0)
                    have hsn := SK.out.turn hzb hlt (by rw [HRL.out]; exact ha16) hbit hx0' (by rw [hd1, HT.out, HU.out])
                    rw [← ST.out, ← HIX.out] at hsn
                    rw [Nat.min_eq_left (Nat.le_of_lt ht8), hd2]
                    have SN := Lib.hid hsn
                    have O3 := Lib.hid O2
                    have B3 := Lib.hid b2
                    clear hsn O2 b2 hd2 hd1 l1 f1 s1 s2 s3 s4 s5 s6 s7 s8 s9 hx0'
                    go_wp2_with fail
                    go_roundw
                    case rel => exact ⟨k + 1, _, _, by go_num, by omega, O3.out, SN.out, (BW.out.trans B3.out).drew⟩
                    case measure => simp [intOf]; omega
                  · have hbt : (bits BinOp.and IntKind.u16 ((z : Int) / 2 ^ (15 - k)) 1 == 1) = false := by rw [HBit.out]; simpa using hbit
                    have SN := Lib.hid (SK.out.skip hlt hbit)
                    go_wp2_with fail
                    go_roundw
                    case rel => exact ⟨k + 1, Y, X, by go_num, by omega, O.out, SN.out, BW.out⟩
                    case measure => simp [intOf]; omega
                · obtain rfl : k = 16 := by omega
                  have hj := SK.out.read ALL.out HRr.out hzb hz0
                  have HJ := Lib.hid hj
                  obtain ⟨K, hK⟩ : ∃ K, (jr Y).length = K := ⟨_, rfl⟩
                  have hT : tot (jr Y) = st := by rw [hj, ST.out]
                  have HX := Lib.hid (HRd.out _ (some ⟨gb, 0, none⟩) m q1 Y wr (Rd.of_own O.out) (Nat.le_refl _) (by omega))
                  have HK := Lib.hid hK
                  have HT := Lib.hid hT
                  clear hj hK hT
                  go_wp2_with fail
                  refine (HX.out).mono ?_; rintro e x2 he
                  obtain ⟨P3, q3, v3, rfl, g3, b3⟩ := he.get HK.out HT.out
                  have B3 := Lib.hid (BW.out.trans (b3.mono BW.out.size))
                  have HS := Lib.hid (same13 _ _ _ _ _ _ _ _ _ _ _ _ x2 g3 ((G.out.below B3.out (Nat.le_refl _)).head (k := wk) (by omega)))
                  have hrows := fun w => run_rows w (some ⟨g, o, none⟩) n c0 wk (wk : Int) rfl (by omega)
                  clear he g3 b3
                  go_wp2_with fail
                  refine (HS.out).mono ?_; rintro e w2 he
                  obtain ⟨rfl, q, rfl⟩ := he.yes HJ.out
                  clear he
                  go_wp2_with fail
                  go_ret
                  exact ⟨rfl, below_drewN B3.out _⟩
        · have hgt : 8 * ((m2 : Int) + 2) - 16 < (a : Int) := by omega
          go_wp2_with fail
          go_ret
          exact ⟨rfl, B1.out⟩
      · obtain ⟨g, o, rfl, _, _⟩ := Rd.row G.out.top (by omega)
        go_enter Try.func6, Try.ntmps6
        go_wp2_with fail
        refine (HA.out).mono ?_; rintro e x0 ⟨rfl, b0⟩
        have B0 := Lib.hid b0
        clear b0
        go_wp2_with fail
        refine (HFl.out _ B0.out).mono ?_; rintro e x1 he
        obtain ⟨P1, q1, rfl, o1, b1⟩ := he.get ML.out
        have B1 := Lib.hid (B0.out.trans (b1.mono B0.out.size))
        clear he o1 b1
        by_cases hz : z = 0
        · subst hz
          clear hgood
          go_wp2_with fail
          go_ret
          exact ⟨rfl, B1.out⟩
        · have hzz : ((z : Int) == 0) = false := by rw [beq_eq_false_iff_ne]; omega
          have hneg : a2 < 0 := by omega
          clear hgood hz
          go_wp2_with fail
          go_ret
          exact ⟨rfl, B1.out⟩
    · go_enter Try.func6, Try.ntmps6
      go_wp2_with fail
      refine (HA.out).mono ?_; rintro e x0 ⟨rfl, b0⟩
      have B0 := Lib.hid b0
      clear b0
      go_wp2_with fail
      refine (HFl.out _ B0.out).mono ?_; rintro e x1 he
      obtain ⟨P1, q1, rfl, o1, b1⟩ := he.get ML.out
      have B1 := Lib.hid (B0.out.trans (b1.mono B0.out.size))
      clear he o1 b1
      by_cases hneg : a1 < 0
      · clear h1
        go_wp2_with fail
        go_ret
        exact ⟨rfl, B1.out⟩
      · have hge : (n : Int) ≤ a1 := by omega
        clear h1
        go_wp2_with fail
        go_ret
        exact ⟨rfl, B1.out⟩
  · rw [hf] at HFl
    clear hall hf
    go_enter Try.func6, Try.ntmps6
    go_wp2_with fail
    refine (HA.out).mono ?_; rintro e x0 ⟨rfl, b0⟩
    have B0 := Lib.hid b0
    clear b0
    go_wp2_with fail
    refine (HFl.out _ B0.out).mono ?_; rintro e x1 he
    obtain ⟨P1, q1, rfl, o1, b1⟩ := he.get rfl
    have B1 := Lib.hid (B0.out.trans (b1.mono B0.out.size))
    clear he o1 b1
    go_wp2_with fail
    go_ret
    exact ⟨rfl, B1.out⟩
end Go.Proofs.Ytdckhfgfmkggiaa.Jrn
