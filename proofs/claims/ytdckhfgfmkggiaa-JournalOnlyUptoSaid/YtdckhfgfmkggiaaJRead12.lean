/-
  The document's own reading of a journal, walked.
-/
import Derived.Test.YtdckhfgfmkggiaaJRead
namespace Go.Proofs.Ytdckhfgfmkggiaa.Jrn
open Go.ChangeShapes Go.WideShapes Go.ChangeAt Go.RowKit Words Crc
set_option linter.unusedVariables false

set_option maxHeartbeats 8000000 in
theorem jread12 (B : Nat) (A : Option Addr) (n c : Nat) (b : Bytes) (w : World) (h : Txt w B A n c b) (hB : B ≤ w.heap.size) (hn : n ≤ 4294967296) :
    Calls Try.prog 12 #[.slice A n c] w (ReadTo w b) := by
  obtain ⟨i5, hi5, hz50, hz51, hz52⟩ := info_parts info5
  obtain ⟨i22, hi22, hz220, hz221, hz222⟩ := info_parts info22
  have H := Lib.hid h
  have L := Lib.hid h.len
  have hnc := Rd.le h
  have hcm := Rd.max h
  unfold maxLen at hcm
  clear h
  go_enter Try.func12, Try.ntmps12
  go_wp2_with fail
  go_loopw [4, 5] (fun s i wr => ∃ (k p : Nat) (D : Option Addr) (d : Nat) (vs : List Sl) (ls : List Bytes), s = .slice D k d ∧ i = .int .i64 p ∧ p ≤ n ∧ JI w b k p D d vs ls wr) (fun _ i _ => (n - intOf i).toNat)
  case atStart => exact ⟨0, 0, none, 0, [], [], rfl, rfl, by omega, ji_start w b⟩
  case round =>
    obtain ⟨k, p, D, d, vs, ls, rfl, rfl, hp, hinv⟩ := hrel
    have I := Lib.hid hinv
    have hk3 : 3 * k ≤ n := by have := jr_few b hinv.eq; rw [hinv.cnt, L.out] at this; exact this
    have hbs := hinv.bel.size
    clear hinv
    by_cases hlt : p < n
    · obtain ⟨g, o, rfl, _, _⟩ := Rd.row H.out (by omega)
      obtain ⟨x, hx⟩ : ∃ x, b[p]? = some x := ⟨_, List.getElem?_eq_getElem (by rw [L.out]; exact hlt)⟩
      have HT : Hid (Txt wr B (some ⟨g, o, none⟩) n c b) := Lib.hid (Rd.below H.out I.out.bel hB)
      have c0 := HT.out.cellAt rfl hx
      by_cases hfit : p + 3 + x.toNat ≤ n
      · obtain ⟨hrl, ho⟩ := one_at L.out hx hfit
        have hx2 := byte_lt x
        have T1 := Txt.cut HT.out (i := p + 1) (j := p + 1 + x.toNat) (by omega) (by omega)
        have T2 := Txt.cut HT.out (i := p) (j := p + (x.toNat + 3)) (by omega) (by omega)
        have hcut := fun w => run_cut w (some ⟨g, o, none⟩) n c (p + 1) (p + 1 + x.toNat) ((p : Int) + 1) ((p : Int) + 1 + (x.toNat : Int)) (by omega) (by omega) (by omega) (by omega)
        have hcut2 := fun w => run_cut w (some ⟨g, o, none⟩) n c p (p + (x.toNat + 3)) (p : Int) ((p : Int) + ((x.toNat : Int) + 3)) (by omega) (by omega) (by omega) (by omega)
        have e1 : p + 1 + x.toNat - (p + 1) = x.toNat := by omega
        have e2 : p + (x.toNat + 3) - p = x.toNat + 3 := by omega
        rw [e1] at T1 hcut
        rw [e2] at T2 hcut2
        generalize (b.take (p + 1 + x.toNat)).drop (p + 1) = r at *
        generalize (b.take (p + (x.toNat + 3))).drop p = f at *
        generalize x.toNat = m at *
        have HW := Lib.hid (jwrite10 wr.heap.size _ m _ r wr (Rd.more T1 (by omega)) (Nat.le_refl _))
        have hw : writeR r = (enc r, 0) := by unfold writeR; rw [if_pos (by omega)]
        rw [hw] at HW
        have HO := Lib.hid ho
        have HRL := Lib.hid hrl
        have HE := Lib.hid (enc_length r)
        have TT1 := Lib.hid T1
        have TT2 := Lib.hid T2
        generalize cutA (some ⟨g, o, none⟩) c (p + 1) = P1 at *
        generalize cutA (some ⟨g, o, none⟩) c p = P2 at *
        have HC2 := Lib.hid hcut2
        clear T1 T2 hx ho hrl hw hcut2 e1 e2
        go_wp2_with fail
        refine (HW.out).mono ?_; rintro e x1 ⟨A2, c2, he, hown, hb1⟩
        have hlen : (enc r).length = m + 3 := by rw [HE.out, HRL.out]
        simp only [hlen] at he hown
        unfold two at he
        subst he
        have hcut2 := HC2.out
        have TX2 : Txt x1 wr.heap.size P2 (m + 3) (c - p) f := Rd.below (Rd.more TT2.out (by omega)) hb1 (Nat.le_refl _)
        have k1 := conv_txt TX2
        have k2 := conv_txt (show Txt x1 x1.heap.size A2 (m + 3) c2 (enc r) from Rd.of_own hown)
        have HB1 := Lib.hid hb1
        clear TX2 hown hb1 hlen
        by_cases hef : enc r = f
        · have hb := str_beq (a := f) (b := enc r) (t := true) (propext ⟨fun _ => rfl, fun _ => hef.symm⟩)
          have HOS : Hid (one (List.drop p b) = some r) := Lib.hid (by rw [HO.out, if_pos hef])
          clear hef
          go_wp2_with fail
          go_quiet (fail)
          have own1 : ((x1.drewN nq).alloc (.cells #[] 5)).ownsRow x1.heap.size 5 1 (.slice (some ⟨x1.heap.size, 0, none⟩) 0 0) 0 [] := (x1.drewN nq).ownsRow_lit #[] 0 (Nat.le_refl _) (by decide) rfl
          have b1 : Below x1.heap.size x1 ((x1.drewN nq).alloc (.cells #[] 5)) := (below_drewN (Below.refl _ _) nq).alloc (Nat.le_refl _) _
          have z1 : x1.heap.size ≤ ((x1.drewN nq).alloc (.cells #[] 5)).heap.size := b1.size
          have hs1 : w.heap.size ≤ x1.heap.size := Nat.le_trans hbs HB1.out.size
          have R1 := Lib.hid (Rd.below (Rd.below TT1.out HB1.out (by omega)) b1 (by omega))
          clear k1 k2 hb hcut2
          go_wp2_with (first
            | (at_builtin; refine wpList_append_rd _ rfl (.tmp 55) (.tmp 56) 22 rfl x1.heap.size 5 i5 (.int .u8 0) 1 1 Try.underlying22 hi5 hz50 hz51 hz52 rfl (by decide) _ 0 [] rfl own1 B P1 m (c - (p + 1)) (bcells r) rfl R1.out (bcells_one r) (by simp only [maxLen]; omega) (by omega) z1 ?_
               intro A4 c4 w4 own4 hg4
               have b4 : Below x1.heap.size x1 w4 := below_grown b1 own1 hg4 z1 (Nat.le_refl _)
               simp only [Nat.zero_add, List.nil_append] at own4
               simp only [Nat.zero_add]
               have b5 := b4.alloc b4.size (.cells #[.slice A4 m c4] 22)
               have G5 := (I.out.own.below HB1.out).below b5
               have T5 := (TT.own own4).below ((Below.refl _ _).alloc (Nat.le_refl _) (.cells #[.slice A4 m c4] 22))
               have N5 : Rd (w4.alloc (.cells #[.slice A4 m c4] 22)) (w4.heap.size + 1) 1 (some ⟨w4.heap.size, 0, none⟩) 1 1 [sval (A4, m, c4)] := Rd.new w4 22 _ (0, 0) _ 1 rfl rfl (by decide)
               have hs5 : w.heap.size ≤ (w4.alloc (.cells #[.slice A4 m c4] 22)).heap.size := Nat.le_trans hs1 b5.size
               clear own1 b1 hg4)
            | (at_builtin; refine wpList_append_rd _ rfl (.tmp 54) (.tmp 58) 26 rfl w.heap.size 22 i22 (.slice none 0 0) 1 24 Try.underlying26 hi22 hz220 hz221 hz222 rfl (by decide) _ k (svals vs) rfl G5.own (w4.heap.size + 1) (some ⟨w4.heap.size, 0, none⟩) 1 1 [sval (A4, m, c4)] rfl N5 (svals_one [(A4, m, c4)]) (by simp only [maxLen]; omega) (by omega) hs5 ?_
               intro A6 c6 w6 own6 hg6
               have b6 : Below w.heap.size w w6 := below_grown (I.out.bel.trans ((HB1.out.mono hbs).trans (b5.mono hs1))) G5.own hg6 hs5 (Nat.le_refl _)
               have J6 := Lib.hid (I.out.next HOS.out b6 (G5.push T5 own6 hg6))
               clear own6 hg6 b6 G5 T5 N5 b5 b4 own4))
          rw [HRL.out] at J6
          go_roundw
          case rel => exact ⟨k + 1, p + (m + 3), A6, c6, _, _, rfl, by go_num, by omega, J6.out⟩
          case measure => simp [intOf]; omega
        · have hb := str_beq (a := f) (b := enc r) (t := false) (propext ⟨fun h => absurd h.symm hef, fun h => by cases h⟩)
          have HON : Hid (one (List.drop p b) = none) := Lib.hid (by rw [HO.out, if_neg hef])
          clear hef
          go_wp2_with fail
          go_quiet (fail)
          go_wp2_with fail
          go_ret2
          exact (I.out.below (below_drewN HB1.out _)).end_ HON.out
      · have HON := Lib.hid (one_short L.out hx (by omega))
        have hx2 := byte_lt x
        have hgt : ¬ (p : Int) + 3 + (x.toNat : Int) ≤ (n : Int) := by omega
        generalize x.toNat = m at *
        clear hx
        go_wp2_with fail
        go_ret2
        exact I.out.end_ HON.out
    · obtain rfl : p = n := by omega
      have HR := Lib.hid (I.out.end_ (one_out L.out (Nat.le_refl _)))
      go_wp2_with fail
      go_ret2
      exact HR.out
end Go.Proofs.Ytdckhfgfmkggiaa.Jrn
