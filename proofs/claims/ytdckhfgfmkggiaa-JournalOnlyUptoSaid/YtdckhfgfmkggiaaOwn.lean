/-
  What the program's own Write, Fold and Read return.
-/
import Derived.Test.YtdckhfgfmkggiaaFrame
import Derived.Test.YtdckhfgfmkggiaaCWalks
namespace Go.Proofs.Ytdckhfgfmkggiaa.Jrn
open Go.ChangeShapes Go.WideShapes Go.ChangeAt Go.RowKit Words Crc
set_option linter.unusedVariables false

set_option maxHeartbeats 2000000 in
theorem write9o (B : Nat) (A : Option Addr) (n c : Nat) (l : List UInt8) (w : World) (h : Txt w B A n c l) (hB : B ≤ w.heap.size) :
    Calls Try.prog 9 #[.slice A n c] w (TextErr w (writeR l)) := by
  have hl := h.len
  have hm : n ≤ 9223372036854775807 := by have := Rd.le h; have := Rd.max h; unfold maxLen at this; omega
  unfold writeR
  by_cases hn : n ≤ 255
  · rw [if_pos (by omega)]
    obtain ⟨i0, hi0, hz0, hz1, hz2⟩ := info_parts info5
    have H := Lib.hid h
    have HN := Lib.hid hl
    have HC := Lib.hid (fun B A c w h hB => sealAny B A (n + 1) c (hd l :: l) w h hB (by omega))
    have HEL : Hid ((sealed_ (hd l :: l)).length = n + 3) := Lib.hid (by have := enc_length l; rw [hl] at this; exact this)
    have HD := Lib.hid (hd_cell hl hn)
    have hown1 : (w.alloc (.cells #[.int .u8 n] 5)).ownsRow w.heap.size 5 1 (.slice (some ⟨w.heap.size, 0, none⟩) 1 1) 1 [.int .u8 n] := w.ownsRow_lit #[.int .u8 n] 1 (Nat.le_refl _) (by decide) rfl
    have hb1 : Below w.heap.size w (w.alloc (.cells #[.int .u8 n] 5)) := (Below.refl _ _).alloc (Nat.le_refl _) _
    have hz1' : w.heap.size ≤ (w.alloc (.cells #[.int .u8 n] 5)).heap.size := hb1.size
    have HR := Lib.hid (Rd.below H.out hb1 hB)
    clear h hl
    go_enter Try.func9, Try.ntmps9
    go_wp2_with (first
      | (at_builtin; refine wpList_append_rd _ rfl (.tmp 10) (.tmp 11) 22 rfl w.heap.size 5 i0 (.int .u8 0) 1 1 Try.underlying22 hi0 hz0 hz1 hz2 rfl (by decide) _ 1 [.int .u8 n] rfl hown1 B A n c (bcells l) rfl HR.out (bcells_one l) (by simp only [maxLen]; omega) (by omega) hz1' ?_
         intro A2 c2 w2 hown2 hg2
         have hb2 : Below w.heap.size w w2 := below_grown hb1 hown1 hg2 hz1' (Nat.le_refl _)
         rw [Nat.add_comm 1 n] at hown2
         rw [Nat.add_comm 1 n]))
    have hown2' : w2.ownsRow w.heap.size 5 1 (.slice A2 (n + 1) c2) (n + 1) (bcells (hd l :: l)) := by
      rw [show bcells (hd l :: l) = [.int .u8 n] ++ bcells l by rw [← HD.out]; rfl]; exact hown2
    refine (HC.out _ _ _ _ (Rd.of_own hown2') (Nat.le_refl _)).mono ?_; rintro e x1 ⟨A3, c3, he, o3, b3⟩
    simp only [HEL.out] at he o3
    unfold Crc.two at he
    subst he
    have O3 := Lib.hid (own_base o3 hb2.size)
    have B3 := Lib.hid (hb2.trans (b3.mono hb2.size))
    clear hown2 hown2' hg2 o3 b3
    go_wp2_with fail
    go_ret2
    exact text_mk (by rw [enc_length, HN.out]) rfl O3.out B3.out
  · rw [if_neg (by omega)]
    have hgt : 255 < n := by omega
    clear h hl hn
    go_enter Try.func9, Try.ntmps9
    go_wp2_with fail
    go_ret2
    exact text_nil (Below.refl _ _)
theorem write9 : WriteC := fun B A n c l w h hB => (write9o B A n c l w h hB).mono fun e w' h => h.to
set_option maxHeartbeats 4000000 in
theorem fold14 : FoldC := by
  intro B A0 n c0 vs l w h0 hB hn
  obtain ⟨i0, hi0, hz0, hz1, hz2⟩ := info_parts info5
  have G := Lib.hid h0
  have L := Lib.hid h0.count
  clear h0
  go_enter Try.func14, Try.ntmps14
  go_wp2_with fail
  go_loopw [4, 11] (fun s i wr => ∃ (k t : Nat) (D : Option Addr) (d : Nat), s = .slice D t d ∧ i = .int .i64 k ∧ k ≤ n ∧ FI w w.heap.size l k t D d wr) (fun _ i _ => (n - intOf i).toNat)
  case atStart => exact ⟨0, 0, none, 0, rfl, rfl, by omega, Below.refl _ _, w.ownsRow_nil _ _ _, rfl, rfl⟩
  case round =>
    obtain ⟨k, t, D, d, rfl, rfl, hk, hinv⟩ := hrel
    have I := Lib.hid hinv
    have ht := tot_le hinv.ok
    rw [hinv.tot, List.length_take, L.out] at ht
    clear hinv
    by_cases hlt : k < n
    · obtain ⟨g, o, rfl, _, _⟩ := Rd.row G.out.top (by omega)
      obtain ⟨P2, m2, q2, r, hr, _, d2, t2⟩ := (G.out.below I.out.bel hB).at_ rfl hlt
      have HR := Lib.hid hr
      have HRL := Lib.hid t2.len
      have HJ := Lib.hid (write9o _ _ _ _ r wr t2 (Nat.le_trans hB I.out.bel.size))
      clear hr t2
      by_cases hrl : r.length ≤ 255
      · have hw : writeR r = (enc r, 0) := by unfold writeR; rw [if_pos hrl]
        rw [hw] at HJ
        have hel : (enc r).length = m2 + 3 := by rw [enc_length, HRL.out]
        have EL := Lib.hid hel
        have hm2 : m2 ≤ 255 := by rw [← HRL.out]; exact hrl
        clear hw hel hrl
        go_wp2_with fail
        refine (HJ.out).mono ?_; rintro e x2 he
        obtain ⟨P3, q3, rfl, o3, b3⟩ := he.get EL.out
        have hs2 : w.heap.size ≤ wr.heap.size := I.out.bel.size
        have own2 := own_below I.out.own b3 (Nat.le_refl _)
        have bel2 := I.out.bel.trans (b3.mono hs2)
        have hs3 : w.heap.size ≤ x2.heap.size := bel2.size
        have OF := Lib.hid own2
        have R3 : Rd x2 x2.heap.size 1 P3 (m2 + 3) q3 (bcells (enc r)) := Rd.of_own o3
        clear he own2 o3
        go_wp2_with (at_builtin; refine wpList_append_rd _ rfl (.tmp 23) (.tmp 24) 22 rfl w.heap.size 5 i0 (.int .u8 0) 1 1 Try.underlying22 hi0 hz0 hz1 hz2 rfl (by decide) _ t (bcells (flat (l.take k))) rfl OF.out x2.heap.size P3 (m2 + 3) q3 (bcells (enc r)) rfl R3 (bcells_one _) (by simp only [maxLen]; omega) (by omega) hs3 ?_
                     intro A4 c4 w4 own4 hg4)
        obtain ⟨f1, f2⟩ := flat_next HR.out
        have FN : Hid (FI w w.heap.size l (k + 1) (t + (m2 + 3)) A4 c4 w4) := Lib.hid
          ⟨below_grown bel2 OF.out hg4 hs3 (Nat.le_refl _), by rw [f1, bcells_append]; exact own4, all_next I.out.ok HR.out (by rw [HRL.out]; exact hm2), by rw [f2, I.out.tot, HRL.out]⟩
        clear own4 hg4 f1 f2 R3 bel2 b3
        go_roundw
        case rel => exact ⟨k + 1, t + (m2 + 3), A4, c4, rfl, by go_num, by omega, FN.out⟩
        case measure => simp [intOf]; omega
      · have hw : writeR r = ([], 2) := by unfold writeR; rw [if_neg hrl]
        rw [hw] at HJ
        have hbad := fold_bad HR.out hrl
        rw [hbad]
        clear hw hrl hbad
        go_wp2_with fail
        refine (HJ.out).mono ?_; rintro e x2 he
        obtain ⟨P3, q3, rfl, o3, b3⟩ := he.get rfl
        have BF := Lib.hid (I.out.bel.trans (b3.mono I.out.bel.size))
        clear he o3 b3
        go_wp2_with fail
        go_ret2
        exact text_nil BF.out
    · obtain rfl : k = n := by omega
      have hall : l.all okR = true := by have := I.out.ok; rwa [List.take_of_length_le (by rw [L.out]; omega)] at this
      have HFO := Lib.hid (fold_ok hall)
      have hO := I.out.own
      rw [List.take_of_length_le (by rw [L.out]; omega)] at hO
      have hT := I.out.tot
      rw [List.take_of_length_le (by rw [L.out]; omega)] at hT
      have HO := Lib.hid hO
      have HT := Lib.hid hT
      have BF := Lib.hid I.out.bel
      clear hO hall hT
      go_wp2_with fail
      go_ret2
      rw [HFO.out]
      exact text_mk (by rw [flat_length, HT.out]) rfl HO.out BF.out
end Go.Proofs.Ytdckhfgfmkggiaa.Jrn
