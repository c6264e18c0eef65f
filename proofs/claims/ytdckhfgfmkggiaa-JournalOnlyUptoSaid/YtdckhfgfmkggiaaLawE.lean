/-
  JournalJoin, walked under what is asked of Fold and Read.
-/
import Derived.Test.YtdckhfgfmkggiaaLawD
namespace Go.Proofs.Ytdckhfgfmkggiaa.Jrn
open Go.ChangeShapes Go.WideShapes Go.ChangeAt Go.RowKit Words Crc
set_option linter.unusedVariables false

theorem grid_join {w : World} {B B' n1 c1 n2 c2 n c : Nat} {A1 A2 A : Option Addr} {v1 v2 : List Sl} {l1 l2 : List Bytes} (h1 : Grid w B A1 n1 c1 v1 l1) (h2 : Grid w B A2 n2 c2 v2 l2) (top : Rd w B' 1 A n c (svals (v1 ++ v2))) (hB : B ≤ B') : Grid w B' A n c (v1 ++ v2) (l1 ++ l2) := by
  refine ⟨top, by rw [List.length_append, List.length_append, h1.lens, h2.lens], fun j v l hv hl => ?_⟩
  rw [List.getElem?_append] at hv hl
  rw [h1.lens] at hl
  split at hv
  · rename_i hj
    rw [if_pos hj] at hl
    exact Rd.more (h1.each j v l hv hl) hB
  · rename_i hj
    rw [if_neg hj] at hl
    exact Rd.more (h2.each _ v l hv hl) hB
set_option maxHeartbeats 8000000 in
theorem join_walk (HF : FoldC) (HR : ReadC) (A0 A1 : Option Addr) (n c0 n1 c1 : Nat) (vs : List Sl) (l : List Bytes) (b : Bytes) (w : World) (h0 : Grid w w.heap.size A0 n c0 vs l) (h1 : Txt w w.heap.size A1 n1 c1 b) (hc : c0 ≤ 1048576) (hc1 : c1 ≤ 1048576) :
    Calls Try.prog 8 #[.slice A0 n c0, .slice A1 n1 c1] w fun e w' => e = .returned (.bool true) ∧ Below w.heap.size w w' := by
  have hnc := Rd.le h0.top
  have hnc1 := Rd.le h1
  have hn : n ≤ 1048576 := by omega
  have hn1 : n1 ≤ 1048576 := by omega
  have HA := Lib.hid (alive15 HF HR w)
  have HFl := Lib.hid (fun x (b : Below w.heap.size w x) => HF _ _ _ _ _ l x (h0.below b (Nat.le_refl _)) b.size (by omega))
  have HRd := Lib.hid HR
  have G := Lib.hid h0
  have L := Lib.hid h0.count
  have V := Lib.hid h0.vlen
  have HTx := Lib.hid h1
  have L1 := Lib.hid h1.len
  clear HF HR h0 h1
  rcases fold_cases l with ⟨hall, hf⟩ | ⟨hall, hf⟩
  · obtain ⟨m, hm⟩ : ∃ m, tot l = m := ⟨_, rfl⟩
    have hml : (flat l).length = m := by rw [flat_length, hm]
    have hm2 := tot_le hall
    rw [hm, L.out] at hm2
    rw [hf] at HFl
    obtain ⟨K, hK⟩ : ∃ K, (jr b).length = K := ⟨_, rfl⟩
    obtain ⟨T, hT⟩ : ∃ T, tot (jr b) = T := ⟨_, rfl⟩
    have hKn : K ≤ n1 := by have := jr_count b; have := L1.out; omega
    have hTn : T ≤ n1 := by have := jr_tot b; have := L1.out; omega
    have hj := jr_flat hall b
    have JJ := Lib.hid hj
    have JK : Hid ((jr (flat l ++ b)).length = n + K) := Lib.hid (by rw [hj, List.length_append, L.out, hK])
    have JT : Hid (tot (jr (flat l ++ b)) = m + T) := Lib.hid (by rw [hj, tot_append, hm, hT])
    have JL : Hid ((flat l ++ b).length = m + n1) := Lib.hid (by rw [List.length_append, hml, L1.out])
    have ML := Lib.hid hml
    have HK := Lib.hid hK
    have HT := Lib.hid hT
    clear hall hf hm hml hK hT hj
    go_enter Try.func8, Try.ntmps8
    go_wp2_with fail
    refine (HA.out).mono ?_; rintro e x0 ⟨rfl, b0⟩
    have B0 := Lib.hid b0
    clear b0
    go_wp2_with fail
    refine (HFl.out _ B0.out).mono ?_; rintro e x1 he
    obtain ⟨P1, q1, rfl, o1, b1⟩ := he.get ML.out
    have T1 := Lib.hid (show Txt x1 x1.heap.size P1 m q1 (flat l) from Rd.of_own o1)
    have B1 := Lib.hid (B0.out.trans (b1.mono B0.out.size))
    have HX := Lib.hid (HRd.out _ A1 n1 c1 b x1 (Rd.below HTx.out B1.out (Nat.le_refl _)) B1.out.size (by omega))
    clear he o1 b1
    go_wp2_with fail
    refine (HX.out).mono ?_; rintro e x2 he
    obtain ⟨P2, q2, v2, rfl, g2, b2⟩ := he.get HK.out HT.out
    have G2 := Lib.hid g2
    have B2 := Lib.hid (B1.out.trans (b2.mono B1.out.size))
    have TC1 := Rd.more (Rd.below T1.out b2 (Nat.le_refl _)) b2.size
    have TC2 := Rd.more (Rd.below HTx.out B2.out (Nat.le_refl _)) B2.out.size
    clear he g2 b2
    obtain ⟨y, hy⟩ : ∃ y, y = x2.alloc (.cells #[.slice P1 m q1, .slice A1 n1 c1] 22) := ⟨_, rfl⟩
    have by_ : Below x2.heap.size x2 y := by rw [hy]; exact (Below.refl _ _).alloc (Nat.le_refl _) _
    have WY : Whole y x2.heap.size 22 #[.slice P1 m q1, .slice A1 n1 c1] := by rw [hy]; exact Whole.new x2 22 _
    have HC := Lib.hid (concat16 _ P1 A1 m q1 n1 c1 (flat l) b x2.heap.size y (Rd.below TC1 by_ (Nat.le_refl _)) (Rd.below TC2 by_ (Nat.le_refl _)) by_.size WY.lt (WY.cell 0) (WY.cell 1) (by omega) (by omega))
    have BY := Lib.hid (B2.out.trans (by_.mono B2.out.size))
    have Y2 : Hid (Below x2.heap.size x2 (x2.alloc (.cells #[.slice P1 m q1, .slice A1 n1 c1] 22))) := Lib.hid (by rw [← hy]; exact by_)
    rw [hy] at HC BY
    clear hy by_ WY TC1 TC2
    go_wp2_with fail
    refine (HC.out).mono ?_; rintro e x3 ⟨P3, q3, he, o3, b3⟩
    simp only [JL.out] at he o3
    subst he
    have B3 := Lib.hid (BY.out.trans (b3.mono BY.out.size))
    have T3 := Rd.of_own o3
    have Y3 := Lib.hid (Y2.out.trans (b3.mono Y2.out.size))
    have HZ := Lib.hid (HRd.out _ P3 (m + n1) q3 (flat l ++ b) x3 T3 (Nat.le_refl _) (by omega))
    clear o3 b3 T3
    go_wp2_with fail
    refine (HZ.out).mono ?_; rintro e x4 he
    obtain ⟨P4, q4, v4, rfl, g4, b4⟩ := he.get JK.out JT.out
    rw [JJ.out] at g4
    have G4 := Lib.hid g4
    have B4 := Lib.hid (B3.out.trans (b4.mono B3.out.size))
    have Y4 := Lib.hid (Y3.out.trans (b4.mono Y3.out.size))
    clear he g4 b4
    obtain ⟨z, hz⟩ : ∃ z, z = x4.alloc (.cells #[.slice A0 n c0, .slice P2 K q2] 26) := ⟨_, rfl⟩
    have bz : Below x4.heap.size x4 z := by rw [hz]; exact (Below.refl _ _).alloc (Nat.le_refl _) _
    have WZ : Whole z x4.heap.size 26 #[.slice A0 n c0, .slice P2 K q2] := by rw [hz]; exact Whole.new x4 26 _
    have GA : Grid z z.heap.size A0 n c0 vs l := ((G.out.below B4.out (Nat.le_refl _)).below bz B4.out.size).more (Nat.le_trans B4.out.size bz.size)
    have GB : Grid z z.heap.size P2 K q2 v2 (jr b) := ((G2.out.below Y4.out (Nat.le_refl _)).below bz Y4.out.size).more (Nat.le_trans Y4.out.size bz.size)
    have GC : Grid z x4.heap.size P4 (n + K) q4 v4 (l ++ jr b) := G4.out.below bz (Nat.le_refl _)
    have BZ := Lib.hid (B4.out.trans (bz.mono B4.out.size))
    have HD := Lib.hid (concat17 _ A0 P2 n c0 K q2 vs v2 x4.heap.size z GA.top GB.top (Nat.le_refl _) WZ.lt (WZ.cell 0) (WZ.cell 1) (by omega) (by omega))
    have VL : Hid ((vs ++ v2).length = n + K) := Lib.hid (by rw [List.length_append, V.out, GB.vlen])
    have GA := Lib.hid GA
    have GB := Lib.hid GB
    have GC := Lib.hid GC
    rw [hz] at HD BZ GA GB GC
    clear hz bz WZ
    go_wp2_with fail
    refine (HD.out).mono ?_; rintro e x5 ⟨P5, q5, he, o5, b5⟩
    simp only [VL.out] at he o5
    subst he
    have GJ := grid_join (Grid.more (Grid.below GA.out b5 (Nat.le_refl _)) b5.size) (Grid.more (Grid.below GB.out b5 (Nat.le_refl _)) b5.size) (Rd.of_own o5) (Nat.le_refl _)
    have HS := Lib.hid (same13 _ _ _ _ _ _ _ _ _ _ _ _ x5 (Grid.below GC.out b5 (by simp)) GJ)
    have B5 := Lib.hid (BZ.out.trans (b5.mono BZ.out.size))
    clear o5 b5 GJ
    go_wp2_with fail
    refine (HS.out).mono ?_; rintro e w2 he
    obtain ⟨rfl, q, rfl⟩ := he.yes (by first | rfl | trivial)
    clear he
    go_wp2_with fail
    go_ret
    exact ⟨rfl, below_drewN B5.out _⟩
  · rw [hf] at HFl
    clear hall hf
    go_enter Try.func8, Try.ntmps8
    go_wp2_with fail
    refine (HA.out).mono ?_; rintro e x0 ⟨rfl, b0⟩
    have B0 := Lib.hid b0
    clear b0
    go_wp2_with fail
    refine (HFl.out _ B0.out).mono ?_; rintro e x1 he
    obtain ⟨P1, q1, rfl, o1, b1⟩ := he.get rfl
    have B1 := Lib.hid (B0.out.trans (b1.mono B0.out.size))
    clear he o1 b1
    go_wp2_with fail
    go_ret
    exact ⟨rfl, B1.out⟩
end Go.Proofs.Ytdckhfgfmkggiaa.Jrn
