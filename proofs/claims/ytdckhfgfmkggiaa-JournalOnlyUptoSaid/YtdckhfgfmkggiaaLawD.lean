/-
  JournalOnly, walked under what is asked of Fold and Read.
-/
import Derived.Test.YtdckhfgfmkggiaaLawC
namespace Go.Proofs.Ytdckhfgfmkggiaa.Jrn
open Go.ChangeShapes Go.WideShapes Go.ChangeAt Go.RowKit Words Crc
set_option linter.unusedVariables false

theorem conv_txtN {B : Nat} {A : Option Addr} {n c : Nat} {l : Bytes} {w : World} (h : Txt w B A n c l) : (∀ j, (convert 22 9 (.slice A n c)).run Try.prog (w.drewN j) = .ok (.string (str l)) (w.drewN j)) := fun j => conv_txt h j
set_option maxHeartbeats 8000000 in
theorem only_walk (HF : FoldC) (HR : ReadC) (A0 : Option Addr) (n c0 : Nat) (b : Bytes) (w : World) (h0 : Txt w w.heap.size A0 n c0 b) (hc : c0 ≤ 1048576) :
    Calls Try.prog 7 #[.slice A0 n c0] w fun e w' => e = .returned (.bool true) ∧ Below w.heap.size w w' := by
  have hnc := Rd.le h0
  have hn : n ≤ 1048576 := by omega
  have HA := Lib.hid (alive15 HF HR w)
  have HRd := Lib.hid HR
  have HFl := Lib.hid HF
  have hl := h0.len
  obtain ⟨K, hK⟩ : ∃ K, (jr b).length = K := ⟨_, rfl⟩
  obtain ⟨T, hT⟩ : ∃ T, tot (jr b) = T := ⟨_, rfl⟩
  have hTn : T ≤ n := by have := jr_tot b; omega
  have hKn : K ≤ n := by have := jr_count b; omega
  obtain ⟨hall, _⟩ := jr_spec b
  have hf := fold_ok hall
  obtain ⟨e1, e2⟩ := jr_only b
  rw [hT] at e1 e2
  have E1 := Lib.hid e1
  have E2 := Lib.hid e2
  have HFF := Lib.hid hf
  have HK := Lib.hid hK
  have HT := Lib.hid hT
  have HTx := Lib.hid h0
  have hfl : (flat (jr b)).length = T := by rw [flat_length]; exact hT
  have HFLn := Lib.hid hfl
  clear HF HR h0 hall hf e1 e2 hK hT hl hfl
  have hcutB := fun w => run_back w A0 n c0 T (T : Int) rfl hTn
  have hcutF := fun w => run_front w A0 n c0 T (T : Int) rfl (by omega)
  obtain ⟨P9, hP9⟩ : ∃ P9, P9 = cutA A0 c0 T := ⟨_, rfl⟩
  rw [← hP9] at hcutB
  have HP9 := Lib.hid hP9
  clear hP9
  go_enter Try.func7, Try.ntmps7
  go_wp2_with fail
  refine (HA.out).mono ?_; rintro e x0 ⟨rfl, b0⟩
  have B0 := Lib.hid b0
  have HX := Lib.hid (HRd.out _ A0 n c0 b x0 (Rd.below HTx.out b0 (Nat.le_refl _)) b0.size (by omega))
  clear b0
  go_wp2_with fail
  refine (HX.out).mono ?_; rintro e x1 he
  obtain ⟨P1, q1, v1, rfl, g1, b1⟩ := he.get HK.out HT.out
  have B1 := Lib.hid (B0.out.trans (b1.mono B0.out.size))
  have HY := Lib.hid (HFl.out _ P1 K q1 v1 (jr b) x1 g1 (Nat.le_refl _) (by omega))
  rw [HFF.out] at HY
  clear he g1 b1
  go_wp2_with fail
  refine (HY.out).mono ?_; rintro e x2 he
  obtain ⟨P2, q2, rfl, o2, b2⟩ := he.get HFLn.out
  have T2 := Lib.hid (show Txt x2 x2.heap.size P2 T q2 (flat (jr b)) from Rd.of_own o2)
  have B2 := Lib.hid (B1.out.trans (b2.mono B1.out.size))
  have TB : Txt x2 w.heap.size P9 (n - T) (c0 - T) (b.drop T) := by rw [HP9.out]; exact Txt.back (Rd.below HTx.out B2.out (Nat.le_refl _)) hTn
  have HZ := Lib.hid (HRd.out _ P9 (n - T) (c0 - T) (b.drop T) x2 TB B2.out.size (by omega))
  clear he o2 b2 TB
  go_wp2_with fail
  refine (HZ.out).mono ?_; rintro e x3 he
  obtain ⟨P3, q3, v3, rfl, g3, b3⟩ := he.get (m := 0) (t := 0) (by rw [E2.out]; rfl) (by rw [E2.out]; rfl)
  have B3 := Lib.hid (B2.out.trans (b3.mono B2.out.size))
  have k1 := conv_txtN (Rd.below T2.out b3 (Nat.le_refl _))
  have k2 := conv_txtN (show Txt x3 w.heap.size A0 T c0 (b.take T) from Txt.head (Rd.below HTx.out B3.out (Nat.le_refl _)) hTn)
  rw [← E1.out] at k2
  have hb := str_same (flat (jr b))
  clear he g3 b3 hcutB
  go_wp2_with fail
  go_quiet (fail)
  go_wp2_with fail
  go_ret
  exact ⟨rfl, below_drewN B3.out _⟩
end Go.Proofs.Ytdckhfgfmkggiaa.Jrn
