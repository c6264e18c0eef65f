/-
  The small test that package journal is not empty, under what is asked of Fold and Read.
-/
import Derived.Test.YtdckhfgfmkggiaaCon
import Derived.Lib.SlBytesConst
namespace Go.Proofs.Ytdckhfgfmkggiaa.Jrn
open Go.ChangeShapes Go.WideShapes Go.ChangeAt Go.RowKit Words Crc
set_option linter.unusedVariables false

def abL : List Bytes := [[97, 98], []]
def abW (w : World) : World := ((w.alloc (.cells #[.int .u8 97, .int .u8 98] 5 (2, 3))).alloc (.cells #[] 5)).alloc (.cells #[.slice (some ⟨w.heap.size, 0, none⟩) 2 2, .slice (some ⟨w.heap.size + 1, 0, none⟩) 0 0] 22)
theorem ab_below (w : World) : Below w.heap.size w (abW w) := (((Below.refl _ _).alloc (Nat.le_refl _) _).alloc (by simp) _).alloc (by simp; omega) _
theorem ab_grid (w : World) : Grid (abW w) (abW w).heap.size (some ⟨w.heap.size + 2, 0, none⟩) 2 2 [(some ⟨w.heap.size, 0, none⟩, 2, 2), (some ⟨w.heap.size + 1, 0, none⟩, 0, 0)] abL := by
  have hs : (abW w).heap.size = w.heap.size + 3 := by unfold abW; simp
  have h0 : Txt (w.alloc (.cells #[.int .u8 97, .int .u8 98] 5 (2, 3))) (w.heap.size + 1) (some ⟨w.heap.size, 0, none⟩) 2 2 [97, 98] := Rd.new w 5 _ (2, 3) _ 2 rfl rfl (by decide)
  have hb : Below (w.heap.size + 1) (w.alloc (.cells #[.int .u8 97, .int .u8 98] 5 (2, 3))) (abW w) := ((Below.refl _ _).alloc (by simp) _).alloc (by simp) _
  have h1 : Rd (abW w) ((w.alloc (.cells #[.int .u8 97, .int .u8 98] 5 (2, 3))).alloc (.cells #[] 5)).heap.size.succ 1 (some ⟨((w.alloc (.cells #[.int .u8 97, .int .u8 98] 5 (2, 3))).alloc (.cells #[] 5)).heap.size, 0, none⟩) 2 2 [.slice (some ⟨w.heap.size, 0, none⟩) 2 2, .slice (some ⟨w.heap.size + 1, 0, none⟩) 0 0] :=
    Rd.new _ 22 _ (0, 0) _ 2 rfl rfl (by decide)
  have e2 : ((w.alloc (.cells #[.int .u8 97, .int .u8 98] 5 (2, 3))).alloc (.cells #[] 5)).heap.size = w.heap.size + 2 := by simp
  rw [e2] at h1
  refine ⟨Rd.more h1 (by rw [hs]; exact Nat.le_refl _), rfl, fun j v l hv hl => ?_⟩
  match j, hv, hl with
  | 0, hv, hl =>
    simp [abL] at hv hl
    subst hv hl
    exact Rd.more (Rd.below h0 hb (Nat.le_refl _)) (by rw [hs]; omega)
  | 1, hv, hl =>
    simp [abL] at hv hl
    subst hv hl
    show Rd (abW w) (abW w).heap.size 1 (some ⟨w.heap.size + 1, 0, none⟩) 0 0 []
    exact ⟨rfl, Nat.le_refl _, Nat.zero_le _, (fun h => by cases h), fun h => absurd h (by omega)⟩
theorem ab_fold : foldR abL = (flat abL, 0) := by rfl
theorem ab_len : (flat abL).length = 8 := by rw [flat_length]; rfl
theorem ab_read : jr (flat abL ++ [9, 9]) = abL ∧ tot abL = 8 := ⟨jr_unique rfl rfl (by decide +kernel), rfl⟩
theorem ab_conv (w : World) : (convert 22 22 (.slice (some ⟨w.heap.size, 0, none⟩) 2 2)).run Try.prog (w.alloc (.cells #[.int .u8 97, .int .u8 98] 5)) = .ok (.slice (some ⟨w.heap.size, 0, none⟩) 2 2) (w.alloc (.cells #[.int .u8 97, .int .u8 98] 5 (2, 3))) :=
  Lib.run_convert_bytes_const w 22 5 #[.int .u8 97, .int .u8 98] 2 2 Try.underlying22 Try.underlying5
set_option maxHeartbeats 4000000 in
theorem alive15 (HF : FoldC) (HR : ReadC) (w : World) : Calls Try.prog 15 #[] w fun e w' => e = .returned (.bool true) ∧ Below w.heap.size w w' := by
  obtain ⟨i0, hi0, hz0, hz1, hz2⟩ := info_parts info5
  have hcv := ab_conv w
  have HP := Lib.hid (HF _ _ 2 2 _ abL (abW w) (ab_grid w) (Nat.le_refl _) (by omega))
  rw [ab_fold] at HP
  have HB := Lib.hid (ab_below w)
  have HRd := Lib.hid HR
  unfold abW at HP HB
  clear HF HR
  go_enter Try.func15, Try.ntmps15
  go_wp2_with fail
  refine (HP.out).mono ?_; rintro e x1 ⟨A1, c1, he, own1, b1⟩
  simp only [ab_len] at he own1
  unfold two at he
  subst he
  have B1 := Lib.hid (HB.out.trans (b1.mono HB.out.size))
  have HC := Lib.hid (clone21 _ A1 8 c1 (flat abL) x1 (Rd.of_own own1) (Nat.le_refl _) (by omega))
  clear hcv own1 b1
  go_wp2_with fail
  refine (HC.out).mono ?_; rintro e x2 ⟨A2, c2, he, own2, b2⟩
  simp only [ab_len] at he own2
  subst he
  have B2 := Lib.hid (B1.out.trans (b2.mono B1.out.size))
  have own2' := own2.alloc (.cells #[.int .u8 9, .int .u8 9] 5)
  have hb2 : Below x2.heap.size x2 (x2.alloc (.cells #[.int .u8 9, .int .u8 9] 5)) := (Below.refl _ _).alloc (Nat.le_refl _) _
  have N2 : Rd (x2.alloc (.cells #[.int .u8 9, .int .u8 9] 5)) (x2.heap.size + 1) 1 (some ⟨x2.heap.size, 0, none⟩) 2 2 (bcells [9, 9]) := rd_pair _ _ _
  have hz : x1.heap.size ≤ (x2.alloc (.cells #[.int .u8 9, .int .u8 9] 5)).heap.size := Nat.le_trans b2.size hb2.size
  have b2' : Below x1.heap.size x1 (x2.alloc (.cells #[.int .u8 9, .int .u8 9] 5)) := b2.alloc b2.size _
  clear own2 b2
  go_wp2_with (at_builtin; refine wpList_append_rd _ rfl (.tmp 15) (.tmp 16) 22 rfl x1.heap.size 5 i0 (.int .u8 0) 1 1 Try.underlying22 hi0 hz0 hz1 hz2 rfl (by decide) _ 8 (bcells (flat abL)) rfl own2' (x2.heap.size + 1) (some ⟨x2.heap.size, 0, none⟩) 2 2 (bcells [9, 9]) rfl N2 (bcells_one [9, 9]) (by simp only [maxLen]; omega) (by omega) hz ?_
               intro A3 c3 w3 own3 hg3
               have b3 : Below x1.heap.size x1 w3 := below_grown b2' own2' hg3 hz (Nat.le_refl _)
               rw [← bcells_append] at own3)
  have HRX := Lib.hid (HRd.out _ A3 10 c3 (flat abL ++ [9, 9]) w3 (Rd.of_own own3) (Nat.le_refl _) (by omega))
  have B3 := Lib.hid (B1.out.trans (b3.mono B1.out.size))
  unfold ReadTo at HRX
  rw [ab_read.1, ab_read.2] at HRX
  clear own3 b3 b2' own2' N2 hg3 hb2
  refine (HRX.out).mono ?_; rintro e x4 ⟨A4, c4, vs4, rfl, g4, b4⟩
  have hl4 : abL.length = 2 := rfl
  rw [hl4] at g4
  rw [hl4]
  have B4 := Lib.hid (B3.out.trans (b4.mono B3.out.size))
  have hcv := ab_conv x4
  have HS := Lib.hid (same13 _ _ A4 _ 2 2 c4 2 vs4 _ abL abL (abW x4) (g4.below (ab_below x4) (Nat.le_refl _)) (ab_grid x4))
  have B5 := Lib.hid (B4.out.trans ((ab_below x4).mono B4.out.size))
  unfold abW at HS B5
  clear g4 b4
  go_wp2_with fail
  refine (HS.out).mono ?_; rintro e w2 he
  obtain ⟨rfl, q, rfl⟩ := he.yes trivial
  clear he
  go_wp2_with fail
  go_ret
  exact ⟨rfl, below_drewN B5.out _⟩
end Go.Proofs.Ytdckhfgfmkggiaa.Jrn
