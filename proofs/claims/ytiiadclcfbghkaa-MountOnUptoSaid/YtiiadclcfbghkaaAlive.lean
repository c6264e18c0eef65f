/-
  The small test that package mount is not empty returns true.
-/
import Derived.Test.YtiiadclcfbghkaaMount
namespace Go.Proofs.Ytiiadclcfbghkaa.Mnt
open Go.ChangeShapes Go.WideShapes Go.ChangeAt Go.RowKit Words
set_option linter.unusedVariables false

def four : List Pg := [⟨4, 1, 7, true⟩, ⟨3, 0, 8, true⟩, ⟨5, 2, 6, false⟩, ⟨6, 2, 6, true⟩]
def fourCells : Array Value := #[.int .i64 4, .int .i64 1, .int .i64 7, .bool true, .int .i64 3, .int .i64 0, .int .i64 8, .bool true, .int .i64 5, .int .i64 2, .int .i64 6, .bool false, .int .i64 6, .int .i64 2, .int .i64 6, .bool true]
def nine : List Int := [9, 0, 0, 0, 0, 0, 0, 0, 0, 0, 0, 0, 0, 0, 0, 0]
def eight : List Int := [8, 7, 0, 0, 0, 0, 0, 0, 0, 0, 0, 0, 0, 0, 0, 0]
theorem four_s : moS nine four 3 = eight := by decide +kernel
theorem four_n : moN four 3 = 5 := by decide +kernel
theorem four_e : moE four 3 = 0 := by decide +kernel
set_option maxHeartbeats 4000000 in
theorem alive11 (w : World) : Calls Try.prog 11 #[] w fun e w' => e = .returned (.bool true) ∧ Below w.heap.size w w' := by
  have B0 : Hid (Below w.heap.size w (w.alloc (.cells fourCells 36))) := Lib.hid ((Below.refl _ _).alloc (Nat.le_refl _) _)
  have F0 : Pgs (w.alloc (.cells fourCells 36)) (w.heap.size + 1) (some ⟨w.heap.size, 0, none⟩) 4 4 four :=
    Words.Rd.new w 36 fourCells (0, 0) (lcells four) 4 rfl rfl (by simp only [maxLen]; omega)
  have HP := mount9 nine rfl 3 _ _ 4 4 four _ F0 (by simp) (fun p hp => by
    simp [four] at hp
    rcases hp with rfl | rfl | rfl | rfl <;> decide) (by omega)
  unfold Mounted at HP
  rw [four_s, four_n, four_e] at HP
  have HP := Lib.hid HP
  clear F0
  unfold fourCells at HP B0
  unfold av at HP
  have h9 : icells nine = [.int .i64 9, .int .i64 0, .int .i64 0, .int .i64 0, .int .i64 0, .int .i64 0, .int .i64 0, .int .i64 0, .int .i64 0, .int .i64 0, .int .i64 0, .int .i64 0, .int .i64 0, .int .i64 0, .int .i64 0, .int .i64 0] := rfl
  rw [h9] at HP
  go_enter Try.func11, Try.ntmps11
  go_wp2_with fail
  refine (HP.out).mono ?_; rintro e x1 ⟨rfl, hb1⟩
  have B1 := Lib.hid ((B0.out.trans (hb1.mono B0.out.size)).alloc (B0.out.trans (hb1.mono B0.out.size)).size (.cells (icells eight).toArray 22))
  have K := WI.new x1 22 eight
  have k0 := K.cell (i := 0) rfl
  have k1 := K.cell (i := 1) rfl
  have k2 := K.cell (i := 2) rfl
  have hi16 := size22_of (l := eight) rfl
  have ha16 := arr_all eight
  have hzz := z16_size (l := eight) rfl
  clear hb1 K
  go_wp2_with (refine wpList_store_new rfl 22 (.tmp 1) (.tmp 12) rfl x1 (icells eight).toArray rfl rfl 22 (icells zero16).toArray hi16 hzz ha16 ?_)
  go_ret
  exact ⟨rfl, B1.out⟩
end Go.Proofs.Ytiiadclcfbghkaa.Mnt
