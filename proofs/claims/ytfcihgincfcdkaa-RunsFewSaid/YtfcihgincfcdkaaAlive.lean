/-
  The example that the laws run ahead: four runs put, one looked up.
-/
import Derived.Test.YtfcihgincfcdkaaRPut
import Derived.Test.YtfcihgincfcdkaaREqs
namespace Go.Proofs.Ytfcihgincfcdkaa.Rns
open Go.ChangeShapes Go.WideShapes Go.ChangeAt Go.RowKit Words Go.Sort
set_option linter.unusedVariables false

theorem al1 : pl [] ⟨0, 50, 6⟩ = [⟨0, 50, 6⟩] ∧ pe [] ⟨0, 50, 6⟩ = 0 := by decide +kernel
theorem al2 : pl [⟨0, 50, 6⟩] ⟨2, 80, 2⟩ = [⟨0, 50, 2⟩, ⟨2, 80, 2⟩, ⟨4, 54, 2⟩] ∧ pe [⟨0, 50, 6⟩] ⟨2, 80, 2⟩ = 0 := by decide +kernel
theorem al3 : pl [⟨0, 50, 2⟩, ⟨2, 80, 2⟩, ⟨4, 54, 2⟩] ⟨2, 52, 2⟩ = [⟨0, 50, 6⟩] ∧ pe [⟨0, 50, 2⟩, ⟨2, 80, 2⟩, ⟨4, 54, 2⟩] ⟨2, 52, 2⟩ = 0 := by decide +kernel
theorem al4 : fv [⟨0, 50, 2⟩, ⟨2, 80, 2⟩, ⟨4, 54, 2⟩] 4 = 54 ∧ fe [⟨0, 50, 2⟩, ⟨2, 80, 2⟩, ⟨4, 54, 2⟩] 4 = 0 := by decide +kernel
set_option maxHeartbeats 4000000 in
theorem alive18 (w : World) : Calls Try.prog 18 #[] w fun e w' => e = .returned (.bool true) ∧ Below w.heap.size w w' := by
  have H1 := put17 0 none 0 0 [] ⟨0, 50, 6⟩ w (Words.Rd.nil_ w 0 3) (Nat.zero_le _)
  rw [al1.1, al1.2] at H1
  unfold rval at H1
  have H1 := Lib.hid H1
  go_enter Try.func18, Try.ntmps18
  go_wp2_with fail
  refine (H1.out).mono ?_; rintro e w1 ⟨A1, c1, rfl, o1, b1⟩
  have O1 := Lib.hid o1
  have B1 := Lib.hid b1
  have H2 := put17 w1.heap.size A1 1 c1 [⟨0, 50, 6⟩] ⟨2, 80, 2⟩ w1 o1.rns (Nat.le_refl _)
  rw [al2.1, al2.2] at H2
  unfold rval at H2
  have H2 := Lib.hid H2
  clear o1 b1
  go_wp2_with fail
  refine (H2.out).mono ?_; rintro e w2 ⟨A2, c2, rfl, o2, b2⟩
  have O2 := Lib.hid o2
  have O1' := Lib.hid (O1.out.below b2 (Nat.le_refl _))
  have B2 := Lib.hid (B1.out.trans (b2.mono B1.out.size))
  have H3 := put17 w2.heap.size A2 3 c2 [⟨0, 50, 2⟩, ⟨2, 80, 2⟩, ⟨4, 54, 2⟩] ⟨2, 52, 2⟩ w2 o2.rns (Nat.le_refl _)
  rw [al3.1, al3.2] at H3
  unfold rval at H3
  have H3 := Lib.hid H3
  clear o2 b2
  go_wp2_with fail
  refine (H3.out).mono ?_; rintro e w3 ⟨A3, c3, rfl, o3, b3⟩
  have O3 := Lib.hid o3
  have O1'' := Lib.hid (O1'.out.below b3 (Nat.le_refl _))
  have O2' := Lib.hid (O2.out.below b3 (Nat.le_refl _))
  have B3 := Lib.hid (B2.out.trans (b3.mono B2.out.size))
  have H4 := find10 w3.heap.size A2 3 c2 [⟨0, 50, 2⟩, ⟨2, 80, 2⟩, ⟨4, 54, 2⟩] 4 w3 O2'.out.rns (Nat.le_refl _)
  rw [al4.1, al4.2] at H4
  have H4 := Lib.hid H4
  clear o3 b3
  go_wp2_with fail
  refine (H4.out).mono ?_; rintro e w4 ⟨rfl, b4⟩
  have P1 := Lib.hid (O1''.out.below b4 (Nat.le_refl _))
  have P2 := Lib.hid (O2'.out.below b4 (Nat.le_refl _))
  have P3 := Lib.hid (O3.out.below b4 (Nat.le_refl _))
  have B4 := Lib.hid (B3.out.trans (b4.mono B3.out.size))
  clear b4
  have bn := boxed w4 (.cells (lcells [⟨0, 50, 2⟩, ⟨2, 80, 2⟩, ⟨4, 54, 2⟩]).toArray 34)
  have B5 := Lib.hid (B4.out.trans (bn.mono B4.out.size))
  have NR : Rns (w4.alloc (.cells (lcells [⟨0, 50, 2⟩, ⟨2, 80, 2⟩, ⟨4, 54, 2⟩]).toArray 34)) (w4.heap.size + 1) (some ⟨w4.heap.size, 0, none⟩) 3 3 [⟨0, 50, 2⟩, ⟨2, 80, 2⟩, ⟨4, 54, 2⟩] := Words.Rd.new w4 34 _ (0, 0) _ 3 (by simp [lcells]) rfl (by unfold maxLen; omega)
  have E1 := Lib.hid (equal16_yes _ _ A2 (some ⟨w4.heap.size, 0, none⟩) 3 3 c2 3 _ _ _ (P2.out.below bn (Nat.le_refl _)).rns NR rfl)
  have F1 := Lib.hid (P1.out.below bn (Nat.le_refl _))
  have F3 := Lib.hid (P3.out.below bn (Nat.le_refl _))
  clear NR bn
  go_wp2_with fail
  refine (E1.out).mono ?_; rintro e w6 ⟨rfl, L6⟩
  have B6 := Lib.hid (B5.out.trans (L6.below.mono B5.out.size))
  have E2 := Lib.hid (equal16_yes _ _ A3 A1 1 1 c3 c1 _ _ w6 (F3.out.below L6.below (Nat.le_refl _)).rns (F1.out.below L6.below (Nat.le_refl _)).rns rfl)
  clear L6
  go_wp2_with fail
  refine (E2.out).mono ?_; rintro e w7 ⟨rfl, L7⟩
  have B7 := Lib.hid (B6.out.trans (L7.below.mono B6.out.size))
  clear L7
  go_wp2_with fail
  go_ret
  exact ⟨rfl, B7.out⟩
end Go.Proofs.Ytfcihgincfcdkaa.Rns
