/-
  What is asked of the program's three functions, and the small test that package twin is not empty.
-/
import Derived.Test.YtpjhihmbgahagaaRefW
namespace Go.Proofs.Ytpjhihmbgahagaa.Twn
open Go.ChangeShapes Go.WideShapes Go.ChangeAt Go.RowKit Words
set_option linter.unusedVariables false
set_option linter.unusedSimpArgs false

def RightC : Prop := ∀ (s : St) (w : World), Calls Try.prog 12 #[sv s] w fun e w' => e = .returned (.bool (right s)) ∧ Below w.heap.size w w'
def ReadC : Prop := ∀ (s : St) (w : World), Calls Try.prog 9 #[sv s] w fun e w' => e = .returned (.tuple #[.int .i64 (readR s).1, .int .i64 (readR s).2]) ∧ Below w.heap.size w w'
def WriteC : Prop := ∀ (s : St) (data : Int) (br : Bool) (w : World), Calls Try.prog 7 #[sv s, .int .i64 data, .bool br] w (Wrote w (writeR s data br))
theorem ab1 : writeR st0 5 false = (⟨⟨true, 1, 5⟩, slo0⟩, 0) := by rfl
theorem ab2 : writeR ⟨⟨true, 1, 5⟩, slo0⟩ 6 false = (⟨⟨true, 1, 5⟩, ⟨true, 2, 6⟩⟩, 0) := by rfl
theorem ab3 : writeR ⟨⟨true, 1, 5⟩, ⟨true, 2, 6⟩⟩ 7 true = (⟨slo0, ⟨true, 2, 6⟩⟩, 0) := by rfl
theorem ab4 : readR ⟨slo0, ⟨true, 2, 6⟩⟩ = (6, 0) := by rfl
theorem ab5 : right ⟨slo0, ⟨true, 2, 6⟩⟩ = true := by rfl
set_option maxHeartbeats 4000000 in
theorem alive13 (HW : WriteC) (HR : ReadC) (HT : RightC) (w : World) : Calls Try.prog 13 #[] w fun e w' => e = .returned (.bool true) ∧ Below w.heap.size w w' := by
  have H1 := Lib.hid (HW st0 5 false)
  have H2 := Lib.hid (HW ⟨⟨true, 1, 5⟩, slo0⟩ 6 false)
  have H3 := Lib.hid (HW ⟨⟨true, 1, 5⟩, ⟨true, 2, 6⟩⟩ 7 true)
  have H4 := Lib.hid (HR ⟨slo0, ⟨true, 2, 6⟩⟩)
  have H5 := Lib.hid (HT ⟨slo0, ⟨true, 2, 6⟩⟩)
  rw [ab1] at H1
  rw [ab2] at H2
  rw [ab3] at H3
  rw [ab4] at H4
  rw [ab5] at H5
  unfold Wrote sv scs st0 at H1
  unfold Wrote sv scs at H2 H3
  unfold sv scs at H4 H5
  unfold slo0 at H1 H2 H3 H4 H5
  clear HW HR HT
  go_enter Try.func13, Try.ntmps13
  go_wp2_with fail
  refine (H1.out _).mono ?_; rintro e x1 ⟨rfl, b1⟩
  have B1 := Lib.hid b1
  clear b1
  go_wp2_with fail
  refine (H2.out _).mono ?_; rintro e x2 ⟨rfl, b2⟩
  have B2 := Lib.hid ((B1.out.alloc B1.out.size _).trans (b2.mono (Nat.le_trans B1.out.size (by simp))))
  clear b2
  go_wp2_with fail
  refine (H3.out _).mono ?_; rintro e x3 ⟨rfl, b3⟩
  have B3 := Lib.hid ((B2.out.alloc B2.out.size _).trans (b3.mono (Nat.le_trans B2.out.size (by simp))))
  clear b3
  have W3 := Whole.new x3 24 #[.bool false, .int .i64 0, .int .i64 0, .bool true, .int .i64 2, .int .i64 6]
  go_wp2_with fail
  refine (H4.out _).mono ?_; rintro e x4 ⟨rfl, b4⟩
  have B4 := Lib.hid ((B3.out.alloc B3.out.size _).trans (b4.mono (Nat.le_trans B3.out.size (by simp))))
  obtain ⟨p0, p1, p2, p3, p4, p5⟩ := six (s := ⟨slo0, ⟨true, 2, 6⟩⟩) (whole_below W3 b4 (by simp))
  unfold slo0 at p0 p1 p2
  simp only at p0 p1 p2 p3 p4 p5
  clear b4 W3
  go_wp2_with fail
  refine (H5.out _).mono ?_; rintro e x5 ⟨rfl, b5⟩
  have B5 := Lib.hid (B4.out.trans (b5.mono B4.out.size))
  clear b5
  go_wp2_with fail
  go_ret
  exact ⟨rfl, B5.out⟩
end Go.Proofs.Ytpjhihmbgahagaa.Twn
