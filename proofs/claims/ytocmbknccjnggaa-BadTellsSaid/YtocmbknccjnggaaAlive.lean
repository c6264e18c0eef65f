/-
  The small test that package bad is not empty returns true.
-/
import Derived.Test.YtocmbknccjnggaaMark
namespace Go.Proofs.Ytocmbknccjnggaa.Bad
open Go.ChangeShapes Go.WideShapes Go.ChangeAt Go.RowKit Words

theorem alive_fv : fval 6 [1, 2] 1 = 3 := by decide
theorem alive_fe : ferr 6 [1, 2] 1 = 0 := by decide
theorem alive_nv : nval 6 [1, 2] 5 = 3 := by decide
theorem alive_ne : nerr 6 [1, 2] 5 = 0 := by decide
theorem alive_mv : mval 6 [1] 0 = [0, 1] := by decide
theorem alive_me : merr 6 [1] 0 = 0 := by decide
set_option maxHeartbeats 2000000 in
theorem alive18 (w : World) : Calls Try.prog 18 #[] w fun e w' => e = .returned (.bool true) ∧ Below w.heap.size w w' := by
  have h1 := fun w1 => find7 _ _ 2 2 6 [1, 2] 1 _ (ints_lit w1 3 [1, 2] #[.int .i64 1, .int .i64 2] 2 rfl rfl (by omega))
  simp only [alive_fv, alive_fe] at h1
  have h2 := fun w1 => number8 _ _ 2 2 6 [1, 2] 5 _ (ints_lit w1 3 [1, 2] #[.int .i64 1, .int .i64 2] 2 rfl rfl (by omega))
  simp only [alive_nv, alive_ne] at h2
  have h3 := fun w1 => mark9 _ _ 1 1 6 [1] 0 _ (ints_lit w1 3 [1] #[.int .i64 1] 1 rfl rfl (by omega)) (by simp) 2 (by decide)
  simp only [alive_mv, alive_me] at h3
  have H1 := Lib.hid h1
  have H2 := Lib.hid h2
  have H3 := Lib.hid h3
  clear h1 h2 h3
  unfold two at H1 H2
  go_enter Try.func18, Try.ntmps18
  go_wp2_with fail
  refine (H1.out _).mono ?_; rintro e w1 ⟨rfl, hw⟩
  have B1 : Hid (Below w.heap.size w w1) := Lib.hid (by rw [← hw]; exact (Below.refl _ _).alloc (Nat.le_refl _) _)
  clear hw
  go_wp2_with fail
  refine (H2.out _).mono ?_; rintro e w2 ⟨rfl, hw⟩
  have B2 : Hid (Below w.heap.size w w2) := Lib.hid (by rw [← hw]; exact B1.out.alloc B1.out.size _)
  clear hw
  go_wp2_with fail
  have B3 : Hid (Below w.heap.size w (w2.alloc (.cells #[.int .i64 1] 3))) := Lib.hid (B2.out.alloc B2.out.size _)
  refine (H3.out _).mono ?_; rintro e w4 ⟨A, c, rfl, ho, hb⟩
  have O4 := Lib.hid ho
  have B4 := Lib.hid (B3.out.trans (hb.mono B3.out.size))
  have HQ := Lib.hid (equal17 _ _ _ _ 2 2 _ _ [0, 1] [0, 1] _ (OwnI.ints (own_below (D := w4.heap.size) ho ((Below.refl _ _).alloc (Nat.le_refl _) (.cells #[.int .i64 0, .int .i64 1] 3)) (Nat.le_refl _))) (ints_lit w4 3 [0, 1] #[.int .i64 0, .int .i64 1] 2 rfl rfl (by omega)))
  clear ho hb
  go_wp2_with fail
  refine (HQ.out).mono ?_; rintro e w5 hq; obtain ⟨rfl, nd, hw5⟩ := EqB.yes hq (by simp)
  have bw : Below w4.heap.size w4 w5 := by rw [hw5]; exact below_drewN ((Below.refl _ _).alloc (Nat.le_refl _) _) _
  have B5 := Lib.hid (B4.out.trans (bw.mono B4.out.size))
  clear hq hw5 bw
  go_wp2_with fail
  go_ret
  exact ⟨rfl, B5.out⟩
end Go.Proofs.Ytocmbknccjnggaa.Bad
