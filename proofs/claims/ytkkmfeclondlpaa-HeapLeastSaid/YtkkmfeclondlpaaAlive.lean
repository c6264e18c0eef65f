/-
  The small test that package heap is not empty returns true; and what slices.ContainsFunc says with each of the three tests.
-/
import Derived.Test.YtkkmfeclondlpaaPop
import Derived.Test.YtkkmfeclondlpaaEqs
namespace Go.Proofs.Ytkkmfeclondlpaa.Heap
open Go.ChangeShapes Go.WideShapes Go.ChangeAt Go.RowKit Words Go.Sort
set_option linter.unusedVariables false

theorem alive_pe : perr [⟨1, 5⟩] = 0 := by decide +kernel
theorem alive_pv : pval [⟨1, 5⟩] ⟨2, 3⟩ = [⟨2, 3⟩, ⟨1, 5⟩] := by
  rw [pval_ok alive_pe]
  show up [⟨1, 5⟩, ⟨2, 3⟩] 1 = _
  rw [up_go (by decide) (by decide), up_zero]
  rfl
theorem alive_te : terr [⟨2, 3⟩, ⟨1, 5⟩] = 0 := by decide +kernel
theorem alive_tv : tval [⟨2, 3⟩, ⟨1, 5⟩] = ⟨2, 3⟩ := by rw [tval_ok alive_te]; rfl
theorem alive_tl : (tlist [⟨2, 3⟩, ⟨1, 5⟩]).length = 1 := by rw [tlist_ok alive_te, popped_length]; rfl
theorem alive_r : right [⟨2, 3⟩, ⟨1, 5⟩] = true := by decide +kernel
theorem lit_hp (w : World) (xs : List Wn) (cs : Array Value) (n : Nat) (hc : cs.toList = hcells xs) (hn : xs.length = n) (hm : n ≤ 100) : Hp (w.alloc (.cells cs 24)) (w.heap.size + 1) (some ⟨w.heap.size, 0, none⟩) n n xs :=
  Words.Rd.new w 24 cs (0, 0) (hcells xs) n hc (by rw [hcells_length]; omega) (by simp only [maxLen]; omega)
set_option maxHeartbeats 2000000 in
theorem alive20 (w : World) : Calls Try.prog 20 #[] w fun e w' => e = .returned (.bool true) ∧ Below w.heap.size w w' := by
  have B0 : Hid (Below w.heap.size w (w.alloc (.cells #[.int .i64 1, .int .i64 5] 24))) := Lib.hid ((Below.refl _ _).alloc (Nat.le_refl _) _)
  have HP := push9 _ _ 1 1 [⟨1, 5⟩] ⟨2, 3⟩ _ (lit_hp w [⟨1, 5⟩] #[.int .i64 1, .int .i64 5] 1 rfl rfl (by omega)) (by simp) (by unfold Small; omega)
  rw [alive_pe, alive_pv] at HP
  unfold wval at HP
  have HP := Lib.hid HP
  go_enter Try.func20, Try.ntmps20
  go_wp2_with fail
  refine (HP.out).mono ?_; rintro e w1 ⟨A1, c1, m1, rfl, o1, b1⟩
  obtain rfl : m1 = 2 := o1.len.symm
  have O1 := Lib.hid o1
  have B1 := Lib.hid (B0.out.trans (b1.mono B0.out.size))
  have HT := pop11 _ A1 2 c1 [⟨2, 3⟩, ⟨1, 5⟩] w1 o1.hp (Nat.le_refl _) (by unfold Small; omega)
  rw [alive_te, alive_tv] at HT
  have HT := Lib.hid HT
  clear o1 b1
  go_wp2_with fail
  refine (HT.out).mono ?_; rintro e w2 ⟨A2, c2, m2, rfl, o2, b2⟩
  obtain rfl : m2 = 1 := by rw [← o2.len]; exact alive_tl
  have B2 := Lib.hid (B1.out.trans (b2.mono B1.out.size))
  have O12 := Lib.hid (O1.out.below b2 (Nat.le_refl _))
  clear o2 b2
  unfold wval
  have BX := Lib.hid (((Below.refl w2.heap.size w2).alloc (Nat.le_refl _) (.cells #[.int .i64 2, .int .i64 3] 24)).alloc (by simp) (.cells #[.int .i64 2, .int .i64 3, .int .i64 1, .int .i64 5] 24))
  have O3 := Lib.hid (O12.out.below BX.out (Nat.le_refl _))
  have hq := equal15_yes _ _ A1 _ 2 2 c1 2 [⟨2, 3⟩, ⟨1, 5⟩] [⟨2, 3⟩, ⟨1, 5⟩] _ O3.out.hp (lit_hp (w2.alloc (.cells #[.int .i64 2, .int .i64 3] 24)) [⟨2, 3⟩, ⟨1, 5⟩] #[.int .i64 2, .int .i64 3, .int .i64 1, .int .i64 5] 2 rfl rfl (by omega)) rfl
  rw [World.size_alloc] at hq
  have HQ := Lib.hid hq
  clear hq
  go_wp2_with fail
  refine (HQ.out).mono ?_; rintro e w3 ⟨rfl, hw⟩
  have b3 := hw.below
  have k0 : w3.cell? ⟨w2.heap.size, 0, none⟩ = some (.int .i64 2) := by
    rw [b3.cell (p := ⟨w2.heap.size, 0, none⟩) (by simp; omega), World.cell?_alloc_lt _ _ _ (by simp), cell_of_row _ _ _ _ 24 (0, 0) (heap_alloc_new w2 _)]
    rfl
  have O4 := Lib.hid (O3.out.below b3 (Nat.le_refl _))
  have B3 := Lib.hid (B2.out.trans ((BX.out.trans (b3.mono BX.out.size)).mono B2.out.size))
  have HR := right13 _ A1 2 c1 [⟨2, 3⟩, ⟨1, 5⟩] w3 O4.out.hp (Nat.le_refl _) (by unfold Small; omega)
  rw [alive_r] at HR
  have HR := Lib.hid HR
  clear b3 hw
  go_wp2_with fail
  refine (HR.out).mono ?_; rintro e w4 ⟨rfl, b4⟩
  have B4 := Lib.hid (B3.out.trans (b4.mono B3.out.size))
  clear b4
  go_wp2_with fail
  go_ret
  exact ⟨rfl, B4.out⟩
/-! ### ContainsFunc -/
/-- What a test of the call's own must do, in whatever world has come of w by growth alone: say 'p', and leave what is there. -/
def Tests (g : Nat) (cb : Array Value) (p : Wn → Bool) (w : World) : Prop := ∀ (x : Wn) (w1 : World), Below w.heap.size w w1 → Calls Try.prog g (#[wval x] ++ cb) w1 fun e w' => e = .returned (.bool (p x)) ∧ Laid w1 w'
end Go.Proofs.Ytkkmfeclondlpaa.Heap
