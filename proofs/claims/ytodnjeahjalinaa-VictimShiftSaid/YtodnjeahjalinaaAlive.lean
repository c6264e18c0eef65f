/-
  The small test that package victim is not empty returns true.
-/
import Derived.Test.YtodnjeahjalinaaOwn
namespace Go.Proofs.Ytodnjeahjalinaa.Vic
open Go.ChangeShapes Go.WideShapes Go.ChangeAt Go.RowKit Words Go.Sort
open Go.Proofs.Ytodnjeahjalinaa.Stab (Laid below_grow mixedO)
set_option linter.unusedVariables false

def four : List Fil := [⟨2, 4, 0⟩, ⟨1, 4, 5⟩, ⟨0, 3, 0⟩, ⟨3, 4, 0⟩]
theorem four_i5 : gidx four 5 = 0 := by decide +kernel
theorem four_e5 : gerr four 5 = 0 := by decide +kernel
theorem four_i6 : gidx four 6 = 1 := by decide +kernel
theorem four_e6 : gerr four 6 = 0 := by decide +kernel
theorem four_r : right four = true := by decide +kernel
theorem four_s : spr four = 5 := by decide +kernel
def fourCells : Array Value := #[.int .i64 2, .int .i64 4, .int .i64 0, .int .i64 1, .int .i64 4, .int .i64 5, .int .i64 0, .int .i64 3, .int .i64 0, .int .i64 3, .int .i64 4, .int .i64 0]
theorem lit_fl (w : World) (xs : List Fil) (cs : Array Value) (n : Nat) (hc : cs.toList = lcells xs) (hn : xs.length = n) (hm : n ≤ 100) : Fl (w.alloc (.cells cs 28)) (w.heap.size + 1) (some ⟨w.heap.size, 0, none⟩) n n xs :=
  Words.Rd.new w 28 cs (0, 0) (lcells xs) n hc (by rw [lcells_length]; omega) (by simp only [maxLen]; omega)
set_option maxHeartbeats 2000000 in
theorem alive18 (w : World) : Calls Try.prog 18 #[] w fun e w' => e = .returned (.bool true) ∧ Below w.heap.size w w' := by
  have B0 : Hid (Below w.heap.size w (w.alloc (.cells fourCells 28))) := Lib.hid ((Below.refl _ _).alloc (Nat.le_refl _) _)
  have F0 : Fl (w.alloc (.cells fourCells 28)) (w.heap.size + 1) (some ⟨w.heap.size, 0, none⟩) 4 4 four := lit_fl w four fourCells 4 rfl rfl (by omega)
  have HA := greedy9 _ _ 4 4 four 5 _ F0 (by simp)
  have HB := fun (W : World) (b : Below (w.heap.size + 1) (w.alloc (.cells fourCells 28)) W) => greedy9 _ _ 4 4 four 6 W (Words.Rd.below F0 b (Nat.le_refl _)) (by have := b.size; simpa using this)
  have HS := fun (W : World) (b : Below (w.heap.size + 1) (w.alloc (.cells fourCells 28)) W) => spread13 _ _ 4 4 four W (Words.Rd.below F0 b (Nat.le_refl _)) (by have := b.size; simpa using this) four_r
  rw [four_i5, four_e5, World.size_alloc] at HA
  rw [four_i6, four_e6] at HB
  rw [four_s] at HS
  have HA := Lib.hid HA
  have HB := Lib.hid HB
  have HS := Lib.hid HS
  clear F0
  unfold fourCells at HA HB HS B0
  go_enter Try.func18, Try.ntmps18
  go_wp2_with fail
  refine (HA.out).mono ?_; rintro e w1 ⟨rfl, b1⟩
  have B1 := Lib.hid b1
  clear b1
  go_wp2_with fail
  refine (HB.out _ B1.out).mono ?_; rintro e w2 ⟨rfl, b2⟩
  have B2 := Lib.hid (B1.out.trans (b2.mono (by have := B1.out.size; simpa using this)))
  clear b2
  go_wp2_with fail
  refine (HS.out _ B2.out).mono ?_; rintro e w3 ⟨rfl, b3⟩
  have B3 := Lib.hid (B0.out.trans ((B2.out.trans (b3.mono (by have := B2.out.size; simpa using this))).mono (by simp)))
  clear b3
  go_wp2_with fail
  go_ret
  exact ⟨rfl, B3.out⟩
end Go.Proofs.Ytodnjeahjalinaa.Vic
