/-
  The small test that package cell is not empty returns true.
-/
import Derived.Test.YtaombamfglljaaaAgain
namespace Go.Proofs.Ytaombamfglljaaa.Cell
open Go.ChangeShapes Go.WideShapes Go.ChangeAt Go.RowKit Words

theorem TextErr.get {w w' : World} {l : List UInt8} {k : Int} {n : Nat} {e : Ending} (h : TextErr w (l, k) e w') (hn : l.length = n) : ∃ A c, e = two (.slice A n c) k ∧ Txt w' w'.heap.size A n c l ∧ Below w.heap.size w w' := by
  subst hn
  exact h
theorem Txt.lit (w : World) (xs : List UInt8) (cs : Array Value) (n : Nat) (hc : cs.toList = bcells xs) (hn : xs.length = n) (hm : n ≤ 100) : Txt (w.alloc (.cells cs 5)) (w.alloc (.cells cs 5)).heap.size (some ⟨w.heap.size, 0, none⟩) n n xs := by
  refine Rd.more (Rd.new w 5 cs (0, 0) (bcells xs) n hc (by rw [bcells_length, Nat.mul_one]; exact hn) (by simp only [maxLen]; omega)) (by simp)
theorem Bts.lit (w : World) (xs : List Bool) (cs : Array Value) (n : Nat) (hc : cs.toList = xs.map Value.bool) (hn : xs.length = n) (hm : n ≤ 100) : Bts (w.alloc (.cells cs 4)) (w.alloc (.cells cs 4)).heap.size (some ⟨w.heap.size, 0, none⟩) n n xs := by
  refine Rd.more (Rd.new w 4 cs (0, 0) (xs.map Value.bool) n hc (by rw [List.length_map, Nat.mul_one]; exact hn) (by simp only [maxLen]; omega)) (by simp)
theorem below_alloc {B : Nat} {a w : World} (h : Below B a w) (hB : B ≤ w.heap.size) (o : Obj) : Below B a (w.alloc o) := h.alloc hB o
theorem r1 : writeR [255] [165] = ([165], 0) := by decide
theorem r2 : writeR [165] [255] = ([], 6) := by decide
theorem r3 : forceR [165] [15] = ([5], 0) := by decide
theorem r4 : tornR [255] [0] [true, false, true] = ([250], 0) := by decide
set_option maxHeartbeats 2000000 in
theorem alive (w : World) : Calls Try.prog 19 #[] w fun e w' => e = .returned (.bool true) ∧ Below w.heap.size w w' := by
  have H1 := Lib.hid (blankAny 1 w (by decide))
  go_enter Try.func19, Try.ntmps19
  go_wp2_with fail
  refine (H1.out).mono ?_; rintro e w1 he
  obtain ⟨A1, c1, rfl, t1, b1⟩ := TextErr.get (n := 1) he rfl
  have T1 := Lib.hid t1
  have B1 := Lib.hid b1
  have H2 := Lib.hid (writeAny _ _ _ _ _ _ _ _ _ _ _ (Rd.alloc t1 (Nat.le_refl _) (.cells #[.int .u8 165] 5)) (Txt.lit w1 [165] #[.int .u8 165] 1 rfl rfl (by decide)) (Nat.le_refl _) (by decide))
  rw [show List.replicate 1 (255 : UInt8) = [255] from rfl, r1] at H2
  clear t1 b1 he
  unfold two
  go_wp2_with fail
  refine (H2.out).mono ?_; rintro e w2 he
  obtain ⟨A2, c2, rfl, t2, b2⟩ := TextErr.get (n := 1) he rfl
  have T2 := Lib.hid t2
  have B2 : Hid (Below w.heap.size w w2) := Lib.hid ((below_alloc B1.out B1.out.size _).trans (b2.mono (below_alloc B1.out B1.out.size _).size))
  have T1' : Hid (Txt w2 w1.heap.size A1 1 c1 [255]) := Lib.hid (Rd.below (Rd.alloc T1.out (Nat.le_refl _) (.cells #[.int .u8 165] 5)) b2 (by simp))
  have S12 : w1.heap.size ≤ w2.heap.size := by have := b2.size; simp at this; omega
  have H3 := Lib.hid (writeAny _ _ _ _ _ _ _ _ _ _ _ (Rd.alloc t2 (Nat.le_refl _) (.cells #[.int .u8 255] 5)) (Txt.lit w2 [255] #[.int .u8 255] 1 rfl rfl (by decide)) (Nat.le_refl _) (by decide))
  rw [r2] at H3
  clear t2 b2 he T1
  unfold two
  go_wp2_with fail
  refine (H3.out).mono ?_; rintro e w3 he
  obtain ⟨A3, c3, rfl, t3, b3⟩ := TextErr.get (n := 0) he rfl
  have B3 : Hid (Below w.heap.size w w3) := Lib.hid ((below_alloc B2.out B2.out.size _).trans (b3.mono (below_alloc B2.out B2.out.size _).size))
  have T2' : Hid (Txt w3 w2.heap.size A2 1 c2 [165]) := Lib.hid (Rd.below (Rd.alloc T2.out (Nat.le_refl _) (.cells #[.int .u8 255] 5)) b3 (by simp))
  have T1'' : Hid (Txt w3 w1.heap.size A1 1 c1 [255]) := Lib.hid (Rd.below (Rd.alloc T1'.out S12 (.cells #[.int .u8 255] 5)) b3 (by simp; omega))
  have S23 : w2.heap.size ≤ w3.heap.size := by have := b3.size; simp at this; omega
  have H4 := Lib.hid (forceAny _ _ _ _ _ _ _ _ _ _ _ (Rd.alloc T2'.out S23 (.cells #[.int .u8 15] 5)) (Txt.lit w3 [15] #[.int .u8 15] 1 rfl rfl (by decide)) (by simp; omega) (Nat.le_refl _) (by decide))
  rw [r3] at H4
  clear t3 b3 he T2 T1'
  unfold two
  go_wp2_with fail
  refine (H4.out).mono ?_; rintro e w4 he
  obtain ⟨A4, c4, rfl, t4, b4⟩ := TextErr.get (n := 1) he rfl
  have T4 := Lib.hid t4
  have B4 : Hid (Below w.heap.size w w4) := Lib.hid ((below_alloc B3.out B3.out.size _).trans (b4.mono (below_alloc B3.out B3.out.size _).size))
  have T2 : Hid (Txt w4 w2.heap.size A2 1 c2 [165]) := Lib.hid (Rd.below (Rd.alloc T2'.out S23 (.cells #[.int .u8 15] 5)) b4 (by simp; omega))
  have T1 : Hid (Txt w4 w1.heap.size A1 1 c1 [255]) := Lib.hid (Rd.below (Rd.alloc T1''.out (by omega) (.cells #[.int .u8 15] 5)) b4 (by simp; omega))
  have S34 : w3.heap.size ≤ w4.heap.size := by have := b4.size; simp at this; omega
  obtain ⟨v5, hv5⟩ : ∃ v5, v5 = w4.alloc (.cells #[.int .u8 0] 5) := ⟨_, rfl⟩
  have hs5 : v5.heap.size = w4.heap.size + 1 := by rw [hv5]; simp
  have t0 : Txt v5 v5.heap.size (some ⟨w4.heap.size, 0, none⟩) 1 1 [0] := by rw [hv5]; exact Txt.lit w4 [0] #[.int .u8 0] 1 rfl rfl (by decide)
  have H5 := Lib.hid (tornAny _ _ _ _ _ _ _ _ _ _ _ _ _ _ _ _ (Rd.alloc (w := v5) (by rw [hv5]; exact Rd.alloc T1.out (by omega) _) (by omega) (.cells #[.bool true, .bool false, .bool true] 4)) (Rd.alloc t0 (Nat.le_refl _) _) (Bts.lit v5 [true, false, true] #[.bool true, .bool false, .bool true] 3 rfl rfl (by decide)) (by simp; omega) (by simp) (Nat.le_refl _) (by decide))
  rw [r4, hs5, hv5] at H5
  clear t4 b4 he T2' T1'' t0
  unfold two
  go_wp2_with fail
  refine (H5.out).mono ?_; rintro e w5 he
  obtain ⟨A5, c5, rfl, t5, b5⟩ := TextErr.get (n := 1) he rfl
  have B5' : Below w.heap.size w ((w4.alloc (.cells #[.int .u8 0] 5)).alloc (.cells #[.bool true, .bool false, .bool true] 4)) := below_alloc (below_alloc B4.out B4.out.size _) (below_alloc B4.out B4.out.size _).size _
  have B5 : Hid (Below w.heap.size w w5) := Lib.hid (B5'.trans (b5.mono B5'.size))
  have T2e : Txt w5 w2.heap.size A2 1 c2 [165] := Rd.below (Rd.alloc (Rd.alloc T2.out (by omega) _) (by simp; omega) _) b5 (by simp; omega)
  have T4e : Txt w5 w4.heap.size A4 1 c4 [5] := Rd.below (Rd.alloc (Rd.alloc T4.out (by omega) _) (by simp) _) b5 (by simp; omega)
  have q2 := run_string w5 22 9 5 Try.underlying22 Try.underlying5 Try.underlying9 T2e
  have q4 := run_string w5 22 9 5 Try.underlying22 Try.underlying5 Try.underlying9 T4e
  have q5 := run_string w5 22 9 5 Try.underlying22 Try.underlying5 Try.underlying9 t5
  have s2 : (str [165]).toList = [165] := str_list _
  have s4 : (str [5]).toList = [5] := str_list _
  have s5 : (str [250]).toList = [250] := str_list _
  clear he t5 b5 B5' T2e T4e hv5 hs5
  unfold two
  go_wp2_with fail
  go_ret
  exact ⟨rfl, B5.out⟩
theorem bytes5 : Try.prog.bytesOf 5 = 1 := by kernel_rfl
end Go.Proofs.Ytaombamfglljaaa.Cell
