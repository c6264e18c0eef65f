/-
  What slices.Repeat of one block returns, and math/bits.Mul of one.
-/
import Derived.Test.YtodnjeahjalinaaOwn
import Derived.Test.YtodnjeahjalinaaCopies
namespace Go.Proofs.Ytodnjeahjalinaa.Vic
open Go.ChangeShapes Go.WideShapes Go.ChangeAt Go.RowKit Words Go.Sort
open Go.Proofs.Ytodnjeahjalinaa.Stab (Laid below_grow mixedO)
set_option linter.unusedVariables false

theorem low32 (y : Nat) (h : y < 4294967296) : bits BinOp.and IntKind.u64 (y : Int) 4294967295 = (y : Int) := by
  rw [show (4294967295 : Int) = ((4294967295 : Nat) : Int) from rfl, u64_and_nat _ _ (by omega) (by decide), show 4294967295 = 2 ^ 32 - 1 from rfl, Nat.and_two_pow_sub_one_eq_mod, Nat.mod_eq_of_lt (by omega)]
theorem mul38 (y : Nat) (h : y < 4294967296) (w : World) : Calls Try.prog 38 #[.int .u64 1, .int .u64 y] w fun e w' => e = .returned (.tuple #[.int .u64 0, .int .u64 y]) ∧ w = w' := by
  have e1 : bits BinOp.and IntKind.u64 1 4294967295 = 1 := low32 1 (by decide)
  have e2 := low32 y h
  have e0 : bits BinOp.and IntKind.u64 0 4294967295 = 0 := low32 0 (by decide)
  have e3 : (y : Int) / 4294967296 = 0 := by omega
  go_enter Try.func38, Try.ntmps38
  go_wp2_with fail
  go_ret2
  exact ⟨rfl, rfl⟩
theorem mul31 (y : Nat) (h : y < 4294967296) (w : World) : Calls Try.prog 31 #[.int .u64 1, .int .u64 y] w fun e w' => e = .returned (.tuple #[.int .u64 0, .int .u64 y]) ∧ w = w' := by
  have HM := Lib.hid (mul38 y h w)
  go_enter Try.func31, Try.ntmps31
  go_wp2_with fail
  refine (HM.out).mono ?_; rintro e w' ⟨rfl, rfl⟩
  go_wp2_with fail
  go_ret2
  exact ⟨rfl, rfl⟩
def many (x : Fil) (k : Nat) : List Value := lcells (List.replicate k x)
theorem many_length (x : Fil) (k : Nat) : (many x k).length = k * 3 := by unfold many; rw [lcells_length, List.length_replicate]
theorem many_add (x : Fil) (a b : Nat) : many x a ++ many x b = many x (a + b) := by unfold many; rw [← lcells_append, List.replicate_append_replicate]
theorem many_one (x : Fil) (k : Nat) : ∀ u ∈ many x k, u.oneCell' = true := lcells_one _
theorem many_take (x : Fil) {a b : Nat} (h : a ≤ b) : (many x b).take (a * 3) = many x a := by
  unfold many lcells
  rw [flat_take fcells_length, List.take_replicate, Nat.min_eq_left h]
set_option maxHeartbeats 2000000 in
theorem repeat19 (x : Fil) (B : Nat) (A : Option Addr) (cx m : Nat) (w : World) (h : Fl w B A 1 cx [x]) (hB : B ≤ w.heap.size) (hm1 : 1 ≤ m) (hm : m ≤ 4096) :
    Calls Try.prog 19 #[.slice A 1 cx, .int .i64 m] w (MadeFl w (List.replicate m x) m) := by
  obtain ⟨i0, hi0, hz0, hz1, hz2⟩ := info_parts info28
  obtain ⟨gx, ox, rfl, hgx, hcx⟩ := Words.Rd.row h (by decide)
  have HM := Lib.hid (mul31 m (by omega) w)
  have hmk : (Instr.makeSlice 22 (.int .i64 (m : Int)) (.int .i64 (m : Int))).run Try.prog w = .ok (.slice (some ⟨w.heap.size, 0, none⟩) m m) (w.alloc (.cells (madeCells #[.int .i64 0, .int .i64 0, .int .i64 0] (m * 3)) 28)) := by
    have h := run_make (P := Try.prog) w 22 28 i0 _ Try.underlying22 hi0 hz0 .i64 .i64 (m : Int) (m : Int) (by omega) (Int.le_refl _) (by rw [hz2]; omega) (by omega)
    simpa [hz1, Value.cells] using h
  have hsize : (Try.prog.info? 28).map (·.size) = some 3 := by rw [hi0]; exact congrArg some hz1
  obtain ⟨cur0, hcur0⟩ : ∃ cur0, cur0 = (madeCells #[Value.int .i64 0, .int .i64 0, .int .i64 0] (m * 3)).toList := ⟨_, rfl⟩
  have HL0 : Hid (cur0.length = m * 3) := Lib.hid (by rw [hcur0, Array.length_toList, size_madeCells])
  have HG0 : Hid ((w.alloc (.cells (madeCells #[.int .i64 0, .int .i64 0, .int .i64 0] (m * 3)) 28)).heap[w.heap.size]? = some (.cells cur0.toArray 28 (0, 0))) := Lib.hid (by rw [hcur0, Array.toArray_toList]; exact heap_alloc_new w _)
  have B0 : Hid (Below w.heap.size w (w.alloc (.cells (madeCells #[.int .i64 0, .int .i64 0, .int .i64 0] (m * 3)) 28))) := Lib.hid ((Below.refl _ _).alloc (Nat.le_refl _) _)
  have HX : Hid (∀ j u, (many x 1)[j]? = some u → (w.alloc (.cells (madeCells #[.int .i64 0, .int .i64 0, .int .i64 0] (m * 3)) 28)).cell? ((⟨gx, ox, none⟩ : Addr).add j) = some u) := Lib.hid (fun j u hu => by
    rw [Addr.add_lit, World.cell?_alloc_lt w _ _ (by show gx < _; omega)]
    exact hcx j u hu)
  have HK : Hid ((splice cur0 0 (many x 1)).take (1 * 3) = many x 1) := Lib.hid (by
    have := splice_grow (cur := cur0) (A := []) (B := many x 1) (k := 0) rfl (Nat.zero_le _)
    rw [many_length] at this
    simpa using this)
  have HL1 : Hid ((splice cur0 0 (many x 1)).length = m * 3) := Lib.hid (splice_size HL0.out (by rw [many_length]; omega))
  have hmin : Nat.min 1 m = 1 := Nat.min_eq_left hm1
  have hml : (many x 1).length = Nat.min 1 m * 3 := by rw [many_length, hmin]
  have HML := Lib.hid hml
  have HMN := Lib.hid hmin
  clear h hcur0 hcx hml hmin
  go_enter Try.func19, Try.ntmps19
  go_wp2_with fail
  refine (HM.out).mono ?_; rintro e w' ⟨rfl, rfl⟩
  go_wp2_with (refine wpList_copy_many rfl (.tmp 31) (.tmp 32) 22 22 rfl 28 Try.underlying22 3 hsize m m 1 cx ⟨gx, ox, none⟩ w.heap.size 0 rfl rfl cur0 28 HG0.out (many x 1) HML.out HX.out (by rw [many_length, HL0.out]; omega) (many_one x 1) w.heap.size w B0.out (Nat.le_refl _) ?_
               intro w4 hg4 hb4
               rw [HMN.out])
  have HB4 := Lib.hid hb4
  generalize splice cur0 0 (many x 1) = cur1 at *
  clear hb4 hmk HX
  go_loopw [8] (fun i wr => ∃ (k : Nat) (cur : List Value), i = .int .i64 k ∧ 1 ≤ k ∧ k ≤ m ∧ cur.length = m * 3 ∧ cur.take (k * 3) = many x k ∧ wr.heap[w.heap.size]? = some (.cells cur.toArray 28 (0, 0)) ∧ Below w.heap.size w wr) (fun i _ => (m - intOf i).toNat)
  case atStart => exact ⟨1, cur1, rfl, by omega, hm1, HL1.out, HK.out, hg4.out, HB4.out⟩
  case round =>
    obtain ⟨k, cur, rfl, hk1, hk, hlen, hrun, hheap, hbel⟩ := hrel
    have HLen := Lib.hid hlen
    have HRun := Lib.hid hrun
    have HHeap := Lib.hid hheap
    have HBel := Lib.hid hbel
    clear hlen hrun hheap hbel
    by_cases hlt : k < m
    · have hkm : ¬ m = k := by omega
      obtain ⟨q, hq⟩ : ∃ q, q = Nat.min k (m - k) := ⟨_, rfl⟩
      have hq' : q = min k (m - k) := hq
      have HQ := Lib.hid hq
      have hq1 : 1 ≤ q := by omega
      have hq2 : k + q ≤ m := by omega
      have hqk : q ≤ k := by omega
      clear hq hq'
      have hcp : ∀ (wd : World), wd.heap = wr.heap → ∀ j u, (many x q)[j]? = some u → wd.cell? ((⟨w.heap.size, 0, none⟩ : Addr).add j) = some u := by
        intro wd hwd j u hu
        have hj := (List.getElem?_eq_some_iff.1 hu).1
        rw [many_length] at hj
        have h1 : cur[j]? = some u := by
          rw [← many_take x hqk, ← HRun.out, List.take_take, Nat.min_eq_left (by omega), List.getElem?_take, if_pos hj] at hu
          exact hu
        rw [Addr.add_lit, Nat.zero_add, cell_of_row _ _ j cur.toArray 28 (0, 0) (by rw [hwd]; exact HHeap.out), ← h1]
        simp
      have HCP := Lib.hid hcp
      clear hcp
      go_wp2_with fail
      go_region_law (first | (refine step_copy_many (P := Try.prog) rfl (.tmp 41) (.tmp 44) 22 22 rfl 28 Try.underlying22 3 hsize (m - k) (m - k) k m ⟨w.heap.size, 0, none⟩ w.heap.size (k * 3) (by simp [Act.eval, Act.put]) (by simp [Act.eval, Act.put]) cur 28 HHeap.out (many x q) q HQ.out (many_length x q) (HCP.out _ rfl) (by rw [many_length, HLen.out]; omega) (many_one x q) w.heap.size w (by first | exact HBel.out | exact HBel.out.drew) (Nat.le_refl _) ?_; intro w5 hg5 hb5))
      have HR5 : Hid ((splice cur (k * 3) (many x q)).take ((k + q) * 3) = many x (k + q)) := Lib.hid (by
        have := splice_grow (B := many x q) HRun.out (by rw [HLen.out]; omega)
        rw [many_length, many_add] at this
        rw [show (k + q) * 3 = k * 3 + q * 3 by omega]
        exact this)
      have HL5 := Lib.hid (splice_size (B := many x q) HLen.out (k := k * 3) (by rw [many_length]; omega))
      have HB5 := Lib.hid hb5
      clear hb5 HHeap HRun HLen
      generalize splice cur (k * 3) (many x q) = cur5 at *
      have hsum : IntKind.i64.wrap ((k : Int) + (q : Int)) = ((k + q : Nat) : Int) := by rw [IntWalk.i64_in _ (by omega)]; omega
      go_simp
      go_roundw
      case rel => exact ⟨_, _, _, _, _, _, _, _, _, _, _, _, _, _, ⟨k + q, cur5, by go_num, by omega, hq2, HL5.out, HR5.out, hg5.out, HB5.out⟩, rfl⟩
      case measure => simp [intOf]; omega
    · obtain rfl : k = m := by omega
      go_wp2_with fail
      go_ret
      exact ⟨_, _, rfl, own_of_heap HHeap.out (Nat.le_refl _) HLen.out (by simp only [maxLen]; omega) (by have := HRun.out; rwa [List.take_of_length_le (by rw [HLen.out]; exact Nat.le_refl _)] at this), HBel.out⟩
end Go.Proofs.Ytodnjeahjalinaa.Vic
