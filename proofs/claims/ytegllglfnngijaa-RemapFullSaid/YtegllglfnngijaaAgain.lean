/-
  What slices.Repeat of one number returns, and math/bits.Mul of one.
-/
import Derived.Test.YtegllglfnngijaaWalks
import Derived.Test.YtegllglfnngijaaEqs
import Derived.Test.YtegllglfnngijaaCopies
namespace Go.Proofs.Ytegllglfnngijaa.Rem
open Go.ChangeShapes Go.WideShapes Go.ChangeAt Go.RowKit Words
set_option linter.unusedVariables false

theorem low32 (y : Nat) (h : y < 4294967296) : bits BinOp.and IntKind.u64 (y : Int) 4294967295 = (y : Int) := by
  rw [show (4294967295 : Int) = ((4294967295 : Nat) : Int) from rfl, u64_and_nat _ _ (by omega) (by decide), show 4294967295 = 2 ^ 32 - 1 from rfl, Nat.and_two_pow_sub_one_eq_mod, Nat.mod_eq_of_lt (by omega)]
theorem mul27 (y : Nat) (h : y < 4294967296) (w : World) : Calls Try.prog 27 #[.int .u64 1, .int .u64 y] w fun e w' => e = .returned (.tuple #[.int .u64 0, .int .u64 y]) ∧ w = w' := by
  have e1 : bits BinOp.and IntKind.u64 1 4294967295 = 1 := low32 1 (by decide)
  have e2 := low32 y h
  have e0 : bits BinOp.and IntKind.u64 0 4294967295 = 0 := low32 0 (by decide)
  have e3 : (y : Int) / 4294967296 = 0 := by omega
  go_enter Try.func27, Try.ntmps27
  go_wp2_with fail
  go_ret2
  exact ⟨rfl, rfl⟩
theorem mul24 (y : Nat) (h : y < 4294967296) (w : World) : Calls Try.prog 24 #[.int .u64 1, .int .u64 y] w fun e w' => e = .returned (.tuple #[.int .u64 0, .int .u64 y]) ∧ w = w' := by
  have HM := Lib.hid (mul27 y h w)
  go_enter Try.func24, Try.ntmps24
  go_wp2_with fail
  refine (HM.out).mono ?_; rintro e w' ⟨rfl, rfl⟩
  go_wp2_with fail
  go_ret2
  exact ⟨rfl, rfl⟩
def many (x : Int) (k : Nat) : List Value := icells (List.replicate k x)
theorem many_length (x : Int) (k : Nat) : (many x k).length = k := by unfold many; rw [icells_length, List.length_replicate]
theorem many_add (x : Int) (a b : Nat) : many x a ++ many x b = many x (a + b) := by unfold many; rw [← icells_append, List.replicate_append_replicate]
theorem many_one (x : Int) (k : Nat) : ∀ u ∈ many x k, u.oneCell' = true := icells_one _
theorem many_take (x : Int) {a b : Nat} (h : a ≤ b) : (many x b).take a = many x a := by
  unfold many icells
  rw [← List.map_take, List.take_replicate, Nat.min_eq_left h]
theorem made_none : madeCells #[Value.int .i64 0] 0 = #[] := Array.eq_empty_of_size_eq_zero (size_madeCells _ _)
theorem made_ints (n : Nat) : madeCells #[Value.int .i64 0] n = (icells (List.replicate n 0)).toArray := by
  apply Array.ext
  · rw [size_madeCells, List.size_toArray, icells_length, List.length_replicate]
  · intro i h1 h2
    simp [madeCells, icells, Nat.mod_one]
def MadeWI (w : World) (l : List Int) (m : Nat) (e : Ending) (w' : World) : Prop :=
  e = .returned (.slice (some ⟨w.heap.size, 0, none⟩) m m) ∧ WI w' w.heap.size 3 l ∧ Below w.heap.size w w'
set_option maxHeartbeats 2000000 in
theorem repeat21_none (x : Int) (B : Nat) (A : Option Addr) (cx : Nat) (w : World) (h : Ints w B A 1 cx [x]) (hB : B ≤ w.heap.size) :
    Calls Try.prog 21 #[.slice A 1 cx, .int .i64 0] w (MadeWI w [] 0) := by
  obtain ⟨i0, hi0, hz0, hz1, hz2⟩ := info_parts info3
  obtain ⟨gx, ox, rfl, hgx, hcx⟩ := Words.Rd.row h (by decide)
  have HM := Lib.hid (mul24 0 (by omega) w)
  have hmk : (Instr.makeSlice 23 (.int .i64 (0 : Int)) (.int .i64 (0 : Int))).run Try.prog w = .ok (.slice (some ⟨w.heap.size, 0, none⟩) 0 0) (w.alloc (.cells (madeCells #[.int .i64 0] 0) 3)) := by
    have h := run_make (P := Try.prog) w 23 3 i0 _ Try.underlying23 hi0 hz0 .i64 .i64 (0 : Int) (0 : Int) (by omega) (Int.le_refl _) (by rw [hz2]; omega) (by omega)
    simpa [hz1, Value.cells] using h
  have hsize : (Try.prog.info? 3).map (·.size) = some 1 := by rw [hi0]; exact congrArg some hz1
  have HG0 : Hid ((w.alloc (.cells (madeCells #[.int .i64 0] 0) 3)).heap[w.heap.size]? = some (.cells ([] : List Value).toArray 3 (0, 0))) := Lib.hid (by rw [made_none]; exact heap_alloc_new w _)
  have B0 : Hid (Below w.heap.size w (w.alloc (.cells (madeCells #[.int .i64 0] 0) 3))) := Lib.hid ((Below.refl _ _).alloc (Nat.le_refl _) _)
  clear h hcx
  go_enter Try.func21, Try.ntmps21
  go_wp2_with fail
  refine (HM.out).mono ?_; rintro e w' ⟨rfl, rfl⟩
  go_wp2_with (refine wpList_copy_many rfl (.tmp 31) (.tmp 32) 23 23 rfl 3 Try.underlying23 1 hsize 0 0 1 cx ⟨gx, ox, none⟩ w.heap.size 0 rfl rfl [] 3 HG0.out [] rfl (fun j v hv => by simp at hv) (Nat.le_refl _) (fun v hv => by simp at hv) w.heap.size w B0.out (Nat.le_refl _) ?_
               intro w4 hg4 hb4)
  have HB4 := Lib.hid hb4
  clear hb4 hmk
  go_loopw [8] (fun i wr => i = .int .i64 0 ∧ wr = w4) (fun i _ => 0)
  case atStart => exact ⟨rfl, rfl⟩
  case round =>
    obtain ⟨rfl, rfl⟩ := hrel
    go_wp2_with fail
    go_ret
    exact ⟨rfl, hg4.out, HB4.out⟩
set_option maxHeartbeats 2000000 in
theorem repeat21_some (x : Int) (B : Nat) (A : Option Addr) (cx m : Nat) (w : World) (h : Ints w B A 1 cx [x]) (hB : B ≤ w.heap.size) (hm1 : 1 ≤ m) (hm : m ≤ 4096) :
    Calls Try.prog 21 #[.slice A 1 cx, .int .i64 m] w (MadeWI w (List.replicate m x) m) := by
  obtain ⟨i0, hi0, hz0, hz1, hz2⟩ := info_parts info3
  obtain ⟨gx, ox, rfl, hgx, hcx⟩ := Words.Rd.row h (by decide)
  have HM := Lib.hid (mul24 m (by omega) w)
  have hmk : (Instr.makeSlice 23 (.int .i64 (m : Int)) (.int .i64 (m : Int))).run Try.prog w = .ok (.slice (some ⟨w.heap.size, 0, none⟩) m m) (w.alloc (.cells (madeCells #[.int .i64 0] m) 3)) := by
    have h := run_make (P := Try.prog) w 23 3 i0 _ Try.underlying23 hi0 hz0 .i64 .i64 (m : Int) (m : Int) (by omega) (Int.le_refl _) (by rw [hz2]; omega) (by omega)
    simpa [hz1, Value.cells] using h
  have hsize : (Try.prog.info? 3).map (·.size) = some 1 := by rw [hi0]; exact congrArg some hz1
  obtain ⟨cur0, hcur0⟩ : ∃ cur0, cur0 = (madeCells #[Value.int .i64 0] m).toList := ⟨_, rfl⟩
  have HL0 : Hid (cur0.length = m) := Lib.hid (by rw [hcur0, Array.length_toList, size_madeCells])
  have HG0 : Hid ((w.alloc (.cells (madeCells #[.int .i64 0] m) 3)).heap[w.heap.size]? = some (.cells cur0.toArray 3 (0, 0))) := Lib.hid (by rw [hcur0, Array.toArray_toList]; exact heap_alloc_new w _)
  have B0 : Hid (Below w.heap.size w (w.alloc (.cells (madeCells #[.int .i64 0] m) 3))) := Lib.hid ((Below.refl _ _).alloc (Nat.le_refl _) _)
  have HX : Hid (∀ j u, (many x 1)[j]? = some u → (w.alloc (.cells (madeCells #[.int .i64 0] m) 3)).cell? ((⟨gx, ox, none⟩ : Addr).add j) = some u) := Lib.hid (fun j u hu => by
    rw [Addr.add_lit, World.cell?_alloc_lt w _ _ (by show gx < _; omega)]
    exact hcx j u hu)
  have HK : Hid ((splice cur0 0 (many x 1)).take 1 = many x 1) := Lib.hid (by
    have := splice_grow (cur := cur0) (A := []) (B := many x 1) (k := 0) rfl (Nat.zero_le _)
    rw [many_length] at this
    simpa using this)
  have HL1 : Hid ((splice cur0 0 (many x 1)).length = m) := Lib.hid (splice_size HL0.out (by rw [many_length]; omega))
  have hmin : Nat.min 1 m = 1 := Nat.min_eq_left hm1
  have hml : (many x 1).length = Nat.min 1 m * 1 := by rw [many_length, hmin]
  have HML := Lib.hid hml
  have HMN := Lib.hid hmin
  clear h hcur0 hcx hml hmin
  go_enter Try.func21, Try.ntmps21
  go_wp2_with fail
  refine (HM.out).mono ?_; rintro e w' ⟨rfl, rfl⟩
  go_wp2_with (refine wpList_copy_many rfl (.tmp 31) (.tmp 32) 23 23 rfl 3 Try.underlying23 1 hsize m m 1 cx ⟨gx, ox, none⟩ w.heap.size 0 rfl rfl cur0 3 HG0.out (many x 1) HML.out HX.out (by rw [many_length, HL0.out]; omega) (many_one x 1) w.heap.size w B0.out (Nat.le_refl _) ?_
               intro w4 hg4 hb4
               rw [HMN.out])
  have HB4 := Lib.hid hb4
  generalize splice cur0 0 (many x 1) = cur1 at *
  clear hb4 hmk HX
  go_loopw [8] (fun i wr => ∃ (k : Nat) (cur : List Value), i = .int .i64 k ∧ 1 ≤ k ∧ k ≤ m ∧ cur.length = m ∧ cur.take k = many x k ∧ wr.heap[w.heap.size]? = some (.cells cur.toArray 3 (0, 0)) ∧ Below w.heap.size w wr) (fun i _ => (m - intOf i).toNat)
  case atStart => exact ⟨1, cur1, rfl, by omega, hm1, HL1.out, HK.out, hg4.out, HB4.out⟩
  case round =>
    obtain ⟨k, cur, rfl, hk1, hk, hlen, hrun, hheap, hbel⟩ := hrel
    have HLen := Lib.hid hlen
    have HRun := Lib.hid hrun
    have HHeap := Lib.hid hheap
    have HBel := Lib.hid hbel
    clear hlen hrun hheap hbel
    by_cases hlt : k < m
    · have hkm : ¬ m = k := by omega
      obtain ⟨q, hq⟩ : ∃ q, q = Nat.min k (m - k) := ⟨_, rfl⟩
      have hq' : q = min k (m - k) := hq
      have HQ := Lib.hid hq
      have hq1 : 1 ≤ q := by omega
      have hq2 : k + q ≤ m := by omega
      have hqk : q ≤ k := by omega
      clear hq hq'
      have hcp : ∀ (wd : World), wd.heap = wr.heap → ∀ j u, (many x q)[j]? = some u → wd.cell? ((⟨w.heap.size, 0, none⟩ : Addr).add j) = some u := by
        intro wd hwd j u hu
        have hj := (List.getElem?_eq_some_iff.1 hu).1
        rw [many_length] at hj
        have h1 : cur[j]? = some u := by
          rw [← many_take x hqk, ← HRun.out, List.take_take, Nat.min_eq_left (by omega), List.getElem?_take, if_pos hj] at hu
          exact hu
        rw [Addr.add_lit, Nat.zero_add, cell_of_row _ _ j cur.toArray 3 (0, 0) (by rw [hwd]; exact HHeap.out), ← h1]
        simp
      have HCP := Lib.hid hcp
      clear hcp
      go_wp2_with fail
      go_region_law (first | (refine step_copy_many (P := Try.prog) rfl (.tmp 41) (.tmp 44) 23 23 rfl 3 Try.underlying23 1 hsize (m - k) (m - k) k m ⟨w.heap.size, 0, none⟩ w.heap.size k (by simp [Act.eval, Act.put]) (by simp [Act.eval, Act.put]) cur 3 HHeap.out (many x q) q HQ.out (by rw [many_length, Nat.mul_one]) (HCP.out _ rfl) (by rw [many_length, HLen.out]; omega) (many_one x q) w.heap.size w (by first | exact HBel.out | exact HBel.out.drew) (Nat.le_refl _) ?_; intro w5 hg5 hb5))
      have HR5 : Hid ((splice cur k (many x q)).take (k + q) = many x (k + q)) := Lib.hid (by
        have := splice_grow (B := many x q) HRun.out (by rw [HLen.out]; omega)
        rw [many_length, many_add] at this
        exact this)
      have HL5 := Lib.hid (splice_size (B := many x q) HLen.out (k := k) (by rw [many_length]; omega))
      have HB5 := Lib.hid hb5
      clear hb5 HHeap HRun HLen
      generalize splice cur k (many x q) = cur5 at *
      have hsum : IntKind.i64.wrap ((k : Int) + (q : Int)) = ((k + q : Nat) : Int) := by rw [IntWalk.i64_in _ (by omega)]; omega
      go_simp
      go_roundw
      case rel => exact ⟨_, _, _, _, _, _, _, _, _, _, _, _, _, _, ⟨k + q, cur5, by go_num, by omega, hq2, HL5.out, HR5.out, hg5.out, HB5.out⟩, rfl⟩
      case measure => simp [intOf]; omega
    · obtain rfl : k = m := by omega
      have hcur : cur = icells (List.replicate k x) := by have := HRun.out; rwa [List.take_of_length_le (by rw [HLen.out]; exact Nat.le_refl _)] at this
      subst hcur
      go_wp2_with fail
      go_ret
      exact ⟨rfl, HHeap.out, HBel.out⟩
theorem repeat21 (x : Int) (B : Nat) (A : Option Addr) (cx m : Nat) (w : World) (h : Ints w B A 1 cx [x]) (hB : B ≤ w.heap.size) (hm : m ≤ 4096) :
    Calls Try.prog 21 #[.slice A 1 cx, .int .i64 m] w (MadeWI w (List.replicate m x) m) := by
  rcases Nat.eq_zero_or_pos m with rfl | hp
  · exact repeat21_none x B A cx w h hB
  · exact repeat21_some x B A cx m w h hB hp hm
end Go.Proofs.Ytegllglfnngijaa.Rem
