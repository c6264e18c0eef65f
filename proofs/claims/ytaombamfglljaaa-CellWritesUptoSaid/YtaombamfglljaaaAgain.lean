/-
  What bytes.Repeat and slices.Repeat of one element return, and math/bits.Mul of one.
-/
import Derived.Test.YtaombamfglljaaaMade
import Derived.Laws.CopyOwn
import Derived.Lib.MakeNoZero
import Derived.Deep.RegionLaw
namespace Go.Proofs.Ytaombamfglljaaa.Cell
open Go.ChangeShapes Go.WideShapes Go.ChangeAt Go.RowKit Words

theorem low32 (y : Nat) (h : y < 4294967296) : bits BinOp.and IntKind.u64 (y : Int) 4294967295 = (y : Int) := by
  rw [show (4294967295 : Int) = ((4294967295 : Nat) : Int) from rfl, u64_and_nat _ _ (by omega) (by decide), show 4294967295 = 2 ^ 32 - 1 from rfl, Nat.and_two_pow_sub_one_eq_mod, Nat.mod_eq_of_lt (by omega)]
theorem mul64 (y : Nat) (h : y < 4294967296) (w : World) : Calls Try.prog 33 #[.int .u64 1, .int .u64 y] w fun e w' => e = .returned (.tuple #[.int .u64 0, .int .u64 y]) ∧ w = w' := by
  have e1 : bits BinOp.and IntKind.u64 1 4294967295 = 1 := low32 1 (by decide)
  have e2 := low32 y h
  have e0 : bits BinOp.and IntKind.u64 0 4294967295 = 0 := low32 0 (by decide)
  have e3 : (y : Int) / 4294967296 = 0 := by omega
  go_enter Try.func33, Try.ntmps33
  go_wp2_with fail
  go_ret2
  exact ⟨rfl, rfl⟩
theorem mul1 (y : Nat) (h : y < 4294967296) (w : World) : Calls Try.prog 24 #[.int .u64 1, .int .u64 y] w fun e w' => e = .returned (.tuple #[.int .u64 0, .int .u64 y]) ∧ w = w' := by
  have HM := Lib.hid (mul64 y h w)
  go_enter Try.func24, Try.ntmps24
  go_wp2_with fail
  refine (HM.out).mono ?_; rintro e w' ⟨rfl, rfl⟩
  go_wp2_with fail
  go_ret2
  exact ⟨rfl, rfl⟩
theorem splice_run {v : Value} {cur : List Value} {k m : Nat} (h : cur.take k = List.replicate k v) (hk : k ≤ cur.length) : (splice cur k (List.replicate m v)).take (k + m) = List.replicate (k + m) v := by
  unfold splice
  have hl : (cur.take k).length = k := by rw [List.length_take]; omega
  rw [← List.append_assoc, List.take_append_of_le_length (by rw [List.length_append, hl, List.length_replicate]; exact Nat.le_refl _), List.take_of_length_le (by rw [List.length_append, hl, List.length_replicate]; exact Nat.le_refl _), h, List.replicate_append_replicate]
theorem splice_len {v : Value} {cur : List Value} {k m n : Nat} (hn : cur.length = n) (h : k + m ≤ n) : (splice cur k (List.replicate m v)).length = n := by
  rw [length_splice _ _ _ (by rw [List.length_replicate]; omega)]; exact hn
/-- A row from what its block is known to be. -/
theorem own_of_heap {w : World} {base g e n : Nat} {cur xs : List Value} (hg : w.heap[g]? = some (.cells cur.toArray e (0, 0))) (hb : base ≤ g) (hl : cur.length = n) (hm : n ≤ maxLen) (hx : cur = xs) : w.ownsRow base e 1 (.slice (some ⟨g, 0, none⟩) n n) n xs := by
  subst hx hl
  refine ⟨by rw [Nat.mul_one], .inr ⟨g, cur.length, cur.toArray, rfl, hb, hg, Nat.le_refl _, hm, by simp, by simp⟩⟩
def MadeRow (w : World) (E : TypeId) (n : Nat) (xs : List Value) (e : Ending) (w' : World) : Prop :=
  ∃ A c, e = .returned (.slice A n c) ∧ w'.ownsRow w.heap.size E 1 (.slice A n c) n xs ∧ Below w.heap.size w w'
theorem info4 : (Try.prog.info? 4).map (fun i => (i.zero, i.size, i.bytes)) = some (some (.bool false), 1, 1) := by kernel_rfl
set_option maxHeartbeats 1000000 in
theorem again10 (v : Value) (hv : v.oneCell' = true) (B : Nat) (A : Option Addr) (cx m : Nat) (w : World) (h : Rd w B 1 A 1 cx [v]) (hB : B ≤ w.heap.size) (hm : m < 4294967296) :
    Calls Try.prog 10 #[.slice A 1 cx, .int .i64 m] w (MadeRow w 5 m (List.replicate m v)) := by
  obtain ⟨i0, hi0, hz0, hz1, hz2⟩ := info_parts info5
  obtain ⟨gx, ox, rfl, hgx, hcx⟩ := Rd.row h (by decide)
  have HM := Lib.hid (mul1 m hm w)
  have hmk : (Instr.makeSlice 22 (.int .i64 (m : Int)) (.int .i64 (m : Int))).run Try.prog w = .ok (.slice (some ⟨w.heap.size, 0, none⟩) m m) (w.alloc (.cells (madeCells #[.int .u8 0] m) 5)) := by
    have h := run_make (P := Try.prog) w 22 5 i0 (.int .u8 0) Try.underlying22 hi0 hz0 .i64 .i64 (m : Int) (m : Int) (by omega) (Int.le_refl _) (by rw [hz2]; omega) (by omega)
    simpa [hz1, Value.cells] using h
  obtain ⟨cur0, hcur0⟩ : ∃ cur0, cur0 = (madeCells #[Value.int .u8 0] m).toList := ⟨_, rfl⟩
  have HL0 : Hid (cur0.length = m) := Lib.hid (by rw [hcur0, toList_madeCells_one, List.length_replicate])
  have HG0 : Hid ((w.alloc (.cells (madeCells #[.int .u8 0] m) 5)).heap[w.heap.size]? = some (.cells cur0.toArray 5 (0, 0))) := Lib.hid (by rw [hcur0, Array.toArray_toList]; exact heap_alloc_new w _)
  have B0 : Hid (Below w.heap.size w (w.alloc (.cells (madeCells #[.int .u8 0] m) 5))) := Lib.hid ((Below.refl _ _).alloc (Nat.le_refl _) _)
  have HX : Hid (∀ j u, (List.replicate (min 1 m) v)[j]? = some u → (w.alloc (.cells (madeCells #[.int .u8 0] m) 5)).cell? ((⟨gx, ox, none⟩ : Addr).add j) = some u) := Lib.hid (fun j u hu => by
    have hj := (List.getElem?_eq_some_iff.1 hu).1
    rw [List.length_replicate] at hj
    have hu' : [v][j]? = some u := by
      obtain rfl : j = 0 := by omega
      rw [List.getElem?_replicate, if_pos (by omega)] at hu
      exact hu
    rw [Addr.add_lit, World.cell?_alloc_lt w _ _ (by show gx < _; omega)]
    exact hcx j u hu')
  clear h hcur0 hcx
  go_enter Try.func10, Try.ntmps10
  go_wp2_with fail
  refine (HM.out).mono ?_; rintro e w' ⟨rfl, rfl⟩
  go_wp2_with (refine wpList_copy_splice rfl (.tmp 31) (.tmp 32) 22 22 rfl 5 Try.underlying22 (by rw [hi0]; exact congrArg some hz1) _ _ m m 1 cx rfl rfl w.heap.size 0 cur0 5 HG0.out (List.replicate (min 1 m) v) (by rw [List.length_replicate]; first | done | rfl) (fun _ => ⟨rfl, _, rfl, HX.out⟩) (by rw [List.length_replicate, HL0.out]; omega) (fun u hu => by rw [(List.mem_replicate.1 hu).2]; exact hv) w.heap.size w B0.out (Nat.le_refl _) ?_
               intro w4 hg4 hb4
               rw [List.length_replicate])
  have HI : Hid ((splice cur0 0 (List.replicate (min 1 m) v)).take (min 1 m) = List.replicate (min 1 m) v) := Lib.hid (by
    have := splice_run (v := v) (cur := cur0) (k := 0) (m := min 1 m) rfl (Nat.zero_le _)
    rwa [Nat.zero_add] at this)
  have HL1 : Hid ((splice cur0 0 (List.replicate (min 1 m) v)).length = m) := Lib.hid (splice_len HL0.out (by omega))
  have hmin0 : min 1 m ≤ m := by omega
  have hmin1 : min 1 m = 0 → m = 0 := by omega
  have HB4 := Lib.hid hb4
  generalize splice cur0 0 (List.replicate (min 1 m) v) = cur1 at *
  generalize min 1 m = k0 at *
  clear hb4 hmk HX
  go_loopw [8] (fun i wr => ∃ (k : Nat) (cur : List Value), i = .int .i64 k ∧ k ≤ m ∧ (k = 0 → m = 0) ∧ cur.length = m ∧ cur.take k = List.replicate k v ∧ wr.heap[w.heap.size]? = some (.cells cur.toArray 5 (0, 0)) ∧ Below w.heap.size w wr) (fun i _ => (m - intOf i).toNat)
  case atStart => exact ⟨k0, cur1, rfl, hmin0, hmin1, HL1.out, HI.out, hg4, HB4.out⟩
  case round =>
    obtain ⟨k, cur, rfl, hk, hk0, hlen, hrun, hheap, hbel⟩ := hrel
    have HLen := Lib.hid hlen
    have HRun := Lib.hid hrun
    have HHeap := Lib.hid hheap
    have HBel := Lib.hid hbel
    clear hlen hrun hheap hbel
    by_cases hlt : k < m
    · have hk1 : 1 ≤ k := by omega
      have hkm : ¬ m = k := by omega
      clear hk0
      obtain ⟨q, hq⟩ : ∃ q, q = min k (m - k) := ⟨_, rfl⟩
      have HQ := Lib.hid hq
      have hq1 : 1 ≤ q := by omega
      have hq2 : k + q ≤ m := by omega
      clear hq
      have hcp : ∀ (wd : World), wd.heap = wr.heap → ∀ j u, (List.replicate q v)[j]? = some u → wd.cell? ((⟨w.heap.size, 0, none⟩ : Addr).add j) = some u := by
        intro wd hwd j u hu
        have hj := (List.getElem?_eq_some_iff.1 hu).1
        rw [List.length_replicate] at hj
        have hqk : q ≤ k := by have := HQ.out; omega
        have h1 : cur[j]? = some u := by
          have h2 : (cur.take k)[j]? = some u := by
            rw [HRun.out, List.getElem?_replicate, if_pos (by omega)]
            rwa [List.getElem?_replicate, if_pos (by omega)] at hu
          rwa [List.getElem?_take, if_pos (by omega)] at h2
        rw [Addr.add_lit, Nat.zero_add, cell_of_row _ _ j cur.toArray 5 (0, 0) (by rw [hwd]; exact HHeap.out), ← h1]
        simp
      have HCP := Lib.hid hcp
      clear hcp
      go_wp2_with fail
      go_region_law (first | (refine step_copy_splice (P := Try.prog) rfl (.tmp 41) (.tmp 44) 22 22 rfl 5 Try.underlying22 (by rw [hi0]; exact congrArg some hz1) _ _ (m - k) (m - k) k m (by simp [Act.eval, Act.put]) (by simp [Act.eval, Act.put]) w.heap.size k cur 5 HHeap.out (List.replicate q v) (by rw [List.length_replicate, HQ.out]; first | done | rfl) (fun _ => ⟨rfl, _, rfl, HCP.out _ rfl⟩) (by rw [List.length_replicate, HLen.out]; omega) (fun u hu => by rw [(List.mem_replicate.1 hu).2]; exact hv) w.heap.size w (by first | exact HBel.out | exact HBel.out.drew) (Nat.le_refl _) ?_; intro w5 hg5 hb5; rw [List.length_replicate]))
      have HR5 := Lib.hid (splice_run (m := q) HRun.out (by rw [HLen.out]; omega))
      have HL5 := Lib.hid (splice_len (v := v) (m := q) HLen.out hq2)
      have HB5 := Lib.hid hb5
      clear hb5 HHeap HRun HLen
      generalize splice cur k (List.replicate q v) = cur5 at *
      have hsum : IntKind.i64.wrap ((k : Int) + (q : Int)) = ((k + q : Nat) : Int) := by rw [IntWalk.i64_in _ (by omega)]; omega
      go_simp
      go_roundw
      case rel => exact ⟨_, _, _, _, _, _, _, _, _, _, _, _, _, _, ⟨k + q, cur5, by go_num, hq2, fun h => by omega, HL5.out, HR5.out, hg5, HB5.out⟩, rfl⟩
      case measure => simp [intOf]; omega
    · obtain rfl : k = m := by omega
      go_wp2_with fail
      go_ret
      exact ⟨_, _, rfl, own_of_heap HHeap.out (Nat.le_refl _) HLen.out (by simp only [maxLen]; omega) (by have := HRun.out; rwa [List.take_of_length_le (by rw [HLen.out]; exact Nat.le_refl _)] at this), HBel.out⟩
set_option maxHeartbeats 1000000 in
theorem again12 (v : Value) (hv : v.oneCell' = true) (B : Nat) (A : Option Addr) (cx m : Nat) (w : World) (h : Rd w B 1 A 1 cx [v]) (hB : B ≤ w.heap.size) (hm : m < 4294967296) :
    Calls Try.prog 12 #[.slice A 1 cx, .int .i64 m] w (MadeRow w 4 m (List.replicate m v)) := by
  obtain ⟨i0, hi0, hz0, hz1, hz2⟩ := info_parts info4
  obtain ⟨gx, ox, rfl, hgx, hcx⟩ := Rd.row h (by decide)
  have HM := Lib.hid (mul1 m hm w)
  have hmk : (Instr.makeSlice 28 (.int .i64 (m : Int)) (.int .i64 (m : Int))).run Try.prog w = .ok (.slice (some ⟨w.heap.size, 0, none⟩) m m) (w.alloc (.cells (madeCells #[.bool false] m) 4)) := by
    have h := run_make (P := Try.prog) w 28 4 i0 (.bool false) Try.underlying28 hi0 hz0 .i64 .i64 (m : Int) (m : Int) (by omega) (Int.le_refl _) (by rw [hz2]; omega) (by omega)
    simpa [hz1, Value.cells] using h
  obtain ⟨cur0, hcur0⟩ : ∃ cur0, cur0 = (madeCells #[Value.bool false] m).toList := ⟨_, rfl⟩
  have HL0 : Hid (cur0.length = m) := Lib.hid (by rw [hcur0, toList_madeCells_one, List.length_replicate])
  have HG0 : Hid ((w.alloc (.cells (madeCells #[.bool false] m) 4)).heap[w.heap.size]? = some (.cells cur0.toArray 4 (0, 0))) := Lib.hid (by rw [hcur0, Array.toArray_toList]; exact heap_alloc_new w _)
  have B0 : Hid (Below w.heap.size w (w.alloc (.cells (madeCells #[.bool false] m) 4))) := Lib.hid ((Below.refl _ _).alloc (Nat.le_refl _) _)
  have HX : Hid (∀ j u, (List.replicate (min 1 m) v)[j]? = some u → (w.alloc (.cells (madeCells #[.bool false] m) 4)).cell? ((⟨gx, ox, none⟩ : Addr).add j) = some u) := Lib.hid (fun j u hu => by
    have hj := (List.getElem?_eq_some_iff.1 hu).1
    rw [List.length_replicate] at hj
    have hu' : [v][j]? = some u := by
      obtain rfl : j = 0 := by omega
      rw [List.getElem?_replicate, if_pos (by omega)] at hu
      exact hu
    rw [Addr.add_lit, World.cell?_alloc_lt w _ _ (by show gx < _; omega)]
    exact hcx j u hu')
  clear h hcur0 hcx
  go_enter Try.func12, Try.ntmps12
  go_wp2_with fail
  refine (HM.out).mono ?_; rintro e w' ⟨rfl, rfl⟩
  go_wp2_with (refine wpList_copy_splice rfl (.tmp 31) (.tmp 32) 28 28 rfl 4 Try.underlying28 (by rw [hi0]; exact congrArg some hz1) _ _ m m 1 cx rfl rfl w.heap.size 0 cur0 4 HG0.out (List.replicate (min 1 m) v) (by rw [List.length_replicate]; first | done | rfl) (fun _ => ⟨rfl, _, rfl, HX.out⟩) (by rw [List.length_replicate, HL0.out]; omega) (fun u hu => by rw [(List.mem_replicate.1 hu).2]; exact hv) w.heap.size w B0.out (Nat.le_refl _) ?_
               intro w4 hg4 hb4
               rw [List.length_replicate])
  have HI : Hid ((splice cur0 0 (List.replicate (min 1 m) v)).take (min 1 m) = List.replicate (min 1 m) v) := Lib.hid (by
    have := splice_run (v := v) (cur := cur0) (k := 0) (m := min 1 m) rfl (Nat.zero_le _)
    rwa [Nat.zero_add] at this)
  have HL1 : Hid ((splice cur0 0 (List.replicate (min 1 m) v)).length = m) := Lib.hid (splice_len HL0.out (by omega))
  have hmin0 : min 1 m ≤ m := by omega
  have hmin1 : min 1 m = 0 → m = 0 := by omega
  have HB4 := Lib.hid hb4
  generalize splice cur0 0 (List.replicate (min 1 m) v) = cur1 at *
  generalize min 1 m = k0 at *
  clear hb4 hmk HX
  go_loopw [8] (fun i wr => ∃ (k : Nat) (cur : List Value), i = .int .i64 k ∧ k ≤ m ∧ (k = 0 → m = 0) ∧ cur.length = m ∧ cur.take k = List.replicate k v ∧ wr.heap[w.heap.size]? = some (.cells cur.toArray 4 (0, 0)) ∧ Below w.heap.size w wr) (fun i _ => (m - intOf i).toNat)
  case atStart => exact ⟨k0, cur1, rfl, hmin0, hmin1, HL1.out, HI.out, hg4, HB4.out⟩
  case round =>
    obtain ⟨k, cur, rfl, hk, hk0, hlen, hrun, hheap, hbel⟩ := hrel
    have HLen := Lib.hid hlen
    have HRun := Lib.hid hrun
    have HHeap := Lib.hid hheap
    have HBel := Lib.hid hbel
    clear hlen hrun hheap hbel
    by_cases hlt : k < m
    · have hk1 : 1 ≤ k := by omega
      have hkm : ¬ m = k := by omega
      clear hk0
      obtain ⟨q, hq⟩ : ∃ q, q = min k (m - k) := ⟨_, rfl⟩
      have HQ := Lib.hid hq
      have hq1 : 1 ≤ q := by omega
      have hq2 : k + q ≤ m := by omega
      clear hq
      have hcp : ∀ (wd : World), wd.heap = wr.heap → ∀ j u, (List.replicate q v)[j]? = some u → wd.cell? ((⟨w.heap.size, 0, none⟩ : Addr).add j) = some u := by
        intro wd hwd j u hu
        have hj := (List.getElem?_eq_some_iff.1 hu).1
        rw [List.length_replicate] at hj
        have hqk : q ≤ k := by have := HQ.out; omega
        have h1 : cur[j]? = some u := by
          have h2 : (cur.take k)[j]? = some u := by
            rw [HRun.out, List.getElem?_replicate, if_pos (by omega)]
            rwa [List.getElem?_replicate, if_pos (by omega)] at hu
          rwa [List.getElem?_take, if_pos (by omega)] at h2
        rw [Addr.add_lit, Nat.zero_add, cell_of_row _ _ j cur.toArray 4 (0, 0) (by rw [hwd]; exact HHeap.out), ← h1]
        simp
      have HCP := Lib.hid hcp
      clear hcp
      go_wp2_with fail
      go_region_law (first | (refine step_copy_splice (P := Try.prog) rfl (.tmp 41) (.tmp 44) 28 28 rfl 4 Try.underlying28 (by rw [hi0]; exact congrArg some hz1) _ _ (m - k) (m - k) k m (by simp [Act.eval, Act.put]) (by simp [Act.eval, Act.put]) w.heap.size k cur 4 HHeap.out (List.replicate q v) (by rw [List.length_replicate, HQ.out]; first | done | rfl) (fun _ => ⟨rfl, _, rfl, HCP.out _ rfl⟩) (by rw [List.length_replicate, HLen.out]; omega) (fun u hu => by rw [(List.mem_replicate.1 hu).2]; exact hv) w.heap.size w (by first | exact HBel.out | exact HBel.out.drew) (Nat.le_refl _) ?_; intro w5 hg5 hb5; rw [List.length_replicate]))
      have HR5 := Lib.hid (splice_run (m := q) HRun.out (by rw [HLen.out]; omega))
      have HL5 := Lib.hid (splice_len (v := v) (m := q) HLen.out hq2)
      have HB5 := Lib.hid hb5
      clear hb5 HHeap HRun HLen
      generalize splice cur k (List.replicate q v) = cur5 at *
      have hsum : IntKind.i64.wrap ((k : Int) + (q : Int)) = ((k + q : Nat) : Int) := by rw [IntWalk.i64_in _ (by omega)]; omega
      go_simp
      go_roundw
      case rel => exact ⟨_, _, _, _, _, _, _, _, _, _, _, _, _, _, ⟨k + q, cur5, by go_num, hq2, fun h => by omega, HL5.out, HR5.out, hg5, HB5.out⟩, rfl⟩
      case measure => simp [intOf]; omega
    · obtain rfl : k = m := by omega
      go_wp2_with fail
      go_ret
      exact ⟨_, _, rfl, own_of_heap HHeap.out (Nat.le_refl _) HLen.out (by simp only [maxLen]; omega) (by have := HRun.out; rwa [List.take_of_length_le (by rw [HLen.out]; exact Nat.le_refl _)] at this), HBel.out⟩
set_option maxHeartbeats 1000000 in
theorem repeatAny (v : Value) (hv : v.oneCell' = true) (B : Nat) (A : Option Addr) (cx m : Nat) (w : World) (h : Rd w B 1 A 1 cx [v]) (hB : B ≤ w.heap.size) (hm : m ≤ 4096) :
    Calls Try.prog 23 #[.slice A 1 cx, .int .i64 m] w fun e w' => ∃ A c, e = .returned (.slice A m c) ∧ Rd w' w'.heap.size 1 A m c (List.replicate m v) ∧ Below w.heap.size w w' := by
  obtain ⟨i0, hi0, hz0, hz1, hz2⟩ := info_parts info5
  by_cases h0 : m = 0
  · subst h0
    clear h
    go_enter Try.func23, Try.ntmps23
    go_wp2_with fail
    go_ret
    exact ⟨_, _, rfl, ⟨rfl, Nat.le_refl _, by decide, (fun h => rfl), fun hn => absurd hn (by omega)⟩, (Below.refl _ _).alloc (Nat.le_refl _) _⟩
  · obtain ⟨gx, ox, rfl, hgx, hcx⟩ := Rd.row h (by decide)
    have HM := Lib.hid (mul1 m (by omega) w)
    obtain ⟨cs, hrunM, hle, hmax⟩ := Lib.run_makeNoZero (P := Try.prog) w #[3] 22 5 Try.underlying22 m (by omega)
    have hcall : (callFunc 31 #[.int .i64 (m : Int)]).run Try.prog w = .ok (.value (.slice (some ⟨w.heap.size, 0, none⟩) m cs.size)) ((w.alloc (.cells cs 5)).drewN 2) := by
      rw [run_callFunc_extern Try.func31 (by kernel_rfl) (by kernel_rfl) (by kernel_rfl) (e := Extern.BytealgMakeNoZero.makeNoZero #[3] #[22]) (by kernel_rfl), hrunM]
      rfl
    clear hrunM
    obtain ⟨cur0, hcur0⟩ : ∃ cur0, cur0 = cs.toList := ⟨_, rfl⟩
    have HL0 : Hid (cur0.length = cs.size) := Lib.hid (by rw [hcur0, Array.length_toList])
    have HG0 : Hid (((w.alloc (.cells cs 5)).drewN 2).heap[w.heap.size]? = some (.cells cur0.toArray 5 (0, 0))) := Lib.hid (by rw [hcur0, Array.toArray_toList]; exact heap_alloc_new w _)
    have B0 : Hid (Below w.heap.size w ((w.alloc (.cells cs 5)).drewN 2)) := Lib.hid (Below.trans ((Below.refl w.heap.size w).alloc (Nat.le_refl _) (.cells cs 5)) ⟨rfl, rfl, rfl, Nat.le_refl _, fun _ _ => rfl⟩)
    have HX : Hid (∀ j u, (List.replicate 1 v)[j]? = some u → ((w.alloc (.cells cs 5)).drewN 2).cell? ((⟨gx, ox, none⟩ : Addr).add j) = some u) := Lib.hid (fun j u hu => by
      rw [Addr.add_lit]
      exact (World.cell?_alloc_lt w _ _ (by show gx < _; omega)).trans (hcx j u hu))
    have i1 : (m : Int) ≤ (cs.size : Int) := by omega
    generalize cs.size = N at *
    clear h hcur0 hcx
    go_enter Try.func23, Try.ntmps23
    go_wp2_with fail
    refine (HM.out).mono ?_; rintro e w' ⟨rfl, rfl⟩
    go_wp2_with (refine wpList_copy_splice (P := Try.prog) rfl (.tmp 58) (.tmp 59) 22 22 rfl 5 Try.underlying22 (by rw [hi0]; exact congrArg some hz1) _ _ m m 1 cx rfl rfl w.heap.size 0 cur0 5 HG0.out (List.replicate 1 v) (by rw [List.length_replicate]; show 1 = min 1 m; omega) (fun _ => ⟨rfl, _, rfl, HX.out⟩) (by rw [List.length_replicate, HL0.out]; omega) (fun u hu => by rw [(List.mem_replicate.1 hu).2]; exact hv) w.heap.size w B0.out (Nat.le_refl _) ?_
                 intro w4 hg4 hb4
                 rw [List.length_replicate])
    have HI : Hid ((splice cur0 0 (List.replicate 1 v)).take 1 = List.replicate 1 v) := Lib.hid (splice_run (v := v) (cur := cur0) (k := 0) (m := 1) rfl (Nat.zero_le _))
    have HL1 : Hid ((splice cur0 0 (List.replicate 1 v)).length = N) := Lib.hid (splice_len HL0.out (by omega))
    have HB4 := Lib.hid hb4
    generalize splice cur0 0 (List.replicate 1 v) = cur1 at *
    clear hb4 HX hcall
    go_loopw [10] (fun i wr => ∃ (k : Nat) (cur : List Value), i = .int .i64 k ∧ 1 ≤ k ∧ k ≤ m ∧ cur.length = N ∧ cur.take k = List.replicate k v ∧ wr.heap[w.heap.size]? = some (.cells cur.toArray 5 (0, 0)) ∧ Below w.heap.size w wr) (fun i _ => (m - intOf i).toNat)
    case atStart => exact ⟨1, cur1, rfl, Nat.le_refl _, by omega, HL1.out, HI.out, hg4, HB4.out⟩
    case round =>
      obtain ⟨k, cur, rfl, hk1, hk, hlen, hrun, hheap, hbel⟩ := hrel
      have HLen := Lib.hid hlen
      have HRun := Lib.hid hrun
      have HHeap := Lib.hid hheap
      have HBel := Lib.hid hbel
      clear hlen hrun hheap hbel
      by_cases hlt : k < m
      · have hkm : ¬ m = k := by omega
        have hmin : min (k : Int) (m : Int) = (k : Int) := by omega
        obtain ⟨q, hq⟩ : ∃ q, q = min k (m - k) := ⟨_, rfl⟩
        have HQ := Lib.hid hq
        have hq1 : 1 ≤ q := by omega
        have hq2 : k + q ≤ m := by omega
        clear hq
        have hcp : ∀ (wd : World), wd.heap = wr.heap → ∀ j u, (List.replicate q v)[j]? = some u → wd.cell? ((⟨w.heap.size, 0, none⟩ : Addr).add j) = some u := by
          intro wd hwd j u hu
          have hj := (List.getElem?_eq_some_iff.1 hu).1
          rw [List.length_replicate] at hj
          have hqk : q ≤ k := by have := HQ.out; omega
          have h1 : cur[j]? = some u := by
            have h2 : (cur.take k)[j]? = some u := by
              rw [HRun.out, List.getElem?_replicate, if_pos (by omega)]
              rwa [List.getElem?_replicate, if_pos (by omega)] at hu
            rwa [List.getElem?_take, if_pos (by omega)] at h2
          rw [Addr.add_lit, Nat.zero_add, cell_of_row _ _ j cur.toArray 5 (0, 0) (by rw [hwd]; exact HHeap.out), ← h1]
          simp
        have HCP := Lib.hid hcp
        clear hcp
        go_wp2_with fail
        go_region_law (first | (refine step_copy_splice (P := Try.prog) rfl (.tmp 70) (.tmp 73) 22 22 rfl 5 Try.underlying22 (by rw [hi0]; exact congrArg some hz1) _ _ (m - k) (m - k) k m (by simp [Act.eval, Act.put]) (by simp [Act.eval, Act.put]) w.heap.size k cur 5 HHeap.out (List.replicate q v) (by rw [List.length_replicate, HQ.out]; first | done | rfl) (fun _ => ⟨rfl, _, rfl, HCP.out _ rfl⟩) (by rw [List.length_replicate, HLen.out]; omega) (fun u hu => by rw [(List.mem_replicate.1 hu).2]; exact hv) w.heap.size w (by first | exact HBel.out | exact HBel.out.drew) (Nat.le_refl _) ?_; intro w5 hg5 hb5; rw [List.length_replicate]))
        have HR5 := Lib.hid (splice_run (m := q) HRun.out (by rw [HLen.out]; omega))
        have HL5 := Lib.hid (splice_len (v := v) (k := k) (m := q) HLen.out (by omega))
        have HB5 := Lib.hid hb5
        clear hb5 HHeap HRun HLen
        generalize splice cur k (List.replicate q v) = cur5 at *
        have hsum : IntKind.i64.wrap ((k : Int) + (q : Int)) = ((k + q : Nat) : Int) := by rw [IntWalk.i64_in _ (by omega)]; omega
        go_simp
        go_roundw
        case rel => exact ⟨_, _, _, _, _, _, _, _, _, _, _, _, _, _, _, _, _, ⟨k + q, cur5, by go_num, by omega, hq2, HL5.out, HR5.out, hg5, HB5.out⟩, rfl⟩
        case measure => simp [intOf]; omega
      · obtain rfl : k = m := by omega
        go_wp2_with fail
        go_ret
        refine ⟨_, _, rfl, ⟨by rw [List.length_replicate, Nat.mul_one], Nat.le_refl _, by simp only [maxLen]; omega, (fun h => by cases h), fun _ => ⟨w.heap.size, 0, rfl, ?_, fun j u hu => ?_⟩⟩, HBel.out⟩
        · exact (Array.getElem?_eq_some_iff.1 HHeap.out).1
        · rw [Nat.zero_add, cell_of_row _ _ j cur.toArray 5 (0, 0) HHeap.out]
          rw [← HRun.out] at hu
          have hj := (List.getElem?_eq_some_iff.1 hu).1
          rw [List.length_take] at hj
          rw [List.getElem?_take, if_pos (by omega)] at hu
          rw [← hu]; simp
theorem blankAny (n : Nat) (w : World) (hn : n ≤ 4096) : Calls Try.prog 9 #[.int .i64 n] w (TextErr w (List.replicate n 255, 0)) := by
  have hr : Rd (w.alloc (.cells #[.int .u8 255] 5)) (w.heap.size + 1) 1 (some ⟨w.heap.size, 0, none⟩) 1 1 [.int .u8 255] := Rd.new w 5 _ (0, 0) _ 1 rfl rfl (by decide)
  have HR := Lib.hid (repeatAny (.int .u8 255) rfl _ _ _ n _ hr (by simp) hn)
  clear hr
  go_enter Try.func9, Try.ntmps9
  go_wp2_with fail
  refine (HR.out).mono ?_; rintro e w' ⟨A, c, rfl, hrd, hb⟩
  have HD := Lib.hid hrd
  have HB := Lib.hid hb
  clear hrd hb
  go_wp2_with fail
  go_ret2
  refine ⟨A, c, by rw [List.length_replicate]; rfl, ?_, Below.trans ((Below.refl w.heap.size w).alloc (Nat.le_refl _) (.cells #[.int .u8 255] 5)) (HB.out.mono (by simp))⟩
  have := HD.out
  have e : List.replicate n (Value.int .u8 255) = bcells (List.replicate n 255) := by unfold bcells; rw [List.map_replicate]; rfl
  rw [e] at this
  rw [List.length_replicate]
  exact this
theorem blankOut (n : Int) (w : World) (hn : n < 0 ∨ 4096 < n) : Calls Try.prog 9 #[.int .i64 n] w (TextErr w ([], 2)) := by
  rcases hn with hn | hn
  · go_enter Try.func9, Try.ntmps9
    go_wp2_with fail
    go_ret2
    exact nil_text rfl (Below.refl _ _)
  · have h1 : ¬ n < 0 := by omega
    go_enter Try.func9, Try.ntmps9
    go_wp2_with fail
    go_ret2
    exact nil_text rfl (Below.refl _ _)
/-- Blank at a length. -/
def blankR (n : Nat) : List UInt8 × Int := if n ≤ 4096 then (List.replicate n 255, 0) else ([], 2)
theorem blankLen (n : Nat) (w : World) : Calls Try.prog 9 #[.int .i64 n] w (TextErr w (blankR n)) := by
  unfold blankR
  by_cases h : n ≤ 4096
  · rw [if_pos h]; exact blankAny n w h
  · rw [if_neg h]; exact blankOut n w (by omega)
end Go.Proofs.Ytaombamfglljaaa.Cell
