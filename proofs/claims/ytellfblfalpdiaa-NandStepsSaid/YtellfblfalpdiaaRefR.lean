/-
  What the document's own DRight returns.
-/
import Derived.Test.YtellfblfalpdiaaPerf
import Derived.Deep.DeepCutAuto
namespace Go.Proofs.Ytellfblfalpdiaa.Nand
open Go.ChangeShapes Go.WideShapes Go.ChangeAt Go.RowKit Words

def headOk (b : Blk) : Bool := decide (0 ≤ b.done) && decide (b.done ≤ 4) && decide (0 ≤ b.wear) && decide (b.wear ≤ 1048576)
def pageOk (b : Blk) (k : Nat) : Bool := b.at k == 0 || decide ((k : Int) < b.done)
def pagesTo (b : Blk) (k : Nat) : Bool := (List.range k).all (pageOk b)
theorem pagesTo_succ (b : Blk) (k : Nat) : pagesTo b (k + 1) = (pagesTo b k && pageOk b k) := by
  unfold pagesTo; rw [List.range_succ, List.all_append]; simp
theorem okB_ref (b : Blk) : okB b = (headOk b && pagesTo b 4) := by
  rw [Bool.eq_iff_iff, okB_nums]
  unfold headOk pagesTo
  simp [List.range_succ, pageOk, Blk.at, Blk.pages]
  omega
theorem index_p0 (x y z t : Int) (w : World) : (Instr.index 29 (.agg #[.int .i64 x, .int .i64 y, .int .i64 z, .int .i64 t]) (.int .i64 0)).run Try.prog w = .ok (.int .i64 x) w := by kernel_rfl
theorem index_p1 (x y z t : Int) (w : World) : (Instr.index 29 (.agg #[.int .i64 x, .int .i64 y, .int .i64 z, .int .i64 t]) (.int .i64 1)).run Try.prog w = .ok (.int .i64 y) w := by kernel_rfl
theorem index_p2 (x y z t : Int) (w : World) : (Instr.index 29 (.agg #[.int .i64 x, .int .i64 y, .int .i64 z, .int .i64 t]) (.int .i64 2)).run Try.prog w = .ok (.int .i64 z) w := by kernel_rfl
theorem index_p3 (x y z t : Int) (w : World) : (Instr.index 29 (.agg #[.int .i64 x, .int .i64 y, .int .i64 z, .int .i64 t]) (.int .i64 3)).run Try.prog w = .ok (.int .i64 t) w := by kernel_rfl
theorem index_page (b : Blk) {k : Nat} (hk : k < 4) (w : World) : (Instr.index 29 (.agg #[.int .i64 b.d0, .int .i64 b.d1, .int .i64 b.d2, .int .i64 b.d3]) (.int .i64 (k : Int))).run Try.prog w = .ok (.int .i64 (b.at k)) w := by
  have : k = 0 ∨ k = 1 ∨ k = 2 ∨ k = 3 := by omega
  rcases this with rfl | rfl | rfl | rfl
  · exact index_p0 _ _ _ _ _
  · exact index_p1 _ _ _ _ _
  · exact index_p2 _ _ _ _ _
  · exact index_p3 _ _ _ _ _
theorem headOk_iff (b : Blk) : headOk b = true ↔ 0 ≤ b.done ∧ b.done ≤ 4 ∧ 0 ≤ b.wear ∧ b.wear ≤ 1048576 := by
  unfold headOk
  simp only [Bool.and_eq_true, decide_eq_true_eq, and_assoc]
theorem headOk_no {b : Blk} (h : ¬ (0 ≤ b.done ∧ b.done ≤ 4 ∧ 0 ≤ b.wear ∧ b.wear ≤ 1048576)) : headOk b = false := by
  rw [← headOk_iff] at h
  simpa using h
theorem bool_val {a b : Bool} (h : a = b) : Value.bool a = Value.bool b := by rw [h]
set_option maxHeartbeats 1000000 in
theorem right14 (B : Nat) (A : Option Addr) (n c : Nat) (l : List Blk) (w : World) (h : Fl w B A n c l) (hB : B ≤ w.heap.size) :
    Calls Try.prog 14 #[.slice A n c] w fun e w' => e = .returned (.bool (right l)) ∧ Below w.heap.size w w' := by
  have hm := Rd.small h
  have H := Lib.hid h
  have L := Lib.hid h.len
  obtain ⟨v8, hv⟩ : ∃ v8 : Bool, ((n : Int) == 8) = v8 := ⟨_, rfl⟩
  have H8 : Hid (decide (l.length = 8) = v8) := Lib.hid (by rw [← hv, L.out, Bool.eq_iff_iff, decide_eq_true_iff, beq_iff_eq]; omega)
  clear h
  go_enter Try.func14, Try.ntmps14
  go_wp2_with fail
  have HV := Lib.hid hv
  clear hv
  go_loopw [3, 13] (fun v i wr => ∃ k : Nat, k ≤ n ∧ i = .int .i64 k ∧ v = .bool (v8 && (l.take k).all okB) ∧ Below w.heap.size w wr) (fun _ i _ => (n - intOf i).toNat)
  case atStart => exact ⟨0, by omega, rfl, by simp, Below.refl _ _⟩
  case round =>
    obtain ⟨k, hk, rfl, rfl, hbel⟩ := hrel
    have HB := Lib.hid hbel
    clear hbel
    generalize hv : (v8 && (l.take k).all okB) = v
    have HW := Lib.hid hv
    clear hv
    by_cases hlt : k < n
    · obtain ⟨g, o, rfl, _, _⟩ := Words.Rd.row H.out (by omega)
      obtain ⟨b, hx⟩ : ∃ x, l[k]? = some x := ⟨_, List.getElem?_eq_getElem (by rw [L.out]; exact hlt)⟩
      obtain ⟨c0, c1, c2, c3, c4, c5⟩ := Fl.cells (Words.Rd.below H.out HB.out hB) rfl hx
      have HX := Lib.hid hx
      clear hx
      have HB1 : Hid (Below w.heap.size w (wr.alloc (.cells #[.int .i64 b.d0, .int .i64 b.d1, .int .i64 b.d2, .int .i64 b.d3, .int .i64 b.done, .int .i64 b.wear] 31))) := Lib.hid (HB.out.alloc HB.out.size _)
      go_upto_region 5 with fail
      go_cut [3] (fun u wx => u = .bool (v && headOk b) ∧ wx = wr.alloc (.cells #[.int .i64 b.d0, .int .i64 b.d1, .int .i64 b.d2, .int .i64 b.d3, .int .i64 b.done, .int .i64 b.wear] 31))
      case first =>
        clear c0 c1 c2 c3 c4 c5
        cases v with
        | false =>
          go_wp2_with fail
          go_meet
          exact ⟨rfl, rfl⟩
        | true =>
          by_cases e1 : 0 ≤ b.done
          · by_cases e2 : b.done ≤ 4
            · by_cases e3 : 0 ≤ b.wear
              · by_cases e4 : b.wear ≤ 1048576
                · have HF := Lib.hid ((headOk_iff b).2 ⟨e1, e2, e3, e4⟩)
                  go_wp2_with fail
                  go_meet
                  exact ⟨bool_val (by rw [HF.out]; rfl), rfl⟩
                · have HF := Lib.hid (headOk_no (b := b) (by omega))
                  go_wp2_with fail
                  go_meet
                  exact ⟨bool_val (by rw [HF.out]; rfl), rfl⟩
              · have HF := Lib.hid (headOk_no (b := b) (by omega))
                go_wp2_with fail
                go_meet
                exact ⟨bool_val (by rw [HF.out]; rfl), rfl⟩
            · have HF := Lib.hid (headOk_no (b := b) (by omega))
              go_wp2_with fail
              go_meet
              exact ⟨bool_val (by rw [HF.out]; rfl), rfl⟩
          · have HF := Lib.hid (headOk_no (b := b) (by omega))
            go_wp2_with fail
            go_meet
            exact ⟨bool_val (by rw [HF.out]; rfl), rfl⟩
      case rest =>
        obtain ⟨rfl, rfl⟩ := hcut
        clear c0 c1 c2 c3 c4 c5
        generalize hu : (v && headOk b) = u
        have HU := Lib.hid hu
        clear hu
        go_wp2_with fail
        go_loop [3, 40] (fun v i => ∃ j : Nat, j ≤ 4 ∧ i = .int .i64 j ∧ v = .bool (u && pagesTo b j)) (fun _ i => (4 - intOf i).toNat)
        case atStart => exact ⟨0, by omega, rfl, by unfold pagesTo; simp⟩
        case round =>
          obtain ⟨j, hj, rfl, rfl⟩ := hrel
          by_cases hj4 : j < 4
          · have hx := fun w => index_page b hj4 w
            have HS := Lib.hid (pagesTo_succ b j)
            generalize hp : (u && pagesTo b j) = p
            have HP : Hid ((u && pagesTo b (j + 1)) = (p && pageOk b j)) := Lib.hid (by rw [HS.out, ← hp, Bool.and_assoc])
            have HO := Lib.hid (show pageOk b j = (b.at j == 0 || decide ((j : Int) < b.done)) from rfl)
            generalize b.at j = x at *
            clear hp HS
            cases p with
            | false =>
              go_wp2_with fail
              go_round
              case rel => exact ⟨j + 1, by omega, by go_num, bool_val (by rw [HP.out]; rfl)⟩
              case measure => simp [intOf]; omega
            | true =>
              cases e1 : (x == 0) with
              | true =>
                have HQ : Hid ((u && pagesTo b (j + 1)) = true) := Lib.hid (by rw [HP.out, HO.out, e1]; rfl)
                go_wp2_with fail
                go_round
                case rel => exact ⟨j + 1, by omega, by go_num, bool_val (by rw [HQ.out])⟩
                case measure => simp [intOf]; omega
              | false =>
                have HQ : Hid ((u && pagesTo b (j + 1)) = decide ((j : Int) < b.done)) := Lib.hid (by rw [HP.out, HO.out, e1]; rfl)
                go_wp2_with fail
                go_round
                case rel => exact ⟨j + 1, by omega, by go_num, bool_val (by rw [HQ.out])⟩
                case measure => simp [intOf]; omega
          · obtain rfl : j = 4 := by omega
            go_wp2_with fail
            go_roundw
            case rel => exact ⟨k + 1, by omega, by go_num, bool_val (by rw [← HU.out, ← HW.out, List.take_add_one, HX.out, List.all_append]; simp only [Option.toList, List.all_cons, List.all_nil, Bool.and_true]; rw [okB_ref, Bool.and_assoc, Bool.and_assoc]), HB1.out⟩
            case measure => simp [intOf]; omega
    · obtain rfl : k = n := by omega
      go_wp2_with fail
      go_ret
      refine ⟨ret_bool ?_, HB.out⟩
      have h := HW.out
      rw [List.take_of_length_le (by rw [L.out]; omega)] at h
      rw [← h]
      unfold right
      rw [H8.out]
end Go.Proofs.Ytellfblfalpdiaa.Nand
