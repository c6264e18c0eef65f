/-
  What the document's own test returns.
-/
import Derived.Test.YtkkmfeclondlpaaRights
namespace Go.Proofs.Ytkkmfeclondlpaa.Heap
open Go.ChangeShapes Go.WideShapes Go.ChangeAt Go.RowKit Words Go.Sort
set_option linter.unusedVariables false

/-- The block's box and the two numbers behind it: what the loop over the children reads. -/
def pairW (w : World) (x : Wn) (k : Nat) : World := (w.alloc (.cells #[.int .i64 x.id, .int .i64 x.wear] 24)).alloc (.cells #[.int .i64 (2 * (k : Int) + 1), .int .i64 (2 * (k : Int) + 2)] 3)
theorem pairW_below (w : World) (x : Wn) (k : Nat) : Below w.heap.size w (pairW w x k) := two_blocks w _ _
theorem pairW_size (w : World) (x : Wn) (k : Nat) : (pairW w x k).heap.size = w.heap.size + 2 := by unfold pairW; simp
theorem pairW_box (w : World) (x : Wn) (k : Nat) : (pairW w x k).cell? ⟨w.heap.size, 0, none⟩ = some (.int .i64 x.id) ∧ (pairW w x k).cell? ⟨w.heap.size, 1, none⟩ = some (.int .i64 x.wear) := by
  have h : ∀ j, (pairW w x k).cell? ⟨w.heap.size, j, none⟩ = #[Value.int .i64 x.id, .int .i64 x.wear][j]? := fun j => by
    unfold pairW
    rw [World.cell?_alloc_lt _ _ _ (by simp)]
    exact cell_of_row _ _ _ _ 24 (0, 0) (heap_alloc_new w _)
  exact ⟨h 0, h 1⟩
/-- .. two numbers in a block of their own. -/
theorem kids_num (w : World) (k : Nat) {j : Nat} (hj : j < 2) : (w.alloc (.cells #[.int .i64 (2 * (k : Int) + 1), .int .i64 (2 * (k : Int) + 2)] 3)).cell? ⟨w.heap.size, j, none⟩ = some (.int .i64 (2 * k + 1 + j : Nat)) := by
  rw [cell_of_row _ _ _ _ 3 (0, 0) (heap_alloc_new w _)]
  rcases (show j = 0 ∨ j = 1 by omega) with rfl | rfl
  · show some _ = some _
    rw [i64_num (show 2 * (k : Int) + 1 = ((2 * k + 1 + 0 : Nat) : Int) by omega)]
    rfl
  · show some _ = some _
    rw [i64_num (show 2 * (k : Int) + 2 = ((2 * k + 1 + 1 : Nat) : Int) by omega)]
    rfl
theorem pairW_num (w : World) (x : Wn) (k : Nat) {j : Nat} (hj : j < 2) : (pairW w x k).cell? ⟨w.heap.size + 1, j, none⟩ = some (.int .i64 (2 * k + 1 + j : Nat)) := by
  have := kids_num (w.alloc (.cells #[.int .i64 x.id, .int .i64 x.wear] 24)) k hj
  simp only [World.size_alloc] at this
  exact this
set_option maxHeartbeats 1000000 in
theorem right14 (B : Nat) (A : Option Addr) (n c : Nat) (l : List Wn) (w : World) (h : Hp w B A n c l) (hB : B ≤ w.heap.size) (hs : Small n) :
    Calls Try.prog 14 #[.slice A n c] w fun e w' => e = .returned (.bool (right l)) ∧ Below w.heap.size w w' := by
  have mx := mixedO
  have H := Lib.hid h
  have L := Lib.hid h.len
  have hm : n ≤ 9000000000000 := by unfold Small at hs; omega
  clear h hs
  go_enter Try.func14, Try.ntmps14
  go_wp2_with fail
  go_loopw [9] (fun i wr => ∃ k : Nat, i = .int .i64 k ∧ k ≤ n ∧ (∀ p, p < k → (2 * p + 1 < l.length → less (nth l (2 * p + 1)) (nth l p) = false) ∧ (2 * p + 2 < l.length → less (nth l (2 * p + 2)) (nth l p) = false)) ∧ Below w.heap.size w wr) (fun i _ => (n - intOf i).toNat)
  case atStart => exact ⟨0, rfl, by omega, fun p hp => absurd hp (by omega), Below.refl _ _⟩
  case round =>
    obtain ⟨k, rfl, hkn, hinv, hbel⟩ := hrel
    have HI := Lib.hid hinv
    have HB := Lib.hid hbel
    clear hinv hbel
    by_cases hlt : k < n
    · obtain ⟨g, o, rfl, hgB, _⟩ := Words.Rd.row H.out (by omega)
      have hBr : B ≤ wr.heap.size := Nat.le_trans hB HB.out.size
      obtain ⟨c0, c1⟩ := Hp.cells (Words.Rd.below H.out HB.out hB) rfl (nth_get (l := l) (k := k) (by rw [L.out]; exact hlt))
      obtain ⟨x, hx⟩ : ∃ x, x = nth l k := ⟨_, rfl⟩
      rw [← hx] at c0 c1
      have HX := Lib.hid hx
      clear hx
      obtain ⟨w1, rfl⟩ : ∃ w1, w1 = wr := ⟨_, rfl⟩
      go_wp2_with fail
      go_loopw [22] (fun i wr => ∃ j : Nat, i = .int .i64 j ∧ j ≤ 2 ∧ (∀ c, 2 * k + 1 ≤ c → c < 2 * k + 1 + j → c < n → less (nth l c) x = false) ∧ Below (pairW w1 x k).heap.size (pairW w1 x k) wr) (fun i _ => (2 - intOf i).toNat)
      case atStart => exact ⟨0, rfl, by omega, fun c h1 h2 => absurd h2 (by omega), Below.refl _ _⟩
      case round =>
        obtain ⟨j, rfl, hj2, hinv, hbel⟩ := hrel
        have HI2 := Lib.hid hinv
        have HB2 := Lib.hid hbel
        have hsz := pairW_size w1 x k
        have HB3 := Lib.hid (HB.out.trans ((pairW_below w1 x k).trans (hbel.mono (by omega)) |>.mono HB.out.size))
        have hsw : w1.heap.size + 2 ≤ wr.heap.size := by rw [← hsz]; exact hbel.size
        clear hinv hbel c0 c1
        by_cases hj : j < 2
        · have e0 := fun m os => cell_grown (w := wr) (a := ⟨w1.heap.size, 0, none⟩) (by show w1.heap.size < _; omega) ((HB2.out.cell (p := ⟨w1.heap.size, 0, none⟩) (by show w1.heap.size < _; omega)).trans (pairW_box w1 x k).1) m os
          have e1 := fun m os => cell_grown (w := wr) (a := ⟨w1.heap.size, 1, none⟩) (by show w1.heap.size < _; omega) ((HB2.out.cell (p := ⟨w1.heap.size, 1, none⟩) (by show w1.heap.size < _; omega)).trans (pairW_box w1 x k).2) m os
          have en := (HB2.out.cell (p := ⟨w1.heap.size + 1, j, none⟩) (by show w1.heap.size + 1 < _; omega)).trans (pairW_num w1 x k hj)
          obtain ⟨q, hq⟩ : ∃ q, q = 2 * k + 1 + j := ⟨_, rfl⟩
          rw [← hq] at en
          by_cases hqn : q < n
          · have hBr2 : B ≤ wr.heap.size := Nat.le_trans hBr (by omega)
            obtain ⟨d0, d1⟩ := Hp.cellsG (Words.Rd.below H.out HB3.out hB) hBr2 rfl (nth_get (l := l) (k := q) (by rw [L.out]; exact hqn))
            have HL := less23 (nth l q) x
            obtain ⟨y, hy⟩ : ∃ y, y = nth l q := ⟨_, rfl⟩
            rw [← hy] at d0 d1 HL
            have HY := Lib.hid hy
            have HQ := Lib.hid hq
            unfold wval at HL
            clear hy hq hsz
            cases hz : less y x with
            | false =>
              rw [hz] at HL
              have HL := Lib.hid HL
              have HZ := Lib.hid hz
              clear hz
              go_wp2_with fail
              go_quiet_grown (first | (go_at_call 23; exact Calls.grown_of (HL.out _)))
              have HB4 := Lib.hid (below_grow HB2.out HB2.out.size nq osq)
              clear d0 d1 e0 e1 en
              go_wp2_with fail
              go_roundw
              case rel => exact ⟨j + 1, by go_num, by omega, fun c h0 h1 h2 => by
                by_cases hcq : c < q
                · exact HI2.out c h0 (by have := HQ.out; omega) h2
                · obtain rfl : c = q := by have := HQ.out; omega
                  rw [← HY.out]
                  exact HZ.out, HB4.out⟩
              case measure => simp [intOf]; omega
            | true =>
              rw [hz] at HL
              have HL := Lib.hid HL
              have HZ := Lib.hid hz
              clear hz
              go_wp2_with fail
              go_quiet_grown (first | (go_at_call 23; exact Calls.grown_of (HL.out _)))
              have HB4 := Lib.hid (below_grow HB3.out HB3.out.size nq osq)
              clear d0 d1 e0 e1 en
              go_wp2_with fail
              go_ret
              exact ⟨ret_bool (by
                have e := HZ.out
                have hk : k = (q - 1) / 2 := by have := HQ.out; omega
                rw [HX.out, HY.out, hk] at e
                rw [right_no (c := q) (by have := HQ.out; omega) (by rw [L.out]; exact hqn) e]), HB4.out⟩
          · have hg : decide ((q : Int) < (n : Int)) = false := by rw [decide_eq_false_iff_not]; omega
            have HQ := Lib.hid hq
            clear hq hsz
            go_wp2_with fail
            go_quiet_grown (fail)
            have HB4 := Lib.hid (below_grow HB2.out HB2.out.size nq osq)
            clear e0 e1 en
            go_wp2_with fail
            go_roundw
            case rel => exact ⟨j + 1, by go_num, by omega, fun c h0 h1 h2 => HI2.out c h0 (by have := HQ.out; omega) h2, HB4.out⟩
            case measure => simp [intOf]; omega
        · obtain rfl : j = 2 := by omega
          go_wp2_with fail
          go_roundw
          case rel => exact ⟨k + 1, by go_num, by omega, fun p hp => by
            by_cases hpk : p < k
            · exact HI.out p hpk
            · obtain rfl : p = k := by omega
              rw [← HX.out]
              exact ⟨fun h => HI2.out _ (by omega) (by omega) (by have := L.out; omega), fun h => HI2.out _ (by omega) (by omega) (by have := L.out; omega)⟩, HB3.out⟩
          case measure => simp [intOf]; omega
    · go_wp2_with fail
      go_ret
      exact ⟨ret_bool (right_kids fun k hk => HI.out k (by have := L.out; omega)).symm, HB.out⟩
end Go.Proofs.Ytkkmfeclondlpaa.Heap
