/-
  What moveDown and moveUp leave of a row of the call's own.
-/
import Derived.Test.YtkkmfeclondlpaaOwn
import Derived.Deep.DeepCutAuto
namespace Go.Proofs.Ytkkmfeclondlpaa.Heap
open Go.ChangeShapes Go.WideShapes Go.ChangeAt Go.RowKit Words Go.Sort
set_option linter.unusedVariables false

theorem child_second {l : List Wn} {k : Nat} (h : 2 * k + 2 < l.length) (hz : less (nth l (2 * k + 2)) (nth l (2 * k + 1)) = true) : child l k = 2 * k + 2 := by unfold child; rw [if_pos ⟨h, hz⟩]
theorem child_first {l : List Wn} {k : Nat} (hz : less (nth l (2 * k + 2)) (nth l (2 * k + 1)) = false) : child l k = 2 * k + 1 := by unfold child; rw [if_neg (by rw [hz]; simp)]
theorem child_only {l : List Wn} {k : Nat} (h : ¬ 2 * k + 2 < l.length) : child l k = 2 * k + 1 := by unfold child; rw [if_neg (fun x => h x.1)]
set_option maxHeartbeats 1000000 in
theorem smaller39 (B : Nat) (A : Option Addr) (n c : Nat) (l : List Wn) (k : Nat) (w : World) (h : Hp w B A n c l) (hB : B ≤ w.heap.size) (hs : n ≤ 9000000000000) (hk : 2 * k + 1 < n) :
    Calls Try.prog 39 #[.slice A n c, .int .i64 k] w fun e w' => e = .returned (.int .i64 (child l k)) ∧ Laid w w' := by
  have mx := mixedO
  have L := h.len
  obtain ⟨g, o, rfl, _, _⟩ := Words.Rd.row h (by omega)
  go_enter Try.func39, Try.ntmps39
  go_upto_region 1 with fail
  go_cut [5, 6] (fun a b wx => a = .int .i64 (2 * k + 1 : Nat) ∧ b = .int .i64 (2 * k + 2 : Nat) ∧ wx = w)
  case first =>
    go_wp2_with fail
    go_meet
    exact ⟨i64_num (by omega), i64_num (by omega), rfl⟩
  case rest =>
    obtain ⟨rfl, rfl, rfl⟩ := hcut
    obtain ⟨q, hq⟩ : ∃ q, q = 2 * k + 1 := ⟨_, rfl⟩
    obtain ⟨r, hr⟩ : ∃ r, r = 2 * k + 2 := ⟨_, rfl⟩
    rw [← hq, ← hr]
    obtain ⟨d0, d1⟩ := Hp.cellsG h hB rfl (nth_get (l := l) (k := q) (by omega))
    by_cases hg : r < n
    · obtain ⟨c0, c1⟩ := Hp.cellsG h hB rfl (nth_get (l := l) (k := r) (by omega))
      have HL := isLess32 (nth l r) (nth l q)
      have HT := fun hz => child_second (l := l) (k := k) (by omega) hz
      have HF := fun hz => child_first (l := l) (k := k) hz
      rw [← hq, ← hr] at HT HF
      obtain ⟨x, hx⟩ : ∃ x, x = nth l r := ⟨_, rfl⟩
      obtain ⟨y, hy⟩ : ∃ y, y = nth l q := ⟨_, rfl⟩
      rw [← hx] at c0 c1 HL HT HF
      rw [← hy] at d0 d1 HL HT HF
      have hqn : q < n := by omega
      unfold wval at HL
      clear hx hy hq hr h L
      cases hz : less x y with
      | true =>
        rw [hz] at HL
        have HL := Lib.hid HL
        have HE := Lib.hid (HT hz)
        clear hz HT HF
        go_wp2_with fail
        go_quiet_grown (first | (go_at_call 32; exact Calls.grown_of (HL.out _)))
        go_wp2_with fail
        go_ret
        exact ⟨ret_int (by rw [HE.out]), ⟨nq, osq, rfl⟩⟩
      | false =>
        rw [hz] at HL
        have HL := Lib.hid HL
        have HE := Lib.hid (HF hz)
        clear hz HT HF
        go_wp2_with fail
        go_quiet_grown (first | (go_at_call 32; exact Calls.grown_of (HL.out _)))
        go_wp2_with fail
        go_ret
        exact ⟨ret_int (by rw [HE.out]), ⟨nq, osq, rfl⟩⟩
    · have HE := Lib.hid (child_only (l := l) (k := k) (by omega))
      have hd : decide ((r : Int) < (n : Int)) = false := by rw [decide_eq_false_iff_not]; omega
      have HQ := Lib.hid hq
      clear hq hr h L d0 d1 hk hs
      go_wp2_with fail
      refine wp_region_quiet_grown (by assumption) (by kernel_rfl) ?_
      repeat (go_big_quiet_step (fail))
      refine wpQuiet_nil ?_
      intro _ hw2
      obtain ⟨⟨nq, osq⟩, hw3⟩ := hw2
      subst hw3
      go_wp2_with fail
      go_ret
      exact ⟨ret_int (by rw [HE.out, HQ.out]), ⟨nq, osq, rfl⟩⟩
end Go.Proofs.Ytkkmfeclondlpaa.Heap
