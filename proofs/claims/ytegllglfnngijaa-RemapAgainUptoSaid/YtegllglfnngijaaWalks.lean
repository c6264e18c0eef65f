/-
  The program's small functions: is this a number; the pages of numbers none of which is mapped.
-/
import Derived.Test.YtegllglfnngijaaProg
import Derived.Test.YtegllglfnngijaaRows1
import Derived.Test.YtegllglfnngijaaPlain
import Derived.Deep.QuietTactic
import Derived.BigQuiet
import Derived.RegionTactic
import Derived.ChangeAlike
import Derived.Deep.RegionWith
import Derived.Deep.CutBlock
import Derived.Laws.CopyOwn
import Derived.Deep.DeepCutAuto
namespace Go.Proofs.Ytegllglfnngijaa.Rem
open Go.ChangeShapes Go.WideShapes Go.ChangeAt Go.RowKit Words
set_option linter.unusedVariables false

def isN (n : Int) : Bool := decide (0 ≤ n) && decide (n < 16)
theorem isN_yes {n : Int} : isN n = true ↔ 0 ≤ n ∧ n < 16 := by unfold isN; simp
theorem isN_no {n : Int} : isN n = false ↔ ¬ (0 ≤ n ∧ n < 16) := by rw [← isN_yes]; simp
theorem number20 (n : Int) (w : World) : Calls Try.prog 20 #[.int .i64 n] w fun e w' => e = .returned (.bool (isN n)) ∧ w' = w := by
  by_cases h0 : 0 ≤ n
  · have HE : Hid (decide (n < 16) = isN n) := Lib.hid (by unfold isN; simp [h0])
    go_enter Try.func20, Try.ntmps20
    go_wp2_with fail
    go_ret
    exact ⟨ret_bool HE.out, rfl⟩
  · have HE : Hid (isN n = false) := Lib.hid (isN_no.2 (by omega))
    go_enter Try.func20, Try.ntmps20
    go_wp2_with fail
    go_ret
    exact ⟨ret_bool HE.out.symm, rfl⟩
/-- Behind k rounds. -/
def upN (k : Nat) : List Int := List.replicate k (-1) ++ List.replicate (16 - k) 0
theorem upN_zero : upN 0 = List.replicate 16 0 := rfl
theorem upN_all : upN 16 = List.replicate 16 (-1) := rfl
theorem upN_set {k : Nat} (h : k < 16) : (upN k).set k (-1) = upN (k + 1) := by
  have : k = 0 ∨ k = 1 ∨ k = 2 ∨ k = 3 ∨ k = 4 ∨ k = 5 ∨ k = 6 ∨ k = 7 ∨ k = 8 ∨ k = 9 ∨ k = 10 ∨ k = 11 ∨ k = 12 ∨ k = 13 ∨ k = 14 ∨ k = 15 := by omega
  rcases this with rfl | rfl | rfl | rfl | rfl | rfl | rfl | rfl | rfl | rfl | rfl | rfl | rfl | rfl | rfl | rfl <;> rfl
theorem upN_get {k : Nat} (h : k < 16) : (upN k)[k]? = some 0 := by
  have : k = 0 ∨ k = 1 ∨ k = 2 ∨ k = 3 ∨ k = 4 ∨ k = 5 ∨ k = 6 ∨ k = 7 ∨ k = 8 ∨ k = 9 ∨ k = 10 ∨ k = 11 ∨ k = 12 ∨ k = 13 ∨ k = 14 ∨ k = 15 := by omega
  rcases this with rfl | rfl | rfl | rfl | rfl | rfl | rfl | rfl | rfl | rfl | rfl | rfl | rfl | rfl | rfl | rfl <;> rfl
theorem size25 : (Try.prog.info? 25).map (·.size) = some 16 := by kernel_rfl
theorem size25_of {l : List Int} (h : l.length = 16) : (Try.prog.info? 25).map (·.size) = some (icells l).toArray.size := by rw [size25, List.size_toArray, icells_length, h]
theorem size25_len {l : List Int} (h : l.length = 16) : (Try.prog.info? 25).map (·.size) = some (icells l).length := by rw [size25, icells_length, h]
structure UInv (w : World) (k : Nat) (W : World) : Prop where
  bel : Below w.heap.size w W
  res : WI W w.heap.size 25 zero16
  cur : WI W (w.heap.size + 1) 25 (upN k)
theorem uinv_start (w : World) : UInv w 0 ((w.alloc (.cells (icells zero16).toArray 25)).alloc (.cells (icells zero16).toArray 25)) :=
  ⟨two_blocks w _ _, (WI.new w 25 _).alloc _, by have := WI.new (w.alloc (.cells (icells zero16).toArray 25)) 25 zero16; rw [World.size_alloc] at this; exact this⟩
theorem UInv.put {w W : World} {k : Nat} (h : UInv w k W) (hk : k < 16) : UInv w (k + 1) (W.setCell ⟨w.heap.size + 1, k, none⟩ (.int .i64 (-1))) :=
  ⟨h.bel.setCell (by show w.heap.size ≤ w.heap.size + 1; omega) _, h.res.other (by show w.heap.size + 1 ≠ w.heap.size; omega) _, (h.cur.set_ k (-1)).as (upN_set hk).symm⟩
set_option maxHeartbeats 1000000 in
theorem unmapped19 (w : World) : Calls Try.prog 19 #[] w fun e w' => e = .returned (av none16) ∧ Below w.heap.size w w' := by
  have I0 : Hid (UInv w 0 ((w.alloc (.cells (icells zero16).toArray 25)).alloc (.cells (icells zero16).toArray 25))) := Lib.hid (uinv_start w)
  go_enter Try.func19, Try.ntmps19
  go_wp2_with fail
  go_loopw [3] (fun i wr => ∃ (k : Nat), i = .int .i64 k ∧ k ≤ 16 ∧ UInv w k wr) (fun i _ => (16 - intOf i).toNat)
  case atStart => exact ⟨0, rfl, by omega, I0.out⟩
  case round =>
    obtain ⟨k, rfl, hk, hinv⟩ := hrel
    have I := Lib.hid hinv
    clear hinv I0
    by_cases hlt : k < 16
    · have c0 := I.out.cur.cell (upN_get hlt)
      have f0 := I.out.cur.frozen k
      have HP := Lib.hid (I.out.put hlt)
      go_wp2_with fail
      go_roundw
      case rel => exact ⟨k + 1, by go_num, by omega, HP.out⟩
      case measure => simp [intOf]; omega
    · obtain rfl : k = 16 := by omega
      have h1 : WI wr (w.heap.size + 1) 25 none16 := I.out.cur
      have h0 := I.out.res
      have HB : Hid (Below w.heap.size w (wr.setRow w.heap.size (icells none16).toArray)) := Lib.hid (below_setRow I.out.bel (Nat.le_refl _) _)
      have HW := Lib.hid (wi_setRow h0 none16)
      have HS := size25_of (l := none16) rfl
      have HA := arr_all none16
      go_wp2_with (first
        | (refine wpList_load_row rfl 25 (.tmp 1) rfl (w.heap.size + 1) rfl 25 (icells none16).toArray (0, 0) _ h1 Try.underlying25 rfl HS ?_)
        | (refine wpList_store_row rfl 25 (.tmp 0) (.tmp 9) rfl w.heap.size (icells none16).toArray rfl rfl 25 (icells zero16).toArray h0 HS rfl HA ?_))
      refine bodyPost_ret (results_cell_row rfl _ _ w.heap.size 25 (icells none16).toArray (0, 0) _ rfl HW.out Try.underlying25 rfl HS) rfl ?_
      exact ⟨rfl, HB.out⟩
end Go.Proofs.Ytegllglfnngijaa.Rem
