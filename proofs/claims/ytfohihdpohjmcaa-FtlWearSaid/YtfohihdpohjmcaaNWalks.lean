/-
  What the functions of package nand that make nothing return: walked through the program's text.
-/
import Derived.Test.YtfohihdpohjmcaaProg
import Derived.Test.YtfohihdpohjmcaaNPlain
import Derived.Test.YtfohihdpohjmcaaWords
import Derived.Deep.QuietTactic
import Derived.BigQuiet
import Derived.RegionTactic
import Derived.ChangeAlike
namespace Go.Proofs.Ytfohihdpohjmcaa.Nand
open Go.ChangeShapes Go.WideShapes Go.ChangeAt Go.RowKit Words

theorem ret_int {k : IntKind} {a b : Int} (h : a = b) : Ending.returned (.int k a) = .returned (.int k b) := by rw [h]
theorem ret_bool {a b : Bool} (h : a = b) : Ending.returned (.bool a) = .returned (.bool b) := by rw [h]
theorem i64_num {a b : Int} (h : a = b) : Value.int .i64 a = Value.int .i64 b := by rw [h]

theorem between38 (x lo hi : Int) (w : World) : Calls Try.prog 38 #[.int .i64 x, .int .i64 lo, .int .i64 hi] w fun e w' => e = .returned (.bool (betw x lo hi)) ∧ w = w' := by
  unfold betw
  cases h1 : decide (lo ≤ x) with
  | false =>
    go_enter Try.func38, Try.ntmps38
    go_wp2_with fail
    go_ret
    exact ⟨ret_bool (by rfl), rfl⟩
  | true =>
    cases h2 : decide (x ≤ hi) with
    | false =>
      go_enter Try.func38, Try.ntmps38
      go_wp2_with fail
      go_ret
      exact ⟨ret_bool (by rfl), rfl⟩
    | true =>
      go_enter Try.func38, Try.ntmps38
      go_wp2_with fail
      go_ret
      exact ⟨ret_bool (by rfl), rfl⟩
theorem isKind33 (k : Int) (w : World) : Calls Try.prog 33 #[.int .i64 k] w fun e w' => e = .returned (.bool (kindOk k)) ∧ w = w' := by
  unfold kindOk
  cases h1 : k == 1 with
  | true =>
    go_enter Try.func33, Try.ntmps33
    go_wp2_with fail
    go_ret
    exact ⟨ret_bool (by rfl), rfl⟩
  | false =>
    cases h2 : k == 2 with
    | true =>
      go_enter Try.func33, Try.ntmps33
      go_wp2_with fail
      go_ret
      exact ⟨ret_bool (by rfl), rfl⟩
    | false =>
      go_enter Try.func33, Try.ntmps33
      go_wp2_with fail
      go_ret
      exact ⟨ret_bool (by simp), rfl⟩
theorem nz41 (x : Int) (w : World) : Calls Try.prog 41 #[.int .i64 x] w fun e w' => e = .returned (.bool (x != 0)) ∧ w = w' := by
  go_enter Try.func41, Try.ntmps41
  go_wp2_with fail
  go_ret
  exact ⟨rfl, rfl⟩
/-- A number that is not below 0 just where something is found. -/
def Idx (b : Bool) (w : World) (e : Ending) (w' : World) : Prop := ∃ r : Int, e = .returned (.int .i64 r) ∧ decide (0 ≤ r) = b ∧ w = w'
def icells (l : List Int) : List Value := l.map (Value.int .i64)
theorem icells_get (l : List Int) (j : Nat) : (icells l)[j]? = l[j]?.map (Value.int .i64) := List.getElem?_map
theorem icells_length (l : List Int) : (icells l).length = l.length := List.length_map _
theorem Rd.small {w : World} {B sz n c : Nat} {A : Option Addr} {xs : List Value} (h : Words.Rd w B sz A n c xs) : n ≤ 9223372036854775807 := by
  have := Words.Rd.le h; have := Words.Rd.max h; unfold maxLen at this; omega
theorem index42 (B : Nat) (A : Option Addr) (n c : Nat) (l : List Int) (w : World) (h : Words.Rd w B 1 A n c (icells l)) :
    Calls Try.prog 42 #[.slice A n c, .func (.func 41) #[] #[]] w (Idx (l.any (· != 0)) w) := by
  have hm := Rd.small h
  have H := Lib.hid h
  have L : Hid (l.length = n) := Lib.hid (by have := Words.Rd.len h; rw [icells_length] at this; omega)
  clear h
  go_enter Try.func42, Try.ntmps42
  go_wp2_with fail
  go_loop [8] (fun i => ∃ k : Nat, k ≤ n ∧ i = .int .i64 k ∧ (l.take k).any (· != 0) = false) (fun i => (n - intOf i).toNat)
  case atStart => exact ⟨0, by omega, rfl, rfl⟩
  case round =>
    obtain ⟨k, hk, rfl, hinv⟩ := hrel
    have HI := Lib.hid hinv
    clear hinv
    by_cases hlt : k < n
    · obtain ⟨g, o, rfl, _, _⟩ := Words.Rd.row H.out (by omega)
      obtain ⟨x, hx⟩ : ∃ x, l[k]? = some x := ⟨_, List.getElem?_eq_getElem (by rw [L.out]; exact hlt)⟩
      have hc := Words.Rd.cellAt H.out rfl (by omega) k _ (by rw [icells_get, hx]; rfl)
      have HX := Lib.hid hx
      have HC := Lib.hid (nz41 x w)
      clear hx
      cases hz : (x != 0) with
      | false =>
        rw [hz] at HC
        have HZ := Lib.hid hz
        clear hz
        go_wp2_with fail
        refine (HC.out).mono ?_; rintro e w' ⟨rfl, rfl⟩
        go_wp2_with fail
        go_round
        case rel => exact ⟨k + 1, by omega, by go_num, by rw [List.take_add_one, HX.out, List.any_append, HI.out]; simp only [Bool.false_or, Option.toList, List.any_cons, List.any_nil, Bool.or_false]; exact HZ.out⟩
        case measure => simp [intOf]; omega
      | true =>
        rw [hz] at HC
        have HZ := Lib.hid hz
        clear hz
        go_wp2_with fail
        refine (HC.out).mono ?_; rintro e w' ⟨rfl, rfl⟩
        go_wp2_with fail
        go_ret
        refine ⟨_, rfl, ?_, rfl⟩
        rw [List.any_eq_true.2 ⟨x, List.mem_iff_getElem?.2 ⟨k, HX.out⟩, HZ.out⟩, decide_eq_true_iff]
        omega
    · obtain rfl : k = n := by omega
      go_wp2_with fail
      go_ret
      refine ⟨_, rfl, ?_, rfl⟩
      have h := HI.out
      rw [List.take_of_length_le (by rw [L.out]; omega)] at h
      rw [h]
      rfl
theorem contains40 (B : Nat) (A : Option Addr) (n c : Nat) (l : List Int) (w : World) (h : Words.Rd w B 1 A n c (icells l)) :
    Calls Try.prog 40 #[.slice A n c, .func (.func 41) #[] #[]] w fun e w' => e = .returned (.bool (l.any (· != 0))) ∧ w = w' := by
  have HC := Lib.hid (index42 B A n c l w h)
  clear h
  go_enter Try.func40, Try.ntmps40
  go_wp2_with fail
  refine (HC.out).mono ?_; rintro e w' ⟨r, rfl, hr, rfl⟩
  have HR := Lib.hid hr
  clear hr
  go_wp2_with fail
  go_ret
  exact ⟨ret_bool HR.out, rfl⟩

/-! ### a block by value -/
def bcells (b : Blk) : List Value := icells b.nums
def bval (b : Blk) : Value := .agg #[.int .i64 b.d0, .int .i64 b.d1, .int .i64 b.d2, .int .i64 b.d3, .int .i64 b.done, .int .i64 b.wear]
def oval (o : Nop) : Value := .agg #[.int .i64 o.kind, .int .i64 o.block, .int .i64 o.page, .int .i64 o.data]
theorem pages_from (w : World) (b : Blk) {m : Nat} (hm : m < 4) :
    Words.Rd (w.alloc (.cells #[.int .i64 b.d0, .int .i64 b.d1, .int .i64 b.d2, .int .i64 b.d3, .int .i64 b.done, .int .i64 b.wear] 58)) (w.heap.size + 1) 1 (some ⟨w.heap.size, m, none⟩) (4 - m) (4 - m) (icells (b.pages.drop m)) := by
  refine ⟨by rw [icells_length, List.length_drop]; simp [Blk.pages], Nat.le_refl _, by unfold maxLen; omega, (fun h => by cases h), fun _ => ⟨_, _, rfl, Nat.lt_succ_self _, fun j u hu => ?_⟩⟩
  rw [cell_of_row _ _ _ _ 58 (0, 0) (heap_alloc_new w _), ← hu, icells_get, List.getElem?_drop]
  have hj : m + j < 4 := by
    rw [icells_get, List.getElem?_drop] at hu
    by_cases h : m + j < 4
    · exact h
    · rw [List.getElem?_eq_none (by simp [Blk.pages]; omega)] at hu; cases hu
  have : m + j = 0 ∨ m + j = 1 ∨ m + j = 2 ∨ m + j = 3 := by omega
  rcases this with h | h | h | h <;> rw [h] <;> rfl
theorem isWrong37 (b : Blk) (w : World) : Calls Try.prog 37 #[bval b] w fun e w' => e = .returned (.bool (wrongB b)) ∧ Below w.heap.size w w' := by
  unfold bval
  have h1 := between38 b.done 0 4
  have h2 := between38 b.wear 0 1048576
  cases hd : betw b.done 0 4 with
  | false =>
    rw [hd] at h1
    have H1 := Lib.hid h1
    have HW : Hid (wrongB b = true) := Lib.hid (by unfold betw at hd; unfold wrongB; simp only [Bool.and_eq_false_iff, decide_eq_false_iff_not, Bool.or_eq_true, decide_eq_true_eq] at hd ⊢; omega)
    clear h1 h2 hd
    go_enter Try.func37, Try.ntmps37
    go_wp2_with fail
    refine (H1.out _).mono ?_; rintro e w' ⟨rfl, rfl⟩
    go_wp2_with fail
    go_ret
    exact ⟨ret_bool HW.out.symm, (Below.refl _ _).alloc (Nat.le_refl _) _⟩
  | true =>
    rw [hd] at h1
    have H1 := Lib.hid h1
    cases hw : betw b.wear 0 1048576 with
    | false =>
      rw [hw] at h2
      have H2 := Lib.hid h2
      have HW : Hid (wrongB b = true) := Lib.hid (by unfold betw at hw; unfold wrongB; simp only [Bool.and_eq_false_iff, decide_eq_false_iff_not, Bool.or_eq_true, decide_eq_true_eq] at hw ⊢; omega)
      clear h1 h2 hd hw
      go_enter Try.func37, Try.ntmps37
      go_wp2_with fail
      refine (H1.out _).mono ?_; rintro e w' ⟨rfl, rfl⟩
      go_wp2_with fail
      refine (H2.out _).mono ?_; rintro e w' ⟨rfl, rfl⟩
      go_wp2_with fail
      go_ret
      exact ⟨ret_bool HW.out.symm, (Below.refl _ _).alloc (Nat.le_refl _) _⟩
    | true =>
      rw [hw] at h2
      have H2 := Lib.hid h2
      have HW : Hid (wrongB b = (b.pages.drop b.done.toNat).any (· != 0)) := Lib.hid (by
        unfold betw at hw hd
        simp only [Bool.and_eq_true, decide_eq_true_eq] at hw hd
        unfold wrongB
        rw [decide_eq_false (by omega), decide_eq_false (by omega), decide_eq_false (by omega), decide_eq_false (by omega)]
        rfl)
      have b1 : 0 ≤ b.done := by unfold betw at hd; simp only [Bool.and_eq_true, decide_eq_true_eq] at hd; exact hd.1
      have b2 : b.done ≤ 4 := by unfold betw at hd; simp only [Bool.and_eq_true, decide_eq_true_eq] at hd; exact hd.2
      clear h1 h2 hd hw
      go_enter Try.func37, Try.ntmps37
      go_wp2_with fail
      refine (H1.out _).mono ?_; rintro e w' ⟨rfl, rfl⟩
      go_wp2_with fail
      refine (H2.out _).mono ?_; rintro e w' ⟨rfl, rfl⟩
      go_wp2_with fail
      · have h4 : b.done.toNat = 4 := by omega
        have h30 := contains40 0 (some ⟨w.heap.size, 0, none⟩) 0 0 [] (w.alloc (.cells #[.int .i64 b.d0, .int .i64 b.d1, .int .i64 b.d2, .int .i64 b.d3, .int .i64 b.done, .int .i64 b.wear] 58)) ⟨rfl, Nat.le_refl _, Nat.zero_le _, (fun h => by cases h), fun h => absurd h (by omega)⟩
        have HF : Hid (wrongB b = false) := Lib.hid (by rw [HW.out, h4]; rfl)
        have HC := Lib.hid h30
        clear h4 h30
        refine (HC.out).mono ?_; rintro e w' ⟨rfl, rfl⟩
        go_wp2_with fail
        go_ret
        exact ⟨ret_bool HF.out.symm, (Below.refl _ _).alloc (Nat.le_refl _) _⟩
      · have hlt : b.done.toNat < 4 := by omega
        have h30 := contains40 _ _ _ _ _ (w.alloc (.cells #[.int .i64 b.d0, .int .i64 b.d1, .int .i64 b.d2, .int .i64 b.d3, .int .i64 b.done, .int .i64 b.wear] 58)) (pages_from w b hlt)
        have HC := Lib.hid h30
        clear hlt h30
        refine (HC.out).mono ?_; rintro e w' ⟨rfl, rfl⟩
        go_wp2_with fail
        go_ret
        exact ⟨ret_bool HW.out.symm, (Below.refl _ _).alloc (Nat.le_refl _) _⟩
end Go.Proofs.Ytfohihdpohjmcaa.Nand
