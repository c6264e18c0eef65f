/-
  What the functions of package bad that make nothing return: walked through the program's text.
-/
import Derived.Test.YtocmbknccjnggaaRows
import Derived.Test.YtocmbknccjnggaaPlain
import Derived.Test.YtocmbknccjnggaaBase
import Derived.Deep.QuietTactic
import Derived.BigQuiet
import Derived.RegionTactic
import Derived.ChangeAlike
namespace Go.Proofs.Ytocmbknccjnggaa.Bad
open Go.ChangeShapes Go.WideShapes Go.ChangeAt Go.RowKit Words

theorem right10 (B : Nat) (A : Option Addr) (n c : Nat) (bl : Int) (l : List Int) (w : World) (h : Ints w B A n c l) :
    Calls Try.prog 10 #[.int .i64 bl, .slice A n c] w fun e w' => e = .returned (.bool (right bl l)) ∧ w = w' := by
  unfold right
  have hm := Rd.small h
  have H := Lib.hid h
  have L : Hid (l.length = n) := Lib.hid (Ints.len h)
  clear h
  by_cases hb0 : bl < 0
  · have h1 : decide (bl < 0) = true := by simp [hb0]
    have hr : decide (0 ≤ bl) = false := by simp; omega
    rw [hr]
    go_enter Try.func10, Try.ntmps10
    go_wp2_with fail
    go_ret
    exact ⟨ret_bool (by rfl), rfl⟩
  · have h1 : decide (bl < 0) = false := by simp [hb0]
    have hr : decide (0 ≤ bl) = true := by simp; omega
    rw [hr]
    by_cases hb1 : 4096 < bl
    · have h2 : decide (4096 < bl) = true := by simp [hb1]
      have hr2 : decide (bl ≤ 4096) = false := by simp; omega
      rw [hr2]
      go_enter Try.func10, Try.ntmps10
      go_wp2_with fail
      go_ret
      exact ⟨ret_bool (by rfl), rfl⟩
    · have h2 : decide (4096 < bl) = false := by simp [hb1]
      have hr2 : decide (bl ≤ 4096) = true := by simp; omega
      rw [hr2]
      simp only [Bool.true_and]
      go_enter Try.func10, Try.ntmps10
      go_wp2_with fail
      go_loop [5, 16] (fun m i => ∃ (z : Int) (k : Nat), k ≤ n ∧ m = .int .i64 z ∧ i = .int .i64 k ∧ 0 ≤ z ∧ incr bl z (l.drop k) = incr bl 0 l) (fun _ i => (n - intOf i).toNat)
      case atStart => exact ⟨0, 0, by omega, rfl, rfl, by omega, rfl⟩
      case round =>
        obtain ⟨z, k, hk, rfl, rfl, hz, hinv⟩ := hrel
        have HI := Lib.hid hinv
        clear hinv
        by_cases hlt : k < n
        · obtain ⟨g, o, rfl, _, _⟩ := Rd.row H.out (by omega)
          obtain ⟨x, hx⟩ : ∃ x, l[k]? = some x := ⟨_, List.getElem?_eq_getElem (by rw [L.out]; exact hlt)⟩
          have hc := Ints.cellAt H.out rfl hx
          have HX := Lib.hid hx
          clear hx
          by_cases hxz : x < z
          · have q1 : decide (x < z) = true := by simp [hxz]
            go_wp2_with fail
            go_ret
            refine ⟨ret_bool ?_, rfl⟩
            have h := HI.out
            rw [incr_drop HX.out] at h
            rw [← h]
            simp; omega
          · have q1 : decide (x < z) = false := by simp [hxz]
            by_cases hxb : bl ≤ x
            · have q2 : decide (bl ≤ x) = true := by simp [hxb]
              go_wp2_with fail
              go_ret
              refine ⟨ret_bool ?_, rfl⟩
              have h := HI.out
              rw [incr_drop HX.out] at h
              rw [← h]
              simp; omega
            · have q2 : decide (bl ≤ x) = false := by simp [hxb]
              go_wp2_with fail
              go_round
              case rel =>
                refine ⟨x + 1, k + 1, by omega, by go_num, by go_num, by omega, ?_⟩
                have h := HI.out
                rw [incr_drop HX.out] at h
                rw [← h, show decide (z ≤ x) = true by simp; omega, show decide (x < bl) = true by simp; omega]
                rfl
              case measure => simp [intOf]; omega
        · obtain rfl : k = n := by omega
          go_wp2_with fail
          go_ret
          refine ⟨ret_bool ?_, rfl⟩
          have h := HI.out
          rw [List.drop_eq_nil_of_le (by rw [L.out]; omega)] at h
          rw [← h]
          rfl
def two (a e : Int) : Value := .tuple #[.int .i64 a, .int .i64 e]
theorem two_same {a a' e e' : Int} (h1 : a = a') (h2 : e = e') : Ending.returned (two a e) = .returned (two a' e') := by rw [h1, h2]
theorem check19 (B : Nat) (A : Option Addr) (n c : Nat) (bl : Int) (l : List Int) (x : Int) (w : World) (h : Ints w B A n c l) :
    Calls Try.prog 19 #[.int .i64 bl, .slice A n c, .int .i64 x] w fun e w' => e = .returned (.int .i64 (cerr bl l x)) ∧ w = w' := by
  have HC := Lib.hid (right10 B A n c bl l w h)
  clear h
  rcases cerr_cases (bl := bl) (l := l) (x := x) with ⟨hr, hc⟩ | ⟨hr, hx, hc⟩ | ⟨hr, h0, h1, hc⟩
  · rw [hc]
    rw [hr] at HC
    clear hr hc
    go_enter Try.func19, Try.ntmps19
    go_wp2_with fail
    refine (HC.out).mono ?_; rintro e w' ⟨rfl, rfl⟩
    go_wp2_with fail
    go_ret
    exact ⟨rfl, rfl⟩
  · rw [hc]
    rw [hr] at HC
    clear hr hc
    by_cases hx0 : x < 0
    · have q1 : decide (x < 0) = true := by simp [hx0]
      go_enter Try.func19, Try.ntmps19
      go_wp2_with fail
      refine (HC.out).mono ?_; rintro e w' ⟨rfl, rfl⟩
      go_wp2_with fail
      go_ret
      exact ⟨rfl, rfl⟩
    · have q1 : decide (x < 0) = false := by simp [hx0]
      have q2 : decide (bl ≤ x) = true := by simp; omega
      go_enter Try.func19, Try.ntmps19
      go_wp2_with fail
      refine (HC.out).mono ?_; rintro e w' ⟨rfl, rfl⟩
      go_wp2_with fail
      go_ret
      exact ⟨rfl, rfl⟩
  · rw [hc]
    rw [hr] at HC
    clear hr hc
    have q1 : decide (x < 0) = false := by simp; omega
    have q2 : decide (bl ≤ x) = false := by simp; omega
    go_enter Try.func19, Try.ntmps19
    go_wp2_with fail
    refine (HC.out).mono ?_; rintro e w' ⟨rfl, rfl⟩
    go_wp2_with fail
    go_ret
    exact ⟨rfl, rfl⟩
theorem find7 (B : Nat) (A : Option Addr) (n c : Nat) (bl : Int) (l : List Int) (x : Int) (w : World) (h : Ints w B A n c l) :
    Calls Try.prog 7 #[.int .i64 bl, .slice A n c, .int .i64 x] w fun e w' => e = .returned (two (fval bl l x) (ferr bl l x)) ∧ w = w' := by
  have HC := Lib.hid (right10 B A n c bl l w h)
  have hm := Rd.small h
  have H := Lib.hid h
  have L : Hid (l.length = n) := Lib.hid (Ints.len h)
  clear h
  cases hr : right bl l with
  | false =>
    have F := Lib.hid (ferr_form (n := x) hr)
    rw [hr] at HC
    clear hr
    go_enter Try.func7, Try.ntmps7
    go_wp2_with fail
    refine (HC.out).mono ?_; rintro e w' ⟨rfl, rfl⟩
    go_wp2_with fail
    go_ret2
    exact ⟨two_same (fval_no (by rw [F.out]; decide)).symm F.out.symm, rfl⟩
  | true =>
    have hb := (right_iff.1 hr).1
    have hl := right_len hr
    have HR := Lib.hid hr
    rw [hr] at HC
    clear hr
    rw [L.out] at hl
    have e1 : IntKind.i64.wrap (bl - (n : Int)) = bl - n := IntWalk.i64_in _ (by omega)
    by_cases hx0 : x < 0
    · have F := Lib.hid (ferr_none (n := x) HR.out (.inl hx0))
      have q1 : decide (x < 0) = true := by simp [hx0]
      go_enter Try.func7, Try.ntmps7
      go_wp2_with fail
      refine (HC.out).mono ?_; rintro e w' ⟨rfl, rfl⟩
      go_wp2_with fail
      go_ret2
      exact ⟨two_same (fval_no (by rw [F.out]; decide)).symm F.out.symm, rfl⟩
    · have q1 : decide (x < 0) = false := by simp [hx0]
      by_cases hx1 : bl - n ≤ x
      · have F := Lib.hid (ferr_none (n := x) HR.out (.inr (by rw [L.out]; exact hx1)))
        have q2 : decide (bl - (n : Int) ≤ x) = true := by simp only [decide_eq_true_eq]; exact hx1
        go_enter Try.func7, Try.ntmps7
        go_wp2_with fail
        refine (HC.out).mono ?_; rintro e w' ⟨rfl, rfl⟩
        go_wp2_with fail
        go_ret2
        exact ⟨two_same (fval_no (by rw [F.out]; decide)).symm F.out.symm, rfl⟩
      · have F := Lib.hid (ferr_ok (n := x) HR.out (by omega) (by rw [L.out]; omega))
        have q2 : decide (bl - (n : Int) ≤ x) = false := by simp only [decide_eq_false_iff_not]; exact hx1
        go_enter Try.func7, Try.ntmps7
        go_wp2_with fail
        refine (HC.out).mono ?_; rintro e w' ⟨rfl, rfl⟩
        go_wp2_with fail
        go_loop [8, 28] (fun m i => ∃ (z : Int) (k : Nat), k ≤ n ∧ m = .int .i64 z ∧ i = .int .i64 k ∧ 0 ≤ z ∧ z ≤ 4096 + k ∧ find z (l.drop k) = find x l) (fun _ i => (n - intOf i).toNat)
        case atStart => exact ⟨x, 0, by omega, rfl, rfl, by omega, by omega, rfl⟩
        case round =>
          obtain ⟨z, k, hk, rfl, rfl, hz, hz2, hinv⟩ := hrel
          have HI := Lib.hid hinv
          clear hinv
          by_cases hlt : k < n
          · obtain ⟨g, o, rfl, _, _⟩ := Rd.row H.out (by omega)
            obtain ⟨y, hy⟩ : ∃ y, l[k]? = some y := ⟨_, List.getElem?_eq_getElem (by rw [L.out]; exact hlt)⟩
            have hc := Ints.cellAt H.out rfl hy
            have HX := Lib.hid hy
            clear hy
            by_cases hyz : z < y
            · go_wp2_with fail
              go_ret2
              refine ⟨two_same ?_ F.out.symm, rfl⟩
              rw [fval_ok F.out, ← HI.out, find_drop HX.out, if_pos hyz]
            · go_wp2_with fail
              go_round
              case rel =>
                refine ⟨z + 1, k + 1, by omega, by go_num, by go_num, by omega, by omega, ?_⟩
                rw [← HI.out, find_drop HX.out, if_neg hyz]
              case measure => simp [intOf]; omega
          · obtain rfl : k = n := by omega
            go_wp2_with fail
            go_ret2
            refine ⟨two_same ?_ F.out.symm, rfl⟩
            rw [fval_ok F.out, ← HI.out, List.drop_eq_nil_of_le (by rw [L.out]; omega)]
            rfl
theorem nan25 (x : Int) (w : World) : Calls Try.prog 25 #[.int .i64 x] w fun e w' => e = .returned (.bool false) ∧ w = w' := by
  go_enter Try.func25, Try.ntmps25
  go_wp2_with fail
  go_ret
  exact ⟨ret_bool (by simp), rfl⟩
theorem nan37 (x : Int) (w : World) : Calls Try.prog 37 #[.int .i64 x] w fun e w' => e = .returned (.bool false) ∧ w = w' := by
  go_enter Try.func37, Try.ntmps37
  go_wp2_with fail
  go_ret
  exact ⟨ret_bool (by simp), rfl⟩
theorem less24 (x y : Int) (w : World) : Calls Try.prog 24 #[.int .i64 x, .int .i64 y] w fun e w' => e = .returned (.bool (decide (x < y))) ∧ w = w' := by
  have HC := Lib.hid (nan37 x w)
  cases h : decide (x < y) with
  | true =>
    go_enter Try.func24, Try.ntmps24
    go_wp2_with fail
    refine (HC.out).mono ?_; rintro e w' ⟨rfl, rfl⟩
    go_wp2_with fail
    go_ret
    exact ⟨ret_bool (by rfl), rfl⟩
  | false =>
    go_enter Try.func24, Try.ntmps24
    go_wp2_with fail
    refine (HC.out).mono ?_; rintro e w' ⟨rfl, rfl⟩
    go_wp2_with fail
    go_ret
    exact ⟨ret_bool (by rfl), rfl⟩
end Go.Proofs.Ytocmbknccjnggaa.Bad
