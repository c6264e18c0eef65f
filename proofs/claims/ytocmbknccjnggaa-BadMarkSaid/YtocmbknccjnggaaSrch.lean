/-
  What slices.BinarySearch returns over a rising list: the place, and whether it is there.
-/
import Derived.Test.YtocmbknccjnggaaWalks
import Derived.Deep.DeepCutAuto
namespace Go.Proofs.Ytocmbknccjnggaa.Bad
open Go.ChangeShapes Go.WideShapes Go.ChangeAt Go.RowKit Words

def place (k : Nat) (b : Bool) : Value := .tuple #[.int .i64 (k : Int), .bool b]
theorem place_same {k k' : Nat} {b b' : Bool} (h1 : k = k') (h2 : b = b') : Ending.returned (place k b) = .returned (place k' b') := by rw [h1, h2]
theorem bs20 (B : Nat) (A : Option Addr) (n c : Nat) (bl : Int) (l : List Int) (x : Int) (w : World) (h : Ints w B A n c l) (hi : incr bl 0 l = true) (hn : n ≤ 4096) :
    Calls Try.prog 20 #[.slice A n c, .int .i64 x] w fun e w' => e = .returned (place (cnt x l) (decide (x ∈ l))) ∧ w = w' := by
  have H := Lib.hid h
  have L : Hid (l.length = n) := Lib.hid (Ints.len h)
  have HI := Lib.hid hi
  have HN := Lib.hid (fun y => nan25 y w)
  clear h hi
  go_enter Try.func20, Try.ntmps20
  go_wp2_with fail
  go_loop [7, 8] (fun i j => ∃ p q : Nat, p ≤ q ∧ q ≤ n ∧ i = .int .i64 p ∧ j = .int .i64 q ∧ (∀ k y, k < p → l[k]? = some y → y < x) ∧ (∀ k y, q ≤ k → l[k]? = some y → x ≤ y)) (fun i j => (intOf j - intOf i).toNat)
  case atStart => exact ⟨0, n, by omega, by omega, rfl, rfl, fun k y hk _ => absurd hk (Nat.not_lt_zero _), fun k y hk hy => by have := (List.getElem?_eq_some_iff.1 hy).1; rw [L.out] at this; omega⟩
  case round =>
    obtain ⟨p, q, hpq, hqn, rfl, rfl, hlo, hhi⟩ := hrel
    have LO := Lib.hid hlo
    have HI2 := Lib.hid hhi
    clear hlo hhi
    by_cases hlt : p < q
    · obtain ⟨m, hm⟩ : ∃ m : Nat, m = (p + q) / 2 := ⟨_, rfl⟩
      obtain ⟨g, o, rfl, _, _⟩ := Rd.row H.out (by omega)
      obtain ⟨y, hy⟩ : ∃ y, l[m]? = some y := ⟨_, List.getElem?_eq_getElem (by rw [L.out]; omega)⟩
      have hc := Ints.cellAt H.out rfl hy
      have HY := Lib.hid hy
      clear hy
      have HL := Lib.hid (less24 y x w)
      rw [hm] at hc
      cases hyx : decide (y < x) with
      | true =>
        rw [hyx] at HL
        have HYX := Lib.hid hyx
        clear hyx
        go_wp2_with fail
        refine (HL.out).mono ?_; rintro e w' ⟨rfl, rfl⟩
        go_wp2_with fail
        go_round
        case rel =>
          refine ⟨m + 1, q, by omega, by omega, by go_num, rfl, fun k z hk hz => ?_, HI2.out⟩
          rcases Nat.eq_or_lt_of_le (Nat.le_of_lt_succ hk) with rfl | h2
          · have e1 := HY.out
            rw [hz] at e1
            injection e1 with e1
            have e2 := of_decide_eq_true HYX.out
            omega
          · have e1 := get_lt HI.out h2 hz HY.out
            have e2 := of_decide_eq_true HYX.out
            omega
        case measure => simp [intOf]; omega
      | false =>
        rw [hyx] at HL
        have HYX := Lib.hid hyx
        clear hyx
        go_wp2_with fail
        refine (HL.out).mono ?_; rintro e w' ⟨rfl, rfl⟩
        go_wp2_with fail
        go_round
        case rel =>
          refine ⟨p, m, by omega, by omega, rfl, i64_num (by omega), LO.out, fun k z hk hz => ?_⟩
          rcases Nat.eq_or_lt_of_le hk with rfl | h2
          · have e1 := HY.out
            rw [hz] at e1
            injection e1 with e1
            have e2 := of_decide_eq_false HYX.out
            omega
          · have e1 := get_lt HI.out h2 HY.out hz
            have e2 := of_decide_eq_false HYX.out
            omega
        case measure => simp [intOf]; omega
    · obtain rfl : p = q := by omega
      have C := Lib.hid (pair_cnt HI.out (k := p) (by rw [L.out]; exact hqn) LO.out HI2.out)
      have M := Lib.hid (mem_at HI.out LO.out HI2.out)
      by_cases hpn : p < n
      · obtain ⟨g, o, rfl, _, _⟩ := Rd.row H.out (by omega)
        obtain ⟨y, hy⟩ : ∃ y, l[p]? = some y := ⟨_, List.getElem?_eq_getElem (by rw [L.out]; omega)⟩
        have hc := Ints.cellAt H.out rfl hy
        have HY := Lib.hid hy
        clear hy
        have q1 : decide ((p : Int) < (n : Int)) = true := by simp; omega
        cases hyx : (y == x) with
        | true =>
          have e1 : y = x := by simpa using hyx
          go_wp2_with fail
          go_ret2
          exact ⟨place_same C.out.symm (by rw [eq_comm, decide_eq_true_iff, M.out, HY.out, e1]), rfl⟩
        | false =>
          have e1 : ¬ y = x := by simpa using hyx
          go_wp2_with fail
          refine (HN.out y).mono ?_; rintro e w' ⟨rfl, rfl⟩
          go_wp2_with fail
          go_ret2
          exact ⟨place_same C.out.symm (by rw [eq_comm, decide_eq_false_iff_not, M.out, HY.out]; exact fun h => e1 (by injection h)), rfl⟩
      · have q1 : decide ((p : Int) < (n : Int)) = false := by simp; omega
        go_wp2_with fail
        go_ret2
        exact ⟨place_same C.out.symm (by rw [eq_comm, decide_eq_false_iff_not, M.out, List.getElem?_eq_none (by rw [L.out]; omega)]; exact fun h => by cases h), rfl⟩
end Go.Proofs.Ytocmbknccjnggaa.Bad
