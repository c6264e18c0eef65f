/-
  What slices.Index, slices.Contains, slices.Equal and bad.Number return, and what the document's own test of a list says.
-/
import Derived.Test.YtocmbknccjnggaaSrch
namespace Go.Proofs.Ytocmbknccjnggaa.Bad
open Go.ChangeShapes Go.WideShapes Go.ChangeAt Go.RowKit Words

theorem number8 (B : Nat) (A : Option Addr) (n c : Nat) (bl : Int) (l : List Int) (x : Int) (w : World) (h : Ints w B A n c l) :
    Calls Try.prog 8 #[.int .i64 bl, .slice A n c, .int .i64 x] w fun e w' => e = .returned (two (nval bl l x) (nerr bl l x)) ∧ w = w' := by
  have HC := Lib.hid (check19 B A n c bl l x w h)
  by_cases hc : cerr bl l x = 0
  · obtain ⟨hr, h0, h1⟩ := cerr_zero hc
    have hi := (right_iff.1 hr).2
    have hbl := (right_iff.1 hr).1
    have hl := right_len hr
    rw [h.len] at hl
    have hB := bs20 B A n c bl l x w h hi (by omega)
    unfold place at hB
    have HB := Lib.hid hB
    clear hB
    have HN : Hid (nerr bl l x = if x ∈ l then 8 else 0) := Lib.hid (nerr_in hc)
    have hcn : cnt x l ≤ n := by rw [← h.len]; exact List.countP_le_length
    rw [hc] at HC
    clear h hr hi hc
    by_cases hm : x ∈ l
    · rw [if_pos hm] at HN
      rw [show decide (x ∈ l) = true by simp [hm]] at HB
      clear hm
      go_enter Try.func8, Try.ntmps8
      go_wp2_with fail
      refine (HC.out).mono ?_; rintro e w' ⟨rfl, rfl⟩
      go_wp2_with fail
      refine (HB.out).mono ?_; rintro e w' ⟨rfl, rfl⟩
      go_wp2_with fail
      go_ret2
      exact ⟨two_same (nval_no (by rw [HN.out]; decide)).symm HN.out.symm, rfl⟩
    · rw [if_neg hm] at HN
      rw [show decide (x ∈ l) = false by simp [hm]] at HB
      clear hm
      go_enter Try.func8, Try.ntmps8
      go_wp2_with fail
      refine (HC.out).mono ?_; rintro e w' ⟨rfl, rfl⟩
      go_wp2_with fail
      refine (HB.out).mono ?_; rintro e w' ⟨rfl, rfl⟩
      go_wp2_with fail
      go_ret2
      exact ⟨two_same (nval_ok HN.out).symm HN.out.symm, rfl⟩
  · have HN := Lib.hid (nerr_of hc)
    have HZ := Lib.hid hc
    have hne : (cerr bl l x != 0) = true := by rw [bne_iff_ne]; exact hc
    generalize cerr bl l x = z at *
    clear h hc
    go_enter Try.func8, Try.ntmps8
    go_wp2_with fail
    refine (HC.out).mono ?_; rintro e w' ⟨rfl, rfl⟩
    go_wp2_with fail
    go_ret2
    exact ⟨two_same (nval_no (by rw [HN.out]; exact HZ.out)).symm HN.out.symm, rfl⟩
/-- The first place, or -1. -/
def IdxI (x : Int) (l : List Int) (w : World) (e : Ending) (w' : World) : Prop :=
  ∃ r : Int, e = .returned (.int .i64 r) ∧ ((r = -1 ∧ x ∉ l) ∨ ∃ k : Nat, r = k ∧ l[k]? = some x ∧ ∀ j, j < k → l[j]? ≠ some x) ∧ w = w'
theorem index16 (B : Nat) (A : Option Addr) (n c : Nat) (l : List Int) (x : Int) (w : World) (h : Ints w B A n c l) :
    Calls Try.prog 16 #[.slice A n c, .int .i64 x] w (IdxI x l w) := by
  have hm := Rd.small h
  have H := Lib.hid h
  have L : Hid (l.length = n) := Lib.hid (Ints.len h)
  clear h
  go_enter Try.func16, Try.ntmps16
  go_wp2_with fail
  go_loop [8] (fun i => ∃ k : Nat, k ≤ n ∧ i = .int .i64 k ∧ ∀ j, j < k → l[j]? ≠ some x) (fun i => (n - intOf i).toNat)
  case atStart => exact ⟨0, by omega, rfl, fun j hj => absurd hj (Nat.not_lt_zero _)⟩
  case round =>
    obtain ⟨k, hk, rfl, hinv⟩ := hrel
    have HI := Lib.hid hinv
    clear hinv
    by_cases hlt : k < n
    · obtain ⟨g, o, rfl, _, _⟩ := Rd.row H.out (by omega)
      obtain ⟨y, hy⟩ : ∃ y, l[k]? = some y := ⟨_, List.getElem?_eq_getElem (by rw [L.out]; exact hlt)⟩
      have hc := Ints.cellAt H.out rfl hy
      have HX := Lib.hid hy
      clear hy
      cases hz : (x == y) with
      | true =>
        obtain rfl : y = x := (beq_iff_eq.1 hz).symm
        go_wp2_with fail
        go_ret
        exact ⟨_, rfl, .inr ⟨k, rfl, HX.out, HI.out⟩, rfl⟩
      | false =>
        have e1 : ¬ x = y := by simpa using hz
        go_wp2_with fail
        go_round
        case rel =>
          refine ⟨k + 1, by omega, by go_num, fun j hj => ?_⟩
          rcases Nat.eq_or_lt_of_le (Nat.le_of_lt_succ hj) with rfl | h2
          · rw [HX.out]; intro h; injection h with h; exact e1 h.symm
          · exact HI.out j h2
        case measure => simp [intOf]; omega
    · obtain rfl : k = n := by omega
      go_wp2_with fail
      go_ret
      refine ⟨_, rfl, .inl ⟨rfl, fun h => ?_⟩, rfl⟩
      obtain ⟨j, hj⟩ := List.mem_iff_getElem?.1 h
      have h2 := (List.getElem?_eq_some_iff.1 hj).1
      exact HI.out j (by rw [L.out] at h2; exact h2) hj
theorem contains13 (B : Nat) (A : Option Addr) (n c : Nat) (l : List Int) (x : Int) (w : World) (h : Ints w B A n c l) :
    Calls Try.prog 13 #[.slice A n c, .int .i64 x] w fun e w' => e = .returned (.bool (decide (x ∈ l))) ∧ w = w' := by
  have HC := Lib.hid (index16 B A n c l x w h)
  clear h
  go_enter Try.func13, Try.ntmps13
  go_wp2_with fail
  refine (HC.out).mono ?_; rintro e w' ⟨r, rfl, hr, rfl⟩
  have HR := Lib.hid hr
  clear hr
  go_wp2_with fail
  go_ret
  refine ⟨ret_bool ?_, rfl⟩
  rcases HR.out with ⟨rfl, hn⟩ | ⟨k, rfl, hk, _⟩
  · simp [hn]
  · have : x ∈ l := List.mem_of_getElem? hk
    simp [this]
/-- What the document's own test of a list keeps while it goes over it. -/
theorem eright11 (B : Nat) (A : Option Addr) (n c : Nat) (bl : Int) (l : List Int) (w : World) (h : Ints w B A n c l) :
    Calls Try.prog 11 #[.int .i64 bl, .slice A n c] w fun e w' => e = .returned (.bool (right bl l)) ∧ w = w' := by
  have hm := Rd.small h
  have H := Lib.hid h
  have L : Hid (l.length = n) := Lib.hid (Ints.len h)
  clear h
  unfold right
  have c3 : ∃ t, (decide (0 ≤ bl) && decide (bl ≤ 4096)) = t ∧ ((t = true ∧ decide (0 ≤ bl) = true ∧ decide (bl ≤ 4096) = true) ∨ (t = false ∧ decide (0 ≤ bl) = true ∧ decide (bl ≤ 4096) = false) ∨ (t = false ∧ decide (0 ≤ bl) = false)) := by
    cases decide (0 ≤ bl) <;> cases decide (bl ≤ 4096) <;> simp
  obtain ⟨t, ht, hc⟩ := c3
  rw [ht]
  clear ht
  rcases hc with ⟨rfl, h1, h2⟩ | ⟨rfl, h1, h2⟩ | ⟨rfl, h1⟩
  · go_enter Try.func11, Try.ntmps11
    go_wp2_with fail
    go_loop [5, 6, 17] (fun b m i => ∃ (o : Bool) (z : Int) (k : Nat), k ≤ n ∧ b = .bool o ∧ m = .int .i64 z ∧ i = .int .i64 k ∧ (o && incr bl (z + 1) (l.drop k)) = (true && incr bl 0 l)) (fun _ _ i => (n - intOf i).toNat)
    case atStart => exact ⟨_, -1, 0, by omega, rfl, rfl, rfl, rfl⟩
    case round =>
      obtain ⟨o, z, k, hk, rfl, rfl, rfl, hinv⟩ := hrel
      have HI := Lib.hid hinv
      clear hinv
      by_cases hlt : k < n
      · obtain ⟨g, of, rfl, _, _⟩ := Rd.row H.out (by omega)
        obtain ⟨x, hx⟩ : ∃ x, l[k]? = some x := ⟨_, List.getElem?_eq_getElem (by rw [L.out]; exact hlt)⟩
        have hc := Ints.cellAt H.out rfl hx
        have HX := Lib.hid hx
        clear hx
        cases o with
        | false =>
          go_wp2_with fail
          go_round
          case rel => exact ⟨false, x, k + 1, by omega, rfl, rfl, by go_num, HI.out⟩
          case measure => simp [intOf]; omega
        | true =>
          have HJ : Hid (((decide (z < x) && decide (x < bl)) && incr bl (x + 1) (l.drop (k + 1))) = (true && incr bl 0 l)) := Lib.hid (by
            have h := HI.out
            rw [incr_drop HX.out, Bool.true_and] at h
            exact h)
          cases q1 : decide (z < x) with
          | false =>
            rw [q1] at HJ
            go_wp2_with fail
            go_round
            case rel => exact ⟨false, x, k + 1, by omega, rfl, rfl, by go_num, HJ.out⟩
            case measure => simp [intOf]; omega
          | true =>
            rw [q1] at HJ
            cases q2 : decide (x < bl) with
            | false =>
              rw [q2] at HJ
              go_wp2_with fail
              go_round
              case rel => exact ⟨false, x, k + 1, by omega, rfl, rfl, by go_num, HJ.out⟩
              case measure => simp [intOf]; omega
            | true =>
              rw [q2] at HJ
              go_wp2_with fail
              go_round
              case rel => exact ⟨true, x, k + 1, by omega, rfl, rfl, by go_num, HJ.out⟩
              case measure => simp [intOf]; omega
      · obtain rfl : k = n := by omega
        go_wp2_with fail
        go_ret
        refine ⟨ret_bool ?_, rfl⟩
        have h := HI.out
        rw [List.drop_eq_nil_of_le (by rw [L.out]; omega)] at h
        simpa [incr] using h
  · go_enter Try.func11, Try.ntmps11
    go_wp2_with fail
    go_loop [5, 6, 17] (fun b m i => ∃ (o : Bool) (z : Int) (k : Nat), k ≤ n ∧ b = .bool o ∧ m = .int .i64 z ∧ i = .int .i64 k ∧ (o && incr bl (z + 1) (l.drop k)) = (false && incr bl 0 l)) (fun _ _ i => (n - intOf i).toNat)
    case atStart => exact ⟨_, -1, 0, by omega, rfl, rfl, rfl, rfl⟩
    case round =>
      obtain ⟨o, z, k, hk, rfl, rfl, rfl, hinv⟩ := hrel
      have HI := Lib.hid hinv
      clear hinv
      by_cases hlt : k < n
      · obtain ⟨g, of, rfl, _, _⟩ := Rd.row H.out (by omega)
        obtain ⟨x, hx⟩ : ∃ x, l[k]? = some x := ⟨_, List.getElem?_eq_getElem (by rw [L.out]; exact hlt)⟩
        have hc := Ints.cellAt H.out rfl hx
        have HX := Lib.hid hx
        clear hx
        cases o with
        | false =>
          go_wp2_with fail
          go_round
          case rel => exact ⟨false, x, k + 1, by omega, rfl, rfl, by go_num, HI.out⟩
          case measure => simp [intOf]; omega
        | true =>
          have HJ : Hid (((decide (z < x) && decide (x < bl)) && incr bl (x + 1) (l.drop (k + 1))) = (false && incr bl 0 l)) := Lib.hid (by
            have h := HI.out
            rw [incr_drop HX.out, Bool.true_and] at h
            exact h)
          cases q1 : decide (z < x) with
          | false =>
            rw [q1] at HJ
            go_wp2_with fail
            go_round
            case rel => exact ⟨false, x, k + 1, by omega, rfl, rfl, by go_num, HJ.out⟩
            case measure => simp [intOf]; omega
          | true =>
            rw [q1] at HJ
            cases q2 : decide (x < bl) with
            | false =>
              rw [q2] at HJ
              go_wp2_with fail
              go_round
              case rel => exact ⟨false, x, k + 1, by omega, rfl, rfl, by go_num, HJ.out⟩
              case measure => simp [intOf]; omega
            | true =>
              rw [q2] at HJ
              go_wp2_with fail
              go_round
              case rel => exact ⟨true, x, k + 1, by omega, rfl, rfl, by go_num, HJ.out⟩
              case measure => simp [intOf]; omega
      · obtain rfl : k = n := by omega
        go_wp2_with fail
        go_ret
        refine ⟨ret_bool ?_, rfl⟩
        have h := HI.out
        rw [List.drop_eq_nil_of_le (by rw [L.out]; omega)] at h
        simpa [incr] using h
  · go_enter Try.func11, Try.ntmps11
    go_wp2_with fail
    go_loop [5, 6, 17] (fun b m i => ∃ (o : Bool) (z : Int) (k : Nat), k ≤ n ∧ b = .bool o ∧ m = .int .i64 z ∧ i = .int .i64 k ∧ (o && incr bl (z + 1) (l.drop k)) = (false && incr bl 0 l)) (fun _ _ i => (n - intOf i).toNat)
    case atStart => exact ⟨_, -1, 0, by omega, rfl, rfl, rfl, rfl⟩
    case round =>
      obtain ⟨o, z, k, hk, rfl, rfl, rfl, hinv⟩ := hrel
      have HI := Lib.hid hinv
      clear hinv
      by_cases hlt : k < n
      · obtain ⟨g, of, rfl, _, _⟩ := Rd.row H.out (by omega)
        obtain ⟨x, hx⟩ : ∃ x, l[k]? = some x := ⟨_, List.getElem?_eq_getElem (by rw [L.out]; exact hlt)⟩
        have hc := Ints.cellAt H.out rfl hx
        have HX := Lib.hid hx
        clear hx
        cases o with
        | false =>
          go_wp2_with fail
          go_round
          case rel => exact ⟨false, x, k + 1, by omega, rfl, rfl, by go_num, HI.out⟩
          case measure => simp [intOf]; omega
        | true =>
          have HJ : Hid (((decide (z < x) && decide (x < bl)) && incr bl (x + 1) (l.drop (k + 1))) = (false && incr bl 0 l)) := Lib.hid (by
            have h := HI.out
            rw [incr_drop HX.out, Bool.true_and] at h
            exact h)
          cases q1 : decide (z < x) with
          | false =>
            rw [q1] at HJ
            go_wp2_with fail
            go_round
            case rel => exact ⟨false, x, k + 1, by omega, rfl, rfl, by go_num, HJ.out⟩
            case measure => simp [intOf]; omega
          | true =>
            rw [q1] at HJ
            cases q2 : decide (x < bl) with
            | false =>
              rw [q2] at HJ
              go_wp2_with fail
              go_round
              case rel => exact ⟨false, x, k + 1, by omega, rfl, rfl, by go_num, HJ.out⟩
              case measure => simp [intOf]; omega
            | true =>
              rw [q2] at HJ
              go_wp2_with fail
              go_round
              case rel => exact ⟨true, x, k + 1, by omega, rfl, rfl, by go_num, HJ.out⟩
              case measure => simp [intOf]; omega
      · obtain rfl : k = n := by omega
        go_wp2_with fail
        go_ret
        refine ⟨ret_bool ?_, rfl⟩
        have h := HI.out
        rw [List.drop_eq_nil_of_le (by rw [L.out]; omega)] at h
        simpa [incr] using h
set_option maxHeartbeats 1000000 in
theorem equal17 (B1 B2 : Nat) (A1 A2 : Option Addr) (n1 n2 c1 c2 : Nat) (a b : List Int) (w : World) (h1 : Ints w B1 A1 n1 c1 a) (h2 : Ints w B2 A2 n2 c2 b) :
    Calls Try.prog 17 #[.slice A1 n1 c1, .slice A2 n2 c2] w (EqB (a = b) w) := by
  have l1 := h1.len
  have l2 := h2.len
  have hm := Rd.small h1
  by_cases hn : n1 = n2
  · subst hn
    have T1 := Lib.hid h1
    have T2 := Lib.hid h2
    have L1 := Lib.hid l1
    have L2 := Lib.hid l2
    clear h1 h2 l1 l2
    go_enter Try.func17, Try.ntmps17
    go_wp2_with fail
    go_loopw [13] (fun i wr => ∃ (k nd : Nat), k ≤ n1 ∧ i = .int .i64 k ∧ wr = w.drewN nd ∧ ∀ j, j < k → a[j]? = b[j]?) (fun i _ => (n1 - intOf i).toNat)
    case atStart => exact ⟨0, 0, by omega, rfl, rfl, fun j hj => absurd hj (Nat.not_lt_zero _)⟩
    case round =>
      obtain ⟨k, nd, hk, rfl, rfl, hinv⟩ := hrel
      have HI := Lib.hid hinv
      clear hinv
      by_cases hlt : k < n1
      · obtain ⟨g1, o1, rfl, _, _⟩ := Rd.row T1.out (by omega)
        obtain ⟨g2, o2, rfl, _, _⟩ := Rd.row T2.out (by omega)
        obtain ⟨x, hx⟩ : ∃ x, a[k]? = some x := ⟨_, List.getElem?_eq_getElem (by rw [L1.out]; exact hlt)⟩
        obtain ⟨y, hy⟩ : ∃ y, b[k]? = some y := ⟨_, List.getElem?_eq_getElem (by rw [L2.out]; exact hlt)⟩
        have d1 := T1.out.cellAt rfl hx
        have d2 := T2.out.cellAt rfl hy
        have HX := Lib.hid hx
        have HY := Lib.hid hy
        clear hx hy
        by_cases hxy : x = y
        · have ht : (x != y) = false := by rw [bne_eq_false_iff_eq]; exact hxy
          have HXY := Lib.hid hxy
          clear hxy
          go_wp2_with fail
          go_quiet (fail)
          go_wp2_with fail
          go_roundw
          case rel => exact ⟨k + 1, _, by omega, by go_num, rfl, fun j hj => by
            by_cases hjk : j < k
            · exact HI.out j hjk
            · obtain rfl : j = k := by omega
              rw [HX.out, HY.out, HXY.out]⟩
          case measure => simp [intOf]; omega
        · have ht : (x != y) = true := by rw [bne_iff_ne]; exact hxy
          have HXY := Lib.hid hxy
          clear hxy
          go_wp2_with fail
          go_quiet (fail)
          go_wp2_with fail
          go_ret
          refine ⟨false, _, rfl, ⟨(fun h => by cases h), fun h => ?_⟩, by first | rfl | exact World.drewN_drewN _ _ _⟩
          have e1 := HX.out
          rw [h, HY.out] at e1
          injection e1 with e1
          exact absurd e1.symm HXY.out
      · go_wp2_with fail
        go_ret
        exact ⟨true, _, rfl, ⟨fun _ => same_lists L1.out L2.out (by omega) HI.out, fun _ => rfl⟩, rfl⟩
  · have hne : ((n1 : Int) != (n2 : Int)) = true := by rw [bne_iff_ne]; omega
    have HN : Hid (a ≠ b) := Lib.hid (fun h => by rw [h] at l1; omega)
    clear h1 h2 l1 l2
    go_enter Try.func17, Try.ntmps17
    go_wp2_with fail
    go_ret
    exact ⟨false, 0, rfl, ⟨(fun h => by cases h), fun h => absurd h HN.out⟩, rfl⟩
end Go.Proofs.Ytocmbknccjnggaa.Bad
