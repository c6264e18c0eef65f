/-
  What slices.Equal says of two lists of numbers, and of two lists of error codes; '==' of two arrays that are one.
-/
import Derived.Test.YtegllglfnngijaaWalks
namespace Go.Proofs.Ytegllglfnngijaa.Rem
open Go.ChangeShapes Go.WideShapes Go.ChangeAt Go.RowKit Words
set_option linter.unusedVariables false

theorem info3 : (Try.prog.info? 3).map (fun i => (i.zero, i.size, i.bytes)) = some (some (.int .i64 0), 1, 8) := by kernel_rfl
theorem info26 : (Try.prog.info? 26).map (fun i => (i.zero, i.size, i.bytes)) = some (some (.int .i64 0), 1, 8) := by kernel_rfl
set_option maxRecDepth 100000 in
theorem eq16 {l : List Int} (h : l.length = 16) (w : World) : (binOp .eql 25 (.agg (icells l).toArray) (.agg (icells l).toArray)).run Try.prog w = .ok (.bool true) w := by
  match l, h with
  | [x0, x1, x2, x3, x4, x5, x6, x7, x8, x9, xa, xb, xc, xd, xe, xf], _ =>
    obtain ⟨i3, hi3, _, hz3, _⟩ := info_parts info3
    simp only [binOp, Op.equal, Op.maxDepth, Sem.run_bind]
    show ((Op.equalIn (9999 + 1) 25 _ _).run Try.prog w).andThen _ = _
    unfold Op.equalIn
    simp only [Sem.run_bind, run_underlying Try.underlying25, Result.andThen_ok]
    simp [icells, List.range', sizeOf, typeInfo, hi3, hz3, go_sem]
set_option maxRecDepth 100000 in
theorem eq16' {l : List Int} (h : l.length = 16) (w : World) : (Op.equalIn 10000 25 (.agg (icells l).toArray) (.agg (icells l).toArray)).run Try.prog w = .ok true w := by
  match l, h with
  | [x0, x1, x2, x3, x4, x5, x6, x7, x8, x9, xa, xb, xc, xd, xe, xf], _ =>
    obtain ⟨i3, hi3, _, hz3, _⟩ := info_parts info3
    show (Op.equalIn (9999 + 1) 25 _ _).run Try.prog w = _
    unfold Op.equalIn
    simp only [Sem.run_bind, run_underlying Try.underlying25, Result.andThen_ok]
    simp [icells, List.range', sizeOf, typeInfo, hi3, hz3, go_sem]
set_option maxHeartbeats 1000000 in
theorem equal12 (B1 B2 : Nat) (A1 A2 : Option Addr) (n1 n2 c1 c2 : Nat) (a b : List Int) (w : World) (h1 : Ints w B1 A1 n1 c1 a) (h2 : Ints w B2 A2 n2 c2 b) :
    Calls Try.prog 12 #[.slice A1 n1 c1, .slice A2 n2 c2] w (EqB (a = b) w) := by
  have l1 := h1.len
  have l2 := h2.len
  have hm := Words.Rd.small h1
  by_cases hn : n1 = n2
  · subst hn
    have T1 := Lib.hid h1
    have T2 := Lib.hid h2
    have L1 := Lib.hid l1
    have L2 := Lib.hid l2
    clear h1 h2 l1 l2
    go_enter Try.func12, Try.ntmps12
    go_wp2_with fail
    go_loopw [13] (fun i wr => ∃ (k nd : Nat), k ≤ n1 ∧ i = .int .i64 k ∧ wr = w.drewN nd ∧ ∀ j, j < k → a[j]? = b[j]?) (fun i _ => (n1 - intOf i).toNat)
    case atStart => exact ⟨0, 0, by omega, rfl, rfl, fun j hj => absurd hj (Nat.not_lt_zero _)⟩
    case round =>
      obtain ⟨k, nd, hk, rfl, rfl, hinv⟩ := hrel
      have HI := Lib.hid hinv
      clear hinv
      by_cases hlt : k < n1
      · obtain ⟨g1, o1, rfl, _, _⟩ := Words.Rd.row T1.out (by omega)
        obtain ⟨g2, o2, rfl, _, _⟩ := Words.Rd.row T2.out (by omega)
        obtain ⟨x, hx⟩ : ∃ x, a[k]? = some x := ⟨_, List.getElem?_eq_getElem (by rw [L1.out]; exact hlt)⟩
        obtain ⟨y, hy⟩ : ∃ y, b[k]? = some y := ⟨_, List.getElem?_eq_getElem (by rw [L2.out]; exact hlt)⟩
        have d1 := T1.out.cellAt rfl hx
        have d2 := T2.out.cellAt rfl hy
        have HX := Lib.hid hx
        have HY := Lib.hid hy
        clear hx hy
        by_cases hxy : x = y
        · have ht : (x != y) = false := by rw [bne_eq_false_iff_eq]; exact hxy
          have HXY := Lib.hid hxy
          clear hxy
          go_wp2_with fail
          go_quiet (fail)
          go_wp2_with fail
          go_roundw
          case rel => exact ⟨k + 1, _, by omega, by go_num, rfl, fun j hj => by
            by_cases hjk : j < k
            · exact HI.out j hjk
            · obtain rfl : j = k := by omega
              rw [HX.out, HY.out, HXY.out]⟩
          case measure => simp [intOf]; omega
        · have ht : (x != y) = true := by rw [bne_iff_ne]; exact hxy
          have HXY := Lib.hid hxy
          clear hxy
          go_wp2_with fail
          go_quiet (fail)
          go_wp2_with fail
          go_ret
          refine ⟨false, _, rfl, ⟨(fun h => by cases h), fun h => ?_⟩, by first | rfl | exact World.drewN_drewN _ _ _⟩
          have e1 := HX.out
          rw [h, HY.out] at e1
          injection e1 with e1
          exact absurd e1.symm HXY.out
      · go_wp2_with fail
        go_ret
        exact ⟨true, _, rfl, ⟨fun _ => same_lists L1.out L2.out (by omega) HI.out, fun _ => rfl⟩, rfl⟩
  · have hne : ((n1 : Int) != (n2 : Int)) = true := by rw [bne_iff_ne]; omega
    have HN : Hid (a ≠ b) := Lib.hid (fun h => by rw [h] at l1; omega)
    clear h1 h2 l1 l2
    go_enter Try.func12, Try.ntmps12
    go_wp2_with fail
    go_ret
    exact ⟨false, 0, rfl, ⟨(fun h => by cases h), fun h => absurd h HN.out⟩, rfl⟩
set_option maxHeartbeats 1000000 in
theorem equal13 (B1 B2 : Nat) (A1 A2 : Option Addr) (n1 n2 c1 c2 : Nat) (a b : List Int) (w : World) (h1 : Ints w B1 A1 n1 c1 a) (h2 : Ints w B2 A2 n2 c2 b) :
    Calls Try.prog 13 #[.slice A1 n1 c1, .slice A2 n2 c2] w (EqB (a = b) w) := by
  have l1 := h1.len
  have l2 := h2.len
  have hm := Words.Rd.small h1
  by_cases hn : n1 = n2
  · subst hn
    have T1 := Lib.hid h1
    have T2 := Lib.hid h2
    have L1 := Lib.hid l1
    have L2 := Lib.hid l2
    clear h1 h2 l1 l2
    go_enter Try.func13, Try.ntmps13
    go_wp2_with fail
    go_loopw [13] (fun i wr => ∃ (k nd : Nat), k ≤ n1 ∧ i = .int .i64 k ∧ wr = w.drewN nd ∧ ∀ j, j < k → a[j]? = b[j]?) (fun i _ => (n1 - intOf i).toNat)
    case atStart => exact ⟨0, 0, by omega, rfl, rfl, fun j hj => absurd hj (Nat.not_lt_zero _)⟩
    case round =>
      obtain ⟨k, nd, hk, rfl, rfl, hinv⟩ := hrel
      have HI := Lib.hid hinv
      clear hinv
      by_cases hlt : k < n1
      · obtain ⟨g1, o1, rfl, _, _⟩ := Words.Rd.row T1.out (by omega)
        obtain ⟨g2, o2, rfl, _, _⟩ := Words.Rd.row T2.out (by omega)
        obtain ⟨x, hx⟩ : ∃ x, a[k]? = some x := ⟨_, List.getElem?_eq_getElem (by rw [L1.out]; exact hlt)⟩
        obtain ⟨y, hy⟩ : ∃ y, b[k]? = some y := ⟨_, List.getElem?_eq_getElem (by rw [L2.out]; exact hlt)⟩
        have d1 := T1.out.cellAt rfl hx
        have d2 := T2.out.cellAt rfl hy
        have HX := Lib.hid hx
        have HY := Lib.hid hy
        clear hx hy
        by_cases hxy : x = y
        · have ht : (x != y) = false := by rw [bne_eq_false_iff_eq]; exact hxy
          have HXY := Lib.hid hxy
          clear hxy
          go_wp2_with fail
          go_quiet (fail)
          go_wp2_with fail
          go_roundw
          case rel => exact ⟨k + 1, _, by omega, by go_num, rfl, fun j hj => by
            by_cases hjk : j < k
            · exact HI.out j hjk
            · obtain rfl : j = k := by omega
              rw [HX.out, HY.out, HXY.out]⟩
          case measure => simp [intOf]; omega
        · have ht : (x != y) = true := by rw [bne_iff_ne]; exact hxy
          have HXY := Lib.hid hxy
          clear hxy
          go_wp2_with fail
          go_quiet (fail)
          go_wp2_with fail
          go_ret
          refine ⟨false, _, rfl, ⟨(fun h => by cases h), fun h => ?_⟩, by first | rfl | exact World.drewN_drewN _ _ _⟩
          have e1 := HX.out
          rw [h, HY.out] at e1
          injection e1 with e1
          exact absurd e1.symm HXY.out
      · go_wp2_with fail
        go_ret
        exact ⟨true, _, rfl, ⟨fun _ => same_lists L1.out L2.out (by omega) HI.out, fun _ => rfl⟩, rfl⟩
  · have hne : ((n1 : Int) != (n2 : Int)) = true := by rw [bne_iff_ne]; omega
    have HN : Hid (a ≠ b) := Lib.hid (fun h => by rw [h] at l1; omega)
    clear h1 h2 l1 l2
    go_enter Try.func13, Try.ntmps13
    go_wp2_with fail
    go_ret
    exact ⟨false, 0, rfl, ⟨(fun h => by cases h), fun h => absurd h HN.out⟩, rfl⟩
end Go.Proofs.Ytegllglfnngijaa.Rem
