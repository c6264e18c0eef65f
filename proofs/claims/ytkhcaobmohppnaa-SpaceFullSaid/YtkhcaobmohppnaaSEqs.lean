/-
  What slices.Equal says of two lists of gaps, and of two lists of answers.
-/
import Derived.Test.YtkhcaobmohppnaaSPlay
import Derived.Laws.StructEq
namespace Go.Proofs.Ytkhcaobmohppnaa.Spc
open Go.ChangeShapes Go.WideShapes Go.ChangeAt Go.RowKit Words Go.Sort
set_option linter.unusedVariables false

/-- Behind the call: some draws, and some blocks more. -/
def LaidE (W w' : World) : Prop := ∃ q os', w' = grow (W.drewN q) os'
theorem below_growE {B : Nat} {a w : World} (h : Below B a w) (hB : B ≤ w.heap.size) (m : Nat) (os : Array Obj) : Below B a (grow (w.drewN m) os) :=
  ⟨h.os, h.tape, h.output, by rw [size_grow]; exact Nat.le_trans h.size (Nat.le_add_right _ _), fun k hk => by
    rw [heap_grow_old _ _ (by show k < w.heap.size; omega)]
    exact h.block k hk⟩
theorem LaidE.below {W w' : World} (h : LaidE W w') : Below W.heap.size W w' := by
  obtain ⟨q, os, rfl⟩ := h
  exact below_growE (Below.refl _ _) (Nat.le_refl _) q os
theorem neq_sameG {x y : Gp} (h : x = y) (w : World) : (binOp .neq 36 (.agg #[.int .i64 x.a, .int .i64 x.m]) (.agg #[.int .i64 y.a, .int .i64 y.m])).run Try.prog w = .ok (.bool false) w := by
  subst h
  simp [go_sem, binOp, Op.equal, Op.maxDepth]
theorem neq_otherG {x y : Gp} (h : ¬ x = y) (w : World) : (binOp .neq 36 (.agg #[.int .i64 x.a, .int .i64 x.m]) (.agg #[.int .i64 y.a, .int .i64 y.m])).run Try.prog w = .ok (.bool true) w := by
  by_cases h0 : x.a = y.a
  · have h1 : ¬ x.m = y.m := fun e => h (by cases x; cases y; simp at h0 e ⊢; exact ⟨h0, e⟩)
    simp [go_sem, binOp, Op.equal, Op.maxDepth, h0, h1]
  · simp [go_sem, binOp, Op.equal, Op.maxDepth, h0]
set_option maxHeartbeats 1000000 in
theorem equal13 (B1 B2 : Nat) (A1 A2 : Option Addr) (n1 n2 c1 c2 : Nat) (a b : List Gp) (w : World) (h1 : Gps w B1 A1 n1 c1 a) (h2 : Gps w B2 A2 n2 c2 b) :
    Calls Try.prog 13 #[.slice A1 n1 c1, .slice A2 n2 c2] w (EqB (a = b) w) := by
  have l1 := h1.len
  have l2 := h2.len
  have hm := Rd.small h1
  by_cases hn : n1 = n2
  · subst hn
    have T1 := Lib.hid h1
    have T2 := Lib.hid h2
    have L1 := Lib.hid l1
    have L2 := Lib.hid l2
    clear h1 h2 l1 l2
    go_enter Try.func13, Try.ntmps13
    go_wp2_with fail
    go_loopw [13] (fun i wr => ∃ (k nd : Nat), k ≤ n1 ∧ i = .int .i64 k ∧ wr = w.drewN nd ∧ ∀ j, j < k → a[j]? = b[j]?) (fun i _ => (n1 - intOf i).toNat)
    case atStart => exact ⟨0, 0, by omega, rfl, rfl, fun j hj => absurd hj (Nat.not_lt_zero _)⟩
    case round =>
      obtain ⟨k, nd, hk, rfl, rfl, hinv⟩ := hrel
      have HI := Lib.hid hinv
      clear hinv
      by_cases hlt : k < n1
      · obtain ⟨g1, o1, rfl, _, _⟩ := Words.Rd.row T1.out (by omega)
        obtain ⟨g2, o2, rfl, _, _⟩ := Words.Rd.row T2.out (by omega)
        obtain ⟨x, hx⟩ : ∃ x, a[k]? = some x := ⟨_, List.getElem?_eq_getElem (by rw [L1.out]; exact hlt)⟩
        obtain ⟨y, hy⟩ : ∃ y, b[k]? = some y := ⟨_, List.getElem?_eq_getElem (by rw [L2.out]; exact hlt)⟩
        obtain ⟨p0, p1⟩ := Gps.cells T1.out rfl hx
        obtain ⟨q0, q1⟩ := Gps.cells T2.out rfl hy
        have HX := Lib.hid hx
        have HY := Lib.hid hy
        clear hx hy
        by_cases hxy : x = y
        · have ht := fun w => neq_sameG (x := x) (y := y) hxy w
          have HXY := Lib.hid hxy
          clear hxy
          go_wp2_with fail
          go_quiet (fail)
          go_wp2_with fail
          go_roundw
          case rel => exact ⟨k + 1, _, by omega, by go_num, rfl, fun j hj => by
            by_cases hjk : j < k
            · exact HI.out j hjk
            · obtain rfl : j = k := by omega
              rw [HX.out, HY.out, HXY.out]⟩
          case measure => simp [intOf]; omega
        · have ht := fun w => neq_otherG (x := x) (y := y) hxy w
          have HXY := Lib.hid hxy
          clear hxy
          go_wp2_with fail
          go_quiet (fail)
          go_wp2_with fail
          go_ret
          refine ⟨false, _, rfl, ⟨(fun h => by cases h), fun h => ?_⟩, by first | rfl | exact World.drewN_drewN _ _ _⟩
          have e1 := HX.out
          rw [h, HY.out] at e1
          injection e1 with e1
          exact absurd e1.symm HXY.out
      · go_wp2_with fail
        go_ret
        exact ⟨true, _, rfl, ⟨fun _ => same_lists L1.out L2.out (by omega) HI.out, fun _ => rfl⟩, rfl⟩
  · have hne : ((n1 : Int) != (n2 : Int)) = true := by rw [bne_iff_ne]; omega
    have HN : Hid (a ≠ b) := Lib.hid (fun h => by rw [h] at l1; omega)
    clear h1 h2 l1 l2
    go_enter Try.func13, Try.ntmps13
    go_wp2_with fail
    go_ret
    exact ⟨false, 0, rfl, ⟨(fun h => by cases h), fun h => absurd h HN.out⟩, rfl⟩
/-- Two lists that are one. -/
theorem equal13_yes (B1 B2 : Nat) (A1 A2 : Option Addr) (n1 n2 c1 c2 : Nat) (a b : List Gp) (w : World) (h1 : Gps w B1 A1 n1 c1 a) (h2 : Gps w B2 A2 n2 c2 b) (hab : a = b) :
    Calls Try.prog 13 #[.slice A1 n1 c1, .slice A2 n2 c2] w fun e w' => e = .returned (.bool true) ∧ LaidE w w' := by
  refine (equal13 B1 B2 A1 A2 n1 n2 c1 c2 a b w h1 h2).mono fun e w' h => ?_
  obtain ⟨he, n, hw⟩ := h.yes hab
  exact ⟨he, n, #[], by rw [hw, grow_empty]⟩
theorem neq_sameA {x y : An} (h : x = y) (w : World) : (binOp .neq 27 (.agg #[.int .i64 x.e, .int .i64 x.a]) (.agg #[.int .i64 y.e, .int .i64 y.a])).run Try.prog w = .ok (.bool false) w := by
  subst h
  simp [go_sem, binOp, Op.equal, Op.maxDepth]
theorem neq_otherA {x y : An} (h : ¬ x = y) (w : World) : (binOp .neq 27 (.agg #[.int .i64 x.e, .int .i64 x.a]) (.agg #[.int .i64 y.e, .int .i64 y.a])).run Try.prog w = .ok (.bool true) w := by
  by_cases h0 : x.e = y.e
  · have h1 : ¬ x.a = y.a := fun e => h (by cases x; cases y; simp at h0 e ⊢; exact ⟨h0, e⟩)
    simp [go_sem, binOp, Op.equal, Op.maxDepth, h0, h1]
  · simp [go_sem, binOp, Op.equal, Op.maxDepth, h0]
set_option maxHeartbeats 1000000 in
theorem equal16 (B1 B2 : Nat) (A1 A2 : Option Addr) (n1 n2 c1 c2 : Nat) (a b : List An) (w : World) (h1 : Ans w B1 A1 n1 c1 a) (h2 : Ans w B2 A2 n2 c2 b) :
    Calls Try.prog 16 #[.slice A1 n1 c1, .slice A2 n2 c2] w (EqB (a = b) w) := by
  have l1 := h1.len
  have l2 := h2.len
  have hm := Rd.small h1
  by_cases hn : n1 = n2
  · subst hn
    have T1 := Lib.hid h1
    have T2 := Lib.hid h2
    have L1 := Lib.hid l1
    have L2 := Lib.hid l2
    clear h1 h2 l1 l2
    go_enter Try.func16, Try.ntmps16
    go_wp2_with fail
    go_loopw [13] (fun i wr => ∃ (k nd : Nat), k ≤ n1 ∧ i = .int .i64 k ∧ wr = w.drewN nd ∧ ∀ j, j < k → a[j]? = b[j]?) (fun i _ => (n1 - intOf i).toNat)
    case atStart => exact ⟨0, 0, by omega, rfl, rfl, fun j hj => absurd hj (Nat.not_lt_zero _)⟩
    case round =>
      obtain ⟨k, nd, hk, rfl, rfl, hinv⟩ := hrel
      have HI := Lib.hid hinv
      clear hinv
      by_cases hlt : k < n1
      · obtain ⟨g1, o1, rfl, _, _⟩ := Words.Rd.row T1.out (by omega)
        obtain ⟨g2, o2, rfl, _, _⟩ := Words.Rd.row T2.out (by omega)
        obtain ⟨x, hx⟩ : ∃ x, a[k]? = some x := ⟨_, List.getElem?_eq_getElem (by rw [L1.out]; exact hlt)⟩
        obtain ⟨y, hy⟩ : ∃ y, b[k]? = some y := ⟨_, List.getElem?_eq_getElem (by rw [L2.out]; exact hlt)⟩
        obtain ⟨p0, p1⟩ := Ans.cells T1.out rfl hx
        obtain ⟨q0, q1⟩ := Ans.cells T2.out rfl hy
        have HX := Lib.hid hx
        have HY := Lib.hid hy
        clear hx hy
        by_cases hxy : x = y
        · have ht := fun w => neq_sameA (x := x) (y := y) hxy w
          have HXY := Lib.hid hxy
          clear hxy
          go_wp2_with fail
          go_quiet (fail)
          go_wp2_with fail
          go_roundw
          case rel => exact ⟨k + 1, _, by omega, by go_num, rfl, fun j hj => by
            by_cases hjk : j < k
            · exact HI.out j hjk
            · obtain rfl : j = k := by omega
              rw [HX.out, HY.out, HXY.out]⟩
          case measure => simp [intOf]; omega
        · have ht := fun w => neq_otherA (x := x) (y := y) hxy w
          have HXY := Lib.hid hxy
          clear hxy
          go_wp2_with fail
          go_quiet (fail)
          go_wp2_with fail
          go_ret
          refine ⟨false, _, rfl, ⟨(fun h => by cases h), fun h => ?_⟩, by first | rfl | exact World.drewN_drewN _ _ _⟩
          have e1 := HX.out
          rw [h, HY.out] at e1
          injection e1 with e1
          exact absurd e1.symm HXY.out
      · go_wp2_with fail
        go_ret
        exact ⟨true, _, rfl, ⟨fun _ => same_lists L1.out L2.out (by omega) HI.out, fun _ => rfl⟩, rfl⟩
  · have hne : ((n1 : Int) != (n2 : Int)) = true := by rw [bne_iff_ne]; omega
    have HN : Hid (a ≠ b) := Lib.hid (fun h => by rw [h] at l1; omega)
    clear h1 h2 l1 l2
    go_enter Try.func16, Try.ntmps16
    go_wp2_with fail
    go_ret
    exact ⟨false, 0, rfl, ⟨(fun h => by cases h), fun h => absurd h HN.out⟩, rfl⟩
/-- Two lists that are one. -/
theorem equal16_yes (B1 B2 : Nat) (A1 A2 : Option Addr) (n1 n2 c1 c2 : Nat) (a b : List An) (w : World) (h1 : Ans w B1 A1 n1 c1 a) (h2 : Ans w B2 A2 n2 c2 b) (hab : a = b) :
    Calls Try.prog 16 #[.slice A1 n1 c1, .slice A2 n2 c2] w fun e w' => e = .returned (.bool true) ∧ LaidE w w' := by
  refine (equal16 B1 B2 A1 A2 n1 n2 c1 c2 a b w h1 h2).mono fun e w' h => ?_
  obtain ⟨he, n, hw⟩ := h.yes hab
  exact ⟨he, n, #[], by rw [hw, grow_empty]⟩
end Go.Proofs.Ytkhcaobmohppnaa.Spc
