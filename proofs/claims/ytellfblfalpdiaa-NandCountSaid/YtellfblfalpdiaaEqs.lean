/-
  What slices.Equal returns, at numbers, error codes and blocks; and the small test that package nand is not empty.
-/
import Derived.Test.YtellfblfalpdiaaPerf
import Derived.Laws.StructEq
namespace Go.Proofs.Ytellfblfalpdiaa.Nand
open Go.ChangeShapes Go.WideShapes Go.ChangeAt Go.RowKit Words

/-- The []int value (or []api.Errno value) reads as the numbers. -/
def Ints (w : World) (B : Nat) (A : Option Addr) (n c : Nat) (l : List Int) : Prop := Words.Rd w B 1 A n c (icells l)
theorem Ints.len {w : World} {B : Nat} {A : Option Addr} {n c : Nat} {l : List Int} (h : Ints w B A n c l) : l.length = n := by
  have := Words.Rd.len h
  rw [icells_length] at this
  omega
theorem Ints.cellAt {w : World} {B : Nat} {A : Option Addr} {n c : Nat} {l : List Int} (h : Ints w B A n c l) {b o : Nat} (e : A = some ⟨b, o, none⟩) {j : Nat} {x : Int} (hx : l[j]? = some x) : w.cell? ⟨b, o + j, none⟩ = some (.int .i64 x) := by
  have hj := (List.getElem?_eq_some_iff.1 hx).1
  have hl := Ints.len h
  exact Words.Rd.cellAt h e (by omega) j _ (by rw [icells_get, hx]; rfl)
theorem same_lists {α : Type} {a b : List α} {n k : Nat} (ha : a.length = n) (hb : b.length = n) (hk : k = n) (h : ∀ j, j < k → a[j]? = b[j]?) : a = b := by
  subst hk
  apply List.ext_getElem?
  intro j
  by_cases hj : j < k
  · exact h j hj
  · rw [List.getElem?_eq_none (by omega), List.getElem?_eq_none (by omega)]
def EqB (b : Prop) (w : World) (e : Ending) (w' : World) : Prop := ∃ (t : Bool) (n : Nat), e = .returned (.bool t) ∧ (t = true ↔ b) ∧ w' = w.drewN n
set_option maxHeartbeats 1000000 in
theorem equal18 (B1 B2 : Nat) (A1 A2 : Option Addr) (n1 n2 c1 c2 : Nat) (a b : List Int) (w : World) (h1 : Ints w B1 A1 n1 c1 a) (h2 : Ints w B2 A2 n2 c2 b) :
    Calls Try.prog 18 #[.slice A1 n1 c1, .slice A2 n2 c2] w (EqB (a = b) w) := by
  have l1 := h1.len
  have l2 := h2.len
  have hm := Rd.small h1
  by_cases hn : n1 = n2
  · subst hn
    have T1 := Lib.hid h1
    have T2 := Lib.hid h2
    have L1 := Lib.hid l1
    have L2 := Lib.hid l2
    clear h1 h2 l1 l2
    go_enter Try.func18, Try.ntmps18
    go_wp2_with fail
    go_loopw [13] (fun i wr => ∃ (k nd : Nat), k ≤ n1 ∧ i = .int .i64 k ∧ wr = w.drewN nd ∧ ∀ j, j < k → a[j]? = b[j]?) (fun i _ => (n1 - intOf i).toNat)
    case atStart => exact ⟨0, 0, by omega, rfl, rfl, fun j hj => absurd hj (Nat.not_lt_zero _)⟩
    case round =>
      obtain ⟨k, nd, hk, rfl, rfl, hinv⟩ := hrel
      have HI := Lib.hid hinv
      clear hinv
      by_cases hlt : k < n1
      · obtain ⟨g1, o1, rfl, _, _⟩ := Words.Rd.row T1.out (by omega)
        obtain ⟨g2, o2, rfl, _, _⟩ := Words.Rd.row T2.out (by omega)
        obtain ⟨x, hx⟩ : ∃ x, a[k]? = some x := ⟨_, List.getElem?_eq_getElem (by rw [L1.out]; exact hlt)⟩
        obtain ⟨y, hy⟩ : ∃ y, b[k]? = some y := ⟨_, List.getElem?_eq_getElem (by rw [L2.out]; exact hlt)⟩
        have d1 := T1.out.cellAt rfl hx
        have d2 := T2.out.cellAt rfl hy
        have HX := Lib.hid hx
        have HY := Lib.hid hy
        clear hx hy
        by_cases hxy : x = y
        · have ht : (x != y) = false := by rw [bne_eq_false_iff_eq]; exact hxy
          have HXY := Lib.hid hxy
          clear hxy
          go_wp2_with fail
          go_quiet (fail)
          go_wp2_with fail
          go_roundw
          case rel => exact ⟨k + 1, _, by omega, by go_num, rfl, fun j hj => by
            by_cases hjk : j < k
            · exact HI.out j hjk
            · obtain rfl : j = k := by omega
              rw [HX.out, HY.out, HXY.out]⟩
          case measure => simp [intOf]; omega
        · have ht : (x != y) = true := by rw [bne_iff_ne]; exact hxy
          have HXY := Lib.hid hxy
          clear hxy
          go_wp2_with fail
          go_quiet (fail)
          go_wp2_with fail
          go_ret
          refine ⟨false, _, rfl, ⟨(fun h => by cases h), fun h => ?_⟩, by first | rfl | exact World.drewN_drewN _ _ _⟩
          have e1 := HX.out
          rw [h, HY.out] at e1
          injection e1 with e1
          exact absurd e1.symm HXY.out
      · go_wp2_with fail
        go_ret
        exact ⟨true, _, rfl, ⟨fun _ => same_lists L1.out L2.out (by omega) HI.out, fun _ => rfl⟩, rfl⟩
  · have hne : ((n1 : Int) != (n2 : Int)) = true := by rw [bne_iff_ne]; omega
    have HN : Hid (a ≠ b) := Lib.hid (fun h => by rw [h] at l1; omega)
    clear h1 h2 l1 l2
    go_enter Try.func18, Try.ntmps18
    go_wp2_with fail
    go_ret
    exact ⟨false, 0, rfl, ⟨(fun h => by cases h), fun h => absurd h HN.out⟩, rfl⟩
set_option maxHeartbeats 1000000 in
theorem equal17 (B1 B2 : Nat) (A1 A2 : Option Addr) (n1 n2 c1 c2 : Nat) (a b : List Int) (w : World) (h1 : Ints w B1 A1 n1 c1 a) (h2 : Ints w B2 A2 n2 c2 b) :
    Calls Try.prog 17 #[.slice A1 n1 c1, .slice A2 n2 c2] w (EqB (a = b) w) := by
  have l1 := h1.len
  have l2 := h2.len
  have hm := Rd.small h1
  by_cases hn : n1 = n2
  · subst hn
    have T1 := Lib.hid h1
    have T2 := Lib.hid h2
    have L1 := Lib.hid l1
    have L2 := Lib.hid l2
    clear h1 h2 l1 l2
    go_enter Try.func17, Try.ntmps17
    go_wp2_with fail
    go_loopw [13] (fun i wr => ∃ (k nd : Nat), k ≤ n1 ∧ i = .int .i64 k ∧ wr = w.drewN nd ∧ ∀ j, j < k → a[j]? = b[j]?) (fun i _ => (n1 - intOf i).toNat)
    case atStart => exact ⟨0, 0, by omega, rfl, rfl, fun j hj => absurd hj (Nat.not_lt_zero _)⟩
    case round =>
      obtain ⟨k, nd, hk, rfl, rfl, hinv⟩ := hrel
      have HI := Lib.hid hinv
      clear hinv
      by_cases hlt : k < n1
      · obtain ⟨g1, o1, rfl, _, _⟩ := Words.Rd.row T1.out (by omega)
        obtain ⟨g2, o2, rfl, _, _⟩ := Words.Rd.row T2.out (by omega)
        obtain ⟨x, hx⟩ : ∃ x, a[k]? = some x := ⟨_, List.getElem?_eq_getElem (by rw [L1.out]; exact hlt)⟩
        obtain ⟨y, hy⟩ : ∃ y, b[k]? = some y := ⟨_, List.getElem?_eq_getElem (by rw [L2.out]; exact hlt)⟩
        have d1 := T1.out.cellAt rfl hx
        have d2 := T2.out.cellAt rfl hy
        have HX := Lib.hid hx
        have HY := Lib.hid hy
        clear hx hy
        by_cases hxy : x = y
        · have ht : (x != y) = false := by rw [bne_eq_false_iff_eq]; exact hxy
          have HXY := Lib.hid hxy
          clear hxy
          go_wp2_with fail
          go_quiet (fail)
          go_wp2_with fail
          go_roundw
          case rel => exact ⟨k + 1, _, by omega, by go_num, rfl, fun j hj => by
            by_cases hjk : j < k
            · exact HI.out j hjk
            · obtain rfl : j = k := by omega
              rw [HX.out, HY.out, HXY.out]⟩
          case measure => simp [intOf]; omega
        · have ht : (x != y) = true := by rw [bne_iff_ne]; exact hxy
          have HXY := Lib.hid hxy
          clear hxy
          go_wp2_with fail
          go_quiet (fail)
          go_wp2_with fail
          go_ret
          refine ⟨false, _, rfl, ⟨(fun h => by cases h), fun h => ?_⟩, by first | rfl | exact World.drewN_drewN _ _ _⟩
          have e1 := HX.out
          rw [h, HY.out] at e1
          injection e1 with e1
          exact absurd e1.symm HXY.out
      · go_wp2_with fail
        go_ret
        exact ⟨true, _, rfl, ⟨fun _ => same_lists L1.out L2.out (by omega) HI.out, fun _ => rfl⟩, rfl⟩
  · have hne : ((n1 : Int) != (n2 : Int)) = true := by rw [bne_iff_ne]; omega
    have HN : Hid (a ≠ b) := Lib.hid (fun h => by rw [h] at l1; omega)
    clear h1 h2 l1 l2
    go_enter Try.func17, Try.ntmps17
    go_wp2_with fail
    go_ret
    exact ⟨false, 0, rfl, ⟨(fun h => by cases h), fun h => absurd h HN.out⟩, rfl⟩
theorem info3 : (Try.prog.info? 3).map (fun i => (i.zero, i.size, i.bytes)) = some (some (.int .i64 0), 1, 8) := by kernel_rfl
theorem eq_array4 (x0 x1 x2 x3 y0 y1 y2 y3 : Int) (w : World) :
    (Op.equalIn 9999 29 (.agg #[.int .i64 x0, .int .i64 x1, .int .i64 x2, .int .i64 x3]) (.agg #[.int .i64 y0, .int .i64 y1, .int .i64 y2, .int .i64 y3])).run Try.prog w = .ok (x0 == y0 && (x1 == y1 && (x2 == y2 && x3 == y3))) w := by
  obtain ⟨i3, hi3, _, hz3, _⟩ := info_parts info3
  show (Op.equalIn (9998 + 1) 29 _ _).run Try.prog w = _
  unfold Op.equalIn
  simp only [Sem.run_bind, run_underlying Try.underlying29, Result.andThen_ok]
  simp [List.range', sizeOf, typeInfo, hi3, hz3, go_sem]
  by_cases h0 : x0 = y0
  · by_cases h1 : x1 = y1
    · by_cases h2 : x2 = y2
      · by_cases h3 : x3 = y3
        · simp [h0, h1, h2, h3]
        · simp [h0, h1, h2, h3]
      · simp [h0, h1, h2]
    · simp [h0, h1]
  · simp [h0]
theorem eq_array4' (x0 x1 x2 x3 y0 y1 y2 y3 : Int) (w : World) :
    (binOp .eql 29 (.agg #[.int .i64 x0, .int .i64 x1, .int .i64 x2, .int .i64 x3]) (.agg #[.int .i64 y0, .int .i64 y1, .int .i64 y2, .int .i64 y3])).run Try.prog w = .ok (.bool (x0 == y0 && (x1 == y1 && (x2 == y2 && x3 == y3)))) w := by
  obtain ⟨i3, hi3, _, hz3, _⟩ := info_parts info3
  simp only [binOp, Op.equal, Op.maxDepth, Sem.run_bind]
  show ((Op.equalIn (9999 + 1) 29 _ _).run Try.prog w).andThen _ = _
  unfold Op.equalIn
  simp only [Sem.run_bind, run_underlying Try.underlying29, Result.andThen_ok]
  simp [List.range', sizeOf, typeInfo, hi3, hz3, go_sem]
  by_cases h0 : x0 = y0
  · by_cases h1 : x1 = y1
    · by_cases h2 : x2 = y2
      · by_cases h3 : x3 = y3
        · simp [h0, h1, h2, h3]
        · simp [h0, h1, h2, h3]
      · simp [h0, h1, h2]
    · simp [h0, h1]
  · simp [h0]
theorem neq_blocks (x y : Blk) (w : World) : (binOp .neq 31 (.agg #[.int .i64 x.d0, .int .i64 x.d1, .int .i64 x.d2, .int .i64 x.d3, .int .i64 x.done, .int .i64 x.wear]) (.agg #[.int .i64 y.d0, .int .i64 y.d1, .int .i64 y.d2, .int .i64 y.d3, .int .i64 y.done, .int .i64 y.wear])).run Try.prog w = .ok (.bool (x.nums != y.nums)) w := by
  simp [go_sem, binOp, Op.equal, Op.maxDepth, eq_array4]
  have hn : x.nums = y.nums ↔ x.d0 = y.d0 ∧ x.d1 = y.d1 ∧ x.d2 = y.d2 ∧ x.d3 = y.d3 ∧ x.done = y.done ∧ x.wear = y.wear := by simp [Blk.nums]
  by_cases h : x.nums = y.nums
  · obtain ⟨h0, h1, h2, h3, h4, h5⟩ := hn.1 h
    rw [h]
    simp [h0, h1, h2, h3, h4, h5]
  · have hb : (x.nums != y.nums) = true := by rw [bne_iff_ne]; exact h
    rw [hb]
    by_cases h0 : x.d0 = y.d0 ∧ x.d1 = y.d1 ∧ x.d2 = y.d2 ∧ x.d3 = y.d3
    · obtain ⟨a0, a1, a2, a3⟩ := h0
      by_cases h4 : x.done = y.done
      · have h5 : ¬ x.wear = y.wear := fun e => h (hn.2 ⟨a0, a1, a2, a3, h4, e⟩)
        simp [a0, a1, a2, a3, h4, h5]
      · simp [a0, a1, a2, a3, h4]
    · simp
      exact fun a0 a1 a2 a3 => absurd ⟨a0, a1, a2, a3⟩ h0
theorem neq_same {x y : Blk} (h : x = y) (w : World) : (binOp .neq 31 (.agg #[.int .i64 x.d0, .int .i64 x.d1, .int .i64 x.d2, .int .i64 x.d3, .int .i64 x.done, .int .i64 x.wear]) (.agg #[.int .i64 y.d0, .int .i64 y.d1, .int .i64 y.d2, .int .i64 y.d3, .int .i64 y.done, .int .i64 y.wear])).run Try.prog w = .ok (.bool false) w := by
  rw [neq_blocks, h]; simp
theorem neq_other {x y : Blk} (h : ¬ x = y) (w : World) : (binOp .neq 31 (.agg #[.int .i64 x.d0, .int .i64 x.d1, .int .i64 x.d2, .int .i64 x.d3, .int .i64 x.done, .int .i64 x.wear]) (.agg #[.int .i64 y.d0, .int .i64 y.d1, .int .i64 y.d2, .int .i64 y.d3, .int .i64 y.done, .int .i64 y.wear])).run Try.prog w = .ok (.bool true) w := by
  have : (x.nums != y.nums) = true := by rw [bne_iff_ne]; exact fun e => h (nums_inj e)
  rw [neq_blocks, this]
set_option maxHeartbeats 1000000 in
theorem equal11 (B1 B2 : Nat) (A1 A2 : Option Addr) (n1 n2 c1 c2 : Nat) (a b : List Blk) (w : World) (h1 : Fl w B1 A1 n1 c1 a) (h2 : Fl w B2 A2 n2 c2 b) :
    Calls Try.prog 11 #[.slice A1 n1 c1, .slice A2 n2 c2] w (EqB (a = b) w) := by
  have l1 := h1.len
  have l2 := h2.len
  have hm := Rd.small h1
  by_cases hn : n1 = n2
  · subst hn
    have T1 := Lib.hid h1
    have T2 := Lib.hid h2
    have L1 := Lib.hid l1
    have L2 := Lib.hid l2
    clear h1 h2 l1 l2
    go_enter Try.func11, Try.ntmps11
    go_wp2_with fail
    go_loopw [13] (fun i wr => ∃ (k nd : Nat), k ≤ n1 ∧ i = .int .i64 k ∧ wr = w.drewN nd ∧ ∀ j, j < k → a[j]? = b[j]?) (fun i _ => (n1 - intOf i).toNat)
    case atStart => exact ⟨0, 0, by omega, rfl, rfl, fun j hj => absurd hj (Nat.not_lt_zero _)⟩
    case round =>
      obtain ⟨k, nd, hk, rfl, rfl, hinv⟩ := hrel
      have HI := Lib.hid hinv
      clear hinv
      by_cases hlt : k < n1
      · obtain ⟨g1, o1, rfl, _, _⟩ := Words.Rd.row T1.out (by omega)
        obtain ⟨g2, o2, rfl, _, _⟩ := Words.Rd.row T2.out (by omega)
        obtain ⟨x, hx⟩ : ∃ x, a[k]? = some x := ⟨_, List.getElem?_eq_getElem (by rw [L1.out]; exact hlt)⟩
        obtain ⟨y, hy⟩ : ∃ y, b[k]? = some y := ⟨_, List.getElem?_eq_getElem (by rw [L2.out]; exact hlt)⟩
        obtain ⟨p0, p1, p2, p3, p4, p5⟩ := T1.out.cells rfl hx
        obtain ⟨q0, q1, q2, q3, q4, q5⟩ := T2.out.cells rfl hy
        have HX := Lib.hid hx
        have HY := Lib.hid hy
        clear hx hy
        by_cases hxy : x = y
        · have ht := fun w => neq_same (x := x) (y := y) hxy w
          have HXY := Lib.hid hxy
          clear hxy
          go_wp2_with fail
          go_quiet (fail)
          go_wp2_with fail
          go_roundw
          case rel => exact ⟨k + 1, _, by omega, by go_num, rfl, fun j hj => by
            by_cases hjk : j < k
            · exact HI.out j hjk
            · obtain rfl : j = k := by omega
              rw [HX.out, HY.out, HXY.out]⟩
          case measure => simp [intOf]; omega
        · have ht := fun w => neq_other (x := x) (y := y) hxy w
          have HXY := Lib.hid hxy
          clear hxy
          go_wp2_with fail
          go_quiet (fail)
          go_wp2_with fail
          go_ret
          refine ⟨false, _, rfl, ⟨(fun h => by cases h), fun h => ?_⟩, by first | rfl | exact World.drewN_drewN _ _ _⟩
          have e1 := HX.out
          rw [h, HY.out] at e1
          injection e1 with e1
          exact absurd e1.symm HXY.out
      · go_wp2_with fail
        go_ret
        exact ⟨true, _, rfl, ⟨fun _ => same_lists L1.out L2.out (by omega) HI.out, fun _ => rfl⟩, rfl⟩
  · have hne : ((n1 : Int) != (n2 : Int)) = true := by rw [bne_iff_ne]; omega
    have HN : Hid (a ≠ b) := Lib.hid (fun h => by rw [h] at l1; omega)
    clear h1 h2 l1 l2
    go_enter Try.func11, Try.ntmps11
    go_wp2_with fail
    go_ret
    exact ⟨false, 0, rfl, ⟨(fun h => by cases h), fun h => absurd h HN.out⟩, rfl⟩
end Go.Proofs.Ytellfblfalpdiaa.Nand
