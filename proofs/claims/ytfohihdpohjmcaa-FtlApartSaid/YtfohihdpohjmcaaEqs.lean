/-
  What slices.Equal says of two lists of answers; the greatest and the least of a list of numbers; a list of operations copied.
-/
import Derived.Test.YtfohihdpohjmcaaIPlay
import Derived.Laws.StructEq
namespace Go.Proofs.Ytfohihdpohjmcaa.Ftl
open Go.ChangeShapes Go.WideShapes Go.ChangeAt Go.RowKit Words
set_option linter.unusedVariables false

theorem neq_same {x y : Fan} (h : x = y) (w : World) : (binOp .neq 32 (.agg #[.int .i64 x.err, .int .i64 x.data]) (.agg #[.int .i64 y.err, .int .i64 y.data])).run Try.prog w = .ok (.bool false) w := by
  subst h
  simp [go_sem, binOp, Op.equal, Op.maxDepth]
theorem neq_other {x y : Fan} (h : ¬ x = y) (w : World) : (binOp .neq 32 (.agg #[.int .i64 x.err, .int .i64 x.data]) (.agg #[.int .i64 y.err, .int .i64 y.data])).run Try.prog w = .ok (.bool true) w := by
  by_cases h0 : x.err = y.err
  · have h1 : ¬ x.data = y.data := fun e => h (Fan.ext' h0 e)
    simp [go_sem, binOp, Op.equal, Op.maxDepth, h0, h1]
  · simp [go_sem, binOp, Op.equal, Op.maxDepth, h0]
set_option maxHeartbeats 1000000 in
theorem equal11 (B1 B2 : Nat) (A1 A2 : Option Addr) (n1 n2 c1 c2 : Nat) (a b : List Fan) (w : World) (h1 : Fans w B1 A1 n1 c1 a) (h2 : Fans w B2 A2 n2 c2 b) :
    Calls Try.prog 11 #[.slice A1 n1 c1, .slice A2 n2 c2] w (EqB (a = b) w) := by
  have l1 := Fans.len h1
  have l2 := Fans.len h2
  have hm := Words.Rd.small h1
  by_cases hn : n1 = n2
  · subst hn
    have T1 := Lib.hid h1
    have T2 := Lib.hid h2
    have L1 := Lib.hid l1
    have L2 := Lib.hid l2
    clear h1 h2 l1 l2
    go_enter Try.func11, Try.ntmps11
    go_wp2_with fail
    go_loopw [13] (fun i wr => ∃ (k nd : Nat), k ≤ n1 ∧ i = .int .i64 k ∧ wr = w.drewN nd ∧ ∀ j, j < k → a[j]? = b[j]?) (fun i _ => (n1 - intOf i).toNat)
    case atStart => exact ⟨0, 0, by omega, rfl, rfl, fun j hj => absurd hj (Nat.not_lt_zero _)⟩
    case round =>
      obtain ⟨k, nd, hk, rfl, rfl, hinv⟩ := hrel
      have HI := Lib.hid hinv
      clear hinv
      by_cases hlt : k < n1
      · obtain ⟨g1, o1, rfl, _, _⟩ := Words.Rd.row T1.out (by omega)
        obtain ⟨g2, o2, rfl, _, _⟩ := Words.Rd.row T2.out (by omega)
        obtain ⟨x, hx⟩ : ∃ x, a[k]? = some x := ⟨_, List.getElem?_eq_getElem (by rw [L1.out]; exact hlt)⟩
        obtain ⟨y, hy⟩ : ∃ y, b[k]? = some y := ⟨_, List.getElem?_eq_getElem (by rw [L2.out]; exact hlt)⟩
        obtain ⟨p0, p1⟩ := Fans.cells T1.out rfl hx
        obtain ⟨q0, q1⟩ := Fans.cells T2.out rfl hy
        have HX := Lib.hid hx
        have HY := Lib.hid hy
        clear hx hy
        by_cases hxy : x = y
        · have ht := fun w => neq_same (x := x) (y := y) hxy w
          have HXY := Lib.hid hxy
          clear hxy
          go_wp2_with fail
          go_quiet (fail)
          go_wp2_with fail
          go_roundw
          case rel => exact ⟨k + 1, _, by omega, by go_num, rfl, fun j hj => by
            by_cases hjk : j < k
            · exact HI.out j hjk
            · obtain rfl : j = k := by omega
              rw [HX.out, HY.out, HXY.out]⟩
          case measure => simp [intOf]; omega
        · have ht := fun w => neq_other (x := x) (y := y) hxy w
          have HXY := Lib.hid hxy
          clear hxy
          go_wp2_with fail
          go_quiet (fail)
          go_wp2_with fail
          go_ret
          refine ⟨false, _, rfl, ⟨(fun h => by cases h), fun h => ?_⟩, by first | rfl | exact World.drewN_drewN _ _ _⟩
          have e1 := HX.out
          rw [h, HY.out] at e1
          injection e1 with e1
          exact absurd e1.symm HXY.out
      · go_wp2_with fail
        go_ret
        exact ⟨true, _, rfl, ⟨fun _ => same_lists L1.out L2.out (by omega) HI.out, fun _ => rfl⟩, rfl⟩
  · have hne : ((n1 : Int) != (n2 : Int)) = true := by rw [bne_iff_ne]; omega
    have HN : Hid (a ≠ b) := Lib.hid (fun h => by rw [h] at l1; omega)
    clear h1 h2 l1 l2
    go_enter Try.func11, Try.ntmps11
    go_wp2_with fail
    go_ret
    exact ⟨false, 0, rfl, ⟨(fun h => by cases h), fun h => absurd h HN.out⟩, rfl⟩
/-! ### the greatest and the least -/
def maxU (l : List Int) : Nat → Int
  | 0 => l.getD 0 0
  | k + 1 => max (maxU l k) (l.getD (k + 1) 0)
def minU (l : List Int) : Nat → Int
  | 0 => l.getD 0 0
  | k + 1 => min (minU l k) (l.getD (k + 1) 0)
theorem maxU_mem {l : List Int} {k : Nat} (h : k < l.length) : maxU l k ∈ l := by
  induction k with
  | zero => show l.getD 0 0 ∈ l; rw [List.getD_eq_getElem?_getD, List.getElem?_eq_getElem h]; exact List.getElem_mem h
  | succ k ih =>
    show max (maxU l k) (l.getD (k + 1) 0) ∈ l
    rw [List.getD_eq_getElem?_getD, List.getElem?_eq_getElem h]
    show max (maxU l k) l[k + 1] ∈ l
    by_cases e : maxU l k ≤ l[k + 1]
    · rw [Int.max_eq_right e]; exact List.getElem_mem h
    · rw [Int.max_eq_left (by omega)]; exact ih (by omega)
theorem minU_mem {l : List Int} {k : Nat} (h : k < l.length) : minU l k ∈ l := by
  induction k with
  | zero => show l.getD 0 0 ∈ l; rw [List.getD_eq_getElem?_getD, List.getElem?_eq_getElem h]; exact List.getElem_mem h
  | succ k ih =>
    show min (minU l k) (l.getD (k + 1) 0) ∈ l
    rw [List.getD_eq_getElem?_getD, List.getElem?_eq_getElem h]
    show min (minU l k) l[k + 1] ∈ l
    by_cases e : minU l k ≤ l[k + 1]
    · rw [Int.min_eq_left e]; exact ih (by omega)
    · rw [Int.min_eq_right (by omega)]; exact List.getElem_mem h
def lmax (l : List Int) : Int := maxU l (l.length - 1)
def lmin (l : List Int) : Int := minU l (l.length - 1)
set_option maxHeartbeats 1000000 in
theorem max13 (B : Nat) (A : Option Addr) (n c : Nat) (l : List Int) (w : World) (h : Ints w B A n c l) (hn : 0 < n) :
    Calls Try.prog 13 #[.slice A n c] w fun e w' => e = .returned (.int .i64 (lmax l)) ∧ w' = w := by
  have L := Lib.hid h.len
  have hm := Words.Rd.small h
  have H := Lib.hid h
  obtain ⟨g, o, rfl, _, _⟩ := Words.Rd.row h hn
  obtain ⟨x0, hx0⟩ : ∃ x, l[0]? = some x := ⟨_, List.getElem?_eq_getElem (by rw [L.out]; exact hn)⟩
  have c0 := Ints.cellAt H.out rfl hx0
  have HX0 : Hid (maxU l 0 = x0) := Lib.hid (by show l.getD 0 0 = x0; rw [List.getD_eq_getElem?_getD, hx0]; rfl)
  have hn1 : ¬ (n : Int) < 1 := by omega
  rw [Nat.add_zero] at c0
  clear h hx0
  go_enter Try.func13, Try.ntmps13
  go_wp2_with fail
  go_loopw [3, 4] (fun m i wr => ∃ (k : Nat), m = .int .i64 (maxU l k) ∧ i = .int .i64 ((k + 1 : Nat) : Int) ∧ k < n ∧ wr = w) (fun _ i _ => (n - intOf i).toNat)
  case atStart => exact ⟨0, by rw [HX0.out], rfl, hn, rfl⟩
  case round =>
    obtain ⟨k, rfl, rfl, hk, rfl⟩ := hrel
    by_cases hlt : k + 1 < n
    · obtain ⟨x, hx⟩ : ∃ x, l[k + 1]? = some x := ⟨_, List.getElem?_eq_getElem (by rw [L.out]; exact hlt)⟩
      have c1 := Ints.cellAt H.out rfl hx
      have HU : Hid (maxU l (k + 1) = max (maxU l k) x) := Lib.hid (by show max (maxU l k) (l.getD (k + 1) 0) = _; rw [List.getD_eq_getElem?_getD, hx]; rfl)
      generalize maxU l k = m at *
      clear hx c0
      go_wp2_with fail
      go_roundw
      case rel => exact ⟨k + 1, by rw [HU.out], by go_num, by omega, by first | rfl | trivial⟩
      case measure => simp [intOf]; omega
    · have HE : Hid (lmax l = maxU l k) := Lib.hid (by unfold lmax; rw [L.out, show n - 1 = k by omega])
      generalize maxU l k = m at *
      clear c0
      go_wp2_with fail
      go_ret
      exact ⟨ret_int HE.out.symm, rfl⟩
set_option maxHeartbeats 1000000 in
theorem min14 (B : Nat) (A : Option Addr) (n c : Nat) (l : List Int) (w : World) (h : Ints w B A n c l) (hn : 0 < n) :
    Calls Try.prog 14 #[.slice A n c] w fun e w' => e = .returned (.int .i64 (lmin l)) ∧ w' = w := by
  have L := Lib.hid h.len
  have hm := Words.Rd.small h
  have H := Lib.hid h
  obtain ⟨g, o, rfl, _, _⟩ := Words.Rd.row h hn
  obtain ⟨x0, hx0⟩ : ∃ x, l[0]? = some x := ⟨_, List.getElem?_eq_getElem (by rw [L.out]; exact hn)⟩
  have c0 := Ints.cellAt H.out rfl hx0
  have HX0 : Hid (minU l 0 = x0) := Lib.hid (by show l.getD 0 0 = x0; rw [List.getD_eq_getElem?_getD, hx0]; rfl)
  have hn1 : ¬ (n : Int) < 1 := by omega
  rw [Nat.add_zero] at c0
  clear h hx0
  go_enter Try.func14, Try.ntmps14
  go_wp2_with fail
  go_loopw [3, 4] (fun m i wr => ∃ (k : Nat), m = .int .i64 (minU l k) ∧ i = .int .i64 ((k + 1 : Nat) : Int) ∧ k < n ∧ wr = w) (fun _ i _ => (n - intOf i).toNat)
  case atStart => exact ⟨0, by rw [HX0.out], rfl, hn, rfl⟩
  case round =>
    obtain ⟨k, rfl, rfl, hk, rfl⟩ := hrel
    by_cases hlt : k + 1 < n
    · obtain ⟨x, hx⟩ : ∃ x, l[k + 1]? = some x := ⟨_, List.getElem?_eq_getElem (by rw [L.out]; exact hlt)⟩
      have c1 := Ints.cellAt H.out rfl hx
      have HU : Hid (minU l (k + 1) = min (minU l k) x) := Lib.hid (by show min (minU l k) (l.getD (k + 1) 0) = _; rw [List.getD_eq_getElem?_getD, hx]; rfl)
      generalize minU l k = m at *
      clear hx c0
      go_wp2_with fail
      go_roundw
      case rel => exact ⟨k + 1, by rw [HU.out], by go_num, by omega, by first | rfl | trivial⟩
      case measure => simp [intOf]; omega
    · have HE : Hid (lmin l = minU l k) := Lib.hid (by unfold lmin; rw [L.out, show n - 1 = k by omega])
      generalize minU l k = m at *
      clear c0
      go_wp2_with fail
      go_ret
      exact ⟨ret_int HE.out.symm, rfl⟩
def MadeO (w : World) (l : List Fop) (n : Nat) (e : Ending) (w' : World) : Prop :=
  ∃ A c, e = .returned (.slice A n c) ∧ w'.ownsRow w.heap.size 37 3 (.slice A n c) n (pcells l) ∧ Below w.heap.size w w'
set_option maxHeartbeats 1000000 in
theorem clone15 (B : Nat) (A : Option Addr) (n c : Nat) (l : List Fop) (w : World) (h : Ops w B A n c l) (hB : B ≤ w.heap.size) (hn : n ≤ 100000) :
    Calls Try.prog 15 #[.slice A n c] w (MadeO w l n) := by
  obtain ⟨i0, hi0, hz0, hz1, hz2⟩ := info_parts info37
  have hzz : (Value.agg #[.int .i64 0, .int .i64 0, .int .i64 0]).cells.size = 3 := rfl
  cases A with
  | none =>
    have hc := Words.Rd.none_ h rfl
    have hn0 : n = 0 := by have := Words.Rd.le h; omega
    have hl := Ops.len h
    subst hc hn0
    have hl0 : l = [] := List.eq_nil_of_length_eq_zero hl
    subst hl0
    clear h hl
    have hq := Lib.run_eql_slice_nil (P := Try.prog) w 22 37 none 0 0 0 0 Try.underlying22
    go_enter Try.func15, Try.ntmps15
    go_wp2_with fail
    go_ret
    exact ⟨none, 0, rfl, w.ownsRow_nil _ _ _, Below.refl _ _⟩
  | some a =>
    have H := Lib.hid h
    have HN := Lib.hid Ops.len h
    have hml := Words.Rd.max h
    have hle := Words.Rd.le h
    clear h
    have hq := Lib.run_eql_slice_nil (P := Try.prog) w 22 37 (some a) n c 0 0 Try.underlying22
    have hown1 : (w.alloc (.cells #[] 37)).ownsRow w.heap.size 37 3 (.slice (some ⟨w.heap.size, 0, none⟩) 0 0) 0 [] := w.ownsRow_lit #[] 0 (Nat.le_refl _) (by decide) rfl
    have hb1 : Below w.heap.size w (w.alloc (.cells #[] 37)) := (Below.refl _ _).alloc (Nat.le_refl _) _
    have hz1' : w.heap.size ≤ (w.alloc (.cells #[] 37)).heap.size := hb1.size
    have HR := Lib.hid (Words.Rd.alloc H.out hB (.cells #[] 37))
    go_enter Try.func15, Try.ntmps15
    go_wp2_with (first
      | (at_builtin; refine wpList_append_rd _ rfl (.tmp 5) (.tmp 6) 22 rfl w.heap.size 37 i0 _ 3 24 Try.underlying22 hi0 hz0 hz1 hz2 hzz (by decide) _ 0 [] rfl hown1 B (some a) n c (pcells l) rfl HR.out (pcells_one l) (by omega) (by omega) hz1' ?_
         intro A2 c2 w2 hown2 hg2
         have hb2 : Below w.heap.size w w2 := below_grown hb1 hown1 hg2 hz1' (Nat.le_refl _)
         simp only [Nat.zero_add, List.nil_append] at hown2))
    go_ret
    exact ⟨A2, c2, rfl, hown2, hb2⟩
/-! ### append in a region that draws -/
section
variable {P : Program} (w : World)
theorem step_append_rd {ops : Array Oper} {o : Oper} {a : Act} {K : Act → World → Prop} {Q : Exit → Act → World → Prop} {E : Prop}
    (hg : o.guard = none) (s x : Operand) (t : TypeId) (hop : o.op = Op.call { callee := Callee.builtin Builtin.append, args := #[s, x], argTypes := #[t, t] })
    (base : Nat) (e : TypeId) (i : TypeInfo) (z : Value) (size bytes : Nat) (ht : P.underlying t = some (.slice e)) (hi : P.info? e = some i) (hz : i.zero = some z)
    (hsize : i.size = size) (hby : i.bytes = bytes) (hzs : z.cells.size = size) (hsz : 0 < size)
    (v : Value) (n : Nat) (xs : List Value) (hs : a.eval s = v) (hown : w.ownsRow base e size v n xs)
    (B : Nat) (A : Option Addr) (m c : Nat) (news : List Value) (hx : a.eval x = .slice A m c) (hr : Words.Rd w B size A m c news) (h1 : ∀ u ∈ news, u.oneCell' = true)
    (h63 : n + m ≤ maxLen) (hbytes : (n + m) * bytes ≤ 140737488355328) (hbase : base ≤ w.heap.size)
    (hK : ∀ A' c' w', w'.ownsRow base e size (.slice A' (n + m) c') (n + m) (xs ++ news) → w.grownBy w' v.ownBlock → K (a.put o.dst (.slice A' (n + m) c')) w') :
    if Region.wanted o (yielded ops a.tmps) = true then Oper.wp P o a w K Q else E := by
  have hw : Region.wanted o (yielded ops a.tmps) = true := by simp [Region.wanted, hg]
  rw [if_pos hw]
  obtain ⟨v', w', hrun, h2, h3⟩ := run_append_rd (P := P) w base t o.type e i z size bytes ht hi hz hsize hby hzs hsz v n xs hown B A m c news hr h1 h63 hbytes hbase
  obtain ⟨A', c', rfl⟩ := own_form h2
  unfold Oper.wp
  simp [execOp, hop, resolve, invoke, builtin, hs, hx, hrun, Result.andThen]
  exact hK A' c' w' h2 h3
end
end Go.Proofs.Ytfohihdpohjmcaa.Ftl
