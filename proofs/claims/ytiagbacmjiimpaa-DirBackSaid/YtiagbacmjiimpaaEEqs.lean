/-
  What slices.Equal says of two lists of entries; slices.Clone; what a call leaves behind.
-/
import Derived.Test.YtiagbacmjiimpaaERight
import Derived.Laws.StructEq
namespace Go.Proofs.Ytiagbacmjiimpaa.Dir
open Go.ChangeShapes Go.WideShapes Go.ChangeAt Go.RowKit Words Go.Sort
set_option linter.unusedVariables false

theorem mixedO : Try.prog.follows .mixedOrders = true := by kernel_rfl
/-- Behind the call: some draws, and some blocks more. -/
def Laid (W w' : World) : Prop := ∃ q os', w' = grow (W.drewN q) os'
theorem below_grow {B : Nat} {a w : World} (h : Below B a w) (hB : B ≤ w.heap.size) (m : Nat) (os : Array Obj) : Below B a (grow (w.drewN m) os) :=
  ⟨h.os, h.tape, h.output, by rw [size_grow]; exact Nat.le_trans h.size (Nat.le_add_right _ _), fun k hk => by
    rw [heap_grow_old _ _ (by show k < w.heap.size; omega)]
    exact h.block k hk⟩
theorem Laid.below {W w' : World} (h : Laid W w') : Below W.heap.size W w' := by
  obtain ⟨q, os, rfl⟩ := h
  exact below_grow (Below.refl _ _) (Nat.le_refl _) q os
theorem neq_same {x y : En} (h : x = y) (w : World) : (binOp .neq 24 (.agg #[.string (str x.n), .int .i64 x.i]) (.agg #[.string (str y.n), .int .i64 y.i])).run Try.prog w = .ok (.bool false) w := by
  subst h
  simp [go_sem, binOp, Op.equal, Op.maxDepth]
theorem neq_other {x y : En} (h : ¬ x = y) (w : World) : (binOp .neq 24 (.agg #[.string (str x.n), .int .i64 x.i]) (.agg #[.string (str y.n), .int .i64 y.i])).run Try.prog w = .ok (.bool true) w := by
  have hs : ∀ l : List UInt8, (str l).toList = l := str_list
  by_cases h0 : x.n = y.n
  · have h1 : ¬ x.i = y.i := fun e => h (by cases x; cases y; simp at h0 e ⊢; exact ⟨h0, e⟩)
    simp [go_sem, binOp, Op.equal, Op.maxDepth, h0, h1, hs]
  · simp [go_sem, binOp, Op.equal, Op.maxDepth, h0, hs]
set_option maxHeartbeats 1000000 in
theorem equal17 (B1 B2 : Nat) (A1 A2 : Option Addr) (n1 n2 c1 c2 : Nat) (a b : List En) (w : World) (h1 : Ens w B1 A1 n1 c1 a) (h2 : Ens w B2 A2 n2 c2 b) :
    Calls Try.prog 17 #[.slice A1 n1 c1, .slice A2 n2 c2] w (EqB (a = b) w) := by
  have l1 := h1.len
  have l2 := h2.len
  have hm := Rd.small h1
  by_cases hn : n1 = n2
  · subst hn
    have T1 := Lib.hid h1
    have T2 := Lib.hid h2
    have L1 := Lib.hid l1
    have L2 := Lib.hid l2
    clear h1 h2 l1 l2
    go_enter Try.func17, Try.ntmps17
    go_wp2_with fail
    go_loopw [13] (fun i wr => ∃ (k nd : Nat), k ≤ n1 ∧ i = .int .i64 k ∧ wr = w.drewN nd ∧ ∀ j, j < k → a[j]? = b[j]?) (fun i _ => (n1 - intOf i).toNat)
    case atStart => exact ⟨0, 0, by omega, rfl, rfl, fun j hj => absurd hj (Nat.not_lt_zero _)⟩
    case round =>
      obtain ⟨k, nd, hk, rfl, rfl, hinv⟩ := hrel
      have HI := Lib.hid hinv
      clear hinv
      by_cases hlt : k < n1
      · obtain ⟨g1, o1, rfl, _, _⟩ := Words.Rd.row T1.out (by omega)
        obtain ⟨g2, o2, rfl, _, _⟩ := Words.Rd.row T2.out (by omega)
        obtain ⟨x, hx⟩ : ∃ x, a[k]? = some x := ⟨_, List.getElem?_eq_getElem (by rw [L1.out]; exact hlt)⟩
        obtain ⟨y, hy⟩ : ∃ y, b[k]? = some y := ⟨_, List.getElem?_eq_getElem (by rw [L2.out]; exact hlt)⟩
        obtain ⟨p0, p1⟩ := Ens.cells T1.out rfl hx
        obtain ⟨q0, q1⟩ := Ens.cells T2.out rfl hy
        have HX := Lib.hid hx
        have HY := Lib.hid hy
        clear hx hy
        by_cases hxy : x = y
        · have ht := fun w => neq_same (x := x) (y := y) hxy w
          have HXY := Lib.hid hxy
          clear hxy
          go_wp2_with fail
          go_quiet (fail)
          go_wp2_with fail
          go_roundw
          case rel => exact ⟨k + 1, _, by omega, by go_num, rfl, fun j hj => by
            by_cases hjk : j < k
            · exact HI.out j hjk
            · obtain rfl : j = k := by omega
              rw [HX.out, HY.out, HXY.out]⟩
          case measure => simp [intOf]; omega
        · have ht := fun w => neq_other (x := x) (y := y) hxy w
          have HXY := Lib.hid hxy
          clear hxy
          go_wp2_with fail
          go_quiet (fail)
          go_wp2_with fail
          go_ret
          refine ⟨false, _, rfl, ⟨(fun h => by cases h), fun h => ?_⟩, by first | rfl | exact World.drewN_drewN _ _ _⟩
          have e1 := HX.out
          rw [h, HY.out] at e1
          injection e1 with e1
          exact absurd e1.symm HXY.out
      · go_wp2_with fail
        go_ret
        exact ⟨true, _, rfl, ⟨fun _ => same_lists L1.out L2.out (by omega) HI.out, fun _ => rfl⟩, rfl⟩
  · have hne : ((n1 : Int) != (n2 : Int)) = true := by rw [bne_iff_ne]; omega
    have HN : Hid (a ≠ b) := Lib.hid (fun h => by rw [h] at l1; omega)
    clear h1 h2 l1 l2
    go_enter Try.func17, Try.ntmps17
    go_wp2_with fail
    go_ret
    exact ⟨false, 0, rfl, ⟨(fun h => by cases h), fun h => absurd h HN.out⟩, rfl⟩
/-- Two lists that are one. -/
theorem equal17_yes (B1 B2 : Nat) (A1 A2 : Option Addr) (n1 n2 c1 c2 : Nat) (a b : List En) (w : World) (h1 : Ens w B1 A1 n1 c1 a) (h2 : Ens w B2 A2 n2 c2 b) (hab : a = b) :
    Calls Try.prog 17 #[.slice A1 n1 c1, .slice A2 n2 c2] w fun e w' => e = .returned (.bool true) ∧ Laid w w' := by
  refine (equal17 B1 B2 A1 A2 n1 n2 c1 c2 a b w h1 h2).mono fun e w' h => ?_
  obtain ⟨he, n, hw⟩ := h.yes hab
  exact ⟨he, n, #[], by rw [hw, grow_empty]⟩
/-- A list made anew that holds l. -/
def MadeEn (w : World) (l : List En) (e : Ending) (w' : World) : Prop :=
  ∃ A c, e = .returned (.slice A l.length c) ∧ OwnEn w' w.heap.size A l.length c l ∧ Below w.heap.size w w'
set_option maxHeartbeats 1000000 in
theorem clone18 (B : Nat) (A : Option Addr) (n c : Nat) (l : List En) (w : World) (h : Ens w B A n c l) (hB : B ≤ w.heap.size) (hn : n * 24 ≤ 140737488355000) :
    Calls Try.prog 18 #[.slice A n c] w (MadeEn w l) := by
  obtain ⟨i0, hi0, hz0, hz1, hz2⟩ := info_parts info24
  have hl := h.len
  unfold MadeEn
  rw [hl]
  cases A with
  | none =>
    have hc := Words.Rd.none_ h rfl
    have hn0 : n = 0 := by have := Words.Rd.le h; omega
    subst hc hn0
    have hl0 : l = [] := List.eq_nil_of_length_eq_zero hl
    subst hl0
    clear h hl
    have hq := Lib.run_eql_slice_nil (P := Try.prog) w 22 24 none 0 0 0 0 Try.underlying22
    go_enter Try.func18, Try.ntmps18
    go_wp2_with fail
    go_ret
    exact ⟨none, 0, rfl, w.ownsRow_nil _ _ _, Below.refl _ _⟩
  | some a =>
    have H := Lib.hid h
    have hml := Words.Rd.max h
    have hle := Words.Rd.le h
    clear h hl
    have hq := Lib.run_eql_slice_nil (P := Try.prog) w 22 24 (some a) n c 0 0 Try.underlying22
    have hown1 : (w.alloc (.cells #[] 24)).ownsRow w.heap.size 24 2 (.slice (some ⟨w.heap.size, 0, none⟩) 0 0) 0 [] := w.ownsRow_lit #[] 0 (Nat.le_refl _) (by decide) rfl
    have hb1 : Below w.heap.size w (w.alloc (.cells #[] 24)) := (Below.refl _ _).alloc (Nat.le_refl _) _
    have hz1' : w.heap.size ≤ (w.alloc (.cells #[] 24)).heap.size := hb1.size
    have HR := Lib.hid (Words.Rd.alloc H.out hB (.cells #[] 24))
    go_enter Try.func18, Try.ntmps18
    go_wp2_with (first
      | (at_builtin; refine wpList_append_rd _ rfl (.tmp 5) (.tmp 6) 22 rfl w.heap.size 24 i0 _ 2 24 Try.underlying22 hi0 hz0 hz1 hz2 rfl (by decide) _ 0 [] rfl hown1 B (some a) n c (lcells l) rfl HR.out (lcells_one l) (by omega) (by omega) hz1' ?_
         intro A2 c2 w2 hown2 hg2
         have hb2 : Below w.heap.size w w2 := below_grown hb1 hown1 hg2 hz1' (Nat.le_refl _)
         simp only [Nat.zero_add, List.nil_append] at hown2))
    go_ret
    exact ⟨A2, c2, rfl, hown2, hb2⟩
end Go.Proofs.Ytiagbacmjiimpaa.Dir
