/-
  What the document's own choice returns: all blocks that may be erased, sorted by the library's stable sort.
-/
import Derived.Test.YtodnjeahjalinaaOwn
import Derived.Test.YtodnjeahjalinaaStStable
namespace Go.Proofs.Ytodnjeahjalinaa.Vic
open Go.ChangeShapes Go.WideShapes Go.ChangeAt Go.RowKit Words Go.Sort
open Go.Proofs.Ytodnjeahjalinaa.Stab (Laid below_grow mixedO Tot sortT nti OwnI St Cmpr Agr lessOf stable10 sortT_length nti_get)
set_option linter.unusedVariables false

theorem at_nat (l : List Fil) (i : Nat) : at_ l (i : Int) = nth l i := by unfold at_; rw [Int.toNat_natCast]
theorem cfI_same {l : List Fil} {i j : Nat} (h : (nth l i).need = (nth l j).need) : cfI l i j = (nth l i).wear - (nth l j).wear := by unfold cfI; rw [at_nat, at_nat, if_pos h]
theorem cfI_diff {l : List Fil} {i j : Nat} (h : ¬ (nth l i).need = (nth l j).need) : cfI l i j = (nth l i).need - (nth l j).need := by unfold cfI; rw [at_nat, at_nat, if_neg h]
theorem laid_drew (W : World) (n : Nat) : Laid W (W.drewN n) := ⟨n, #[], by rw [grow_empty]⟩
set_option maxHeartbeats 1000000 in
/-- The document's comparison of two places. -/
theorem closure26 (b g o n c : Nat) (l : List Fil) (W : World) (hb : W.cell? ⟨b, 0, none⟩ = some (.slice (some ⟨g, o, none⟩) n c)) (h : Fl W W.heap.size (some ⟨g, o, none⟩) n c l) (hr : right l = true) (i j : Nat) (hi : i < n) (hj : j < n) :
    Calls Try.prog 26 #[.int .i64 i, .int .i64 j, .pointer (some ⟨b, 0, none⟩)] W fun e w' => e = .returned (.int .i64 (cfI l i j)) ∧ Laid W w' := by
  have hl := h.len
  obtain ⟨c0, c1, c2⟩ := Fl.cells h rfl (nth_get (l := l) (k := i) (by omega))
  obtain ⟨d0, d1, d2⟩ := Fl.cells h rfl (nth_get (l := l) (k := j) (by omega))
  have r1 := right_nth hr (k := i) (by omega)
  have r2 := right_nth hr (k := j) (by omega)
  have HS := Lib.hid (cfI_same (l := l) (i := i) (j := j))
  have HD := Lib.hid (cfI_diff (l := l) (i := i) (j := j))
  obtain ⟨x, hx⟩ : ∃ x, x = nth l i := ⟨_, rfl⟩
  obtain ⟨y, hy⟩ : ∃ y, y = nth l j := ⟨_, rfl⟩
  rw [← hx] at c0 c1 c2 r1
  rw [← hy] at d0 d1 d2 r2
  simp only [← hx, ← hy] at HS HD
  obtain ⟨r10, r11, r12, r13, r14⟩ := r1
  obtain ⟨r20, r21, r22, r23, r24⟩ := r2
  clear hx hy h hl hr c1 d1
  obtain ⟨xn, xf, xw⟩ := x
  obtain ⟨yn, yf, yw⟩ := y
  simp only at c0 c2 d0 d2 r10 r11 r12 r13 r14 r20 r21 r22 r23 r24 HS HD
  by_cases he : xn = yn
  · have hne : (xn != yn) = false := by rw [bne_eq_false_iff_eq]; exact he
    have HS := Lib.hid (HS.out he)
    have hwr : IntKind.i64.wrap (xw - yw) = xw - yw := by rw [IntKind.wrap_i64]; omega
    clear he HD
    go_enter Try.func26, Try.ntmps26
    go_wp2_with fail
    go_quiet (fail)
    go_wp2_with fail
    go_quiet (fail)
    go_wp2_with fail
    go_ret
    exact ⟨ret_int HS.out.symm, by first | exact laid_drew _ _ | (rw [World.drewN_drewN]; exact laid_drew _ _)⟩
  · have hne : (xn != yn) = true := by rw [bne_iff_ne]; exact he
    have HD := Lib.hid (HD.out he)
    have hwr : IntKind.i64.wrap (xn - yn) = xn - yn := by rw [IntKind.wrap_i64]; omega
    clear he HS
    go_enter Try.func26, Try.ntmps26
    go_wp2_with fail
    go_quiet (fail)
    go_wp2_with fail
    go_quiet (fail)
    go_wp2_with fail
    go_ret
    exact ⟨ret_int HD.out.symm, by first | exact laid_drew _ _ | (rw [World.drewN_drewN]; exact laid_drew _ _)⟩
end Go.Proofs.Ytodnjeahjalinaa.Vic
