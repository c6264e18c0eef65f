/-
  What is asked of the program's own functions; the example that the laws run ahead.
-/
import Derived.Test.YtkhcaobmohppnaaSEqs
namespace Go.Proofs.Ytkhcaobmohppnaa.Spc
open Go.ChangeShapes Go.WideShapes Go.ChangeAt Go.RowKit Words Go.Sort
set_option linter.unusedVariables false

/-- The first blocks fit an int. -/
def WfG (l : List Gp) : Prop := ∀ g ∈ l, g.a ≤ 9223372036854775807
theorem wf_ok {s : Int} {l : List Gp} (h : okRow s l = true) : WfG l := fun g hg => by
  obtain ⟨h1, h2, h3⟩ := ok_ch h
  have := h3.each g hg
  omega
structure Con : Prop where
  step : ∀ (B : Nat) (A : Option Addr) (n c : Nat) (l : List Gp) (s : Int) (o : Sp) (w : World), Gps w B A n c l → WfG l → B ≤ w.heap.size → Calls Try.prog 9 #[.int .i64 s, .slice A n c, sval o] w (NS w s l o)
  right : ∀ (B : Nat) (A : Option Addr) (n c : Nat) (l : List Gp) (w : World), Gps w B A n c l → WfG l → B ≤ w.heap.size → Calls Try.prog 12 #[.slice A n c] w fun e w' => e = .returned (.bool (va 4096 l)) ∧ Below w.heap.size w w'
  play : ∀ (B : Nat) (A : Option Addr) (n c : Nat) (ops : List Sp) (s : Int) (w : World), Ops w B A n c ops → B ≤ w.heap.size → n * 24 ≤ 140737488351232 →
    Calls Try.prog 14 #[.int .i64 s, .slice A n c] w fun e w' => ∃ A1 c1 A2 c2, e = .returned (.tuple #[.slice A1 (pans s ops).length c1, .slice A2 (pgaps s ops).length c2, .int .i64 (perr s)]) ∧
      OwnAn w' w.heap.size A1 (pans s ops).length c1 (pans s ops) ∧ OwnGp w' w.heap.size A2 (pgaps s ops).length c2 (pgaps s ops) ∧ Below w.heap.size w w'
def exOps : List Sp := [⟨1, 0, 3⟩, ⟨1, 0, 2⟩, ⟨3, 0, 3⟩, ⟨2, 0, 4⟩, ⟨1, 0, 4⟩]
def exAns : List An := [⟨0, 0⟩, ⟨0, 3⟩, ⟨0, 0⟩, ⟨0, 5⟩, ⟨4, 0⟩]
def exGaps : List Gp := [⟨0, 3⟩, ⟨9, 1⟩]
theorem ex_is : pans 10 exOps = exAns ∧ pgaps 10 exOps = exGaps ∧ perr 10 = 0 := by decide +kernel
set_option maxHeartbeats 4000000 in
theorem alive17 (CON : Con) (w : World) : Calls Try.prog 17 #[] w fun e w' => e = .returned (.bool true) ∧ Below w.heap.size w w' := by
  have HO : Ops (w.alloc (.cells (pcells exOps).toArray 24)) (w.heap.size + 1) (some ⟨w.heap.size, 0, none⟩) 5 5 exOps := Words.Rd.new w 24 _ (0, 0) _ 5 (by simp [pcells, exOps]) rfl (by unfold maxLen; omega)
  have H1 := CON.play _ _ 5 5 exOps 10 _ HO (by rw [World.size_alloc]; exact Nat.le_refl _) (by omega)
  rw [ex_is.1, ex_is.2.1, ex_is.2.2] at H1
  have H1 := Lib.hid H1
  have B1 := Lib.hid (boxed w (.cells (pcells exOps).toArray 24))
  clear HO
  go_enter Try.func17, Try.ntmps17
  go_wp2_with fail
  refine (H1.out).mono ?_; rintro e w1 ⟨A1, c1, A2, c2, rfl, o1, o2, b1⟩
  have B2 := Lib.hid (B1.out.trans (b1.mono B1.out.size))
  have O2 := Lib.hid o2
  have NA : Ans (w1.alloc (.cells (ycells exAns).toArray 27)) (w1.heap.size + 1) (some ⟨w1.heap.size, 0, none⟩) 5 5 exAns := Words.Rd.new w1 27 _ (0, 0) _ 5 (by simp [ycells, exAns]) rfl (by unfold maxLen; omega)
  have bn := boxed w1 (.cells (ycells exAns).toArray 27)
  have B3 := Lib.hid (B2.out.trans (bn.mono B2.out.size))
  have E1 := Lib.hid (equal16_yes _ _ A1 (some ⟨w1.heap.size, 0, none⟩) 5 5 c1 5 _ _ _ (o1.below bn (Nat.le_refl _)).ans NA rfl)
  have O3 := Lib.hid (O2.out.below bn (Nat.le_refl _))
  clear o1 o2 b1 NA bn
  go_wp2_with fail
  refine (E1.out).mono ?_; rintro e w3 ⟨rfl, L3⟩
  have B4 := Lib.hid (B3.out.trans (L3.below.mono B3.out.size))
  have O4 := Lib.hid (O3.out.below L3.below (Nat.le_refl _))
  have NG : Gps (w3.alloc (.cells (lcells exGaps).toArray 36)) (w3.heap.size + 1) (some ⟨w3.heap.size, 0, none⟩) 2 2 exGaps := Words.Rd.new w3 36 _ (0, 0) _ 2 (by simp [lcells, exGaps]) rfl (by unfold maxLen; omega)
  have bn := boxed w3 (.cells (lcells exGaps).toArray 36)
  have B5 := Lib.hid (B4.out.trans (bn.mono B4.out.size))
  have E2 := Lib.hid (equal13_yes _ _ A2 (some ⟨w3.heap.size, 0, none⟩) 2 2 c2 2 _ _ _ (O4.out.below bn (Nat.le_refl _)).gps NG rfl)
  clear L3 NG bn
  go_wp2_with fail
  refine (E2.out).mono ?_; rintro e w5 ⟨rfl, L5⟩
  have B6 := Lib.hid (B5.out.trans (L5.below.mono B5.out.size))
  clear L5
  go_wp2_with fail
  go_ret
  exact ⟨rfl, B6.out⟩
end Go.Proofs.Ytkhcaobmohppnaa.Spc
