/-
  FtlWear, walked under what is asked of Play.
-/
import Derived.Test.YtfohihdpohjmcaaCon
namespace Go.Proofs.Ytfohihdpohjmcaa.Ftl
open Go.ChangeShapes Go.WideShapes Go.ChangeAt Go.RowKit Words
set_option linter.unusedVariables false

set_option maxHeartbeats 4000000 in
theorem ftlWear_walk (HPC : PlayC) (B : Nat) (A0 : Option Addr) (n c : Nat) (l : List Fop) (w : World) (w0 : Ops w B A0 n c l) (hB : B ≤ w.heap.size) (wf : ∀ o ∈ l, Wf o) :
    Calls Try.prog 4 #[.slice A0 n c] w fun e w' => e = .returned (.bool true) ∧ Below w.heap.size w w' := by
  have HAL := Lib.hid (alive12 HPC w)
  have HP := Lib.hid (fun x (b : Below w.heap.size w x) => HPC _ _ _ _ l x (Words.Rd.below w0 b hB) (Nat.le_trans hB b.size) wf)
  have HG := Lib.hid (fun v e x h p => fplayed_ok (w := v) (w' := x) (l := l) (e := e) h p)
  have HN := Lib.hid (fun v e x h p => fplayed_bad (w := v) (w' := x) (l := l) (e := e) h p)
  have M13 := Lib.hid (fun B A n c l w h hn => max13 B A n c l w h hn)
  have M14 := Lib.hid (fun B A n c l w h hn => min14 B A n c l w h hn)
  clear w0 wf HPC
  by_cases hn : l.length ≤ 400
  · have HNN := Lib.hid hn
    clear hn
    go_enter Try.func4, Try.ntmps4
    go_wp2_with fail
    refine (HAL.out).mono ?_; rintro e x0 ⟨rfl, hb0⟩
    have B0 := Lib.hid hb0
    clear hb0
    go_wp2_with fail
    refine (HP.out _ B0.out).mono ?_; rintro e x1 hx
    obtain ⟨A1, c1, A2, wl, c2, rfl, hi1, hi2, hw, hb1⟩ := HG.out _ _ _ HNN.out hx
    have X2 := Lib.hid hi2
    have B1 := Lib.hid (next_below B0.out hb1 B0.out.size)
    have h1 := hw.near _ (maxU_mem (l := wl) (k := wl.length - 1) (by rw [hw.len]; decide)) _ (minU_mem (l := wl) (k := wl.length - 1) (by rw [hw.len]; decide))
    have h2 := hw.pos _ (minU_mem (l := wl) (k := wl.length - 1) (by rw [hw.len]; decide))
    have h3 := hw.pos _ (maxU_mem (l := wl) (k := wl.length - 1) (by rw [hw.len]; decide))
    have HM := Lib.hid (M13.out _ _ _ _ wl x1 X2.out (by decide))
    have HL := Lib.hid (M14.out _ _ _ _ wl x1 X2.out (by decide))
    unfold lmax at HM
    unfold lmin at HL
    generalize maxU wl (wl.length - 1) = mx at *
    generalize minU wl (wl.length - 1) = mn at *
    have hwr : IntKind.i64.wrap (mx - mn) = mx - mn := by rw [IntKind.wrap_i64]; omega
    have hd3 : mx - mn ≤ 3 := by omega
    have hmn : 0 ≤ mn := h2.1
    clear hx hi1 hi2 hw hb1 h1 h2 h3
    go_wp2_with fail
    refine (HM.out).mono ?_; rintro e x2 ⟨rfl, rfl⟩
    go_wp2_with fail
    refine (HL.out).mono ?_; rintro e x2 ⟨rfl, rfl⟩
    go_wp2_with fail
    refine (HL.out).mono ?_; rintro e x2 ⟨rfl, rfl⟩
    go_wp2_with fail
    go_ret
    exact ⟨rfl, B1.out⟩
  · have HNN := Lib.hid hn
    clear hn
    go_enter Try.func4, Try.ntmps4
    go_wp2_with fail
    refine (HAL.out).mono ?_; rintro e x0 ⟨rfl, hb0⟩
    have B0 := Lib.hid hb0
    clear hb0
    go_wp2_with fail
    refine (HP.out _ B0.out).mono ?_; rintro e x1 hx
    obtain ⟨A1, c1, A2, c2, rfl, hi1, hb1⟩ := HN.out _ _ _ HNN.out hx
    have B1 := Lib.hid (next_below B0.out hb1 B0.out.size)
    clear hx hi1 hb1
    go_wp2_with fail
    go_ret
    exact ⟨rfl, B1.out⟩
end Go.Proofs.Ytfohihdpohjmcaa.Ftl
