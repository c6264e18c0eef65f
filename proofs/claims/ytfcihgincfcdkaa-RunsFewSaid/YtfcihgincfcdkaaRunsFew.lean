/-
  A put leaves at most two runs more, a cut at most one more.
-/
import Derived.Test.YtfcihgincfcdkaaRows
import Derived.Test.YtfcihgincfcdkaaFrame
import Derived.Test.YtfcihgincfcdkaaRFacts
import Derived.Test.YtfcihgincfcdkaaAlive
import Derived.WalkKit
import Derived.ProofKit
import Derived.OpenShut
import Derived.ShutString
import Derived.ChangeOld
import Derived.Below
import Derived.SizedLaws
import Derived.RegionTactic
import Derived.Deep.RegionWith
import Derived.Deep.CutBlock
import Derived.ChangeAlike
namespace Go.Proofs.Ytfcihgincfcdkaa.runsFew
open Go.ChangeShapes Go.WideShapes Go.ChangeAt Go.RowKit Words Go.Proofs.Ytfcihgincfcdkaa.Rns
open Go.ChangeMaps (open_string shut_string)
set_option linter.unusedVariables false

theorem own : ownKnob Try.prog.godebug = none := by kernel_rfl
theorem laidOut : laidOutB Try.prog = true := by kernel_rfl

set_option maxRecDepth 20000 in
set_option maxHeartbeats 4000000 in
/-- The walk: the Go text returns true and writes nothing that was there. -/
theorem walk (a0 : Option Addr) (len0 cap0 : Nat) (z0 : List Nop) (o1 : Nop) (w : World) (w0 : Rns w w.heap.size a0 len0 cap0 z0)  :
    Calls Try.prog 9 #[.slice a0 len0 cap0, oval o1] w fun e w' => e = .returned (.bool true) ∧ Below w.heap.size w w' := by
  have H := Lib.hid w0
  obtain ⟨wb, hwb⟩ : ∃ wb, w.alloc (.cells (rcells o1).toArray 34) = wb := ⟨_, rfl⟩
  have BX : Hid (Below w.heap.size w wb) := Lib.hid (by rw [← hwb]; exact boxed w _)
  have GX : Hid (Whole wb w.heap.size 34 (rcells o1).toArray) := Lib.hid (by rw [← hwb]; exact Whole.new w 34 _)
  have HA := Lib.hid (alive18 wb)
  have HP := fun (x : World) (b : Below wb.heap.size wb x) => put17 w.heap.size a0 len0 cap0 z0 o1 x (Words.Rd.below H.out (BX.out.trans (b.mono BX.out.size)) (Nat.le_refl _)) (Nat.le_trans BX.out.size b.size)
  have HC := fun (x : World) (b : Below wb.heap.size wb x) => cut14 w.heap.size a0 len0 cap0 z0 o1.a o1.m x (Words.Rd.below H.out (BX.out.trans (b.mono BX.out.size)) (Nat.le_refl _)) (Nat.le_trans BX.out.size b.size)
  have FP := fun h => few_put (l := z0) (r := o1) h
  have FC := fun h => few_cut (l := z0) (a := o1.a) (m := o1.m) h
  have RP := fun h => rt_few (ok_of_pe (l := z0) (r := o1) h).1
  have RC := fun h => rt_few (ok_of_ce (l := z0) (a := o1.a) (m := o1.m) h).1
  have HL := w0.len
  rw [HL] at FP FC RP RC
  generalize pl z0 o1 = ps at *
  generalize cl z0 o1.a o1.m = cs at *
  generalize pe z0 o1 = en at *
  generalize ce z0 o1.a o1.m = cn at *
  have HP := Lib.hid HP
  have HC := Lib.hid HC
  have FP := Lib.hid FP
  have FC := Lib.hid FC
  have RP := Lib.hid RP
  have RC := Lib.hid RC
  obtain ⟨ra, rd, rm⟩ := o1
  have HWB : Hid (w.alloc (.cells #[.int .i64 ra, .int .i64 rd, .int .i64 rm] 34) = wb) := Lib.hid hwb
  unfold oval rval
  unfold rval at HP
  simp only at HP HC ⊢
  clear hwb
  go_enter Try.func9, Try.ntmps9
  go_wp2_with fail
  rw [HWB.out]
  refine (HA.out).mono ?_; rintro e x1 ⟨rfl, b1⟩
  have B1 := Lib.hid b1
  have g0 := Whole.cell (whole_below2 GX.out b1) 0
  have g1 := Whole.cell (whole_below2 GX.out b1) 1
  have g2 := Whole.cell (whole_below2 GX.out b1) 2
  simp [rcells] at g0 g1 g2
  clear b1
  go_wp2_with fail
  refine (HP.out _ B1.out).mono ?_; rintro e x2 ⟨A2, c2, rfl, p2, b2⟩
  have B2 := Lib.hid (B1.out.trans (b2.mono B1.out.size))
  have k0 := Whole.cell (whole_below2 GX.out B2.out) 0
  have k1 := Whole.cell (whole_below2 GX.out B2.out) 1
  have k2 := Whole.cell (whole_below2 GX.out B2.out) 2
  simp [rcells] at k0 k1 k2
  clear p2 b2 g0 g1 g2
  go_wp2_with fail
  refine (HC.out _ B2.out).mono ?_; rintro e x3 ⟨A3, c3, rfl, p3, b3⟩
  have B3 := Lib.hid (B2.out.trans (b3.mono B2.out.size))
  clear p3 b3 k0 k1 k2
  obtain ⟨pn, hpn⟩ : ∃ pn, pn = ps.length := ⟨_, rfl⟩
  obtain ⟨cm, hcm⟩ : ∃ cm, cm = cs.length := ⟨_, rfl⟩
  rw [← hpn] at FP
  rw [← hcm] at FC
  rw [← hpn, ← hcm]
  clear hpn hcm
  by_cases e1 : en = 0
  · have f1 := FP.out e1
    have f2 := RP.out e1
    have hw1 : IntKind.i64.wrap ((len0 : Int) + 2) = (len0 : Int) + 2 := by rw [IntKind.wrap_i64]; omega
    have hl1 : (pn : Int) ≤ (len0 : Int) + 2 := by omega
    subst e1
    by_cases e2 : cn = 0
    · have f3 := FC.out e2
      have hw2 : IntKind.i64.wrap ((len0 : Int) + 1) = (len0 : Int) + 1 := by rw [IntKind.wrap_i64]; omega
      have hl2 : (cm : Int) ≤ (len0 : Int) + 1 := by omega
      subst e2
      clear f1 f2 f3
      go_wp2_with fail
      go_ret
      exact ⟨rfl, BX.out.trans (B3.out.mono BX.out.size)⟩
    · have hb2 : (cn != 0) = true := by rw [bne_iff_ne]; exact e2
      clear e2 f1 f2
      go_wp2_with fail
      go_ret
      exact ⟨rfl, BX.out.trans (B3.out.mono BX.out.size)⟩
  · have hb1 : (en != 0) = true := by rw [bne_iff_ne]; exact e1
    clear e1
    by_cases e2 : cn = 0
    · have f3 := FC.out e2
      have f4 := RC.out e2
      have hw2 : IntKind.i64.wrap ((len0 : Int) + 1) = (len0 : Int) + 1 := by rw [IntKind.wrap_i64]; omega
      have hl2 : (cm : Int) ≤ (len0 : Int) + 1 := by omega
      subst e2
      clear f3 f4
      go_wp2_with fail
      go_ret
      exact ⟨rfl, BX.out.trans (B3.out.mono BX.out.size)⟩
    · have hb2 : (cn != 0) = true := by rw [bne_iff_ne]; exact e2
      clear e2
      go_wp2_with fail
      go_ret
      exact ⟨rfl, BX.out.trans (B3.out.mono BX.out.size)⟩

set_option maxRecDepth 100000 in
theorem contract (H : Type) (enc : TypeId × Value → H) (W : World) (base : Nat) (args : Array Value) (ds gs : List (DataW H)) (before : List MemPlace)
    (hval : ∀ (j : Nat) t v, Try.f9.params[j]? = some t → args[j]? = some v → Value.okWide Try.prog W .any base t v)
    (hW : DataW.Whole enc Try.prog Try.f9.params.toList Rows.runsFewSpec.vars false W args.toList ds gs before) :
    Calls Try.prog 9 args W fun e W' => ∃ v, e = .returned v ∧ Rows.runsFewSpec.post enc Try.prog Try.f9 false true false false W args v W' := by
  have hW' := hW
  obtain ⟨p, q, hA0, hV, rfl, hfz, hnd⟩ := hW
  have hA : DataW.TrodAll enc Try.prog W 0 (fun _ => true) true Try.f9.params.toList args.toList ds p := hA0
  rw [Try.params9] at hA hval
  obtain ⟨v0, vs0, d0, ds0, p0, q0, hargs, rfl, rfl, h0, rr0⟩ := trodAll_cons hA
  obtain ⟨v1, vs1, d1, ds1, p1, q1, rfl, rfl, rfl, h1, rr1⟩ := trodAll_cons rr0
  obtain ⟨rfl, rfl, rfl⟩ := trodAll_nil rr1
  obtain rfl : args = #[v0, v1] := by cases args; simp_all
  obtain ⟨rfl, rfl⟩ := trodVars_none hV
  obtain ⟨a0, len0, cap0, rfl⟩ := okWide_slice Try.underlying22 (hval 0 22 v0 rfl rfl)
  have k0 := h0
  have lt0 : ∀ x ∈ p0, x.block < W.heap.size := by obtain ⟨m, hm⟩ := k0; exact DataW.trod_lt m _ _ _ hm
  obtain ⟨⟨z0, w0⟩, u0⟩ := open_ops h0
  have k1 := h1
  have lt1 : ∀ x ∈ p1, x.block < W.heap.size := by obtain ⟨m, hm⟩ := k1; exact DataW.trod_lt m _ _ _ hm
  obtain ⟨o1, rfl⟩ := open_op (hval 1 34 v1 rfl rfl) h1
  clear hA0
  refine (walk a0 len0 cap0 z0 o1 W w0).mono fun e W' ⟨he, bel⟩ => ?_
  subst he
  exact ⟨_, rfl, _, _, _, [], _, [], hW', trodAll_mk1 (shut_bool Try.underlying4 _), (trodAll_cons_mk (Below.trod laidOut (by kernel_rfl) (of_decide_eq_true (by kernel_rfl)) k0 bel lt0) (trodAll_cons_mk (Below.trod laidOut (by kernel_rfl) (of_decide_eq_true (by kernel_rfl)) k1 bel lt1) trodAll_mk0)), rfl, bel.frame _, fun h => by cases h⟩

set_option maxRecDepth 100000 in
theorem lifted (os : Os) (started : os.Started) (H : Type) (enc : TypeId × Value → H) :
    ReturnsInHanded {} Try.checked os 9 .any (Rows.runsFewSpec.pre6 enc Try.prog Try.f9 Rows.runsFewRow.domain false) (Rows.runsFewSpec.post enc Try.prog Try.f9 false true false false) := by
  refine returnsInHanded_of_change (C := Try.checked) own started (by kernel_rfl) Try.func9
    (ChangeSpec.witness6 (enc := enc) (C := Try.checked) false ⟨#[], #[.slice none 0 0, .agg #[.int .i64 0, .int .i64 0, .int .i64 0]], []⟩ 8 (by kernel_rfl) (by kernel_rfl) (by kernel_rfl) (by kernel_rfl)) ?_
  intro W base args ds gs before hval hW _ _
  exact contract H enc W base args ds gs before hval hW

theorem over : Rows.runsFewRow.holds Try.pinned (OpenSpec.ofChange Rows.runsFewSpec) :=
  OpenClaim.holds_of_wide 9 Try.f9 rfl rfl rfl rfl rfl rfl rfl ⟨rfl, rfl, rfl, rfl, rfl⟩ rfl rfl rfl rfl rfl (by kernel_rfl) Try.func9 (by kernel_rfl)
    (of_decide_eq_true (by kernel_rfl)) (by unfold Func.isWrapper; first | (rw [if_pos (by decide +kernel)]; kernel_rfl) | (rw [if_neg (by decide +kernel)]; exact ⟨rfl, rfl⟩))
    (fun os started H enc _ => lifted os started H enc)

/-- ████ THE STATEMENT ████ -/
theorem proved : Rows.RunsFewSaid := over
#print axioms proved
end Go.Proofs.Ytfcihgincfcdkaa.runsFew
