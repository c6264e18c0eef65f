/-
  Right and Find answer what the document says.
-/
import Derived.Test.YtfcihgincfcdkaaRows
import Derived.Test.YtfcihgincfcdkaaFrame
import Derived.Test.YtfcihgincfcdkaaRFind
import Derived.WalkKit
import Derived.ProofKit
import Derived.OpenShut
import Derived.ShutString
import Derived.ChangeOld
import Derived.Below
import Derived.SizedLaws
import Derived.RegionTactic
import Derived.Deep.RegionWith
import Derived.Deep.CutBlock
import Derived.ChangeAlike
namespace Go.Proofs.Ytfcihgincfcdkaa.runsFind
open Go.ChangeShapes Go.WideShapes Go.ChangeAt Go.RowKit Words Go.Proofs.Ytfcihgincfcdkaa.Rns
open Go.ChangeMaps (open_string shut_string)
set_option linter.unusedVariables false

theorem own : ownKnob Try.prog.godebug = none := by kernel_rfl
theorem laidOut : laidOutB Try.prog = true := by kernel_rfl

set_option maxRecDepth 20000 in
set_option maxHeartbeats 4000000 in
/-- The walk: the Go text returns true and writes nothing that was there. -/
theorem walk (a0 : Option Addr) (len0 cap0 : Nat) (z0 : List Nop) (a1 : Int) (w : World) (w0 : Rns w w.heap.size a0 len0 cap0 z0) (w1 : (Lit.int .i64 a1).wf = true)  :
    Calls Try.prog 3 #[.slice a0 len0 cap0, .int .i64 a1] w fun e w' => e = .returned (.bool true) ∧ Below w.heap.size w w' := by
  have H := Lib.hid w0
  have HF := Lib.hid (find10 w.heap.size a0 len0 cap0 z0 a1 w w0 (Nat.le_refl _))
  go_enter Try.func3, Try.ntmps3
  go_wp2_with fail
  refine (HF.out).mono ?_; rintro e x1 ⟨rfl, b1⟩
  have B1 := Lib.hid b1
  have HR := Lib.hid (right11 w.heap.size a0 len0 cap0 z0 x1 (Words.Rd.below H.out b1 (Nat.le_refl _)) b1.size)
  clear b1
  obtain ⟨fi, hfi⟩ : ∃ fi, fi = fv z0 a1 := ⟨_, rfl⟩
  obtain ⟨fj, hfj⟩ : ∃ fj, fj = fe z0 a1 := ⟨_, rfl⟩
  have FI := Lib.hid hfi
  have FJ := Lib.hid hfj
  rw [← hfi, ← hfj]
  clear hfi hfj
  go_wp2_with fail
  refine (HR.out).mono ?_; rintro e x2 ⟨rfl, b2⟩
  have B2 := Lib.hid (B1.out.trans (b2.mono B1.out.size))
  have HM := Lib.hid (mright12 w.heap.size a0 len0 cap0 z0 x2 (Words.Rd.below H.out B2.out (Nat.le_refl _)) B2.out.size)
  clear b2
  go_wp2_with fail
  refine (HM.out).mono ?_; rintro e x3 ⟨rfl, b3⟩
  have B3 := Lib.hid (B2.out.trans (b3.mono B2.out.size))
  have HM2 := Lib.hid (mright12 w.heap.size a0 len0 cap0 z0 x3 (Words.Rd.below H.out B3.out (Nat.le_refl _)) B3.out.size)
  clear b3
  cases hr : rt z0 with
  | false =>
    rw [hr] at HM2
    obtain ⟨q1, q2⟩ := find_bad a1 hr
    have e1 : fi = 0 := FI.out.trans q1
    have e2 : fj = 1 := FJ.out.trans q2
    clear hr q1 q2
    subst e1 e2
    go_wp2_with fail
    refine (HM2.out).mono ?_; rintro e x4 ⟨rfl, b4⟩
    have B4 := Lib.hid (B3.out.trans (b4.mono B3.out.size))
    clear b4
    go_wp2_with fail
    go_ret
    exact ⟨rfl, B4.out⟩
  | true =>
    rw [hr] at HM2
    have RT := Lib.hid hr
    have HMF := fun x4 (b4 : Below w.heap.size w x4) => mfind13 w.heap.size a0 len0 cap0 z0 a1 x4 (Words.Rd.below H.out b4 (Nat.le_refl _)) b4.size (rt_all hr)
    have RG := ma_range (l := z0) a1 fun r h => (okR_yes.1 (rt_all hr r h)).2.1
    obtain ⟨v, hv⟩ : ∃ v, v = ma z0 a1 := ⟨_, rfl⟩
    have HV := Lib.hid hv
    rw [← hv] at RG HMF
    have HMF := Lib.hid HMF
    clear hr hv
    rcases RG with rfl | hge
    · obtain ⟨q1, q2⟩ := find_none RT.out HV.out.symm
      have e1 : fi = 0 := FI.out.trans q1
      have e2 : fj = 3 := FJ.out.trans q2
      clear q1 q2
      subst e1 e2
      go_wp2_with fail
      refine (HM2.out).mono ?_; rintro e x4 ⟨rfl, b4⟩
      have B4 := Lib.hid (B3.out.trans (b4.mono B3.out.size))
      clear b4
      go_wp2_with fail
      refine (HMF.out _ B4.out).mono ?_; rintro e x5 ⟨rfl, b5⟩
      have B5 := Lib.hid (B4.out.trans (b5.mono B4.out.size))
      clear b5
      go_wp2_with fail
      go_ret
      exact ⟨rfl, B5.out⟩
    · obtain ⟨q1, q2⟩ := find_is RT.out (x := a1) (by rw [← HV.out]; omega)
      have e1 : fi = v := FI.out.trans (q1.trans HV.out.symm)
      have e2 : fj = 0 := FJ.out.trans q2
      clear q1 q2
      subst e1 e2
      go_wp2_with fail
      refine (HM2.out).mono ?_; rintro e x4 ⟨rfl, b4⟩
      have B4 := Lib.hid (B3.out.trans (b4.mono B3.out.size))
      clear b4
      go_wp2_with fail
      refine (HMF.out _ B4.out).mono ?_; rintro e x5 ⟨rfl, b5⟩
      have B5 := Lib.hid (B4.out.trans (b5.mono B4.out.size))
      clear b5
      go_wp2_with fail
      go_ret
      exact ⟨rfl, B5.out⟩

set_option maxRecDepth 100000 in
theorem contract (H : Type) (enc : TypeId × Value → H) (W : World) (base : Nat) (args : Array Value) (ds gs : List (DataW H)) (before : List MemPlace)
    (hval : ∀ (j : Nat) t v, Try.f3.params[j]? = some t → args[j]? = some v → Value.okWide Try.prog W .any base t v)
    (hW : DataW.Whole enc Try.prog Try.f3.params.toList Rows.runsFindSpec.vars false W args.toList ds gs before) :
    Calls Try.prog 3 args W fun e W' => ∃ v, e = .returned v ∧ Rows.runsFindSpec.post enc Try.prog Try.f3 false true false false W args v W' := by
  have hW' := hW
  obtain ⟨p, q, hA0, hV, rfl, hfz, hnd⟩ := hW
  have hA : DataW.TrodAll enc Try.prog W 0 (fun _ => true) true Try.f3.params.toList args.toList ds p := hA0
  rw [Try.params3] at hA hval
  obtain ⟨v0, vs0, d0, ds0, p0, q0, hargs, rfl, rfl, h0, rr0⟩ := trodAll_cons hA
  obtain ⟨v1, vs1, d1, ds1, p1, q1, rfl, rfl, rfl, h1, rr1⟩ := trodAll_cons rr0
  obtain ⟨rfl, rfl, rfl⟩ := trodAll_nil rr1
  obtain rfl : args = #[v0, v1] := by cases args; simp_all
  obtain ⟨rfl, rfl⟩ := trodVars_none hV
  obtain ⟨a0, len0, cap0, rfl⟩ := okWide_slice Try.underlying22 (hval 0 22 v0 rfl rfl)
  have k0 := h0
  have lt0 : ∀ x ∈ p0, x.block < W.heap.size := by obtain ⟨m, hm⟩ := k0; exact DataW.trod_lt m _ _ _ hm
  obtain ⟨⟨z0, w0⟩, u0⟩ := open_ops h0
  obtain ⟨a1, rfl, rfl, rfl, w1⟩ := open_int Try.underlying3 (hval 1 3 v1 rfl rfl) h1
  clear hA0
  refine (walk a0 len0 cap0 z0 a1 W w0 w1).mono fun e W' ⟨he, bel⟩ => ?_
  subst he
  exact ⟨_, rfl, _, _, _, [], _, [], hW', trodAll_mk1 (shut_bool Try.underlying4 _), (trodAll_cons_mk (Below.trod laidOut (by kernel_rfl) (of_decide_eq_true (by kernel_rfl)) k0 bel lt0) (trodAll_cons_mk (shut_int Try.underlying3 w1) trodAll_mk0)), rfl, bel.frame _, fun h => by cases h⟩

set_option maxRecDepth 100000 in
theorem lifted (os : Os) (started : os.Started) (H : Type) (enc : TypeId × Value → H) :
    ReturnsInHanded {} Try.checked os 3 .any (Rows.runsFindSpec.pre6 enc Try.prog Try.f3 Rows.runsFindRow.domain false) (Rows.runsFindSpec.post enc Try.prog Try.f3 false true false false) := by
  refine returnsInHanded_of_change (C := Try.checked) own started (by kernel_rfl) Try.func3
    (ChangeSpec.witness6 (enc := enc) (C := Try.checked) false ⟨#[], #[.slice none 0 0, .int .i64 0], []⟩ 8 (by kernel_rfl) (by kernel_rfl) (by kernel_rfl) (by kernel_rfl)) ?_
  intro W base args ds gs before hval hW _ _
  exact contract H enc W base args ds gs before hval hW

theorem over : Rows.runsFindRow.holds Try.pinned (OpenSpec.ofChange Rows.runsFindSpec) :=
  OpenClaim.holds_of_wide 3 Try.f3 rfl rfl rfl rfl rfl rfl rfl ⟨rfl, rfl, rfl, rfl, rfl⟩ rfl rfl rfl rfl rfl (by kernel_rfl) Try.func3 (by kernel_rfl)
    (of_decide_eq_true (by kernel_rfl)) (by unfold Func.isWrapper; first | (rw [if_pos (by decide +kernel)]; kernel_rfl) | (rw [if_neg (by decide +kernel)]; exact ⟨rfl, rfl⟩))
    (fun os started H enc _ => lifted os started H enc)

/-- ████ THE STATEMENT ████ -/
theorem proved : Rows.RunsFindSaid := over
#print axioms proved
end Go.Proofs.Ytfcihgincfcdkaa.runsFind
