/-
  There are as many logical numbers as good blocks, for all arguments.
-/
import Derived.Test.YtocmbknccjnggaaRows
import Derived.Test.YtocmbknccjnggaaFrame
import Derived.WalkKit
import Derived.ProofKit
import Derived.OpenShut
import Derived.ShutString
import Derived.ChangeOld
import Derived.Below
import Derived.SizedLaws
import Derived.RegionTactic
import Derived.Deep.RegionWith
import Derived.Deep.CutBlock
import Derived.ChangeAlike
namespace Go.Proofs.Ytocmbknccjnggaa.badCount
open Go.ChangeShapes Go.WideShapes Go.ChangeAt Go.RowKit Words Go.Proofs.Ytocmbknccjnggaa.Bad
open Go.ChangeMaps (open_string shut_string)
set_option linter.unusedVariables false

theorem own : ownKnob Try.prog.godebug = none := by kernel_rfl
theorem laidOut : laidOutB Try.prog = true := by kernel_rfl

set_option maxRecDepth 20000 in
set_option maxHeartbeats 4000000 in
/-- The walk: the Go text returns true and writes nothing that was there. -/
theorem walk (a0 : Int) (a1 : Option Addr) (len1 cap1 : Nat) (z1 : List Int) (w : World) (w0 : (Lit.int .i64 a0).wf = true) (w1 : Ints w w.heap.size a1 len1 cap1 z1)  :
    Calls Try.prog 6 #[.int .i64 a0, .slice a1 len1 cap1] w fun e w' => e = .returned (.bool true) ∧ Below w.heap.size w w' := by
  have HA := Lib.hid (alive18 w)
  have L : Hid (z1.length = len1) := Lib.hid (Ints.len w1)
  cases hr : right a0 z1 with
  | false =>
    have HR := Lib.hid (fun wa (hb : Below w.heap.size w wa) => right10 _ _ _ _ a0 z1 wa (Rd.below w1 hb (Nat.le_refl _)))
    rw [hr] at HR
    clear hr
    go_enter Try.func6, Try.ntmps6
    go_wp2_with fail
    refine (HA.out).mono ?_; rintro e wa ⟨rfl, hb⟩
    have B1 := Lib.hid hb
    go_wp2_with fail
    refine (HR.out wa hb).mono ?_; rintro e w' ⟨rfl, rfl⟩
    go_wp2_with fail
    go_ret
    exact ⟨rfl, B1.out⟩
  | true =>
    have HR := Lib.hid (fun wa (hb : Below w.heap.size w wa) => right10 _ _ _ _ a0 z1 wa (Rd.below w1 hb (Nat.le_refl _)))
    rw [hr] at HR
    have hbl := (right_iff.1 hr).1
    have hl := right_len hr
    rw [L.out] at hl
    have e1 : IntKind.i64.wrap (a0 - (len1 : Int)) = a0 - len1 := IntWalk.i64_in _ (by omega)
    have e2 : IntKind.i64.wrap (a0 - (len1 : Int) - 1) = a0 - len1 - 1 := IntWalk.i64_in _ (by omega)
    have HF1 := Lib.hid (fun wa (hb : Below w.heap.size w wa) => find7 _ _ _ _ a0 z1 (a0 - len1) wa (Rd.below w1 hb (Nat.le_refl _)))
    have HF2 := Lib.hid (fun wa (hb : Below w.heap.size w wa) => find7 _ _ _ _ a0 z1 (a0 - len1 - 1) wa (Rd.below w1 hb (Nat.le_refl _)))
    have f1 : ferr a0 z1 (a0 - len1) = 3 := ferr_none hr (.inr (by rw [L.out]; omega))
    have v1 : fval a0 z1 (a0 - len1) = 0 := fval_no (by rw [f1]; decide)
    rw [f1, v1] at HF1
    unfold two at HF1 HF2
    by_cases hlt : (len1 : Int) < a0
    · have f2 : ferr a0 z1 (a0 - len1 - 1) = 0 := ferr_ok hr (by omega) (by rw [L.out]; omega)
      have hv := (find_in f2).2.1
      rw [← fval_ok f2] at hv
      rw [f2] at HF2
      have q1 : decide ((len1 : Int) < a0) = true := by simp [hlt]
      generalize fval a0 z1 (a0 - len1 - 1) = v at *
      have q2 : decide (v < a0) = true := by simp [hv]
      clear hr f1 v1 f2
      go_enter Try.func6, Try.ntmps6
      go_wp2_with fail
      refine (HA.out).mono ?_; rintro e wa ⟨rfl, hb⟩
      have B1 := Lib.hid hb
      go_wp2_with fail
      refine (HR.out wa hb).mono ?_; rintro e w' ⟨rfl, rfl⟩
      go_wp2_with fail
      refine (HF1.out wa hb).mono ?_; rintro e w' ⟨rfl, rfl⟩
      go_wp2_with fail
      refine (HF2.out wa hb).mono ?_; rintro e w' ⟨rfl, rfl⟩
      go_wp2_with fail
      go_ret
      exact ⟨ret_bool (by rfl), B1.out⟩
    · have f2 : ferr a0 z1 (a0 - len1 - 1) = 3 := ferr_none hr (by rw [L.out]; omega)
      have v2 : fval a0 z1 (a0 - len1 - 1) = 0 := fval_no (by rw [f2]; decide)
      rw [f2, v2] at HF2
      have q1 : decide ((len1 : Int) < a0) = false := by simp [hlt]
      clear hr f1 v1 f2 v2
      go_enter Try.func6, Try.ntmps6
      go_wp2_with fail
      refine (HA.out).mono ?_; rintro e wa ⟨rfl, hb⟩
      have B1 := Lib.hid hb
      go_wp2_with fail
      refine (HR.out wa hb).mono ?_; rintro e w' ⟨rfl, rfl⟩
      go_wp2_with fail
      refine (HF1.out wa hb).mono ?_; rintro e w' ⟨rfl, rfl⟩
      go_wp2_with fail
      refine (HF2.out wa hb).mono ?_; rintro e w' ⟨rfl, rfl⟩
      go_wp2_with fail
      go_ret
      exact ⟨ret_bool (by rfl), B1.out⟩

set_option maxRecDepth 100000 in
theorem contract (H : Type) (enc : TypeId × Value → H) (W : World) (base : Nat) (args : Array Value) (ds gs : List (DataW H)) (before : List MemPlace)
    (hval : ∀ (j : Nat) t v, Try.f6.params[j]? = some t → args[j]? = some v → Value.okWide Try.prog W .any base t v)
    (hW : DataW.Whole enc Try.prog Try.f6.params.toList Rows.badCountSpec.vars false W args.toList ds gs before) :
    Calls Try.prog 6 args W fun e W' => ∃ v, e = .returned v ∧ Rows.badCountSpec.post enc Try.prog Try.f6 false true false false W args v W' := by
  have hW' := hW
  obtain ⟨p, q, hA0, hV, rfl, hfz, hnd⟩ := hW
  have hA : DataW.TrodAll enc Try.prog W 0 (fun _ => true) true Try.f6.params.toList args.toList ds p := hA0
  rw [Try.params6] at hA hval
  obtain ⟨v0, vs0, d0, ds0, p0, q0, hargs, rfl, rfl, h0, rr0⟩ := trodAll_cons hA
  obtain ⟨v1, vs1, d1, ds1, p1, q1, rfl, rfl, rfl, h1, rr1⟩ := trodAll_cons rr0
  obtain ⟨rfl, rfl, rfl⟩ := trodAll_nil rr1
  obtain rfl : args = #[v0, v1] := by cases args; simp_all
  obtain ⟨rfl, rfl⟩ := trodVars_none hV
  obtain ⟨a0, rfl, rfl, rfl, w0⟩ := open_int Try.underlying3 (hval 0 3 v0 rfl rfl) h0
  obtain ⟨a1, len1, cap1, rfl⟩ := okWide_slice Try.underlying22 (hval 1 22 v1 rfl rfl)
  have k1 := h1
  have lt1 : ∀ x ∈ p1, x.block < W.heap.size := by obtain ⟨m, hm⟩ := k1; exact DataW.trod_lt m _ _ _ hm
  obtain ⟨⟨z1, w1⟩, u1⟩ := open_ints h1
  clear hA0
  refine (walk a0 a1 len1 cap1 z1 W w0 w1).mono fun e W' ⟨he, bel⟩ => ?_
  subst he
  exact ⟨_, rfl, _, _, _, [], _, [], hW', trodAll_mk1 (shut_bool Try.underlying4 _), (trodAll_cons_mk (shut_int Try.underlying3 w0) (trodAll_cons_mk (Below.trod laidOut (by kernel_rfl) (of_decide_eq_true (by kernel_rfl)) k1 bel lt1) trodAll_mk0)), rfl, bel.frame _, fun h => by cases h⟩

set_option maxRecDepth 100000 in
theorem lifted (os : Os) (started : os.Started) (H : Type) (enc : TypeId × Value → H) :
    ReturnsInHanded {} Try.checked os 6 .any (Rows.badCountSpec.pre6 enc Try.prog Try.f6 Rows.badCountRow.domain false) (Rows.badCountSpec.post enc Try.prog Try.f6 false true false false) := by
  refine returnsInHanded_of_change (C := Try.checked) own started (by kernel_rfl) Try.func6
    (ChangeSpec.witness6 (enc := enc) (C := Try.checked) false ⟨#[], #[.int .i64 0, .slice none 0 0], []⟩ 8 (by kernel_rfl) (by kernel_rfl) (by kernel_rfl) (by kernel_rfl)) ?_
  intro W base args ds gs before hval hW _ _
  exact contract H enc W base args ds gs before hval hW

theorem over : Rows.badCountRow.holds Try.pinned (OpenSpec.ofChange Rows.badCountSpec) :=
  OpenClaim.holds_of_wide 6 Try.f6 rfl rfl rfl rfl rfl rfl rfl ⟨rfl, rfl, rfl, rfl, rfl⟩ rfl rfl rfl rfl rfl (by kernel_rfl) Try.func6 (by kernel_rfl)
    (of_decide_eq_true (by kernel_rfl)) (by unfold Func.isWrapper; first | (rw [if_pos (by decide +kernel)]; kernel_rfl) | (rw [if_neg (by decide +kernel)]; exact ⟨rfl, rfl⟩))
    (fun os started H enc _ => lifted os started H enc)

/-- ████ THE STATEMENT ████ -/
theorem proved : Rows.BadCountSaid := over
#print axioms proved
end Go.Proofs.Ytocmbknccjnggaa.badCount
