/-
  VictimPlays holds for every input: Play returns what G2 says, for every list, every spread and every number of times.
-/
import Derived.Test.YtodnjeahjalinaaRows
import Derived.Test.YtodnjeahjalinaaRefP
import Derived.Test.YtodnjeahjalinaaEqs
import Derived.Test.YtodnjeahjalinaaFrame
import Derived.WalkKit
import Derived.ProofKit
import Derived.OpenShut
import Derived.ShutString
import Derived.ChangeOld
import Derived.Below
import Derived.SizedLaws
import Derived.RegionTactic
import Derived.Deep.RegionWith
import Derived.Deep.CutBlock
import Derived.ChangeAlike
namespace Go.Proofs.Ytodnjeahjalinaa.victimPlays
open Go.ChangeShapes Go.WideShapes Go.ChangeAt Go.RowKit Words Go.Proofs.Ytodnjeahjalinaa.Vic
open Go.ChangeMaps (open_string shut_string)
set_option linter.unusedVariables false

theorem own : ownKnob Try.prog.godebug = none := by kernel_rfl
theorem laidOut : laidOutB Try.prog = true := by kernel_rfl

set_option maxRecDepth 20000 in
set_option maxHeartbeats 4000000 in
/-- The walk: the Go text returns true and writes nothing that was there. -/
theorem walk (a0 : Option Addr) (len0 cap0 : Nat) (z0 : List Fil) (a1 : Int) (a2 : Int) (w : World) (w0 : Fl w w.heap.size a0 len0 cap0 z0) (w1 : (Lit.int .i64 a1).wf = true) (w2 : (Lit.int .i64 a2).wf = true)  :
    Calls Try.prog 4 #[.slice a0 len0 cap0, .int .i64 a1, .int .i64 a2] w fun e w' => e = .returned (.bool true) ∧ Below w.heap.size w w' := by
  have HP := Lib.hid (play14 _ _ _ _ z0 a1 a2 w w0 (Nat.le_refl _))
  have HG := Lib.hid (fun (wa : World) (b : Below w.heap.size w wa) => gplay15 _ _ _ _ z0 a1 a2 wa (Words.Rd.below w0 b (Nat.le_refl _)) b.size)
  clear w0 w1 w2
  unfold PlayedV at HP HG
  generalize perr z0 a1 a2 = k at *
  generalize pch z0 a1 a2 = ch at *
  generalize pls z0 a1 a2 = nx at *
  have hk : (k == k) = true := by simp
  go_enter Try.func4, Try.ntmps4
  go_wp2_with fail
  refine (HP.out).mono ?_; rintro e x1 ⟨A1, i, c1, A2, n, c2, rfl, i1⟩
  have I1 := Lib.hid i1
  clear i1
  go_wp2_with fail
  refine (HG.out _ I1.out.bel).mono ?_; rintro e x2 ⟨B1, j, d1, B2, m, d2, rfl, i2⟩
  have I3 := Lib.hid (I1.out.below i2.bel)
  have HQ := Lib.hid (equal16_yes _ _ A1 B1 i j c1 d1 ch ch x2 (Words.Rd.of_own I3.out.row) (Words.Rd.of_own i2.row) rfl)
  have HR := Lib.hid (fun (x3 : World) (b : Below x2.heap.size x2 x3) => equal17_yes _ _ A2 B2 n m c2 d2 nx nx x3 (I3.out.below b).fl.fl (i2.below b).fl.fl rfl)
  clear i2
  go_wp2_with fail
  refine (HQ.out).mono ?_; rintro e x3 ⟨rfl, hw⟩
  have HB := Lib.hid hw.below
  have B3 := Lib.hid (I3.out.bel.trans (hw.below.mono I3.out.bel.size))
  clear hw
  go_wp2_with fail
  refine (HR.out _ HB.out).mono ?_; rintro e x4 ⟨rfl, hw⟩
  have B4 := Lib.hid (B3.out.trans (hw.below.mono B3.out.size))
  clear hw
  go_wp2_with fail
  go_ret
  exact ⟨rfl, B4.out⟩

set_option maxRecDepth 100000 in
theorem contract (H : Type) (enc : TypeId × Value → H) (W : World) (base : Nat) (args : Array Value) (ds gs : List (DataW H)) (before : List MemPlace)
    (hval : ∀ (j : Nat) t v, Try.f4.params[j]? = some t → args[j]? = some v → Value.okWide Try.prog W .any base t v)
    (hW : DataW.Whole enc Try.prog Try.f4.params.toList Rows.victimPlaysSpec.vars false W args.toList ds gs before) :
    Calls Try.prog 4 args W fun e W' => ∃ v, e = .returned v ∧ Rows.victimPlaysSpec.post enc Try.prog Try.f4 false true false false W args v W' := by
  have hW' := hW
  obtain ⟨p, q, hA0, hV, rfl, hfz, hnd⟩ := hW
  have hA : DataW.TrodAll enc Try.prog W 0 (fun _ => true) true Try.f4.params.toList args.toList ds p := hA0
  rw [Try.params4] at hA hval
  obtain ⟨v0, vs0, d0, ds0, p0, q0, hargs, rfl, rfl, h0, rr0⟩ := trodAll_cons hA
  obtain ⟨v1, vs1, d1, ds1, p1, q1, rfl, rfl, rfl, h1, rr1⟩ := trodAll_cons rr0
  obtain ⟨v2, vs2, d2, ds2, p2, q2, rfl, rfl, rfl, h2, rr2⟩ := trodAll_cons rr1
  obtain ⟨rfl, rfl, rfl⟩ := trodAll_nil rr2
  obtain rfl : args = #[v0, v1, v2] := by cases args; simp_all
  obtain ⟨rfl, rfl⟩ := trodVars_none hV
  obtain ⟨a0, len0, cap0, rfl⟩ := okWide_slice Try.underlying22 (hval 0 22 v0 rfl rfl)
  have k0 := h0
  have lt0 : ∀ x ∈ p0, x.block < W.heap.size := by obtain ⟨m, hm⟩ := k0; exact DataW.trod_lt m _ _ _ hm
  obtain ⟨⟨z0, w0⟩, u0⟩ := open_fl h0
  obtain ⟨a1, rfl, rfl, rfl, w1⟩ := open_int Try.underlying3 (hval 1 3 v1 rfl rfl) h1
  obtain ⟨a2, rfl, rfl, rfl, w2⟩ := open_int Try.underlying3 (hval 2 3 v2 rfl rfl) h2
  clear hA0
  refine (walk a0 len0 cap0 z0 a1 a2 W w0 w1 w2).mono fun e W' ⟨he, bel⟩ => ?_
  subst he
  exact ⟨_, rfl, _, _, _, [], _, [], hW', trodAll_mk1 (shut_bool Try.underlying4 _), (trodAll_cons_mk (Below.trod laidOut (by kernel_rfl) (of_decide_eq_true (by kernel_rfl)) k0 bel lt0) (trodAll_cons_mk (shut_int Try.underlying3 w1) (trodAll_cons_mk (shut_int Try.underlying3 w2) trodAll_mk0))), rfl, bel.frame _, fun h => by cases h⟩

set_option maxRecDepth 100000 in
theorem lifted (os : Os) (started : os.Started) (H : Type) (enc : TypeId × Value → H) :
    ReturnsInHanded {} Try.checked os 4 .any (Rows.victimPlaysSpec.pre6 enc Try.prog Try.f4 Rows.victimPlaysRow.domain false) (Rows.victimPlaysSpec.post enc Try.prog Try.f4 false true false false) := by
  refine returnsInHanded_of_change (C := Try.checked) own started (by kernel_rfl) Try.func4
    (ChangeSpec.witness6 (enc := enc) (C := Try.checked) false ⟨#[], #[.slice none 0 0, .int .i64 0, .int .i64 0], []⟩ 8 (by kernel_rfl) (by kernel_rfl) (by kernel_rfl) (by kernel_rfl)) ?_
  intro W base args ds gs before hval hW _ _
  exact contract H enc W base args ds gs before hval hW

theorem over : Rows.victimPlaysRow.holds Try.pinned (OpenSpec.ofChange Rows.victimPlaysSpec) :=
  OpenClaim.holds_of_wide 4 Try.f4 rfl rfl rfl rfl rfl rfl rfl ⟨rfl, rfl, rfl, rfl, rfl⟩ rfl rfl rfl rfl rfl (by kernel_rfl) Try.func4 (by kernel_rfl)
    (of_decide_eq_true (by kernel_rfl)) (by unfold Func.isWrapper; first | (rw [if_pos (by decide +kernel)]; kernel_rfl) | (rw [if_neg (by decide +kernel)]; exact ⟨rfl, rfl⟩))
    (fun os started H enc _ => lifted os started H enc)

/-- ████ THE STATEMENT ████ -/
theorem proved : Rows.VictimPlaysSaid := over
#print axioms proved
end Go.Proofs.Ytodnjeahjalinaa.victimPlays
