/-
  Play answers what the document says.
-/
import Derived.Test.YtkhcaobmohppnaaRows
import Derived.Test.YtkhcaobmohppnaaSFrame
import Derived.Test.YtkhcaobmohppnaaDPlay
import Derived.WalkKit
import Derived.ProofKit
import Derived.OpenShut
import Derived.ShutString
import Derived.ChangeOld
import Derived.Below
import Derived.SizedLaws
import Derived.RegionTactic
import Derived.Deep.RegionWith
import Derived.Deep.CutBlock
import Derived.ChangeAlike
namespace Go.Proofs.Ytkhcaobmohppnaa.spacePlays
open Go.ChangeShapes Go.WideShapes Go.ChangeAt Go.RowKit Words Go.Proofs.Ytkhcaobmohppnaa.Spc
open Go.ChangeMaps (open_string shut_string)
set_option linter.unusedVariables false

theorem own : ownKnob Try.prog.godebug = none := by kernel_rfl
theorem laidOut : laidOutB Try.prog = true := by kernel_rfl

set_option maxRecDepth 100000 in
set_option maxHeartbeats 8000000 in
/-- The walk: the Go text returns true and writes nothing that was there. -/
theorem walk (a0 : Int) (a1 : Option Addr) (len1 cap1 : Nat) (z1 : List Nop) (w : World) (w0 : (Lit.int .i64 a0).wf = true) (w1 : Ops w w.heap.size a1 len1 cap1 z1) (r1 : cap1 * 24 ≤ 140737488351232) :
    Calls Try.prog 4 #[.int .i64 a0, .slice a1 len1 cap1] w fun e w' => e = .returned (.bool true) ∧ Below w.heap.size w w' := by
  have CON := con
  have H := Lib.hid w1
  have HP := CON.play w.heap.size a1 len1 cap1 z1 a0 w w1 (Nat.le_refl _) (by have := w1.le; omega)
  have HQ := fun (x : World) (b : Below w.heap.size w x) => nplay15 w.heap.size a1 len1 cap1 z1 a0 x (Words.Rd.below H.out b (Nat.le_refl _)) b.size (by have := H.out.le; omega)
  generalize pans a0 z1 = ps at *
  generalize pgaps a0 z1 = gs at *
  generalize perr a0 = en at *
  have HP := Lib.hid HP
  have HQ := Lib.hid HQ
  go_enter Try.func4, Try.ntmps4
  go_wp2_with fail
  refine (HP.out).mono ?_; rintro e x1 ⟨A1, c1, A2, c2, rfl, o1, o2, b1⟩
  have B1 := Lib.hid b1
  have O1 := Lib.hid o1
  have O2 := Lib.hid o2
  clear o1 o2 b1
  go_wp2_with fail
  refine (HQ.out _ B1.out).mono ?_; rintro e x2 ⟨A3, c3, A4, c4, rfl, o3, o4, b2⟩
  have B2 := Lib.hid (B1.out.trans (b2.mono B1.out.size))
  have E1 := Lib.hid (equal16_yes _ _ A1 A3 _ _ c1 c3 ps ps x2 (O1.out.below b2 (Nat.le_refl _)).ans o3.ans rfl)
  have E2 := Lib.hid (fun (x : World) (b : Below x2.heap.size x2 x) => equal13_yes _ _ A2 A4 _ _ c2 c4 gs gs x (((O2.out.below b2 (Nat.le_refl _)).below b (Nat.le_refl _))).gps ((o4.below b (Nat.le_refl _))).gps rfl)
  clear o3 o4 b2
  go_wp2_with fail
  refine (E1.out).mono ?_; rintro e x3 ⟨rfl, L3⟩
  have B3 := Lib.hid (B2.out.trans (L3.below.mono B2.out.size))
  have E3 := Lib.hid (E2.out _ L3.below)
  clear L3
  go_wp2_with fail
  refine (E3.out).mono ?_; rintro e x4 ⟨rfl, L4⟩
  have B4 := Lib.hid (B3.out.trans (L4.below.mono B3.out.size))
  clear L4
  go_wp2_with fail
  go_ret
  exact ⟨rfl, B4.out⟩

set_option maxRecDepth 100000 in
theorem contract (H : Type) (enc : TypeId × Value → H) (W : World) (base : Nat) (args : Array Value) (ds gs : List (DataW H)) (before : List MemPlace)
    (hval : ∀ (j : Nat) t v, Try.f4.params[j]? = some t → args[j]? = some v → Value.okWide Try.prog W .any base t v)
    (hW : DataW.Whole enc Try.prog Try.f4.params.toList Rows.spacePlaysSpec.vars false W args.toList ds gs before) (hsz : (DataW.weightsEach Try.prog (Try.f4.params.toList ++ Rows.spacePlaysSpec.plain.varTypes Try.prog) (ds ++ gs)).all (· ≤ reachBytes) = true) :
    Calls Try.prog 4 args W fun e W' => ∃ v, e = .returned v ∧ Rows.spacePlaysSpec.post enc Try.prog Try.f4 false true false false W args v W' := by
  have hW' := hW
  obtain ⟨p, q, hA0, hV, rfl, hfz, hnd⟩ := hW
  have hA : DataW.TrodAll enc Try.prog W 0 (fun _ => true) true Try.f4.params.toList args.toList ds p := hA0
  rw [Try.params4] at hA hval hsz
  obtain ⟨v0, vs0, d0, ds0, p0, q0, hargs, rfl, rfl, h0, rr0⟩ := trodAll_cons hA
  obtain ⟨v1, vs1, d1, ds1, p1, q1, rfl, rfl, rfl, h1, rr1⟩ := trodAll_cons rr0
  obtain ⟨rfl, rfl, rfl⟩ := trodAll_nil rr1
  obtain rfl : args = #[v0, v1] := by cases args; simp_all
  obtain ⟨rfl, rfl⟩ := trodVars_none hV
  obtain ⟨a0, rfl, rfl, rfl, w0⟩ := open_int Try.underlying3 (hval 0 3 v0 rfl rfl) h0
  obtain ⟨a1, len1, cap1, rfl⟩ := okWide_slice Try.underlying38 (hval 1 38 v1 rfl rfl)
  have k1 := h1
  have lt1 : ∀ x ∈ p1, x.block < W.heap.size := by obtain ⟨m, hm⟩ := k1; exact DataW.trod_lt m _ _ _ hm
  obtain ⟨⟨z1, w1⟩, u1⟩ := open_ops h1
  have r1 := reach_ops hsz (j := 1) rfl rfl u1
  clear hA0
  refine (walk a0 a1 len1 cap1 z1 W w0 w1 r1).mono fun e W' ⟨he, bel⟩ => ?_
  subst he
  exact ⟨_, rfl, _, _, _, [], _, [], hW', trodAll_mk1 (shut_bool Try.underlying4 _), (trodAll_cons_mk (shut_int Try.underlying3 w0) (trodAll_cons_mk (Below.trod laidOut (by kernel_rfl) (of_decide_eq_true (by kernel_rfl)) k1 bel lt1) trodAll_mk0)), rfl, bel.frame _, fun h => by cases h⟩

set_option maxRecDepth 100000 in
theorem lifted (os : Os) (started : os.Started) (H : Type) (enc : TypeId × Value → H) :
    ReturnsInHanded {} Try.checked os 4 .any (Rows.spacePlaysSpec.pre6 enc Try.prog Try.f4 Rows.spacePlaysRow.domain false) (Rows.spacePlaysSpec.post enc Try.prog Try.f4 false true false false) := by
  refine returnsInHanded_of_change_sized (C := Try.checked) own started (by kernel_rfl) Try.func4
    (ChangeSpec.witness6 (enc := enc) (C := Try.checked) false ⟨#[], #[.int .i64 0, .slice none 0 0], []⟩ 8 (by kernel_rfl) (by kernel_rfl) (by kernel_rfl) (by kernel_rfl)) ?_
  intro W base args ds gs before hval hW _ hsz _
  exact contract H enc W base args ds gs before hval hW hsz

theorem over : Rows.spacePlaysRow.holds Try.pinned (OpenSpec.ofChange Rows.spacePlaysSpec) :=
  OpenClaim.holds_of_wide 4 Try.f4 rfl rfl rfl rfl rfl rfl rfl ⟨rfl, rfl, rfl, rfl, rfl⟩ rfl rfl rfl rfl rfl (by kernel_rfl) Try.func4 (by kernel_rfl)
    (of_decide_eq_true (by kernel_rfl)) (by unfold Func.isWrapper; first | (rw [if_pos (by decide +kernel)]; kernel_rfl) | (rw [if_neg (by decide +kernel)]; exact ⟨rfl, rfl⟩))
    (fun os started H enc _ => lifted os started H enc)

/-- ████ THE STATEMENT ████ -/
theorem proved : Rows.SpacePlaysSaid := over
#print axioms proved
end Go.Proofs.Ytkhcaobmohppnaa.spacePlays
