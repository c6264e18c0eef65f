/-
  NandPlays holds for every input: Play returns what chapter 4 says, for every list of operations.
-/
import Derived.Test.YtellfblfalpdiaaRows
import Derived.Test.YtellfblfalpdiaaRefP
import Derived.Test.YtellfblfalpdiaaFrame
import Derived.WalkKit
import Derived.ProofKit
import Derived.OpenShut
import Derived.ShutString
import Derived.ChangeOld
import Derived.Below
import Derived.SizedLaws
import Derived.RegionTactic
import Derived.Deep.RegionWith
import Derived.Deep.CutBlock
import Derived.ChangeAlike
namespace Go.Proofs.Ytellfblfalpdiaa.nandPlays
open Go.ChangeShapes Go.WideShapes Go.ChangeAt Go.RowKit Words Go.Proofs.Ytellfblfalpdiaa.Nand
open Go.ChangeMaps (open_string shut_string)
set_option linter.unusedVariables false

theorem own : ownKnob Try.prog.godebug = none := by kernel_rfl
theorem laidOut : laidOutB Try.prog = true := by kernel_rfl

set_option maxRecDepth 20000 in
set_option maxHeartbeats 2000000 in
/-- The walk: the Go text returns true and writes nothing that was there. -/
theorem walk (a0 : Option Addr) (len0 cap0 : Nat) (z0 : List Nop) (w : World) (w0 : Ops w w.heap.size a0 len0 cap0 z0) (r0 : cap0 * 32 ≤ 140737488351232) :
    Calls Try.prog 4 #[.slice a0 len0 cap0] w fun e w' => e = .returned (.bool true) ∧ Below w.heap.size w w' := by
  have HO := Lib.hid w0
  have H1 := Lib.hid (play15 _ _ _ _ _ w w0 (Nat.le_refl _) (by have := Words.Rd.le w0; omega))
  have H2 := Lib.hid (fun x (b : Below w.heap.size w x) => play16 _ _ _ _ _ x (Words.Rd.below w0 b (Nat.le_refl _)) b.size (by have := Words.Rd.le w0; omega))
  clear w0 r0
  generalize run z0 = s at *
  go_enter Try.func4, Try.ntmps4
  go_wp2_with fail
  refine (H1.out).mono ?_; rintro e x1 hp; obtain ⟨A5, c5, A6, c6, A7, m, c7, rfl, hm, i1⟩ := hp
  have I1 := Lib.hid i1
  have hl1 := i1.read_.len
  have H3 := Lib.hid (H2.out x1 i1.bel)
  have L1 := Lib.hid hl1
  clear i1 hl1
  go_wp2_with fail
  refine (H3.out).mono ?_; rintro e x2 hp; obtain ⟨D5, d5, D6, d6, D7, m', d7, rfl, hm', i2⟩ := hp
  obtain rfl : m' = m := by rw [← i2.read_.len, L1.out]
  have J1 := Lib.hid (I1.out.below i2.bel)
  have J2 := Lib.hid i2
  have HQ1 := Lib.hid (equal17 _ _ _ _ _ _ _ _ s.errs s.errs x2 J1.out.errs_ J2.out.errs_)
  clear i2
  go_wp2_with fail
  refine (HQ1.out).mono ?_; rintro e x3 hq; obtain ⟨rfl, nd, hx3⟩ := EqB.yes hq trivial
  have b3 : Below x2.heap.size x2 x3 := by rw [hx3]; exact below_drewN (Below.refl _ _) _
  have K1 := Lib.hid (J1.out.below b3)
  have K2 := Lib.hid (J2.out.below b3)
  have HQ2 := Lib.hid (equal18 _ _ _ _ _ _ _ _ s.read s.read x3 K1.out.read_ K2.out.read_)
  clear hq hx3 b3
  go_wp2_with fail
  refine (HQ2.out).mono ?_; rintro e x4 hq; obtain ⟨rfl, nd4, hx4⟩ := EqB.yes hq trivial
  have b4 : Below x3.heap.size x3 x4 := by rw [hx4]; exact below_drewN (Below.refl _ _) _
  have M1 := Lib.hid (K1.out.below b4)
  have M2 := Lib.hid (K2.out.below b4)
  have HQ3 := Lib.hid (equal11 _ _ _ _ _ _ _ _ s.l s.l x4 M1.out.fl_ M2.out.fl_)
  clear hq hx4 b4
  go_wp2_with fail
  refine (HQ3.out).mono ?_; rintro e x5 hq; obtain ⟨rfl, nd5, hx5⟩ := EqB.yes hq trivial
  have b5 : Below x4.heap.size x4 x5 := by rw [hx5]; exact below_drewN (Below.refl _ _) _
  have BF := Lib.hid (M1.out.below b5).bel
  clear hq hx5 b5
  go_wp2_with fail
  go_ret
  exact ⟨rfl, BF.out⟩

set_option maxRecDepth 100000 in
theorem contract (H : Type) (enc : TypeId × Value → H) (W : World) (base : Nat) (args : Array Value) (ds gs : List (DataW H)) (before : List MemPlace)
    (hval : ∀ (j : Nat) t v, Try.f4.params[j]? = some t → args[j]? = some v → Value.okWide Try.prog W .any base t v)
    (hW : DataW.Whole enc Try.prog Try.f4.params.toList Rows.nandPlaysSpec.vars false W args.toList ds gs before) (hsz : (DataW.weightsEach Try.prog (Try.f4.params.toList ++ Rows.nandPlaysSpec.plain.varTypes Try.prog) (ds ++ gs)).all (· ≤ reachBytes) = true) :
    Calls Try.prog 4 args W fun e W' => ∃ v, e = .returned v ∧ Rows.nandPlaysSpec.post enc Try.prog Try.f4 false true false false W args v W' := by
  have hW' := hW
  obtain ⟨p, q, hA0, hV, rfl, hfz, hnd⟩ := hW
  have hA : DataW.TrodAll enc Try.prog W 0 (fun _ => true) true Try.f4.params.toList args.toList ds p := hA0
  rw [Try.params4] at hA hval hsz
  obtain ⟨v0, vs0, d0, ds0, p0, q0, hargs, rfl, rfl, h0, rr0⟩ := trodAll_cons hA
  obtain ⟨rfl, rfl, rfl⟩ := trodAll_nil rr0
  obtain rfl : args = #[v0] := by cases args; simp_all
  obtain ⟨rfl, rfl⟩ := trodVars_none hV
  obtain ⟨a0, len0, cap0, rfl⟩ := okWide_slice Try.underlying35 (hval 0 35 v0 rfl rfl)
  have k0 := h0
  have lt0 : ∀ x ∈ p0, x.block < W.heap.size := by obtain ⟨m, hm⟩ := k0; exact DataW.trod_lt m _ _ _ hm
  obtain ⟨⟨z0, w0⟩, u0⟩ := open_ops h0
  have r0 := reach_ops hsz (j := 0) rfl rfl u0
  clear hA0
  refine (walk a0 len0 cap0 z0 W w0 r0).mono fun e W' ⟨he, bel⟩ => ?_
  subst he
  exact ⟨_, rfl, _, _, _, [], _, [], hW', trodAll_mk1 (shut_bool Try.underlying4 _), (trodAll_cons_mk (Below.trod laidOut (by kernel_rfl) (of_decide_eq_true (by kernel_rfl)) k0 bel lt0) trodAll_mk0), rfl, bel.frame _, fun h => by cases h⟩

set_option maxRecDepth 100000 in
theorem lifted (os : Os) (started : os.Started) (H : Type) (enc : TypeId × Value → H) :
    ReturnsInHanded {} Try.checked os 4 .any (Rows.nandPlaysSpec.pre6 enc Try.prog Try.f4 Rows.nandPlaysRow.domain false) (Rows.nandPlaysSpec.post enc Try.prog Try.f4 false true false false) := by
  refine returnsInHanded_of_change_sized (C := Try.checked) own started (by kernel_rfl) Try.func4
    (ChangeSpec.witness6 (enc := enc) (C := Try.checked) false ⟨#[], #[.slice none 0 0], []⟩ 8 (by kernel_rfl) (by kernel_rfl) (by kernel_rfl) (by kernel_rfl)) ?_
  intro W base args ds gs before hval hW _ hsz _
  exact contract H enc W base args ds gs before hval hW hsz

theorem over : Rows.nandPlaysRow.holds Try.pinned (OpenSpec.ofChange Rows.nandPlaysSpec) :=
  OpenClaim.holds_of_wide 4 Try.f4 rfl rfl rfl rfl rfl rfl rfl ⟨rfl, rfl, rfl, rfl, rfl⟩ rfl rfl rfl rfl rfl (by kernel_rfl) Try.func4 (by kernel_rfl)
    (of_decide_eq_true (by kernel_rfl)) (by unfold Func.isWrapper; first | (rw [if_pos (by decide +kernel)]; kernel_rfl) | (rw [if_neg (by decide +kernel)]; exact ⟨rfl, rfl⟩))
    (fun os started H enc _ => lifted os started H enc)

/-- ████ THE STATEMENT ████ -/
theorem proved : Rows.NandPlaysSaid := over
#print axioms proved
end Go.Proofs.Ytellfblfalpdiaa.nandPlays
