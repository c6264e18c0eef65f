/-
  VictimEven holds for every input: no block is ever worn much more than another one.
-/
import Derived.Test.YtodnjeahjalinaaRows
import Derived.Test.YtodnjeahjalinaaPlay
import Derived.Test.YtodnjeahjalinaaAlive
import Derived.Test.YtodnjeahjalinaaFrame
import Derived.WalkKit
import Derived.ProofKit
import Derived.OpenShut
import Derived.ShutString
import Derived.ChangeOld
import Derived.Below
import Derived.SizedLaws
import Derived.RegionTactic
import Derived.Deep.RegionWith
import Derived.Deep.CutBlock
import Derived.ChangeAlike
namespace Go.Proofs.Ytodnjeahjalinaa.victimEven
open Go.ChangeShapes Go.WideShapes Go.ChangeAt Go.RowKit Words Go.Proofs.Ytodnjeahjalinaa.Vic
open Go.ChangeMaps (open_string shut_string)
set_option linter.unusedVariables false

theorem own : ownKnob Try.prog.godebug = none := by kernel_rfl
theorem laidOut : laidOutB Try.prog = true := by kernel_rfl

set_option maxRecDepth 20000 in
set_option maxHeartbeats 4000000 in
/-- The walk: the Go text returns true and writes nothing that was there. -/
theorem walk (a0 : Option Addr) (len0 cap0 : Nat) (z0 : List Fil) (a1 : Int) (a2 : Int) (w : World) (w0 : Fl w w.heap.size a0 len0 cap0 z0) (w1 : (Lit.int .i64 a1).wf = true) (w2 : (Lit.int .i64 a2).wf = true)  :
    Calls Try.prog 6 #[.slice a0 len0 cap0, .int .i64 a1, .int .i64 a2] w fun e w' => e = .returned (.bool true) ∧ Below w.heap.size w w' := by
  have R := Lib.hid (fun (wa : World) (b : Below w.heap.size w wa) => (Words.Rd.below w0 b (Nat.le_refl _) : Fl wa w.heap.size a0 len0 cap0 z0))
  have HA := Lib.hid (alive18 w)
  have HP := Lib.hid (fun (wa : World) (b : Below w.heap.size w wa) => play14 _ _ _ _ z0 a1 a2 wa (R.out wa b) b.size)
  clear w0 w1 w2
  unfold PlayedV at HP
  by_cases he : perr z0 a1 a2 = 0
  · obtain ⟨hz, ht0, ht1⟩ := perr_zero he
    obtain ⟨hr, hs1, hs2⟩ := chk_zero hz
    have hnx := pls_ok he
    have hle : spr (pls z0 a1 a2) ≤ max a1 (spr z0) := by rw [hnx]; exact pl_spread hs1 (by omega) _ _ (by omega)
    have hrn : right (pls z0 a1 a2) = true := by rw [hnx]; exact pl_right _ _ hr
    rw [he] at HP
    have HS := Lib.hid (fun (wa : World) (b : Below w.heap.size w wa) => spread13 _ _ _ _ z0 wa (R.out wa b) b.size hr)
    have HRN := Lib.hid hrn
    clear he hz ht0 ht1 hnx hr hrn
    generalize pch z0 a1 a2 = ch at *
    generalize pls z0 a1 a2 = nx at *
    generalize spr z0 = v at *
    have hd : decide (spr nx ≤ max a1 v) = true := decide_eq_true hle
    go_enter Try.func6, Try.ntmps6
    go_wp2_with fail
    refine (HA.out).mono ?_; rintro e x1 ⟨rfl, b1⟩
    have B1 := Lib.hid b1
    clear b1
    go_wp2_with fail
    refine (HP.out _ B1.out).mono ?_; rintro e x2 ⟨A1, i, c1, A2, n, c2, rfl, i1⟩
    have O2 := Lib.hid i1.fl
    have B2 := Lib.hid (B1.out.trans (i1.bel.mono B1.out.size))
    have HT := Lib.hid (spread13 _ _ _ _ nx x2 i1.fl.fl (Nat.le_refl _) HRN.out)
    clear i1
    go_wp2_with fail
    refine (HT.out).mono ?_; rintro e x3 ⟨rfl, b3⟩
    have B3 := Lib.hid (B2.out.trans (b3.mono B2.out.size))
    have O3 := Lib.hid (O2.out.below b3 (Nat.le_refl _))
    clear b3
    go_wp2_with fail
    refine (HS.out _ B3.out).mono ?_; rintro e x4 ⟨rfl, b4⟩
    have B4 := Lib.hid (B3.out.trans (b4.mono B3.out.size))
    have O4 := Lib.hid (O3.out.below b4 (Nat.le_refl _))
    have HR := right11 _ _ _ _ nx x4 O4.out.fl (Nat.le_refl _)
    rw [HRN.out] at HR
    have HR := Lib.hid HR
    clear b4
    go_wp2_with fail
    refine (HR.out).mono ?_; rintro e x5 ⟨rfl, b5⟩
    have B5 := Lib.hid (B4.out.trans (b5.mono B4.out.size))
    clear b5
    go_wp2_with fail
    go_ret
    exact ⟨rfl, B5.out⟩
  · have hne : (perr z0 a1 a2 != 0) = true := by rw [bne_iff_ne]; exact he
    have hnx := pls_no he
    rw [hnx] at HP
    clear hnx he
    generalize perr z0 a1 a2 = k at *
    generalize pch z0 a1 a2 = ch at *
    go_enter Try.func6, Try.ntmps6
    go_wp2_with fail
    refine (HA.out).mono ?_; rintro e x1 ⟨rfl, b1⟩
    have B1 := Lib.hid b1
    clear b1
    go_wp2_with fail
    refine (HP.out _ B1.out).mono ?_; rintro e x2 ⟨A1, i, c1, A2, n, c2, rfl, i1⟩
    obtain rfl : n = 0 := i1.fl.len.symm
    have B2 := Lib.hid (B1.out.trans (i1.bel.mono B1.out.size))
    clear i1
    go_wp2_with fail
    go_ret
    exact ⟨rfl, B2.out⟩

set_option maxRecDepth 100000 in
theorem contract (H : Type) (enc : TypeId × Value → H) (W : World) (base : Nat) (args : Array Value) (ds gs : List (DataW H)) (before : List MemPlace)
    (hval : ∀ (j : Nat) t v, Try.f6.params[j]? = some t → args[j]? = some v → Value.okWide Try.prog W .any base t v)
    (hW : DataW.Whole enc Try.prog Try.f6.params.toList Rows.victimEvenSpec.vars false W args.toList ds gs before) :
    Calls Try.prog 6 args W fun e W' => ∃ v, e = .returned v ∧ Rows.victimEvenSpec.post enc Try.prog Try.f6 false true false false W args v W' := by
  have hW' := hW
  obtain ⟨p, q, hA0, hV, rfl, hfz, hnd⟩ := hW
  have hA : DataW.TrodAll enc Try.prog W 0 (fun _ => true) true Try.f6.params.toList args.toList ds p := hA0
  rw [Try.params6] at hA hval
  obtain ⟨v0, vs0, d0, ds0, p0, q0, hargs, rfl, rfl, h0, rr0⟩ := trodAll_cons hA
  obtain ⟨v1, vs1, d1, ds1, p1, q1, rfl, rfl, rfl, h1, rr1⟩ := trodAll_cons rr0
  obtain ⟨v2, vs2, d2, ds2, p2, q2, rfl, rfl, rfl, h2, rr2⟩ := trodAll_cons rr1
  obtain ⟨rfl, rfl, rfl⟩ := trodAll_nil rr2
  obtain rfl : args = #[v0, v1, v2] := by cases args; simp_all
  obtain ⟨rfl, rfl⟩ := trodVars_none hV
  obtain ⟨a0, len0, cap0, rfl⟩ := okWide_slice Try.underlying22 (hval 0 22 v0 rfl rfl)
  have k0 := h0
  have lt0 : ∀ x ∈ p0, x.block < W.heap.size := by obtain ⟨m, hm⟩ := k0; exact DataW.trod_lt m _ _ _ hm
  obtain ⟨⟨z0, w0⟩, u0⟩ := open_fl h0
  obtain ⟨a1, rfl, rfl, rfl, w1⟩ := open_int Try.underlying3 (hval 1 3 v1 rfl rfl) h1
  obtain ⟨a2, rfl, rfl, rfl, w2⟩ := open_int Try.underlying3 (hval 2 3 v2 rfl rfl) h2
  clear hA0
  refine (walk a0 len0 cap0 z0 a1 a2 W w0 w1 w2).mono fun e W' ⟨he, bel⟩ => ?_
  subst he
  exact ⟨_, rfl, _, _, _, [], _, [], hW', trodAll_mk1 (shut_bool Try.underlying4 _), (trodAll_cons_mk (Below.trod laidOut (by kernel_rfl) (of_decide_eq_true (by kernel_rfl)) k0 bel lt0) (trodAll_cons_mk (shut_int Try.underlying3 w1) (trodAll_cons_mk (shut_int Try.underlying3 w2) trodAll_mk0))), rfl, bel.frame _, fun h => by cases h⟩

set_option maxRecDepth 100000 in
theorem lifted (os : Os) (started : os.Started) (H : Type) (enc : TypeId × Value → H) :
    ReturnsInHanded {} Try.checked os 6 .any (Rows.victimEvenSpec.pre6 enc Try.prog Try.f6 Rows.victimEvenRow.domain false) (Rows.victimEvenSpec.post enc Try.prog Try.f6 false true false false) := by
  refine returnsInHanded_of_change (C := Try.checked) own started (by kernel_rfl) Try.func6
    (ChangeSpec.witness6 (enc := enc) (C := Try.checked) false ⟨#[], #[.slice none 0 0, .int .i64 0, .int .i64 0], []⟩ 8 (by kernel_rfl) (by kernel_rfl) (by kernel_rfl) (by kernel_rfl)) ?_
  intro W base args ds gs before hval hW _ _
  exact contract H enc W base args ds gs before hval hW

theorem over : Rows.victimEvenRow.holds Try.pinned (OpenSpec.ofChange Rows.victimEvenSpec) :=
  OpenClaim.holds_of_wide 6 Try.f6 rfl rfl rfl rfl rfl rfl rfl ⟨rfl, rfl, rfl, rfl, rfl⟩ rfl rfl rfl rfl rfl (by kernel_rfl) Try.func6 (by kernel_rfl)
    (of_decide_eq_true (by kernel_rfl)) (by unfold Func.isWrapper; first | (rw [if_pos (by decide +kernel)]; kernel_rfl) | (rw [if_neg (by decide +kernel)]; exact ⟨rfl, rfl⟩))
    (fun os started H enc _ => lifted os started H enc)

/-- ████ THE STATEMENT ████ -/
theorem proved : Rows.VictimEvenSaid := over
#print axioms proved
end Go.Proofs.Ytodnjeahjalinaa.victimEven
