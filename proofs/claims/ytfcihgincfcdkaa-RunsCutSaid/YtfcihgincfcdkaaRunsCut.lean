/-
  Cut answers what the document says.
-/
import Derived.Test.YtfcihgincfcdkaaRows
import Derived.Test.YtfcihgincfcdkaaFrame
import Derived.Test.YtfcihgincfcdkaaRCutL
import Derived.Test.YtfcihgincfcdkaaRList
import Derived.Test.YtfcihgincfcdkaaREqs
import Derived.WalkKit
import Derived.ProofKit
import Derived.OpenShut
import Derived.ShutString
import Derived.ChangeOld
import Derived.Below
import Derived.SizedLaws
import Derived.RegionTactic
import Derived.Deep.RegionWith
import Derived.Deep.CutBlock
import Derived.ChangeAlike
namespace Go.Proofs.Ytfcihgincfcdkaa.runsCut
open Go.ChangeShapes Go.WideShapes Go.ChangeAt Go.RowKit Words Go.Proofs.Ytfcihgincfcdkaa.Rns
open Go.ChangeMaps (open_string shut_string)
set_option linter.unusedVariables false

theorem own : ownKnob Try.prog.godebug = none := by kernel_rfl
theorem laidOut : laidOutB Try.prog = true := by kernel_rfl

set_option maxRecDepth 20000 in
set_option maxHeartbeats 4000000 in
/-- The walk: the Go text returns true and writes nothing that was there. -/
theorem walk (a0 : Option Addr) (len0 cap0 : Nat) (z0 : List Nop) (a1 : Int) (a2 : Int) (w : World) (w0 : Rns w w.heap.size a0 len0 cap0 z0) (w1 : (Lit.int .i64 a1).wf = true) (w2 : (Lit.int .i64 a2).wf = true)  :
    Calls Try.prog 4 #[.slice a0 len0 cap0, .int .i64 a1, .int .i64 a2] w fun e w' => e = .returned (.bool true) ∧ Below w.heap.size w w' := by
  have H := Lib.hid w0
  have HC := Lib.hid (cut14 w.heap.size a0 len0 cap0 z0 a1 a2 w w0 (Nat.le_refl _))
  obtain ⟨ps, hps⟩ : ∃ ps, ps = cl z0 a1 a2 := ⟨_, rfl⟩
  obtain ⟨en, hen⟩ : ∃ en, en = ce z0 a1 a2 := ⟨_, rfl⟩
  have PS := Lib.hid hps
  have EN := Lib.hid hen
  rw [← hps, ← hen] at HC
  clear hps hen
  go_enter Try.func4, Try.ntmps4
  go_wp2_with fail
  refine (HC.out).mono ?_; rintro e x1 ⟨A1, c1, rfl, o1, b1⟩
  have O1 := Lib.hid o1
  have B1 := Lib.hid b1
  have HM := Lib.hid (mright12 w.heap.size a0 len0 cap0 z0 x1 (Words.Rd.below H.out b1 (Nat.le_refl _)) b1.size)
  clear o1 b1
  cases hr : rt z0 with
  | false =>
    rw [hr] at HM
    obtain ⟨q1, q2⟩ := ce_form a1 a2 hr
    have e1 : en = 1 := EN.out.trans q1
    have e2 : ps = [] := PS.out.trans q2
    clear hr q1 q2
    subst e1 e2
    go_wp2_with fail
    refine (HM.out).mono ?_; rintro e x2 ⟨rfl, b2⟩
    have B2 := Lib.hid (B1.out.trans (b2.mono B1.out.size))
    clear b2
    go_wp2_with fail
    go_ret
    exact ⟨rfl, B2.out⟩
  | true =>
    rw [hr] at HM
    have RT := Lib.hid hr
    clear hr
    cases ho : okR ⟨a1, 0, a2⟩ with
    | false =>
      obtain ⟨q1, q2⟩ := ce_range RT.out ho
      have e1 : en = 2 := EN.out.trans q1
      have e2 : ps = [] := PS.out.trans q2
      have hno : ¬ (0 ≤ a1 ∧ 1 ≤ a2 ∧ a1 ≤ 1099511627776 ∧ a2 ≤ 1099511627776) := by
        intro hc
        have : okR ⟨a1, 0, a2⟩ = true := okR_yes.2 ⟨hc.1, Int.le_refl _, hc.2.1, hc.2.2.1, by show (0 : Int) ≤ _; omega, hc.2.2.2⟩
        rw [ho] at this; cases this
      clear q1 q2 ho
      subst e1 e2
      by_cases m1 : a1 < 0
      · clear hno
        go_wp2_with fail
        refine (HM.out).mono ?_; rintro e x2 ⟨rfl, b2⟩
        have B2 := Lib.hid (B1.out.trans (b2.mono B1.out.size))
        clear b2
        go_wp2_with fail
        go_ret
        exact ⟨rfl, B2.out⟩
      · by_cases m2 : 1099511627776 < a1
        · clear hno
          go_wp2_with fail
          refine (HM.out).mono ?_; rintro e x2 ⟨rfl, b2⟩
          have B2 := Lib.hid (B1.out.trans (b2.mono B1.out.size))
          clear b2
          go_wp2_with fail
          go_ret
          exact ⟨rfl, B2.out⟩
        · by_cases m3 : a2 < 1
          · clear hno
            go_wp2_with fail
            refine (HM.out).mono ?_; rintro e x2 ⟨rfl, b2⟩
            have B2 := Lib.hid (B1.out.trans (b2.mono B1.out.size))
            clear b2
            go_wp2_with fail
            go_ret
            exact ⟨rfl, B2.out⟩
          · have m4 : 1099511627776 < a2 := by omega
            clear hno
            go_wp2_with fail
            refine (HM.out).mono ?_; rintro e x2 ⟨rfl, b2⟩
            have B2 := Lib.hid (B1.out.trans (b2.mono B1.out.size))
            clear b2
            go_wp2_with fail
            go_ret
            exact ⟨rfl, B2.out⟩
    | true =>
      obtain ⟨m1, _, m3, m2, _, m4⟩ := okR_yes.1 ho
      simp only at m1 m2 m3 m4
      have OK := Lib.hid ho
      have UC := Lib.hid (cut_is RT.out ho)
      have n1 : ¬ a1 < 0 := by omega
      have n2 : ¬ 1099511627776 < a1 := by omega
      have n3 : ¬ a2 < 1 := by omega
      have n4 : ¬ 1099511627776 < a2 := by omega
      have HLE : len0 ≤ 1099511627777 := by have := rt_few RT.out; have := w0.len; omega
      clear ho
      go_wp2_with fail
      refine (HM.out).mono ?_; rintro e x2 ⟨rfl, b2⟩
      have B2 := Lib.hid (B1.out.trans (b2.mono B1.out.size))
      have O2 := Lib.hid (O1.out.below b2 (Nat.le_refl _))
      have HML := Lib.hid (mlist15 w.heap.size a0 len0 cap0 z0 ⟨a1, 0, a2⟩ false x2 (Words.Rd.below H.out B2.out (Nat.le_refl _)) B2.out.size (rt_all RT.out) OK.out HLE)
      unfold rval at HML
      simp only at HML
      clear b2 m1 m2 m3 m4
      go_wp2_with fail
      refine (HML.out).mono ?_; rintro e x3 ⟨A3, c3, out, rfl, hu, o3, b3⟩
      have e3 : out = cutL z0 a1 a2 := hu.unique UC.out
      have B3 := Lib.hid (B2.out.trans (b3.mono B2.out.size))
      have O3 := Lib.hid o3
      have O2' := Lib.hid (O2.out.below b3 (Nat.le_refl _))
      have OE := Lib.hid e3
      clear hu o3 b3 e3 n1 n2 n3 n4
      obtain ⟨m, hm⟩ : ∃ m, m = out.length := ⟨_, rfl⟩
      rw [← hm] at O3 ⊢
      have HMM := Lib.hid hm
      clear hm
      cases h6 : rt out with
      | false =>
        obtain ⟨q1, q2⟩ := ce_full RT.out OK.out (by rw [← OE.out]; exact h6)
        have e1 : en = 4 := EN.out.trans q1
        have e2 : ps = [] := PS.out.trans q2
        clear q1 q2 h6
        subst e1 e2
        go_wp2_with fail
        go_ret
        exact ⟨rfl, B3.out⟩
      | true =>
        obtain ⟨q1, q2⟩ := ce_ok RT.out OK.out (by rw [← OE.out]; exact h6)
        have e1 : en = 0 := EN.out.trans q1
        have e2 : ps = out := PS.out.trans (q2.trans OE.out.symm)
        have EQ := Lib.hid (equal16_yes _ _ A1 A3 ps.length m c1 c3 ps out x3 O2'.out.rns O3.out.rns e2)
        clear q1 q2 h6 e2
        subst e1
        obtain ⟨pn, hpn⟩ : ∃ pn, pn = ps.length := ⟨_, rfl⟩
        rw [← hpn] at EQ ⊢
        clear hpn
        go_wp2_with fail
        refine (EQ.out).mono ?_; rintro e x4 ⟨rfl, L4⟩
        have B4 := Lib.hid (B3.out.trans (L4.below.mono B3.out.size))
        clear L4
        go_wp2_with fail
        go_ret
        exact ⟨rfl, B4.out⟩

set_option maxRecDepth 100000 in
theorem contract (H : Type) (enc : TypeId × Value → H) (W : World) (base : Nat) (args : Array Value) (ds gs : List (DataW H)) (before : List MemPlace)
    (hval : ∀ (j : Nat) t v, Try.f4.params[j]? = some t → args[j]? = some v → Value.okWide Try.prog W .any base t v)
    (hW : DataW.Whole enc Try.prog Try.f4.params.toList Rows.runsCutSpec.vars false W args.toList ds gs before) :
    Calls Try.prog 4 args W fun e W' => ∃ v, e = .returned v ∧ Rows.runsCutSpec.post enc Try.prog Try.f4 false true false false W args v W' := by
  have hW' := hW
  obtain ⟨p, q, hA0, hV, rfl, hfz, hnd⟩ := hW
  have hA : DataW.TrodAll enc Try.prog W 0 (fun _ => true) true Try.f4.params.toList args.toList ds p := hA0
  rw [Try.params4] at hA hval
  obtain ⟨v0, vs0, d0, ds0, p0, q0, hargs, rfl, rfl, h0, rr0⟩ := trodAll_cons hA
  obtain ⟨v1, vs1, d1, ds1, p1, q1, rfl, rfl, rfl, h1, rr1⟩ := trodAll_cons rr0
  obtain ⟨v2, vs2, d2, ds2, p2, q2, rfl, rfl, rfl, h2, rr2⟩ := trodAll_cons rr1
  obtain ⟨rfl, rfl, rfl⟩ := trodAll_nil rr2
  obtain rfl : args = #[v0, v1, v2] := by cases args; simp_all
  obtain ⟨rfl, rfl⟩ := trodVars_none hV
  obtain ⟨a0, len0, cap0, rfl⟩ := okWide_slice Try.underlying22 (hval 0 22 v0 rfl rfl)
  have k0 := h0
  have lt0 : ∀ x ∈ p0, x.block < W.heap.size := by obtain ⟨m, hm⟩ := k0; exact DataW.trod_lt m _ _ _ hm
  obtain ⟨⟨z0, w0⟩, u0⟩ := open_ops h0
  obtain ⟨a1, rfl, rfl, rfl, w1⟩ := open_int Try.underlying3 (hval 1 3 v1 rfl rfl) h1
  obtain ⟨a2, rfl, rfl, rfl, w2⟩ := open_int Try.underlying3 (hval 2 3 v2 rfl rfl) h2
  clear hA0
  refine (walk a0 len0 cap0 z0 a1 a2 W w0 w1 w2).mono fun e W' ⟨he, bel⟩ => ?_
  subst he
  exact ⟨_, rfl, _, _, _, [], _, [], hW', trodAll_mk1 (shut_bool Try.underlying4 _), (trodAll_cons_mk (Below.trod laidOut (by kernel_rfl) (of_decide_eq_true (by kernel_rfl)) k0 bel lt0) (trodAll_cons_mk (shut_int Try.underlying3 w1) (trodAll_cons_mk (shut_int Try.underlying3 w2) trodAll_mk0))), rfl, bel.frame _, fun h => by cases h⟩

set_option maxRecDepth 100000 in
theorem lifted (os : Os) (started : os.Started) (H : Type) (enc : TypeId × Value → H) :
    ReturnsInHanded {} Try.checked os 4 .any (Rows.runsCutSpec.pre6 enc Try.prog Try.f4 Rows.runsCutRow.domain false) (Rows.runsCutSpec.post enc Try.prog Try.f4 false true false false) := by
  refine returnsInHanded_of_change (C := Try.checked) own started (by kernel_rfl) Try.func4
    (ChangeSpec.witness6 (enc := enc) (C := Try.checked) false ⟨#[], #[.slice none 0 0, .int .i64 0, .int .i64 0], []⟩ 8 (by kernel_rfl) (by kernel_rfl) (by kernel_rfl) (by kernel_rfl)) ?_
  intro W base args ds gs before hval hW _ _
  exact contract H enc W base args ds gs before hval hW

theorem over : Rows.runsCutRow.holds Try.pinned (OpenSpec.ofChange Rows.runsCutSpec) :=
  OpenClaim.holds_of_wide 4 Try.f4 rfl rfl rfl rfl rfl rfl rfl ⟨rfl, rfl, rfl, rfl, rfl⟩ rfl rfl rfl rfl rfl (by kernel_rfl) Try.func4 (by kernel_rfl)
    (of_decide_eq_true (by kernel_rfl)) (by unfold Func.isWrapper; first | (rw [if_pos (by decide +kernel)]; kernel_rfl) | (rw [if_neg (by decide +kernel)]; exact ⟨rfl, rfl⟩))
    (fun os started H enc _ => lifted os started H enc)

/-- ████ THE STATEMENT ████ -/
theorem proved : Rows.RunsCutSaid := over
#print axioms proved
end Go.Proofs.Ytfcihgincfcdkaa.runsCut
