/-
  Find and Number are inverse to each other, and no logical number maps to a bad block, for all arguments.
-/
import Derived.Test.YtocmbknccjnggaaRows
import Derived.Test.YtocmbknccjnggaaFrame
import Derived.WalkKit
import Derived.ProofKit
import Derived.OpenShut
import Derived.ShutString
import Derived.ChangeOld
import Derived.Below
import Derived.SizedLaws
import Derived.RegionTactic
import Derived.Deep.RegionWith
import Derived.Deep.CutBlock
import Derived.ChangeAlike
namespace Go.Proofs.Ytocmbknccjnggaa.badBack
open Go.ChangeShapes Go.WideShapes Go.ChangeAt Go.RowKit Words Go.Proofs.Ytocmbknccjnggaa.Bad
open Go.ChangeMaps (open_string shut_string)
set_option linter.unusedVariables false

theorem own : ownKnob Try.prog.godebug = none := by kernel_rfl
theorem laidOut : laidOutB Try.prog = true := by kernel_rfl

set_option maxRecDepth 20000 in
set_option maxHeartbeats 4000000 in
/-- The walk: the Go text returns true and writes nothing that was there. -/
theorem walk (a0 : Int) (a1 : Option Addr) (len1 cap1 : Nat) (z1 : List Int) (a2 : Int) (a3 : Int) (w : World) (w0 : (Lit.int .i64 a0).wf = true) (w1 : Ints w w.heap.size a1 len1 cap1 z1) (w2 : (Lit.int .i64 a2).wf = true) (w3 : (Lit.int .i64 a3).wf = true)  :
    Calls Try.prog 4 #[.int .i64 a0, .slice a1 len1 cap1, .int .i64 a2, .int .i64 a3] w fun e w' => e = .returned (.bool true) ∧ Below w.heap.size w w' := by
  have HA := Lib.hid (alive18 w)
  have HF1 := Lib.hid (fun wa (hb : Below w.heap.size w wa) => find7 _ _ _ _ a0 z1 a2 wa (Rd.below w1 hb (Nat.le_refl _)))
  have HF2 := Lib.hid (fun wa (hb : Below w.heap.size w wa) => find7 _ _ _ _ a0 z1 a3 wa (Rd.below w1 hb (Nat.le_refl _)))
  unfold two at HF1 HF2
  by_cases he : ferr a0 z1 a2 = 0
  · have hv := find_in he
    have hn := nerr_ok (find_zero he).1 hv.1 hv.2.1 hv.2.2.1
    have hnv := nval_ok hn
    rw [hv.2.2.2] at hnv
    have HN := Lib.hid (fun wa (hb : Below w.heap.size w wa) => number8 _ _ _ _ a0 z1 (find a2 z1) wa (Rd.below w1 hb (Nat.le_refl _)))
    have HC := Lib.hid (fun wa (hb : Below w.heap.size w wa) => contains13 _ _ _ _ z1 (find a2 z1) wa (Rd.below w1 hb (Nat.le_refl _)))
    unfold two at HN
    rw [hn, hnv] at HN
    rw [show decide (find a2 z1 ∈ z1) = false by simp [hv.2.2.1]] at HC
    rw [fval_ok he, he] at HF1
    by_cases hf : ferr a0 z1 a3 = 0
    · rw [fval_ok hf, hf] at HF2
      have hs := find_same z1 a2 a3
      generalize find a2 z1 = x at *
      generalize find a3 z1 = y at *
      have q1 : (x == y) = (a2 == a3) := by rw [Bool.eq_iff_iff, beq_iff_eq, beq_iff_eq]; exact hs.1
      have q2 : decide (x < y) = decide (a2 < a3) := by rw [Bool.eq_iff_iff, decide_eq_true_iff, decide_eq_true_iff]; exact hs.2
      clear hs hv hn hnv he hf
      cases h1 : (a2 == a3) with
      | false =>
        rw [h1] at q1
        cases h2 : decide (a2 < a3) with
        | false =>
          rw [h2] at q2
          go_enter Try.func4, Try.ntmps4
          go_wp2_with fail
          refine (HA.out).mono ?_; rintro e wa ⟨rfl, hb⟩
          have B1 := Lib.hid hb
          go_wp2_with fail
          refine (HF1.out wa hb).mono ?_; rintro e w' ⟨rfl, rfl⟩
          go_wp2_with fail
          refine (HF2.out wa hb).mono ?_; rintro e w' ⟨rfl, rfl⟩
          go_wp2_with fail
          refine (HN.out wa hb).mono ?_; rintro e w' ⟨rfl, rfl⟩
          go_wp2_with fail
          refine (HC.out wa hb).mono ?_; rintro e w' ⟨rfl, rfl⟩
          go_wp2_with fail
          go_ret
          exact ⟨ret_bool (by rfl), B1.out⟩
        | true =>
          rw [h2] at q2
          go_enter Try.func4, Try.ntmps4
          go_wp2_with fail
          refine (HA.out).mono ?_; rintro e wa ⟨rfl, hb⟩
          have B1 := Lib.hid hb
          go_wp2_with fail
          refine (HF1.out wa hb).mono ?_; rintro e w' ⟨rfl, rfl⟩
          go_wp2_with fail
          refine (HF2.out wa hb).mono ?_; rintro e w' ⟨rfl, rfl⟩
          go_wp2_with fail
          refine (HN.out wa hb).mono ?_; rintro e w' ⟨rfl, rfl⟩
          go_wp2_with fail
          refine (HC.out wa hb).mono ?_; rintro e w' ⟨rfl, rfl⟩
          go_wp2_with fail
          go_ret
          exact ⟨ret_bool (by rfl), B1.out⟩
      | true =>
        rw [h1] at q1
        have h2 : decide (a2 < a3) = false := by have := beq_iff_eq.1 h1; simp; omega
        rw [h2] at q2
        go_enter Try.func4, Try.ntmps4
        go_wp2_with fail
        refine (HA.out).mono ?_; rintro e wa ⟨rfl, hb⟩
        have B1 := Lib.hid hb
        go_wp2_with fail
        refine (HF1.out wa hb).mono ?_; rintro e w' ⟨rfl, rfl⟩
        go_wp2_with fail
        refine (HF2.out wa hb).mono ?_; rintro e w' ⟨rfl, rfl⟩
        go_wp2_with fail
        refine (HN.out wa hb).mono ?_; rintro e w' ⟨rfl, rfl⟩
        go_wp2_with fail
        refine (HC.out wa hb).mono ?_; rintro e w' ⟨rfl, rfl⟩
        go_wp2_with fail
        go_ret
        exact ⟨ret_bool (by rfl), B1.out⟩
    · have q1 : (ferr a0 z1 a3 != 0) = true := by rw [bne_iff_ne]; exact hf
      generalize ferr a0 z1 a3 = f at *
      generalize fval a0 z1 a3 = y at *
      generalize find a2 z1 = x at *
      clear hv hn hnv he
      go_enter Try.func4, Try.ntmps4
      go_wp2_with fail
      refine (HA.out).mono ?_; rintro e wa ⟨rfl, hb⟩
      have B1 := Lib.hid hb
      go_wp2_with fail
      refine (HF1.out wa hb).mono ?_; rintro e w' ⟨rfl, rfl⟩
      go_wp2_with fail
      refine (HF2.out wa hb).mono ?_; rintro e w' ⟨rfl, rfl⟩
      go_wp2_with fail
      refine (HN.out wa hb).mono ?_; rintro e w' ⟨rfl, rfl⟩
      go_wp2_with fail
      refine (HC.out wa hb).mono ?_; rintro e w' ⟨rfl, rfl⟩
      go_wp2_with fail
      go_ret
      exact ⟨ret_bool (by rfl), B1.out⟩
  · rw [fval_no he] at HF1
    have q1 : (ferr a0 z1 a2 != 0) = true := by rw [bne_iff_ne]; exact he
    generalize ferr a0 z1 a2 = f at *
    generalize ferr a0 z1 a3 = f2 at *
    generalize fval a0 z1 a3 = y at *
    go_enter Try.func4, Try.ntmps4
    go_wp2_with fail
    refine (HA.out).mono ?_; rintro e wa ⟨rfl, hb⟩
    have B1 := Lib.hid hb
    go_wp2_with fail
    refine (HF1.out wa hb).mono ?_; rintro e w' ⟨rfl, rfl⟩
    go_wp2_with fail
    refine (HF2.out wa hb).mono ?_; rintro e w' ⟨rfl, rfl⟩
    go_wp2_with fail
    go_ret
    exact ⟨ret_bool (by rfl), B1.out⟩

set_option maxRecDepth 100000 in
theorem contract (H : Type) (enc : TypeId × Value → H) (W : World) (base : Nat) (args : Array Value) (ds gs : List (DataW H)) (before : List MemPlace)
    (hval : ∀ (j : Nat) t v, Try.f4.params[j]? = some t → args[j]? = some v → Value.okWide Try.prog W .any base t v)
    (hW : DataW.Whole enc Try.prog Try.f4.params.toList Rows.badBackSpec.vars false W args.toList ds gs before) :
    Calls Try.prog 4 args W fun e W' => ∃ v, e = .returned v ∧ Rows.badBackSpec.post enc Try.prog Try.f4 false true false false W args v W' := by
  have hW' := hW
  obtain ⟨p, q, hA0, hV, rfl, hfz, hnd⟩ := hW
  have hA : DataW.TrodAll enc Try.prog W 0 (fun _ => true) true Try.f4.params.toList args.toList ds p := hA0
  rw [Try.params4] at hA hval
  obtain ⟨v0, vs0, d0, ds0, p0, q0, hargs, rfl, rfl, h0, rr0⟩ := trodAll_cons hA
  obtain ⟨v1, vs1, d1, ds1, p1, q1, rfl, rfl, rfl, h1, rr1⟩ := trodAll_cons rr0
  obtain ⟨v2, vs2, d2, ds2, p2, q2, rfl, rfl, rfl, h2, rr2⟩ := trodAll_cons rr1
  obtain ⟨v3, vs3, d3, ds3, p3, q3, rfl, rfl, rfl, h3, rr3⟩ := trodAll_cons rr2
  obtain ⟨rfl, rfl, rfl⟩ := trodAll_nil rr3
  obtain rfl : args = #[v0, v1, v2, v3] := by cases args; simp_all
  obtain ⟨rfl, rfl⟩ := trodVars_none hV
  obtain ⟨a0, rfl, rfl, rfl, w0⟩ := open_int Try.underlying3 (hval 0 3 v0 rfl rfl) h0
  obtain ⟨a1, len1, cap1, rfl⟩ := okWide_slice Try.underlying22 (hval 1 22 v1 rfl rfl)
  have k1 := h1
  have lt1 : ∀ x ∈ p1, x.block < W.heap.size := by obtain ⟨m, hm⟩ := k1; exact DataW.trod_lt m _ _ _ hm
  obtain ⟨⟨z1, w1⟩, u1⟩ := open_ints h1
  obtain ⟨a2, rfl, rfl, rfl, w2⟩ := open_int Try.underlying3 (hval 2 3 v2 rfl rfl) h2
  obtain ⟨a3, rfl, rfl, rfl, w3⟩ := open_int Try.underlying3 (hval 3 3 v3 rfl rfl) h3
  clear hA0
  refine (walk a0 a1 len1 cap1 z1 a2 a3 W w0 w1 w2 w3).mono fun e W' ⟨he, bel⟩ => ?_
  subst he
  exact ⟨_, rfl, _, _, _, [], _, [], hW', trodAll_mk1 (shut_bool Try.underlying4 _), (trodAll_cons_mk (shut_int Try.underlying3 w0) (trodAll_cons_mk (Below.trod laidOut (by kernel_rfl) (of_decide_eq_true (by kernel_rfl)) k1 bel lt1) (trodAll_cons_mk (shut_int Try.underlying3 w2) (trodAll_cons_mk (shut_int Try.underlying3 w3) trodAll_mk0)))), rfl, bel.frame _, fun h => by cases h⟩

set_option maxRecDepth 100000 in
theorem lifted (os : Os) (started : os.Started) (H : Type) (enc : TypeId × Value → H) :
    ReturnsInHanded {} Try.checked os 4 .any (Rows.badBackSpec.pre6 enc Try.prog Try.f4 Rows.badBackRow.domain false) (Rows.badBackSpec.post enc Try.prog Try.f4 false true false false) := by
  refine returnsInHanded_of_change (C := Try.checked) own started (by kernel_rfl) Try.func4
    (ChangeSpec.witness6 (enc := enc) (C := Try.checked) false ⟨#[], #[.int .i64 0, .slice none 0 0, .int .i64 0, .int .i64 0], []⟩ 8 (by kernel_rfl) (by kernel_rfl) (by kernel_rfl) (by kernel_rfl)) ?_
  intro W base args ds gs before hval hW _ _
  exact contract H enc W base args ds gs before hval hW

theorem over : Rows.badBackRow.holds Try.pinned (OpenSpec.ofChange Rows.badBackSpec) :=
  OpenClaim.holds_of_wide 4 Try.f4 rfl rfl rfl rfl rfl rfl rfl ⟨rfl, rfl, rfl, rfl, rfl⟩ rfl rfl rfl rfl rfl (by kernel_rfl) Try.func4 (by kernel_rfl)
    (of_decide_eq_true (by kernel_rfl)) (by unfold Func.isWrapper; first | (rw [if_pos (by decide +kernel)]; kernel_rfl) | (rw [if_neg (by decide +kernel)]; exact ⟨rfl, rfl⟩))
    (fun os started H enc _ => lifted os started H enc)

/-- ████ THE STATEMENT ████ -/
theorem proved : Rows.BadBackSaid := over
#print axioms proved
end Go.Proofs.Ytocmbknccjnggaa.badBack
