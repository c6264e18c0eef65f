/-
  EccFar holds for every input: what is mended has its own check bits, mended again it is the same, and no bit was changed just where none is counted. No condition.
-/
import Derived.Test.YtdabkoconolclaaRows
import Derived.Test.YtdabkoconolclaaWalks
import Derived.Test.YtdabkoconolclaaAlive
import Derived.WalkKit
import Derived.ProofKit
import Derived.OpenShut
namespace Go.Proofs.Ytdabkoconolclaa.eccFar
open Ecc Go.ChangeShapes Go.WideShapes Go.ChangeAt Go.RowKit
set_option linter.unusedVariables false      -- a walk need not use every 'w<i>' (that an integer argument fits its kind)

theorem own : ownKnob Try.prog.godebug = none := by kernel_rfl

/-! ### STEP 1: THE WALK: the Go text returns true. 'Grown w w'': the world has at most new blocks (Derived/RowKit3.lean). Part the cases AHEAD of 'go_enter' where a test parts the walk; take each callee by a contract of your own. -/
theorem walk (a0 : Int) (a1 : Int) (w0 : (Lit.int .u64 a0).wf = true) (w1 : (Lit.int .u8 a1).wf = true) (w : World) :
    Calls Try.prog 7 #[.int .u64 a0, .int .u8 a1] w fun e w' => e = .returned (.bool true) ∧ Grown w w' := by
  obtain ⟨h0, h0'⟩ := bounds_u64 w0
  obtain ⟨h1, h1'⟩ := bounds_u8 w1
  obtain ⟨d, rfl⟩ := Int.eq_ofNat_of_zero_le h0
  obtain ⟨c, rfl⟩ := Int.eq_ofNat_of_zero_le h1
  have hd : d < 18446744073709551616 := by omega
  have hc : c < 256 := by omega
  have HA := Lib.hid (alive w)
  have hS : check d ^^^ c < 256 := Nat.xor_lt_two_pow (n := 8) (check_lt d) hc
  clear w0 w1 h0' h1'
  by_cases hE : (act (check d ^^^ c)).2.2.2 = 0
  · obtain ⟨e1, e2, e3, e4⟩ := act_ok _ hS hE
    have m1 := mend d c hd hc w
    have hm : mendR d c (act (check d ^^^ c)) = .returned (.tuple #[.int .u64 (d ^^^ (act (check d ^^^ c)).1 : Nat), .int .u8 (c ^^^ (act (check d ^^^ c)).2.1 : Nat), .int .i64 ((act (check d ^^^ c)).2.2.1 : Nat), .int .i64 0]) := by
      unfold mendR ansD ansC ansN ansE
      rw [if_pos hE, if_pos hE, hE]
      rfl
    rw [hm] at m1
    have hX : d ^^^ (act (check d ^^^ c)).1 < 18446744073709551616 := Nat.xor_lt_two_pow (n := 64) hd e2
    have hY : c ^^^ (act (check d ^^^ c)).2.1 < 256 := Nat.xor_lt_two_pow (n := 8) hc e3
    have hK : check (d ^^^ (act (check d ^^^ c)).1) = c ^^^ (act (check d ^^^ c)).2.1 := by
      rw [check_xor]
      generalize (act (check d ^^^ c)).2.1 = u at *
      generalize check (act (check d ^^^ c)).1 = v at *
      generalize check d = z at *
      have h : z ^^^ (v ^^^ u) = z ^^^ (z ^^^ c) := by rw [e1]
      rw [xor_cancel, ← Nat.xor_assoc] at h
      rw [← h, Nat.xor_assoc, Nat.xor_self, Nat.xor_zero]
    have hD : ∀ a b : Nat, a ^^^ b = a → b = 0 := fun a b h => by have := xor_cancel a b; rw [h, Nat.xor_self] at this; exact this.symm
    have q1 := hD d (act (check d ^^^ c)).1
    have q2 := hD c (act (check d ^^^ c)).2.1
    have q3 : (act (check d ^^^ c)).2.2.1 = 0 → d ^^^ (act (check d ^^^ c)).1 = d ∧ c ^^^ (act (check d ^^^ c)).2.1 = c := fun h => by
      obtain ⟨u, v⟩ := e4.1 h
      rw [u, v, Nat.xor_zero, Nat.xor_zero]
      exact ⟨rfl, rfl⟩
    clear hm hD e1 e2 e3
    generalize d ^^^ (act (check d ^^^ c)).1 = X at *
    generalize c ^^^ (act (check d ^^^ c)).2.1 = Y at *
    generalize (act (check d ^^^ c)).2.2.1 = n at *
    generalize (act (check d ^^^ c)).2.1 = u at *
    generalize (act (check d ^^^ c)).1 = v at *
    have M1 := Lib.hid m1
    have M2 := Lib.hid (mend_none X Y hX hY hK w)
    have h1 := checkBits X hX w
    rw [hK] at h1
    have H1 := Lib.hid h1
    clear m1 h1 hK hE hS
    by_cases hn : n = 0
    · obtain ⟨rfl, rfl⟩ := q3 hn
      subst hn
      clear q1 q2 q3 e4
      go_enter Try.func7, Try.ntmps7
      go_wp2_with fail
      refine (HA.out).mono ?_; rintro e w' ⟨rfl, rfl⟩
      go_wp2_with fail
      refine (M1.out).mono ?_; rintro e w' ⟨rfl, rfl⟩
      go_wp2_with fail
      refine (M2.out).mono ?_; rintro e w' ⟨rfl, rfl⟩
      go_wp2_with fail
      refine (H1.out).mono ?_; rintro e w' ⟨rfl, rfl⟩
      go_wp2_with fail
      go_ret
      exact ⟨rfl, Grown.refl _⟩
    · have hn0 : ((n : Int) == 0) = false := by rw [beq_eq_false_iff_ne]; omega
      by_cases hx : X = d
      · have hy : ((Y : Int) == (c : Int)) = false := by
          rw [beq_eq_false_iff_ne]
          intro h
          exact hn (e4.2 ⟨q1 hx, q2 (by omega)⟩)
        subst hx
        clear q1 q2 q3 e4 hn
        go_enter Try.func7, Try.ntmps7
        go_wp2_with fail
        refine (HA.out).mono ?_; rintro e w' ⟨rfl, rfl⟩
        go_wp2_with fail
        refine (M1.out).mono ?_; rintro e w' ⟨rfl, rfl⟩
        go_wp2_with fail
        refine (M2.out).mono ?_; rintro e w' ⟨rfl, rfl⟩
        go_wp2_with fail
        refine (H1.out).mono ?_; rintro e w' ⟨rfl, rfl⟩
        go_wp2_with fail
        go_ret
        exact ⟨rfl, Grown.refl _⟩
      · have hy : ((X : Int) == (d : Int)) = false := by rw [beq_eq_false_iff_ne]; omega
        clear q1 q2 q3 e4 hn
        go_enter Try.func7, Try.ntmps7
        go_wp2_with fail
        refine (HA.out).mono ?_; rintro e w' ⟨rfl, rfl⟩
        go_wp2_with fail
        refine (M1.out).mono ?_; rintro e w' ⟨rfl, rfl⟩
        go_wp2_with fail
        refine (M2.out).mono ?_; rintro e w' ⟨rfl, rfl⟩
        go_wp2_with fail
        refine (H1.out).mono ?_; rintro e w' ⟨rfl, rfl⟩
        go_wp2_with fail
        go_ret
        exact ⟨rfl, Grown.refl _⟩
  · have M1 := Lib.hid (mend_err d c hd hc (act_err _ hS hE) w)
    clear hE hS
    go_enter Try.func7, Try.ntmps7
    go_wp2_with fail
    refine (HA.out).mono ?_; rintro e w' ⟨rfl, rfl⟩
    go_wp2_with fail
    refine (M1.out).mono ?_; rintro e w' ⟨rfl, rfl⟩
    go_wp2_with fail
    go_ret
    exact ⟨rfl, Grown.refl _⟩

/-! ### THE ROW's STEP: WRITTEN OUT: LEAVE IT -/
set_option maxRecDepth 100000 in
theorem lifted (os : Os) (started : os.Started) (H : Type) (enc : TypeId × Value → H) :
    ReturnsInHanded {} Try.checked os 7 .any (Rows.eccFarSpec.pre6 enc Try.prog Try.f7 Rows.eccFarRow.domain false) (Rows.eccFarSpec.post enc Try.prog Try.f7 false true false false) := by
  refine returnsInHanded_of_change (C := Try.checked) own started (by kernel_rfl) Try.func7
    (ChangeSpec.witness6 (enc := enc) (C := Try.checked) false ⟨#[], #[.int .u64 0, .int .u8 0], []⟩ 8 (by kernel_rfl) (by kernel_rfl) (by kernel_rfl) (by kernel_rfl)) ?_
  intro W base args ds gs before hval0 hW hcnd _
  have hval : ∀ (j : Nat) t v, Try.f7.params[j]? = some t → args[j]? = some v → Value.okWide Try.prog W .any base t v := hval0
  have hW' := hW
  obtain ⟨p, q, hA0, hV, rfl, hfz, hnd⟩ := hW
  have hA : DataW.TrodAll enc Try.prog W 0 (fun _ => true) true Try.f7.params.toList args.toList ds p := hA0
  rw [Try.params7] at hA hval
  obtain ⟨v0, vs0, d0, ds0, p0, q0, hargs, rfl, rfl, h0, r0⟩ := trodAll_cons hA
  obtain ⟨v1, vs1, d1, ds1, p1, q1, rfl, rfl, rfl, h1, r1⟩ := trodAll_cons r0
  obtain ⟨rfl, rfl, rfl⟩ := trodAll_nil r1
  obtain rfl : args = #[v0, v1] := by cases args; simp_all
  obtain ⟨rfl, rfl⟩ := trodVars_none hV
  obtain ⟨a0, rfl, rfl, rfl, w0⟩ := open_int Try.underlying22 (hval 0 22 v0 rfl rfl) h0
  obtain ⟨a1, rfl, rfl, rfl, w1⟩ := open_int Try.underlying5 (hval 1 5 v1 rfl rfl) h1
  clear hA0 hval0
  simp only [List.append_nil] at hW'
  refine (walk a0 a1 w0 w1 W).mono fun e W' ⟨he, hg⟩ => ?_
  subst he
  exact ⟨_, rfl, post_of_same (pa := []) (pv := []) hW' (fun _ _ _ => (trodAll_cons_mk (shut_bool Try.underlying4 _) trodAll_mk0)) (fun sp _ => (trodAll_cons_mk (shut_int Try.underlying22 w0) (trodAll_cons_mk (shut_int Try.underlying5 w1) trodAll_mk0))) (fun _ _ => rfl) rfl
    (hg.frame _) hg.2.1 (ok_one (by kernel_rfl) rfl (okWide_bool_mk Try.underlying4 _))⟩

theorem over : Rows.eccFarRow.holds Try.pinned (OpenSpec.ofChange Rows.eccFarSpec) :=
  OpenClaim.holds_of_wide 7 Try.f7 rfl rfl rfl rfl rfl rfl rfl ⟨rfl, rfl, rfl, rfl, rfl⟩ rfl rfl rfl rfl rfl (by kernel_rfl) Try.func7 (by kernel_rfl)
    (of_decide_eq_true (by kernel_rfl)) (by unfold Func.isWrapper; first | (rw [if_pos (by decide +kernel)]; kernel_rfl) | (rw [if_neg (by decide +kernel)]; exact ⟨rfl, rfl⟩))
    (fun os started H enc _ => lifted os started H enc)

/-- ████ THE STATEMENT ████ -/
theorem proved : Rows.EccFarSaid :=
  over
#print axioms proved
end Go.Proofs.Ytdabkoconolclaa.eccFar
