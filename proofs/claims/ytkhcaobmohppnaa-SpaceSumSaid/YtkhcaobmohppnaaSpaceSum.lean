/-
  As much is free as was not taken.
-/
import Derived.Test.YtkhcaobmohppnaaRows
import Derived.Test.YtkhcaobmohppnaaSFrame
import Derived.Test.YtkhcaobmohppnaaDPlay
import Derived.Test.YtkhcaobmohppnaaSSum
import Derived.WalkKit
import Derived.ProofKit
import Derived.OpenShut
import Derived.ShutString
import Derived.ChangeOld
import Derived.Below
import Derived.SizedLaws
import Derived.RegionTactic
import Derived.Deep.RegionWith
import Derived.Deep.CutBlock
import Derived.ChangeAlike
namespace Go.Proofs.Ytkhcaobmohppnaa.spaceSum
open Go.ChangeShapes Go.WideShapes Go.ChangeAt Go.RowKit Words Go.Proofs.Ytkhcaobmohppnaa.Spc
open Go.ChangeMaps (open_string shut_string)
set_option linter.unusedVariables false

theorem own : ownKnob Try.prog.godebug = none := by kernel_rfl
theorem laidOut : laidOutB Try.prog = true := by kernel_rfl

set_option maxRecDepth 100000 in
set_option maxHeartbeats 8000000 in
/-- The walk: the Go text returns true and writes nothing that was there. -/
theorem walk (a0 : Int) (a1 : Option Addr) (len1 cap1 : Nat) (z1 : List Nop) (w : World) (w0 : (Lit.int .i64 a0).wf = true) (w1 : Ops w w.heap.size a1 len1 cap1 z1) (r1 : cap1 * 24 ≤ 140737488351232) :
    Calls Try.prog 6 #[.int .i64 a0, .slice a1 len1 cap1] w fun e w' => e = .returned (.bool true) ∧ Below w.heap.size w w' := by
  have CON := con
  have H := Lib.hid w1
  have HL := Lib.hid w1.len
  have HN := w1.small
  have HA := Lib.hid (alive17 CON w)
  have HP := fun (x : World) (b : Below w.heap.size w x) => CON.play w.heap.size a1 len1 cap1 z1 a0 x (Words.Rd.below H.out b (Nat.le_refl _)) b.size (by have := H.out.le; omega)
  cases hz : szOk a0 with
  | false =>
    have q1 : pans a0 z1 = [] := by unfold pans; rw [hz]; rfl
    have q3 : perr a0 = 2 := by unfold perr; rw [hz]; rfl
    rw [q1, q3] at HP
    generalize pgaps a0 z1 = gs at *
    have HP := Lib.hid HP
    clear hz q1 q3
    go_enter Try.func6, Try.ntmps6
    go_wp2_with fail
    refine (HA.out).mono ?_; rintro e x1 ⟨rfl, b1⟩
    have hp := Lib.hid (HP.out _ b1)
    have B1 := Lib.hid b1
    clear b1
    go_wp2_with fail
    refine (hp.out).mono ?_; rintro e x2 ⟨A1, c1, A2, c2, rfl, _, _, b2⟩
    have B2 := Lib.hid (B1.out.trans (b2.mono B1.out.size))
    clear b2
    go_wp2_with fail
    go_ret
    exact ⟨rfl, B2.out⟩
  | true =>
    have q1 : pans a0 z1 = (played a0 z1).2 := by unfold pans; rw [if_pos hz]
    have q2 : pgaps a0 z1 = (played a0 z1).1 := by unfold pgaps; rw [if_pos hz]
    have q3 : perr a0 = 0 := by unfold perr; rw [if_pos hz]
    have q4 : (played a0 z1).2.length = len1 := by rw [played_length]; exact HL.out
    rw [q1, q2, q3, q4] at HP
    have PG := Lib.hid (fun k o (h : z1[k]? = some o) => played_get (s := a0) h)
    have OK := Lib.hid (played_ok hz z1)
    have FL := Lib.hid (fun k => fr_le hz z1 k)
    have FS := Lib.hid (fr_start hz z1)
    have FE : Hid (fr a0 z1 len1 = cnt (played a0 z1).1) := Lib.hid (by unfold fr; rw [List.take_of_length_le (by rw [HL.out]; exact Nat.le_refl _)])
    have SZ := Lib.hid (sz_le hz)
    generalize (played a0 z1).1 = gs at *
    generalize (played a0 z1).2 = xs at *
    have HP := Lib.hid HP
    clear hz q1 q2 q3 q4
    go_enter Try.func6, Try.ntmps6
    go_wp2_with fail
    refine (HA.out).mono ?_; rintro e x1 ⟨rfl, b1⟩
    have hp := Lib.hid (HP.out _ b1)
    have B1 := Lib.hid b1
    clear b1
    go_wp2_with fail
    refine (hp.out).mono ?_; rintro e x2 ⟨A1, c1, A2, c2, rfl, o1, o2, b2⟩
    have B2 := Lib.hid (B1.out.trans (b2.mono B1.out.size))
    have O1 := Lib.hid o1
    have O2 := Lib.hid o2
    obtain ⟨ln, hln⟩ : ∃ ln, ln = gs.length := ⟨_, rfl⟩
    rw [← hln] at O2 ⊢
    clear o1 o2 b2 hln
    go_wp2_with fail
    go_loopw [8, 39] (fun v i wr => ∃ k : Nat, v = .int .i64 (fr a0 z1 k) ∧ i = .int .i64 k ∧ k ≤ len1 ∧ Below w.heap.size w wr ∧ Below x2.heap.size x2 wr) (fun _ i _ => (len1 - intOf i).toNat)
    case atStart => exact ⟨0, i64_num FS.out.symm, rfl, by omega, B2.out, Below.refl _ _⟩
    case round =>
      obtain ⟨k, rfl, rfl, hk, hb1, hb2⟩ := hrel
      have BW := Lib.hid hb1
      have BV := Lib.hid hb2
      clear hb1 hb2
      by_cases hlt : k < len1
      · obtain ⟨g, o, rfl, _, _⟩ := Words.Rd.row H.out (by omega)
        obtain ⟨⟨ok, oa, om⟩, hr⟩ : ∃ r, z1[k]? = some r := ⟨_, List.getElem?_eq_getElem (by rw [HL.out]; exact hlt)⟩
        obtain ⟨c0, c1', c2'⟩ := Ops.cells (Words.Rd.below H.out BW.out (Nat.le_refl _)) rfl hr
        have pg := PG.out k _ hr
        have OX := (O1.out.below BV.out (Nat.le_refl _)).ans
        obtain ⟨ga, oa', hA, _, _⟩ := Words.Rd.row OX (by omega)
        obtain ⟨d0, d1⟩ := Ans.cells OX hA pg
        subst hA
        have BX := Lib.hid (BW.out.alloc BW.out.size (.cells #[.int .i64 ok, .int .i64 oa, .int .i64 om] 24))
        have BY := Lib.hid (BV.out.alloc BV.out.size (.cells #[.int .i64 ok, .int .i64 oa, .int .i64 om] 24))
        have f1 := FL.out k
        have f2 := FL.out (k + 1)
        have sz := SZ.out
        simp only at d0 d1
        by_cases he : ser a0 (played a0 (z1.take k)).1 ⟨ok, oa, om⟩ = 0
        · obtain ⟨_, _, m1, m2, hkk⟩ := step_cnt he
          have FN := fr_next hr he
          simp only at m1 m2 hkk
          rw [he] at d0
          unfold dl at FN
          simp only at FN
          obtain ⟨v, hv⟩ : ∃ v, v = fr a0 z1 k := ⟨_, rfl⟩
          rw [← hv] at FN f1 ⊢
          by_cases h3 : ok = 3
          · rw [if_pos h3] at FN
            subst h3
            have hw : IntKind.i64.wrap (v + om) = v + om := by rw [IntKind.wrap_i64]; omega
            have FN := Lib.hid FN
            clear hr he pg m1 m2 hkk f1 f2 sz hv
            go_wp2_with fail
            go_roundw
            case rel => exact ⟨k + 1, i64_num FN.out.symm, by go_num, by omega, BX.out, BY.out⟩
            case measure => simp [intOf]; omega
          · rw [if_neg h3] at FN
            have hb3 : (ok == 3) = false := by rw [beq_eq_false_iff_ne]; exact h3
            have hw : IntKind.i64.wrap (v - om) = v - om := by rw [IntKind.wrap_i64]; omega
            have FN : Hid (v - om = fr a0 z1 (k + 1)) := Lib.hid (by omega)
            clear hr he pg m1 m2 hkk f1 f2 sz hv h3
            go_wp2_with fail
            go_roundw
            case rel => exact ⟨k + 1, i64_num FN.out, by go_num, by omega, BX.out, BY.out⟩
            case measure => simp [intOf]; omega
        · have FN := Lib.hid (fr_same hr he)
          obtain ⟨en, hen⟩ : ∃ en, en = ser a0 (played a0 (z1.take k)).1 ⟨ok, oa, om⟩ := ⟨_, rfl⟩
          rw [← hen] at d0 he
          have hb : (en != 0) = true := by rw [bne_iff_ne]; exact he
          clear hr he pg f1 f2 sz hen
          go_wp2_with fail
          go_roundw
          case rel => exact ⟨k + 1, i64_num FN.out.symm, by go_num, by omega, BX.out, BY.out⟩
          case measure => simp [intOf]; omega
      · obtain rfl : k = len1 := by omega
        have G1 := (O2.out.below BV.out (Nat.le_refl _)).gps
        have HF := Lib.hid (free20 wr.heap.size A2 ln c2 gs a0 wr G1 (Nat.le_refl _) OK.out)
        have HRR := fun (x : World) (b : Below wr.heap.size wr x) => CON.right x.heap.size A2 ln c2 gs x ((O2.out.below BV.out (Nat.le_refl _)).below b (Nat.le_refl _)).gps (wf_ok OK.out) (Nat.le_refl _)
        rw [va_of OK.out] at HRR
        have HRR := Lib.hid HRR
        rw [FE.out]
        clear G1
        go_wp2_with fail
        refine (HF.out).mono ?_; rintro e x5 ⟨rfl, b5⟩
        have B5 := Lib.hid (BW.out.trans (b5.mono BW.out.size))
        have hR := Lib.hid (HRR.out _ b5)
        clear b5
        go_wp2_with fail
        refine (hR.out).mono ?_; rintro e x6 ⟨rfl, b6⟩
        have B6 := Lib.hid (B5.out.trans (b6.mono B5.out.size))
        clear b6
        go_wp2_with fail
        go_ret
        exact ⟨rfl, B6.out⟩

set_option maxRecDepth 100000 in
theorem contract (H : Type) (enc : TypeId × Value → H) (W : World) (base : Nat) (args : Array Value) (ds gs : List (DataW H)) (before : List MemPlace)
    (hval : ∀ (j : Nat) t v, Try.f6.params[j]? = some t → args[j]? = some v → Value.okWide Try.prog W .any base t v)
    (hW : DataW.Whole enc Try.prog Try.f6.params.toList Rows.spaceSumSpec.vars false W args.toList ds gs before) (hsz : (DataW.weightsEach Try.prog (Try.f6.params.toList ++ Rows.spaceSumSpec.plain.varTypes Try.prog) (ds ++ gs)).all (· ≤ reachBytes) = true) :
    Calls Try.prog 6 args W fun e W' => ∃ v, e = .returned v ∧ Rows.spaceSumSpec.post enc Try.prog Try.f6 false true false false W args v W' := by
  have hW' := hW
  obtain ⟨p, q, hA0, hV, rfl, hfz, hnd⟩ := hW
  have hA : DataW.TrodAll enc Try.prog W 0 (fun _ => true) true Try.f6.params.toList args.toList ds p := hA0
  rw [Try.params6] at hA hval hsz
  obtain ⟨v0, vs0, d0, ds0, p0, q0, hargs, rfl, rfl, h0, rr0⟩ := trodAll_cons hA
  obtain ⟨v1, vs1, d1, ds1, p1, q1, rfl, rfl, rfl, h1, rr1⟩ := trodAll_cons rr0
  obtain ⟨rfl, rfl, rfl⟩ := trodAll_nil rr1
  obtain rfl : args = #[v0, v1] := by cases args; simp_all
  obtain ⟨rfl, rfl⟩ := trodVars_none hV
  obtain ⟨a0, rfl, rfl, rfl, w0⟩ := open_int Try.underlying3 (hval 0 3 v0 rfl rfl) h0
  obtain ⟨a1, len1, cap1, rfl⟩ := okWide_slice Try.underlying38 (hval 1 38 v1 rfl rfl)
  have k1 := h1
  have lt1 : ∀ x ∈ p1, x.block < W.heap.size := by obtain ⟨m, hm⟩ := k1; exact DataW.trod_lt m _ _ _ hm
  obtain ⟨⟨z1, w1⟩, u1⟩ := open_ops h1
  have r1 := reach_ops hsz (j := 1) rfl rfl u1
  clear hA0
  refine (walk a0 a1 len1 cap1 z1 W w0 w1 r1).mono fun e W' ⟨he, bel⟩ => ?_
  subst he
  exact ⟨_, rfl, _, _, _, [], _, [], hW', trodAll_mk1 (shut_bool Try.underlying4 _), (trodAll_cons_mk (shut_int Try.underlying3 w0) (trodAll_cons_mk (Below.trod laidOut (by kernel_rfl) (of_decide_eq_true (by kernel_rfl)) k1 bel lt1) trodAll_mk0)), rfl, bel.frame _, fun h => by cases h⟩

set_option maxRecDepth 100000 in
theorem lifted (os : Os) (started : os.Started) (H : Type) (enc : TypeId × Value → H) :
    ReturnsInHanded {} Try.checked os 6 .any (Rows.spaceSumSpec.pre6 enc Try.prog Try.f6 Rows.spaceSumRow.domain false) (Rows.spaceSumSpec.post enc Try.prog Try.f6 false true false false) := by
  refine returnsInHanded_of_change_sized (C := Try.checked) own started (by kernel_rfl) Try.func6
    (ChangeSpec.witness6 (enc := enc) (C := Try.checked) false ⟨#[], #[.int .i64 0, .slice none 0 0], []⟩ 8 (by kernel_rfl) (by kernel_rfl) (by kernel_rfl) (by kernel_rfl)) ?_
  intro W base args ds gs before hval hW _ hsz _
  exact contract H enc W base args ds gs before hval hW hsz

theorem over : Rows.spaceSumRow.holds Try.pinned (OpenSpec.ofChange Rows.spaceSumSpec) :=
  OpenClaim.holds_of_wide 6 Try.f6 rfl rfl rfl rfl rfl rfl rfl ⟨rfl, rfl, rfl, rfl, rfl⟩ rfl rfl rfl rfl rfl (by kernel_rfl) Try.func6 (by kernel_rfl)
    (of_decide_eq_true (by kernel_rfl)) (by unfold Func.isWrapper; first | (rw [if_pos (by decide +kernel)]; kernel_rfl) | (rw [if_neg (by decide +kernel)]; exact ⟨rfl, rfl⟩))
    (fun os started H enc _ => lifted os started H enc)

/-- ████ THE STATEMENT ████ -/
theorem proved : Rows.SpaceSumSaid := over
#print axioms proved
end Go.Proofs.Ytkhcaobmohppnaa.spaceSum
