/-
  CellTorn holds for every input: an interrupted write lies between what was and what should be, and can be completed. No condition.
-/
import Derived.Test.YtaombamfglljaaaRows
import Derived.Test.YtaombamfglljaaaFrame
import Derived.WalkKit
import Derived.ProofKit
import Derived.OpenShut
import Derived.ShutString
import Derived.ChangeOld
import Derived.Below
import Derived.SizedLaws
import Derived.RegionTactic
import Derived.ChangeAlike
namespace Go.Proofs.Ytaombamfglljaaa.cellTorn
open Go.ChangeShapes Go.WideShapes Go.ChangeAt Go.RowKit Words Go.Proofs.Ytaombamfglljaaa.Cell
open Go.ChangeMaps (open_string shut_string)
set_option linter.unusedVariables false

theorem own : ownKnob Try.prog.godebug = none := by kernel_rfl
theorem laidOut : laidOutB Try.prog = true := by kernel_rfl

set_option maxHeartbeats 2000000 in
/-- The walk: the Go text returns true and writes nothing that was there. -/
theorem walk (a0 : Option Addr) (len0 cap0 : Nat) (z0 : List UInt8) (a1 : Option Addr) (len1 cap1 : Nat) (z1 : List UInt8) (a2 : Option Addr) (len2 cap2 : Nat) (z2 : List Bool) (w : World) (w0 : Txt w w.heap.size a0 len0 cap0 z0) (w1 : Txt w w.heap.size a1 len1 cap1 z1) (w2 : Bts w w.heap.size a2 len2 cap2 z2) (r0 : cap0 ≤ 140737488351232) (r1 : cap1 ≤ 140737488351232) :
    Calls Try.prog 7 #[.slice a0 len0 cap0, .slice a1 len1 cap1, .slice a2 len2 cap2] w fun e w' => e = .returned (.bool true) ∧ Below w.heap.size w w' := by
  have ra : len0 ≤ 140737488355328 := by have := Rd.le w0; omega
  have rb : len1 ≤ 140737488355328 := by have := Rd.le w1; omega
  have HA := Lib.hid (alive w)
  have TA := Lib.hid w0
  have TB := Lib.hid w1
  have TR := Lib.hid w2
  have LA := Lib.hid w0.len
  have LB := Lib.hid w1.len
  have HT := Lib.hid (fun x (b : Below w.heap.size w x) => tornAny _ _ _ _ _ _ _ _ _ _ _ _ _ _ _ x (Rd.below TA.out b (Nat.le_refl _)) (Rd.below TB.out b (Nat.le_refl _)) (Rd.below TR.out b (Nat.le_refl _)) b.size b.size b.size ra)
  have hcs := chk_cases z0 z1
  clear w0 w1 w2 r0 r1
  by_cases h0 : chk z0 z1 = 0
  · have hm : may z0 z1 = true := (chk_iff _ _).1 h0
    have hab : z0.length = z1.length := (may_iff.1 hm).1
    obtain ⟨X, hX⟩ : ∃ X, X = torn z0 z1 z2 := ⟨_, rfl⟩
    have e1 : tornR z0 z1 z2 = (X, 0) := by unfold tornR; rw [if_pos h0, hX]
    have HXl : Hid (X.length = len0) := Lib.hid (by rw [hX, torn_length hab, LA.out])
    have m1 : may z0 X = true := by rw [hX]; exact may_torn hm _
    have m2 : may X z1 = true := by rw [hX]; exact torn_may hm _
    have e2 : writeR X z1 = (z1, 0) := by unfold writeR; rw [if_pos ((chk_iff _ _).2 m2)]
    have E2 := Lib.hid e2
    have M1 := Lib.hid m1
    simp only [e1] at HT
    clear hX e1 e2 m1 m2 hm hab h0 hcs
    go_enter Try.func7, Try.ntmps7
    go_wp2_with fail
    refine (HA.out).mono ?_; rintro e x0 ⟨rfl, hb0⟩
    have B0 := Lib.hid hb0
    have H1 := Lib.hid (HT.out x0 hb0)
    clear hb0
    go_wp2_with fail
    refine (H1.out).mono ?_; rintro e x1 he; obtain ⟨A1, c1, rfl, t1, b1⟩ := TextErr.get (n := len0) he HXl.out
    have B1 : Hid (Below w.heap.size w x1) := Lib.hid (B0.out.trans (b1.mono B0.out.size))
    have T1 := Lib.hid t1
    have H2 := Lib.hid (writeAny _ _ _ _ _ _ _ _ _ _ x1 t1 (Rd.below TB.out B1.out (Nat.le_refl _)) B1.out.size rb)
    rw [E2.out] at H2
    clear t1 b1 he
    unfold two
    go_wp2_with fail
    refine (H2.out).mono ?_; rintro e x2 he; obtain ⟨A2, c2, rfl, t2, b2⟩ := TextErr.get (n := len1) he LB.out
    have B2 : Hid (Below w.heap.size w x2) := Lib.hid (B1.out.trans (b2.mono B1.out.size))
    have H3 := Lib.hid (mayAny _ _ _ _ _ _ _ _ _ _ x2 (Rd.below TA.out B2.out (Nat.le_refl _)) (Rd.below T1.out b2 (Nat.le_refl _)))
    rw [M1.out] at H3
    have s1 := run_string x2 22 9 5 Try.underlying22 Try.underlying5 Try.underlying9 t2
    have s2 := run_string x2 22 9 5 Try.underlying22 Try.underlying5 Try.underlying9 (Rd.below TB.out B2.out (Nat.le_refl _))
    have sb : ((str z1).toList == (str z1).toList) = true := beq_self_eq_true _
    clear t2 b2 he
    unfold two
    go_wp2_with fail
    refine (H3.out).mono ?_; rintro e w' ⟨rfl, rfl⟩
    go_wp2_with fail
    go_ret
    exact ⟨rfl, B2.out⟩
  · have hm : may z0 z1 = false := by
      cases h : may z0 z1
      · rfl
      · exact absurd ((chk_iff _ _).2 h) h0
    have e1 : tornR z0 z1 z2 = ([], chk z0 z1) := by unfold tornR; rw [if_neg h0]
    have hne : (chk z0 z1 != 0) = true := by rw [bne_iff_ne]; exact h0
    have M1 := Lib.hid hm
    simp only [e1] at HT
    clear e1 hm h0 hcs
    generalize chk z0 z1 = r at *
    go_enter Try.func7, Try.ntmps7
    go_wp2_with fail
    refine (HA.out).mono ?_; rintro e x0 ⟨rfl, hb0⟩
    have B0 := Lib.hid hb0
    have H1 := Lib.hid (HT.out x0 hb0)
    clear hb0
    go_wp2_with fail
    refine (H1.out).mono ?_; rintro e x1 he; obtain ⟨A1, c1, rfl, t1, b1⟩ := TextErr.get (n := 0) he rfl
    have B1 : Hid (Below w.heap.size w x1) := Lib.hid (B0.out.trans (b1.mono B0.out.size))
    have H3 := Lib.hid (mayAny _ _ _ _ _ _ _ _ _ _ x1 (Rd.below TA.out B1.out (Nat.le_refl _)) (Rd.below TB.out B1.out (Nat.le_refl _)))
    rw [M1.out] at H3
    clear t1 b1 he
    unfold two
    go_wp2_with fail
    refine (H3.out).mono ?_; rintro e w' ⟨rfl, rfl⟩
    go_wp2_with fail
    go_ret
    exact ⟨rfl, B1.out⟩

set_option maxRecDepth 100000 in
theorem contract (H : Type) (enc : TypeId × Value → H) (W : World) (base : Nat) (args : Array Value) (ds gs : List (DataW H)) (before : List MemPlace)
    (hval : ∀ (j : Nat) t v, Try.f7.params[j]? = some t → args[j]? = some v → Value.okWide Try.prog W .any base t v)
    (hW : DataW.Whole enc Try.prog Try.f7.params.toList Rows.cellTornSpec.vars false W args.toList ds gs before) (hsz : (DataW.weightsEach Try.prog (Try.f7.params.toList ++ Rows.cellTornSpec.plain.varTypes Try.prog) (ds ++ gs)).all (· ≤ reachBytes) = true) :
    Calls Try.prog 7 args W fun e W' => ∃ v, e = .returned v ∧ Rows.cellTornSpec.post enc Try.prog Try.f7 false true false false W args v W' := by
  have hW' := hW
  obtain ⟨p, q, hA0, hV, rfl, hfz, hnd⟩ := hW
  have hA : DataW.TrodAll enc Try.prog W 0 (fun _ => true) true Try.f7.params.toList args.toList ds p := hA0
  rw [Try.params7] at hA hval hsz
  obtain ⟨v0, vs0, d0, ds0, p0, q0, hargs, rfl, rfl, h0, rr0⟩ := trodAll_cons hA
  obtain ⟨v1, vs1, d1, ds1, p1, q1, rfl, rfl, rfl, h1, rr1⟩ := trodAll_cons rr0
  obtain ⟨v2, vs2, d2, ds2, p2, q2, rfl, rfl, rfl, h2, rr2⟩ := trodAll_cons rr1
  obtain ⟨rfl, rfl, rfl⟩ := trodAll_nil rr2
  obtain rfl : args = #[v0, v1, v2] := by cases args; simp_all
  obtain ⟨rfl, rfl⟩ := trodVars_none hV
  obtain ⟨a0, len0, cap0, rfl⟩ := okWide_slice Try.underlying22 (hval 0 22 v0 rfl rfl)
  have k0 := h0
  have lt0 : ∀ x ∈ p0, x.block < W.heap.size := by obtain ⟨m, hm⟩ := k0; exact DataW.trod_lt m _ _ _ hm
  obtain ⟨⟨z0, w0⟩, u0⟩ := open_txt h0
  have r0 := reach_txt hsz (j := 0) rfl rfl u0
  obtain ⟨a1, len1, cap1, rfl⟩ := okWide_slice Try.underlying22 (hval 1 22 v1 rfl rfl)
  have k1 := h1
  have lt1 : ∀ x ∈ p1, x.block < W.heap.size := by obtain ⟨m, hm⟩ := k1; exact DataW.trod_lt m _ _ _ hm
  obtain ⟨⟨z1, w1⟩, u1⟩ := open_txt h1
  have r1 := reach_txt hsz (j := 1) rfl rfl u1
  obtain ⟨a2, len2, cap2, rfl⟩ := okWide_slice Try.underlying28 (hval 2 28 v2 rfl rfl)
  have k2 := h2
  have lt2 : ∀ x ∈ p2, x.block < W.heap.size := by obtain ⟨m, hm⟩ := k2; exact DataW.trod_lt m _ _ _ hm
  obtain ⟨⟨z2, w2⟩, u2⟩ := open_bts h2
  clear hA0
  refine (walk a0 len0 cap0 z0 a1 len1 cap1 z1 a2 len2 cap2 z2 W w0 w1 w2 r0 r1).mono fun e W' ⟨he, bel⟩ => ?_
  subst he
  exact ⟨_, rfl, _, _, _, [], _, [], hW', trodAll_mk1 (shut_bool Try.underlying4 _), (trodAll_cons_mk (Below.trod laidOut (by kernel_rfl) (of_decide_eq_true (by kernel_rfl)) k0 bel lt0) (trodAll_cons_mk (Below.trod laidOut (by kernel_rfl) (of_decide_eq_true (by kernel_rfl)) k1 bel lt1) (trodAll_cons_mk (Below.trod laidOut (by kernel_rfl) (of_decide_eq_true (by kernel_rfl)) k2 bel lt2) trodAll_mk0))), rfl, bel.frame _, fun h => by cases h⟩

set_option maxRecDepth 100000 in
theorem lifted (os : Os) (started : os.Started) (H : Type) (enc : TypeId × Value → H) :
    ReturnsInHanded {} Try.checked os 7 .any (Rows.cellTornSpec.pre6 enc Try.prog Try.f7 Rows.cellTornRow.domain false) (Rows.cellTornSpec.post enc Try.prog Try.f7 false true false false) := by
  refine returnsInHanded_of_change_sized (C := Try.checked) own started (by kernel_rfl) Try.func7
    (ChangeSpec.witness6 (enc := enc) (C := Try.checked) false ⟨#[], #[.slice none 0 0, .slice none 0 0, .slice none 0 0], []⟩ 8 (by kernel_rfl) (by kernel_rfl) (by kernel_rfl) (by kernel_rfl)) ?_
  intro W base args ds gs before hval hW _ hsz _
  exact contract H enc W base args ds gs before hval hW hsz

theorem over : Rows.cellTornRow.holds Try.pinned (OpenSpec.ofChange Rows.cellTornSpec) :=
  OpenClaim.holds_of_wide 7 Try.f7 rfl rfl rfl rfl rfl rfl rfl ⟨rfl, rfl, rfl, rfl, rfl⟩ rfl rfl rfl rfl rfl (by kernel_rfl) Try.func7 (by kernel_rfl)
    (of_decide_eq_true (by kernel_rfl)) (by unfold Func.isWrapper; first | (rw [if_pos (by decide +kernel)]; kernel_rfl) | (rw [if_neg (by decide +kernel)]; exact ⟨rfl, rfl⟩))
    (fun os started H enc _ => lifted os started H enc)

/-- ████ THE STATEMENT ████ -/
theorem proved : Rows.CellTornSaid := over
#print axioms proved
end Go.Proofs.Ytaombamfglljaaa.cellTorn
