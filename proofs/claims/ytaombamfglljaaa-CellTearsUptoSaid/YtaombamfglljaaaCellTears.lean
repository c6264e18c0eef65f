/-
  CellTears holds for every input of bulk at most 1048576: Torn returns what C2 says.
-/
import Derived.Test.YtaombamfglljaaaRows
import Derived.Test.YtaombamfglljaaaFrame
import Derived.Test.YtaombamfglljaaaRefs2
import Derived.WalkKit
import Derived.ProofKit
import Derived.OpenShut
import Derived.ShutString
import Derived.ChangeOld
import Derived.Below
import Derived.SizedLaws
import Derived.RegionTactic
import Derived.ChangeAlike
import Derived.JoinedCond
import Derived.Deep.CondSized
namespace Go.Proofs.Ytaombamfglljaaa.cellTears
open Go.ChangeShapes Go.WideShapes Go.ChangeAt Go.RowKit Words Go.Proofs.Ytaombamfglljaaa.Cell
open Go.ChangeMaps (open_string shut_string)
set_option linter.unusedVariables false

theorem own : ownKnob Try.prog.godebug = none := by kernel_rfl
theorem laidOut : laidOutB Try.prog = true := by kernel_rfl

set_option maxHeartbeats 2000000 in
/-- The walk: the Go text returns true and writes nothing that was there. -/
theorem walk (a0 : Option Addr) (len0 cap0 : Nat) (z0 : List UInt8) (a1 : Option Addr) (len1 cap1 : Nat) (z1 : List UInt8) (a2 : Option Addr) (len2 cap2 : Nat) (z2 : List Bool) (w : World) (w0 : Txt w w.heap.size a0 len0 cap0 z0) (w1 : Txt w w.heap.size a1 len1 cap1 z1) (w2 : Bts w w.heap.size a2 len2 cap2 z2) (r0 : cap0 ≤ 1048576) (r1 : cap1 ≤ 1048576) (r2 : cap2 ≤ 1048576) :
    Calls Try.prog 4 #[.slice a0 len0 cap0, .slice a1 len1 cap1, .slice a2 len2 cap2] w fun e w' => e = .returned (.bool true) ∧ Below w.heap.size w w' := by
  have q0 : len0 ≤ 1048576 := by have := Rd.le w0; omega
  have q1 : len1 ≤ 1048576 := by have := Rd.le w1; omega
  have q2 : len2 ≤ 1048576 := by have := Rd.le w2; omega
  have TA := Lib.hid w0
  have TB := Lib.hid w1
  have TR := Lib.hid w2
  have H1 := Lib.hid (tornAny _ _ _ _ _ _ _ _ _ _ _ _ _ _ _ w w0 w1 w2 (Nat.le_refl _) (Nat.le_refl _) (Nat.le_refl _) (by omega))
  have H2 := Lib.hid (fun x (b : Below w.heap.size w x) => ctorn _ _ _ _ _ _ _ _ _ _ _ _ _ _ _ x (Rd.below TA.out b (Nat.le_refl _)) (Rd.below TB.out b (Nat.le_refl _)) (Rd.below TR.out b (Nat.le_refl _)) b.size b.size b.size q0 q1 (by omega))
  clear w0 w1 w2 r0 r1 r2
  obtain ⟨X, k, hr⟩ : ∃ X k, tornR z0 z1 z2 = (X, k) := ⟨_, _, rfl⟩
  obtain ⟨m, hm⟩ : ∃ m, X.length = m := ⟨_, rfl⟩
  rw [hr] at H1
  simp only [hr] at H2
  have LX := Lib.hid hm
  clear hr hm
  go_enter Try.func4, Try.ntmps4
  go_wp2_with fail
  refine (H1.out).mono ?_; rintro e x1 he; obtain ⟨A1, c1, rfl, t1, b1⟩ := TextErr.get (n := m) he LX.out
  have T1 := Lib.hid t1
  have B1 := Lib.hid b1
  have H3 := Lib.hid (H2.out x1 b1)
  clear t1 b1 he
  unfold two
  go_wp2_with fail
  refine (H3.out).mono ?_; rintro e x2 he; obtain ⟨A2, c2, rfl, t2, b2⟩ := TextErr.get (n := m) he LX.out
  have B2 : Hid (Below w.heap.size w x2) := Lib.hid (B1.out.trans (b2.mono B1.out.size))
  have s1 := run_string x2 22 9 5 Try.underlying22 Try.underlying5 Try.underlying9 (Rd.below T1.out b2 (Nat.le_refl _))
  have s2 := run_string x2 22 9 5 Try.underlying22 Try.underlying5 Try.underlying9 t2
  have sb : ((str X).toList == (str X).toList) = true := beq_self_eq_true _
  clear t2 b2 he
  unfold two
  go_wp2_with fail
  go_ret
  exact ⟨rfl, B2.out⟩

set_option maxRecDepth 100000 in
theorem contract (H : Type) (enc : TypeId × Value → H) (W : World) (base : Nat) (args : Array Value) (ds gs : List (DataW H)) (before : List MemPlace)
    (hval : ∀ (j : Nat) t v, Try.f4.params[j]? = some t → args[j]? = some v → Value.okWide Try.prog W .any base t v)
    (hW : DataW.Whole enc Try.prog Try.f4.params.toList Rows.cellTearsSpec.vars false W args.toList ds gs before) (hk : Rows.uptoSmall H (ds ++ gs) = true) :
    Calls Try.prog 4 args W fun e W' => ∃ v, e = .returned v ∧ Rows.cellTearsSpec.post enc Try.prog Try.f4 false true false false W args v W' := by
  have hW' := hW
  obtain ⟨p, q, hA0, hV, rfl, hfz, hnd⟩ := hW
  have hA : DataW.TrodAll enc Try.prog W 0 (fun _ => true) true Try.f4.params.toList args.toList ds p := hA0
  rw [Try.params4] at hA hval
  obtain ⟨v0, vs0, d0, ds0, p0, q0, hargs, rfl, rfl, h0, rr0⟩ := trodAll_cons hA
  obtain ⟨v1, vs1, d1, ds1, p1, q1, rfl, rfl, rfl, h1, rr1⟩ := trodAll_cons rr0
  obtain ⟨v2, vs2, d2, ds2, p2, q2, rfl, rfl, rfl, h2, rr2⟩ := trodAll_cons rr1
  obtain ⟨rfl, rfl, rfl⟩ := trodAll_nil rr2
  obtain rfl : args = #[v0, v1, v2] := by cases args; simp_all
  obtain ⟨rfl, rfl⟩ := trodVars_none hV
  obtain ⟨a0, len0, cap0, rfl⟩ := okWide_slice Try.underlying22 (hval 0 22 v0 rfl rfl)
  have k0 := h0
  have lt0 : ∀ x ∈ p0, x.block < W.heap.size := by obtain ⟨m, hm⟩ := k0; exact DataW.trod_lt m _ _ _ hm
  obtain ⟨⟨z0, w0⟩, u0⟩ := open_txt h0
  have r0 := bulk_cap hk (d := d0) (by simp) u0
  obtain ⟨a1, len1, cap1, rfl⟩ := okWide_slice Try.underlying22 (hval 1 22 v1 rfl rfl)
  have k1 := h1
  have lt1 : ∀ x ∈ p1, x.block < W.heap.size := by obtain ⟨m, hm⟩ := k1; exact DataW.trod_lt m _ _ _ hm
  obtain ⟨⟨z1, w1⟩, u1⟩ := open_txt h1
  have r1 := bulk_cap hk (d := d1) (by simp) u1
  obtain ⟨a2, len2, cap2, rfl⟩ := okWide_slice Try.underlying28 (hval 2 28 v2 rfl rfl)
  have k2 := h2
  have lt2 : ∀ x ∈ p2, x.block < W.heap.size := by obtain ⟨m, hm⟩ := k2; exact DataW.trod_lt m _ _ _ hm
  obtain ⟨⟨z2, w2⟩, u2⟩ := open_bts h2
  have r2 := bulk_cap hk (d := d2) (by simp) u2
  clear hA0
  refine (walk a0 len0 cap0 z0 a1 len1 cap1 z1 a2 len2 cap2 z2 W w0 w1 w2 r0 r1 r2).mono fun e W' ⟨he, bel⟩ => ?_
  subst he
  exact ⟨_, rfl, _, _, _, [], _, [], hW', trodAll_mk1 (shut_bool Try.underlying4 _), (trodAll_cons_mk (Below.trod laidOut (by kernel_rfl) (of_decide_eq_true (by kernel_rfl)) k0 bel lt0) (trodAll_cons_mk (Below.trod laidOut (by kernel_rfl) (of_decide_eq_true (by kernel_rfl)) k1 bel lt1) (trodAll_cons_mk (Below.trod laidOut (by kernel_rfl) (of_decide_eq_true (by kernel_rfl)) k2 bel lt2) trodAll_mk0))), rfl, bel.frame _, fun h => by cases h⟩

set_option maxRecDepth 100000 in
theorem lifted (os : Os) (started : os.Started) (H : Type) (enc : TypeId × Value → H) (F : Stop.Interp) :
    ReturnsInHanded {} Try.checked os 4 .any ((Rows.OpenSpec.upto Rows.cellTearsSpec).pre6 enc Try.prog Try.f4 Rows.cellTearsUptoRow.domain false) (((Rows.OpenSpec.upto Rows.cellTearsSpec).at F).post enc Try.prog Try.f4 false true false false) := by
  refine returnsInHanded_of_cond (C := Try.checked) (s := Rows.OpenSpec.upto Rows.cellTearsSpec) (k := Rows.uptoSmall) rfl own started (by kernel_rfl) Try.func4
    (OpenSpec.witness (enc := enc) (C := Try.checked) (s := Rows.OpenSpec.upto Rows.cellTearsSpec) (k := Rows.uptoSmall) rfl false ⟨#[], #[.slice none 0 0, .slice none 0 0, .slice none 0 0], []⟩ 8 (by kernel_rfl) (by kernel_rfl) (by kernel_rfl)
      (x := ([.nil, .nil, .nil], [], [])) (by kernel_rfl) rfl (by kernel_rfl)) ?_
  intro W base args ds gs before hval hW _ hk _
  exact contract H enc W base args ds gs before hval hW hk

theorem over : Rows.cellTearsUptoRow.holds Try.pinned (Rows.OpenSpec.upto Rows.cellTearsSpec) :=
  OpenClaim.holds_of_cond 4 Try.f4 rfl rfl rfl rfl rfl rfl rfl ⟨rfl, rfl, rfl, rfl, rfl⟩ rfl rfl rfl rfl rfl (by kernel_rfl) Try.func4 (by kernel_rfl)
    (of_decide_eq_true (by kernel_rfl)) (by unfold Func.isWrapper; first | (rw [if_pos (by decide +kernel)]; kernel_rfl) | (rw [if_neg (by decide +kernel)]; exact ⟨rfl, rfl⟩))
    (fun os started H enc _ F => lifted os started H enc F)

/-- ████ THE STATEMENT ████ -/
theorem proved : Rows.CellTearsUptoSaid := over
#print axioms proved
end Go.Proofs.Ytaombamfglljaaa.cellTears
