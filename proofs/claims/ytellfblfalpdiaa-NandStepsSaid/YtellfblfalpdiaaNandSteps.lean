/-
  NandSteps holds for every input: New, Right and Step return what chapter 4 says.
-/
import Derived.Test.YtellfblfalpdiaaRows
import Derived.Test.YtellfblfalpdiaaThree
import Derived.Test.YtellfblfalpdiaaFrame
import Derived.WalkKit
import Derived.ProofKit
import Derived.OpenShut
import Derived.ShutString
import Derived.ChangeOld
import Derived.Below
import Derived.SizedLaws
import Derived.RegionTactic
import Derived.Deep.RegionWith
import Derived.Deep.CutBlock
import Derived.ChangeAlike
namespace Go.Proofs.Ytellfblfalpdiaa.nandSteps
open Go.ChangeShapes Go.WideShapes Go.ChangeAt Go.RowKit Words Go.Proofs.Ytellfblfalpdiaa.Nand
open Go.ChangeMaps (open_string shut_string)
set_option linter.unusedVariables false

theorem own : ownKnob Try.prog.godebug = none := by kernel_rfl
theorem laidOut : laidOutB Try.prog = true := by kernel_rfl

set_option maxRecDepth 20000 in
set_option maxHeartbeats 2000000 in
/-- The walk: the Go text returns true and writes nothing that was there. -/
theorem walk (a0 : Option Addr) (len0 cap0 : Nat) (z0 : List Blk) (o1 : Nop) (w : World) (w0 : Fl w w.heap.size a0 len0 cap0 z0)  :
    Calls Try.prog 3 #[.slice a0 len0 cap0, oval o1] w fun e w' => e = .returned (.bool true) ∧ Below w.heap.size w w' := by
  have HK0 : Hid (Kept w o1 (w.alloc (bx o1))) := Lib.hid (Below.refl _ _)
  have HF := Lib.hid w0
  have H1 := Lib.hid (step9 _ _ _ _ _ o1 (w.alloc (bx o1)) (Words.Rd.below w0 HK0.out.below (Nat.le_refl _)) HK0.out.below.size)
  have H2 := Lib.hid (fun x (b : Kept w o1 x) => step10 _ _ _ _ _ o1 x (Words.Rd.below w0 b.below (Nat.le_refl _)) b.below.size)
  have HR := Lib.hid (fun x (b : Below w.heap.size w x) => right13 _ _ _ _ _ x (Words.Rd.below w0 b (Nat.le_refl _)) b.size)
  have HS := Lib.hid (fun x (b : Below w.heap.size w x) => right14 _ _ _ _ _ x (Words.Rd.below w0 b (Nat.le_refl _)) b.size)
  clear w0
  generalize hn : nextOf z0 o1 = l at *
  generalize dataOf z0 o1 = d at *
  generalize errOf z0 o1 = k at *
  generalize right z0 = r at *
  obtain ⟨m, hm⟩ : ∃ m, l.length = m := ⟨_, rfl⟩
  have HM := Lib.hid hm
  obtain ⟨vd, hvd⟩ : ∃ vd, vd = Value.int .i64 d := ⟨_, rfl⟩
  obtain ⟨vk, hvk⟩ : ∃ vk, vk = Value.int .i64 k := ⟨_, rfl⟩
  obtain ⟨vr, hvr⟩ : ∃ vr, vr = Value.bool r := ⟨_, rfl⟩
  have HVD := Lib.hid hvd
  have HVK := Lib.hid hvk
  have ekk : ∀ x, (binOp .eql 25 vk vk).run Try.prog x = .ok (.bool true) x := fun x => by rw [hvk]; exact eql_same 25 k x
  have edd : ∀ x, (binOp .eql 3 vd vd).run Try.prog x = .ok (.bool true) x := fun x => by rw [hvd]; exact eql_same 3 d x
  have err : ∀ x, (binOp .eql 4 vr vr).run Try.prog x = .ok (.bool true) x := fun x => by rw [hvr]; exact eql_bool r x
  have gkk : ∀ a b x, (eqGuard .eql 25 a b vk vk).run Try.prog x = .ok () x := fun a b x => by rw [hvk]; exact guard_int 25 a b k x
  have gdd : ∀ a b x, (eqGuard .eql 3 a b vd vd).run Try.prog x = .ok () x := fun a b x => by rw [hvd]; exact guard_int 3 a b d x
  have grr : ∀ a b x, (eqGuard .eql 4 a b vr vr).run Try.prog x = .ok () x := fun a b x => by rw [hvr]; exact guard_bool 4 a b r x
  have HVR := Lib.hid hvr
  clear hm hn hvd hvk hvr
  unfold oval bx at H1
  unfold oval at H2 ⊢
  go_enter Try.func3, Try.ntmps3
  go_wp2_with fail
  refine (H1.out).mono ?_; rintro e x1 hq; obtain ⟨A1, c1, rfl, f1, b1⟩ := Made3.getV (n := m) hq HM.out HVD.out HVK.out
  have HK1 : Hid (Kept w o1 x1) := Lib.hid (HK0.out.next b1)
  have F1 := Lib.hid f1.fl
  obtain ⟨q0, q1, q2, q3⟩ := HK1.out.cells
  have H3 := Lib.hid (H2.out x1 HK1.out)
  clear hq f1 b1
  go_wp2_with fail
  refine (H3.out).mono ?_; rintro e x2 hq; obtain ⟨A2, c2, rfl, f2, b2⟩ := Made3.getV (n := m) hq HM.out HVD.out HVK.out
  have s0 : S3 w A1 m c1 A2 c2 l x2 := ⟨HK1.out.below.trans (b2.mono HK1.out.below.size), Words.Rd.more (Words.Rd.below F1.out b2 (Nat.le_refl _)) b2.size, f2.fl⟩
  have S0 := Lib.hid s0
  clear hq f2 b2 s0 q0 q1 q2 q3
  go_wp2_with fail
  have hmk := run_fresh
  have hs3 := S0.out.drew
  have HRs := Lib.hid (fun x (h : S3 w A1 m c1 A2 c2 l x) => (HR.out x h.bel).mono fun e y ⟨he, hb⟩ => (⟨by rw [HVR.out]; exact he, h.next hb⟩ : e = Ending.returned vr ∧ S3 w A1 m c1 A2 c2 l y))
  have HSs := Lib.hid (fun x (h : S3 w A1 m c1 A2 c2 l x) => (HS.out x h.bel).mono fun e y ⟨he, hb⟩ => (⟨by rw [HVR.out]; exact he, h.next hb⟩ : e = Ending.returned vr ∧ S3 w A1 m c1 A2 c2 l y))
  have HNs := Lib.hid (fun x (h : S3 w A1 m c1 A2 c2 l x) => new12s x h)
  have HTs := Lib.hid (fun x (h : S3 w A1 m c1 A2 c2 l x) => two_same x h)
  have HFs := Lib.hid (fun x D1 D2 (h : S3 w A1 m c1 A2 c2 l x) => two_fresh x D1 D2 h)
  have hs0 := hs3
  go_region_held3 (fun w' => S3 w A1 m c1 A2 c2 l w')
    (first | (with_reducible exact hs0) | (with_reducible exact hs3) | (with_reducible exact S3.drew (S3.alloc S0.out _)) | (refine S3.alloc ?_ _; with_reducible assumption) | (with_reducible assumption))
    (first
      | (go_at_call 12; ((with_reducible refine (HNs.out _ ?_).mono ?_); (with_reducible assumption); rintro e w' ⟨D, rfl, hfn, hbn, hs3⟩))
      | (go_at_call_of 11 (Value.slice A1 m c1); ((with_reducible refine (HTs.out _ ?_).mono ?_); (with_reducible assumption); rintro e w' ⟨rfl, hs3⟩))
      | (go_at_call 11; ((with_reducible refine (HFs.out _ _ _ ?_ ?_ ?_).mono ?_); (with_reducible assumption); (first | (with_reducible exact hfn) | (with_reducible exact fl_a hfn _)); (first | (with_reducible exact fl_b _) | (with_reducible exact fl_c hbn)); rintro e w' ⟨rfl, hs3⟩))
      | (go_at_call 13; ((with_reducible refine (HRs.out _ ?_).mono ?_); (with_reducible assumption); rintro e w' ⟨rfl, hs3⟩))
      | (go_at_call 14; ((with_reducible refine (HSs.out _ ?_).mono ?_); (with_reducible assumption); rintro e w' ⟨rfl, hs3⟩)))
  all_goals
    have HB := Lib.hid hs3.bel
    clear hs3
    go_wp2_with fail
    go_ret
    exact ⟨rfl, HB.out⟩

set_option maxRecDepth 100000 in
theorem contract (H : Type) (enc : TypeId × Value → H) (W : World) (base : Nat) (args : Array Value) (ds gs : List (DataW H)) (before : List MemPlace)
    (hval : ∀ (j : Nat) t v, Try.f3.params[j]? = some t → args[j]? = some v → Value.okWide Try.prog W .any base t v)
    (hW : DataW.Whole enc Try.prog Try.f3.params.toList Rows.nandStepsSpec.vars false W args.toList ds gs before) :
    Calls Try.prog 3 args W fun e W' => ∃ v, e = .returned v ∧ Rows.nandStepsSpec.post enc Try.prog Try.f3 false true false false W args v W' := by
  have hW' := hW
  obtain ⟨p, q, hA0, hV, rfl, hfz, hnd⟩ := hW
  have hA : DataW.TrodAll enc Try.prog W 0 (fun _ => true) true Try.f3.params.toList args.toList ds p := hA0
  rw [Try.params3] at hA hval
  obtain ⟨v0, vs0, d0, ds0, p0, q0, hargs, rfl, rfl, h0, rr0⟩ := trodAll_cons hA
  obtain ⟨v1, vs1, d1, ds1, p1, q1, rfl, rfl, rfl, h1, rr1⟩ := trodAll_cons rr0
  obtain ⟨rfl, rfl, rfl⟩ := trodAll_nil rr1
  obtain rfl : args = #[v0, v1] := by cases args; simp_all
  obtain ⟨rfl, rfl⟩ := trodVars_none hV
  obtain ⟨a0, len0, cap0, rfl⟩ := okWide_slice Try.underlying22 (hval 0 22 v0 rfl rfl)
  have k0 := h0
  have lt0 : ∀ x ∈ p0, x.block < W.heap.size := by obtain ⟨m, hm⟩ := k0; exact DataW.trod_lt m _ _ _ hm
  obtain ⟨⟨z0, w0⟩, u0⟩ := open_fl h0
  have k1 := h1
  have lt1 : ∀ x ∈ p1, x.block < W.heap.size := by obtain ⟨m, hm⟩ := k1; exact DataW.trod_lt m _ _ _ hm
  obtain ⟨o1, rfl⟩ := open_op (hval 1 24 v1 rfl rfl) h1
  clear hA0
  refine (walk a0 len0 cap0 z0 o1 W w0).mono fun e W' ⟨he, bel⟩ => ?_
  subst he
  exact ⟨_, rfl, _, _, _, [], _, [], hW', trodAll_mk1 (shut_bool Try.underlying4 _), (trodAll_cons_mk (Below.trod laidOut (by kernel_rfl) (of_decide_eq_true (by kernel_rfl)) k0 bel lt0) (trodAll_cons_mk (Below.trod laidOut (by kernel_rfl) (of_decide_eq_true (by kernel_rfl)) k1 bel lt1) trodAll_mk0)), rfl, bel.frame _, fun h => by cases h⟩

set_option maxRecDepth 100000 in
theorem lifted (os : Os) (started : os.Started) (H : Type) (enc : TypeId × Value → H) :
    ReturnsInHanded {} Try.checked os 3 .any (Rows.nandStepsSpec.pre6 enc Try.prog Try.f3 Rows.nandStepsRow.domain false) (Rows.nandStepsSpec.post enc Try.prog Try.f3 false true false false) := by
  refine returnsInHanded_of_change (C := Try.checked) own started (by kernel_rfl) Try.func3
    (ChangeSpec.witness6 (enc := enc) (C := Try.checked) false ⟨#[], #[.slice none 0 0, .agg #[.int .i64 0, .int .i64 0, .int .i64 0, .int .i64 0]], []⟩ 8 (by kernel_rfl) (by kernel_rfl) (by kernel_rfl) (by kernel_rfl)) ?_
  intro W base args ds gs before hval hW _ _
  exact contract H enc W base args ds gs before hval hW

theorem over : Rows.nandStepsRow.holds Try.pinned (OpenSpec.ofChange Rows.nandStepsSpec) :=
  OpenClaim.holds_of_wide 3 Try.f3 rfl rfl rfl rfl rfl rfl rfl ⟨rfl, rfl, rfl, rfl, rfl⟩ rfl rfl rfl rfl rfl (by kernel_rfl) Try.func3 (by kernel_rfl)
    (of_decide_eq_true (by kernel_rfl)) (by unfold Func.isWrapper; first | (rw [if_pos (by decide +kernel)]; kernel_rfl) | (rw [if_neg (by decide +kernel)]; exact ⟨rfl, rfl⟩))
    (fun os started H enc _ => lifted os started H enc)

/-- ████ THE STATEMENT ████ -/
theorem proved : Rows.NandStepsSaid := over
#print axioms proved
end Go.Proofs.Ytellfblfalpdiaa.nandSteps
