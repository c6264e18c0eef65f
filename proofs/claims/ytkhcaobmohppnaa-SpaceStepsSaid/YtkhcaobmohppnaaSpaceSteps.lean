/-
  Right and Step answer what the document says.
-/
import Derived.Test.YtkhcaobmohppnaaRows
import Derived.Test.YtkhcaobmohppnaaSFrame
import Derived.Test.YtkhcaobmohppnaaDPlay
import Derived.Test.YtkhcaobmohppnaaDWf
import Derived.WalkKit
import Derived.ProofKit
import Derived.OpenShut
import Derived.ShutString
import Derived.ChangeOld
import Derived.Below
import Derived.SizedLaws
import Derived.RegionTactic
import Derived.Deep.RegionWith
import Derived.Deep.CutBlock
import Derived.ChangeAlike
namespace Go.Proofs.Ytkhcaobmohppnaa.spaceSteps
open Go.ChangeShapes Go.WideShapes Go.ChangeAt Go.RowKit Words Go.Proofs.Ytkhcaobmohppnaa.Spc
open Go.ChangeMaps (open_string shut_string)
set_option linter.unusedVariables false

theorem own : ownKnob Try.prog.godebug = none := by kernel_rfl
theorem laidOut : laidOutB Try.prog = true := by kernel_rfl

set_option maxRecDepth 100000 in
set_option maxHeartbeats 8000000 in
/-- The walk: the Go text returns true and writes nothing that was there. -/
theorem walk (a0 : Int) (a1 : Option Addr) (len1 cap1 : Nat) (z1 : List Gp) (o2 : Nop) (w : World) (w0 : (Lit.int .i64 a0).wf = true) (w1 : Fl w w.heap.size a1 len1 cap1 z1)  :
    Calls Try.prog 3 #[.int .i64 a0, .slice a1 len1 cap1, oval o2] w fun e w' => e = .returned (.bool true) ∧ Below w.heap.size w w' := by
  have CON := con
  have H := Lib.hid w1.rd
  have HWF := Lib.hid w1.wf
  obtain ⟨wb, hwb⟩ : ∃ wb, w.alloc (.cells (scells o2).toArray 24) = wb := ⟨_, rfl⟩
  have BX : Hid (Below w.heap.size w wb) := Lib.hid (by rw [← hwb]; exact boxed w _)
  have gx : Whole wb w.heap.size 24 (scells o2).toArray := by rw [← hwb]; exact Whole.new w 24 _
  have HB1 : Hid (∀ x : World, Below wb.heap.size wb x → x.cell? ⟨w.heap.size, 0, none⟩ = some (.int .i64 o2.k) ∧ x.cell? ⟨w.heap.size, 1, none⟩ = some (.int .i64 o2.a) ∧ x.cell? ⟨w.heap.size, 2, none⟩ = some (.int .i64 o2.m)) := Lib.hid fun x b =>
    ⟨by rw [Whole.cell (whole_below2 gx b)]; rfl, by rw [Whole.cell (whole_below2 gx b)]; rfl, by rw [Whole.cell (whole_below2 gx b)]; rfl⟩
  have rd := fun (x : World) (b : Below wb.heap.size wb x) => Words.Rd.below H.out (BX.out.trans (b.mono BX.out.size)) (Nat.le_refl _)
  have HS := fun (x : World) (b : Below wb.heap.size wb x) => CON.step w.heap.size a1 len1 cap1 z1 a0 o2 x (rd x b) HWF.out (Nat.le_trans BX.out.size b.size)
  have HN := fun (x : World) (b : Below wb.heap.size wb x) => nstep10 w.heap.size a1 len1 cap1 z1 a0 o2 x (rd x b) (Nat.le_trans BX.out.size b.size)
  have HW := Lib.hid (fun (x : World) (b : Below wb.heap.size wb x) => nrow11 w.heap.size a1 len1 cap1 z1 4096 x (rd x b) (Nat.le_trans BX.out.size b.size))
  have HR := fun (x : World) (b : Below wb.heap.size wb x) => CON.right w.heap.size a1 len1 cap1 z1 x (rd x b) HWF.out (Nat.le_trans BX.out.size b.size)
  have HOK : Hid (okRow 4096 z1 = va 4096 z1) := Lib.hid rfl
  unfold NS at HS HN
  generalize sgl a0 z1 o2 = gs at *
  generalize ser a0 z1 o2 = en at *
  generalize sat a0 z1 o2 = an at *
  unfold aval at HS HN
  have HEQ : ∀ x : World, (binOp .eql 27 (.agg #[.int .i64 en, .int .i64 an]) (.agg #[.int .i64 en, .int .i64 an])).run Try.prog x = .ok (.bool true) x := fun x => by simp [go_sem, binOp, Op.equal, Op.maxDepth]
  obtain ⟨ok, oa, om⟩ := o2
  have HWB : Hid (w.alloc (.cells #[.int .i64 ok, .int .i64 oa, .int .i64 om] 24) = wb) := Lib.hid hwb
  unfold oval sval
  unfold sval at HS HN
  simp only at HS HN HB1 ⊢
  have HS := Lib.hid HS
  have HN := Lib.hid HN
  have HR := Lib.hid HR
  have HEQ := Lib.hid HEQ
  have BWW : Hid (Below wb.heap.size wb wb) := Lib.hid (Below.refl _ _)
  clear hwb gx rd
  go_enter Try.func3, Try.ntmps3
  go_wp2_with fail
  rw [HWB.out]
  obtain ⟨g0, g1, g2⟩ := HB1.out wb BWW.out
  go_wp2_with fail
  refine (HS.out _ BWW.out).mono ?_; rintro e x1 ⟨A1, c1, rfl, o1, b1⟩
  have O1 := Lib.hid (o1.below (boxed x1 (.cells (acells en an).toArray 27)) (Nat.le_refl _))
  have B1 := Lib.hid (b1.trans ((boxed x1 (.cells (acells en an).toArray 27)).mono b1.size))
  have G1 := Lib.hid (Whole.new x1 27 (acells en an).toArray)
  clear o1 b1 g0 g1 g2
  obtain ⟨g0, g1, g2⟩ := HB1.out _ B1.out
  have hN := Lib.hid (HN.out _ B1.out)
  unfold acells at hN g0 g1 g2 B1 O1 G1
  obtain ⟨ln, hln⟩ : ∃ ln, ln = gs.length := ⟨_, rfl⟩
  rw [← hln] at O1 hN ⊢
  clear hln
  go_wp2_with fail
  refine (hN.out).mono ?_; rintro e x2 ⟨A2, c2, rfl, o2, b2⟩
  have X1 := Lib.hid ((whole_below2 G1.out b2).alloc (.cells (acells en an).toArray 27))
  have X2 := Lib.hid (Whole.new x2 27 (acells en an).toArray)
  have bq := boxed x2 (.cells (acells en an).toArray 27)
  have O1' := Lib.hid ((O1.out.below b2 (Nat.le_refl _)).below bq (Nat.le_refl _))
  have O2 := Lib.hid (o2.below bq (Nat.le_refl _))
  have B2 := Lib.hid ((B1.out.trans (b2.mono B1.out.size)).trans (bq.mono (B1.out.trans (b2.mono B1.out.size)).size))
  have hW := Lib.hid (HW.out _ B2.out)
  unfold acells at hW B2 O1' O2 X1 X2
  clear o2 b2 g0 g1 g2 bq
  cases hv : va 4096 z1 with
  | false =>
    have HF : Hid (okRow 4096 z1 = false) := Lib.hid (HOK.out.trans hv)
    rw [hv] at HR
    clear hv
    go_wp2_with fail
    refine (hW.out).mono ?_; intro e x3 h3
    obtain ⟨rfl, b3⟩ := h3.no HF.out
    have B3 := Lib.hid (B2.out.trans (b3.mono B2.out.size))
    have Y1 := Lib.hid (whole_below2 X1.out b3)
    have Y2 := Lib.hid (whole_below2 X2.out b3)
    have P1 := Lib.hid (O1'.out.below b3 (Nat.le_refl _))
    have P2 := Lib.hid (O2.out.below b3 (Nat.le_refl _))
    clear h3 b3
    go_wp2_with fail
    refine (HR.out _ B3.out).mono ?_; rintro e x4 ⟨rfl, b4⟩
    have B4 := Lib.hid (B3.out.trans (b4.mono B3.out.size))
    have k0 := Whole.cell (whole_below2 Y1.out b4) 0
    have k1 := Whole.cell (whole_below2 Y1.out b4) 1
    have k2 := Whole.cell (whole_below2 Y2.out b4) 0
    have k3 := Whole.cell (whole_below2 Y2.out b4) 1
    simp at k0 k1 k2 k3
    have heq := HEQ.out
    have E1 := Lib.hid (equal13_yes _ _ A1 A2 ln ln c1 c2 gs gs x4 (P1.out.below b4 (Nat.le_refl _)).gps (P2.out.below b4 (Nat.le_refl _)).gps rfl)
    clear b4
    go_wp2_with fail
    refine (E1.out).mono ?_; rintro e x5 ⟨rfl, L5⟩
    have B5 := Lib.hid (B4.out.trans (L5.below.mono B4.out.size))
    clear L5
    go_wp2_with fail
    go_ret
    exact ⟨rfl, BX.out.trans (B5.out.mono BX.out.size)⟩
  | true =>
    have HF : Hid (okRow 4096 z1 = true) := Lib.hid (HOK.out.trans hv)
    rw [hv] at HR
    clear hv
    go_wp2_with fail
    refine (hW.out).mono ?_; intro e x3 h3
    obtain ⟨⟨g3, c3, rfl, _⟩, b3⟩ := h3.yes HF.out
    have B3 := Lib.hid (B2.out.trans (b3.mono B2.out.size))
    have Y1 := Lib.hid (whole_below2 X1.out b3)
    have Y2 := Lib.hid (whole_below2 X2.out b3)
    have P1 := Lib.hid (O1'.out.below b3 (Nat.le_refl _))
    have P2 := Lib.hid (O2.out.below b3 (Nat.le_refl _))
    clear h3 b3
    go_wp2_with fail
    refine (HR.out _ B3.out).mono ?_; rintro e x4 ⟨rfl, b4⟩
    have B4 := Lib.hid (B3.out.trans (b4.mono B3.out.size))
    have k0 := Whole.cell (whole_below2 Y1.out b4) 0
    have k1 := Whole.cell (whole_below2 Y1.out b4) 1
    have k2 := Whole.cell (whole_below2 Y2.out b4) 0
    have k3 := Whole.cell (whole_below2 Y2.out b4) 1
    simp at k0 k1 k2 k3
    have heq := HEQ.out
    have E1 := Lib.hid (equal13_yes _ _ A1 A2 ln ln c1 c2 gs gs x4 (P1.out.below b4 (Nat.le_refl _)).gps (P2.out.below b4 (Nat.le_refl _)).gps rfl)
    clear b4
    go_wp2_with fail
    refine (E1.out).mono ?_; rintro e x5 ⟨rfl, L5⟩
    have B5 := Lib.hid (B4.out.trans (L5.below.mono B4.out.size))
    clear L5
    go_wp2_with fail
    go_ret
    exact ⟨rfl, BX.out.trans (B5.out.mono BX.out.size)⟩

set_option maxRecDepth 100000 in
theorem contract (H : Type) (enc : TypeId × Value → H) (W : World) (base : Nat) (args : Array Value) (ds gs : List (DataW H)) (before : List MemPlace)
    (hval : ∀ (j : Nat) t v, Try.f3.params[j]? = some t → args[j]? = some v → Value.okWide Try.prog W .any base t v)
    (hW : DataW.Whole enc Try.prog Try.f3.params.toList Rows.spaceStepsSpec.vars false W args.toList ds gs before) :
    Calls Try.prog 3 args W fun e W' => ∃ v, e = .returned v ∧ Rows.spaceStepsSpec.post enc Try.prog Try.f3 false true false false W args v W' := by
  have hW' := hW
  obtain ⟨p, q, hA0, hV, rfl, hfz, hnd⟩ := hW
  have hA : DataW.TrodAll enc Try.prog W 0 (fun _ => true) true Try.f3.params.toList args.toList ds p := hA0
  rw [Try.params3] at hA hval
  obtain ⟨v0, vs0, d0, ds0, p0, q0, hargs, rfl, rfl, h0, rr0⟩ := trodAll_cons hA
  obtain ⟨v1, vs1, d1, ds1, p1, q1, rfl, rfl, rfl, h1, rr1⟩ := trodAll_cons rr0
  obtain ⟨v2, vs2, d2, ds2, p2, q2, rfl, rfl, rfl, h2, rr2⟩ := trodAll_cons rr1
  obtain ⟨rfl, rfl, rfl⟩ := trodAll_nil rr2
  obtain rfl : args = #[v0, v1, v2] := by cases args; simp_all
  obtain ⟨rfl, rfl⟩ := trodVars_none hV
  obtain ⟨a0, rfl, rfl, rfl, w0⟩ := open_int Try.underlying3 (hval 0 3 v0 rfl rfl) h0
  obtain ⟨a1, len1, cap1, rfl⟩ := okWide_slice Try.underlying22 (hval 1 22 v1 rfl rfl)
  have k1 := h1
  have lt1 : ∀ x ∈ p1, x.block < W.heap.size := by obtain ⟨m, hm⟩ := k1; exact DataW.trod_lt m _ _ _ hm
  obtain ⟨⟨z1, w1⟩, u1⟩ := open_fl h1
  have k2 := h2
  have lt2 : ∀ x ∈ p2, x.block < W.heap.size := by obtain ⟨m, hm⟩ := k2; exact DataW.trod_lt m _ _ _ hm
  obtain ⟨o2, rfl⟩ := open_op (hval 2 24 v2 rfl rfl) h2
  clear hA0
  refine (walk a0 a1 len1 cap1 z1 o2 W w0 w1).mono fun e W' ⟨he, bel⟩ => ?_
  subst he
  exact ⟨_, rfl, _, _, _, [], _, [], hW', trodAll_mk1 (shut_bool Try.underlying4 _), (trodAll_cons_mk (shut_int Try.underlying3 w0) (trodAll_cons_mk (Below.trod laidOut (by kernel_rfl) (of_decide_eq_true (by kernel_rfl)) k1 bel lt1) (trodAll_cons_mk (Below.trod laidOut (by kernel_rfl) (of_decide_eq_true (by kernel_rfl)) k2 bel lt2) trodAll_mk0))), rfl, bel.frame _, fun h => by cases h⟩

set_option maxRecDepth 100000 in
theorem lifted (os : Os) (started : os.Started) (H : Type) (enc : TypeId × Value → H) :
    ReturnsInHanded {} Try.checked os 3 .any (Rows.spaceStepsSpec.pre6 enc Try.prog Try.f3 Rows.spaceStepsRow.domain false) (Rows.spaceStepsSpec.post enc Try.prog Try.f3 false true false false) := by
  refine returnsInHanded_of_change (C := Try.checked) own started (by kernel_rfl) Try.func3
    (ChangeSpec.witness6 (enc := enc) (C := Try.checked) false ⟨#[], #[.int .i64 0, .slice none 0 0, .agg #[.int .i64 0, .int .i64 0, .int .i64 0]], []⟩ 8 (by kernel_rfl) (by kernel_rfl) (by kernel_rfl) (by kernel_rfl)) ?_
  intro W base args ds gs before hval hW _ _
  exact contract H enc W base args ds gs before hval hW

theorem over : Rows.spaceStepsRow.holds Try.pinned (OpenSpec.ofChange Rows.spaceStepsSpec) :=
  OpenClaim.holds_of_wide 3 Try.f3 rfl rfl rfl rfl rfl rfl rfl ⟨rfl, rfl, rfl, rfl, rfl⟩ rfl rfl rfl rfl rfl (by kernel_rfl) Try.func3 (by kernel_rfl)
    (of_decide_eq_true (by kernel_rfl)) (by unfold Func.isWrapper; first | (rw [if_pos (by decide +kernel)]; kernel_rfl) | (rw [if_neg (by decide +kernel)]; exact ⟨rfl, rfl⟩))
    (fun os started H enc _ => lifted os started H enc)

/-- ████ THE STATEMENT ████ -/
theorem proved : Rows.SpaceStepsSaid := over
#print axioms proved
end Go.Proofs.Ytkhcaobmohppnaa.spaceSteps
