/-
  Put answers what the document says.
-/
import Derived.Test.YtfcihgincfcdkaaRows
import Derived.Test.YtfcihgincfcdkaaFrame
import Derived.Test.YtfcihgincfcdkaaRPut
import Derived.Test.YtfcihgincfcdkaaRList
import Derived.Test.YtfcihgincfcdkaaREqs
import Derived.WalkKit
import Derived.ProofKit
import Derived.OpenShut
import Derived.ShutString
import Derived.ChangeOld
import Derived.Below
import Derived.SizedLaws
import Derived.RegionTactic
import Derived.Deep.RegionWith
import Derived.Deep.CutBlock
import Derived.ChangeAlike
namespace Go.Proofs.Ytfcihgincfcdkaa.runsPut
open Go.ChangeShapes Go.WideShapes Go.ChangeAt Go.RowKit Words Go.Proofs.Ytfcihgincfcdkaa.Rns
open Go.ChangeMaps (open_string shut_string)
set_option linter.unusedVariables false

theorem own : ownKnob Try.prog.godebug = none := by kernel_rfl
theorem laidOut : laidOutB Try.prog = true := by kernel_rfl

set_option maxRecDepth 20000 in
set_option maxHeartbeats 4000000 in
/-- The walk: the Go text returns true and writes nothing that was there. -/
theorem walk (a0 : Option Addr) (len0 cap0 : Nat) (z0 : List Nop) (o1 : Nop) (w : World) (w0 : Rns w w.heap.size a0 len0 cap0 z0)  :
    Calls Try.prog 5 #[.slice a0 len0 cap0, oval o1] w fun e w' => e = .returned (.bool true) ∧ Below w.heap.size w w' := by
  have H := Lib.hid w0
  have HU := Lib.hid (fun h h2 => put_upd (l := z0) (r := o1) h h2)
  have PF := Lib.hid (pe_form (l := z0) o1)
  have PR := Lib.hid (pe_run (l := z0) (r := o1))
  have PU := Lib.hid (pe_full (l := z0) (r := o1))
  have PO := Lib.hid (pe_ok (l := z0) (r := o1))
  obtain ⟨wb, hwb⟩ : ∃ wb, w.alloc (.cells (rcells o1).toArray 34) = wb := ⟨_, rfl⟩
  have BX : Hid (Below w.heap.size w wb) := Lib.hid (by rw [← hwb]; exact boxed w _)
  have GX : Hid (Whole wb w.heap.size 34 (rcells o1).toArray) := Lib.hid (by rw [← hwb]; exact Whole.new w 34 _)
  have HC := put17 w.heap.size a0 len0 cap0 z0 o1 wb (Words.Rd.below H.out BX.out (Nat.le_refl _)) BX.out.size
  obtain ⟨ps, hps⟩ : ∃ ps, ps = pl z0 o1 := ⟨_, rfl⟩
  obtain ⟨en, hen⟩ : ∃ en, en = pe z0 o1 := ⟨_, rfl⟩
  have PS := Lib.hid hps
  have EN := Lib.hid hen
  rw [← hps, ← hen] at HC
  have HC := Lib.hid HC
  clear hps hen
  have HML := fun (x : World) (b : Below wb.heap.size wb x) (hr : rt z0 = true) (ho : okR o1 = true) => mlist15 w.heap.size a0 len0 cap0 z0 o1 true x (Words.Rd.below H.out (BX.out.trans (b.mono BX.out.size)) (Nat.le_refl _)) (Nat.le_trans BX.out.size b.size) (rt_all hr) ho (by have := rt_few hr; have := w0.len; omega)
  have HML := Lib.hid HML
  have HO := Lib.hid (fun (x : World) => mright12 (x.heap.size + 1) (some ⟨x.heap.size, 0, none⟩) 1 1 [o1] (x.alloc (.cells (rcells o1).toArray 34)) (one_run x o1) (by rw [World.size_alloc]; exact Nat.le_refl _))
  have HOK : Hid (rt [o1] = okR o1) := Lib.hid (by unfold rt rtF; rw [stp_first]; unfold rtF; rw [Bool.and_true])
  obtain ⟨ra, rd, rm⟩ := o1
  have HWB : Hid (w.alloc (.cells #[.int .i64 ra, .int .i64 rd, .int .i64 rm] 34) = wb) := Lib.hid hwb
  unfold oval rval
  unfold rval at HC HML
  simp only at HC HML ⊢
  clear hwb
  go_enter Try.func5, Try.ntmps5
  go_wp2_with fail
  rw [HWB.out]
  have g0 := Whole.cell GX.out 0
  have g1 := Whole.cell GX.out 1
  have g2 := Whole.cell GX.out 2
  simp [rcells] at g0 g1 g2
  go_wp2_with fail
  refine (HC.out).mono ?_; rintro e x1 ⟨A1, c1, rfl, p1, b1⟩
  have O1 := Lib.hid p1
  have B1 := Lib.hid b1
  have HM := Lib.hid (mright12 w.heap.size a0 len0 cap0 z0 x1 (Words.Rd.below H.out (BX.out.trans (b1.mono BX.out.size)) (Nat.le_refl _)) (Nat.le_trans BX.out.size b1.size))
  clear p1 b1 g0 g1 g2
  cases hr : rt z0 with
  | false =>
    rw [hr] at HM
    obtain ⟨q1, q2⟩ := PF.out hr
    have e1 : en = 1 := EN.out.trans q1
    have e2 : ps = [] := PS.out.trans q2
    clear hr q1 q2
    subst e1 e2
    go_wp2_with fail
    refine (HM.out).mono ?_; rintro e x2 ⟨rfl, b2⟩
    have B2 := Lib.hid (B1.out.trans (b2.mono B1.out.size))
    clear b2
    go_wp2_with fail
    go_ret
    exact ⟨rfl, BX.out.trans (B2.out.mono BX.out.size)⟩
  | true =>
    rw [hr] at HM
    have RT := Lib.hid hr
    clear hr
    go_wp2_with fail
    refine (HM.out).mono ?_; rintro e x2 ⟨rfl, b2⟩
    have B2 := Lib.hid (B1.out.trans (b2.mono B1.out.size))
    have O2 := Lib.hid (O1.out.below b2 (Nat.le_refl _))
    have k0 := Whole.cell (whole_below2 GX.out B2.out) 0
    have k1 := Whole.cell (whole_below2 GX.out B2.out) 1
    have k2 := Whole.cell (whole_below2 GX.out B2.out) 2
    simp [rcells] at k0 k1 k2
    have HO2 := HO.out x2
    rw [HOK.out] at HO2
    have bn := boxed x2 (.cells (rcells ⟨ra, rd, rm⟩).toArray 34)
    have BN := Lib.hid (B2.out.trans (bn.mono B2.out.size))
    have ON := Lib.hid (O2.out.below bn (Nat.le_refl _))
    clear b2 bn
    cases ho : okR ⟨ra, rd, rm⟩ with
    | false =>
      rw [ho] at HO2
      have HO2 := Lib.hid HO2
      obtain ⟨q1, q2⟩ := PR.out RT.out ho
      have e1 : en = 1 := EN.out.trans q1
      have e2 : ps = [] := PS.out.trans q2
      clear ho q1 q2
      subst e1 e2
      go_wp2_with fail
      refine (HO2.out).mono ?_; rintro e x3 ⟨rfl, b3⟩
      have B3 := Lib.hid (BN.out.trans (b3.mono BN.out.size))
      clear b3
      go_wp2_with fail
      go_ret
      exact ⟨rfl, BX.out.trans (B3.out.mono BX.out.size)⟩
    | true =>
      rw [ho] at HO2
      have HO2 := Lib.hid HO2
      have OK := Lib.hid ho
      clear ho
      go_wp2_with fail
      refine (HO2.out).mono ?_; rintro e x3 ⟨rfl, b3⟩
      have B3 := Lib.hid (BN.out.trans (b3.mono BN.out.size))
      have O3 := Lib.hid (ON.out.below b3 (Nat.le_refl _))
      have f0 := Whole.cell (whole_below2 GX.out B3.out) 0
      have f1 := Whole.cell (whole_below2 GX.out B3.out) 1
      have f2 := Whole.cell (whole_below2 GX.out B3.out) 2
      simp [rcells] at f0 f1 f2
      have HL3 := Lib.hid (HML.out x3 B3.out RT.out OK.out)
      clear b3 k0 k1 k2
      go_wp2_with fail
      refine (HL3.out).mono ?_; rintro e x4 ⟨A4, c4, out, rfl, hu, o4, b4⟩
      have e3 : out = putL z0 ⟨ra, rd, rm⟩ := hu.unique (HU.out RT.out OK.out)
      have B4 := Lib.hid (B3.out.trans (b4.mono B3.out.size))
      have O4 := Lib.hid o4
      have O1' := Lib.hid (O3.out.below b4 (Nat.le_refl _))
      have OE := Lib.hid e3
      clear hu o4 b4 e3 f0 f1 f2
      obtain ⟨m, hm⟩ : ∃ m, m = out.length := ⟨_, rfl⟩
      rw [← hm] at O4 ⊢
      clear hm
      cases h6 : rt out with
      | false =>
        obtain ⟨q1, q2⟩ := PU.out RT.out OK.out (by rw [← OE.out]; exact h6)
        have e1 : en = 4 := EN.out.trans q1
        have e2 : ps = [] := PS.out.trans q2
        clear q1 q2 h6
        subst e1 e2
        go_wp2_with fail
        go_ret
        exact ⟨rfl, BX.out.trans (B4.out.mono BX.out.size)⟩
      | true =>
        obtain ⟨q1, q2⟩ := PO.out RT.out OK.out (by rw [← OE.out]; exact h6)
        have e1 : en = 0 := EN.out.trans q1
        have e2 : ps = out := PS.out.trans (q2.trans OE.out.symm)
        have EQ := equal16_yes _ _ A1 A4 ps.length m c1 c4 ps out x4 O1'.out.rns O4.out.rns e2
        clear q1 q2 h6 e2
        subst e1
        obtain ⟨pn, hpn⟩ : ∃ pn, pn = ps.length := ⟨_, rfl⟩
        rw [← hpn] at EQ ⊢
        have EQ := Lib.hid EQ
        clear hpn
        go_wp2_with fail
        refine (EQ.out).mono ?_; rintro e x5 ⟨rfl, L5⟩
        have B5 := Lib.hid (B4.out.trans (L5.below.mono B4.out.size))
        clear L5
        go_wp2_with fail
        go_ret
        exact ⟨rfl, BX.out.trans (B5.out.mono BX.out.size)⟩

set_option maxRecDepth 100000 in
theorem contract (H : Type) (enc : TypeId × Value → H) (W : World) (base : Nat) (args : Array Value) (ds gs : List (DataW H)) (before : List MemPlace)
    (hval : ∀ (j : Nat) t v, Try.f5.params[j]? = some t → args[j]? = some v → Value.okWide Try.prog W .any base t v)
    (hW : DataW.Whole enc Try.prog Try.f5.params.toList Rows.runsPutSpec.vars false W args.toList ds gs before) :
    Calls Try.prog 5 args W fun e W' => ∃ v, e = .returned v ∧ Rows.runsPutSpec.post enc Try.prog Try.f5 false true false false W args v W' := by
  have hW' := hW
  obtain ⟨p, q, hA0, hV, rfl, hfz, hnd⟩ := hW
  have hA : DataW.TrodAll enc Try.prog W 0 (fun _ => true) true Try.f5.params.toList args.toList ds p := hA0
  rw [Try.params5] at hA hval
  obtain ⟨v0, vs0, d0, ds0, p0, q0, hargs, rfl, rfl, h0, rr0⟩ := trodAll_cons hA
  obtain ⟨v1, vs1, d1, ds1, p1, q1, rfl, rfl, rfl, h1, rr1⟩ := trodAll_cons rr0
  obtain ⟨rfl, rfl, rfl⟩ := trodAll_nil rr1
  obtain rfl : args = #[v0, v1] := by cases args; simp_all
  obtain ⟨rfl, rfl⟩ := trodVars_none hV
  obtain ⟨a0, len0, cap0, rfl⟩ := okWide_slice Try.underlying22 (hval 0 22 v0 rfl rfl)
  have k0 := h0
  have lt0 : ∀ x ∈ p0, x.block < W.heap.size := by obtain ⟨m, hm⟩ := k0; exact DataW.trod_lt m _ _ _ hm
  obtain ⟨⟨z0, w0⟩, u0⟩ := open_ops h0
  have k1 := h1
  have lt1 : ∀ x ∈ p1, x.block < W.heap.size := by obtain ⟨m, hm⟩ := k1; exact DataW.trod_lt m _ _ _ hm
  obtain ⟨o1, rfl⟩ := open_op (hval 1 34 v1 rfl rfl) h1
  clear hA0
  refine (walk a0 len0 cap0 z0 o1 W w0).mono fun e W' ⟨he, bel⟩ => ?_
  subst he
  exact ⟨_, rfl, _, _, _, [], _, [], hW', trodAll_mk1 (shut_bool Try.underlying4 _), (trodAll_cons_mk (Below.trod laidOut (by kernel_rfl) (of_decide_eq_true (by kernel_rfl)) k0 bel lt0) (trodAll_cons_mk (Below.trod laidOut (by kernel_rfl) (of_decide_eq_true (by kernel_rfl)) k1 bel lt1) trodAll_mk0)), rfl, bel.frame _, fun h => by cases h⟩

set_option maxRecDepth 100000 in
theorem lifted (os : Os) (started : os.Started) (H : Type) (enc : TypeId × Value → H) :
    ReturnsInHanded {} Try.checked os 5 .any (Rows.runsPutSpec.pre6 enc Try.prog Try.f5 Rows.runsPutRow.domain false) (Rows.runsPutSpec.post enc Try.prog Try.f5 false true false false) := by
  refine returnsInHanded_of_change (C := Try.checked) own started (by kernel_rfl) Try.func5
    (ChangeSpec.witness6 (enc := enc) (C := Try.checked) false ⟨#[], #[.slice none 0 0, .agg #[.int .i64 0, .int .i64 0, .int .i64 0]], []⟩ 8 (by kernel_rfl) (by kernel_rfl) (by kernel_rfl) (by kernel_rfl)) ?_
  intro W base args ds gs before hval hW _ _
  exact contract H enc W base args ds gs before hval hW

theorem over : Rows.runsPutRow.holds Try.pinned (OpenSpec.ofChange Rows.runsPutSpec) :=
  OpenClaim.holds_of_wide 5 Try.f5 rfl rfl rfl rfl rfl rfl rfl ⟨rfl, rfl, rfl, rfl, rfl⟩ rfl rfl rfl rfl rfl (by kernel_rfl) Try.func5 (by kernel_rfl)
    (of_decide_eq_true (by kernel_rfl)) (by unfold Func.isWrapper; first | (rw [if_pos (by decide +kernel)]; kernel_rfl) | (rw [if_neg (by decide +kernel)]; exact ⟨rfl, rfl⟩))
    (fun os started H enc _ => lifted os started H enc)

/-- ████ THE STATEMENT ████ -/
theorem proved : Rows.RunsPutSaid := over
#print axioms proved
end Go.Proofs.Ytfcihgincfcdkaa.runsPut
