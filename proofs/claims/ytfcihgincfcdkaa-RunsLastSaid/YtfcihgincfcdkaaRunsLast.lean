/-
  What was put last counts, what was cut is nowhere, and nothing else changes.
-/
import Derived.Test.YtfcihgincfcdkaaRows
import Derived.Test.YtfcihgincfcdkaaFrame
import Derived.Test.YtfcihgincfcdkaaRFacts
import Derived.Test.YtfcihgincfcdkaaAlive
import Derived.WalkKit
import Derived.ProofKit
import Derived.OpenShut
import Derived.ShutString
import Derived.ChangeOld
import Derived.Below
import Derived.SizedLaws
import Derived.RegionTactic
import Derived.Deep.RegionWith
import Derived.Deep.CutBlock
import Derived.ChangeAlike
namespace Go.Proofs.Ytfcihgincfcdkaa.runsLast
open Go.ChangeShapes Go.WideShapes Go.ChangeAt Go.RowKit Words Go.Proofs.Ytfcihgincfcdkaa.Rns
open Go.ChangeMaps (open_string shut_string)
set_option linter.unusedVariables false

theorem own : ownKnob Try.prog.godebug = none := by kernel_rfl
theorem laidOut : laidOutB Try.prog = true := by kernel_rfl

set_option maxRecDepth 20000 in
set_option maxHeartbeats 4000000 in
/-- The walk: the Go text returns true and writes nothing that was there. -/
theorem walk (a0 : Option Addr) (len0 cap0 : Nat) (z0 : List Nop) (o1 : Nop) (a2 : Int) (w : World) (w0 : Rns w w.heap.size a0 len0 cap0 z0) (w2 : (Lit.int .i64 a2).wf = true)  :
    Calls Try.prog 6 #[.slice a0 len0 cap0, oval o1, .int .i64 a2] w fun e w' => e = .returned (.bool true) ∧ Below w.heap.size w w' := by
  have H := Lib.hid w0
  obtain ⟨wb, hwb⟩ : ∃ wb, w.alloc (.cells (rcells o1).toArray 34) = wb := ⟨_, rfl⟩
  have BX : Hid (Below w.heap.size w wb) := Lib.hid (by rw [← hwb]; exact boxed w _)
  have GX : Hid (Whole wb w.heap.size 34 (rcells o1).toArray) := Lib.hid (by rw [← hwb]; exact Whole.new w 34 _)
  have HA := Lib.hid (alive18 wb)
  have HP := fun (x : World) (b : Below wb.heap.size wb x) => put17 w.heap.size a0 len0 cap0 z0 o1 x (Words.Rd.below H.out (BX.out.trans (b.mono BX.out.size)) (Nat.le_refl _)) (Nat.le_trans BX.out.size b.size)
  have HC := fun (x : World) (b : Below wb.heap.size wb x) => cut14 w.heap.size a0 len0 cap0 z0 o1.a o1.m x (Words.Rd.below H.out (BX.out.trans (b.mono BX.out.size)) (Nat.le_refl _)) (Nat.le_trans BX.out.size b.size)
  have HF := fun (x : World) (b : Below wb.heap.size wb x) => find10 w.heap.size a0 len0 cap0 z0 a2 x (Words.Rd.below H.out (BX.out.trans (b.mono BX.out.size)) (Nat.le_refl _)) (Nat.le_trans BX.out.size b.size)
  have NP := fun h => put_none (l := z0) (r := o1) h
  have OKR := fun h => (ok_of_pe (l := z0) (r := o1) h).2.1
  have FI := fun h hx => find_put_in (l := z0) (r := o1) (x := a2) h hx
  have FO := fun h hx => find_put_out (l := z0) (r := o1) (x := a2) h hx
  have CI := fun h hx => find_cut_in (l := z0) (a := o1.a) (d := o1.d) (m := o1.m) (x := a2) h hx
  have CO := fun h hx => find_cut_out (l := z0) (a := o1.a) (d := o1.d) (m := o1.m) (x := a2) h hx
  have PRT := fun h => put_right (l := z0) (r := o1) h
  have CRT := fun h => cut_right (l := z0) (a := o1.a) (m := o1.m) h
  generalize pl z0 o1 = ps at *
  generalize cl z0 o1.a o1.m = cs at *
  generalize pe z0 o1 = en at *
  generalize ce z0 o1.a o1.m = cn at *
  generalize fv z0 a2 = va at *
  generalize fe z0 a2 = ea at *
  have HP := Lib.hid HP
  have HC := Lib.hid HC
  have HF := Lib.hid HF
  have NP := Lib.hid NP
  have OKR := Lib.hid OKR
  have FI := Lib.hid FI
  have FO := Lib.hid FO
  have CI := Lib.hid CI
  have CO := Lib.hid CO
  have PRT := Lib.hid PRT
  have CRT := Lib.hid CRT
  obtain ⟨ra, rd, rm⟩ := o1
  have HWB : Hid (w.alloc (.cells #[.int .i64 ra, .int .i64 rd, .int .i64 rm] 34) = wb) := Lib.hid hwb
  unfold oval rval
  unfold rval at HP
  simp only at HP HC FI ⊢
  clear hwb
  go_enter Try.func6, Try.ntmps6
  go_wp2_with fail
  rw [HWB.out]
  refine (HA.out).mono ?_; rintro e x1 ⟨rfl, b1⟩
  have B1 := Lib.hid b1
  have g0 := Whole.cell (whole_below2 GX.out b1) 0
  have g1 := Whole.cell (whole_below2 GX.out b1) 1
  have g2 := Whole.cell (whole_below2 GX.out b1) 2
  simp [rcells] at g0 g1 g2
  clear b1
  go_wp2_with fail
  refine (HP.out _ B1.out).mono ?_; rintro e x2 ⟨A2, c2, rfl, p2, b2⟩
  have B2 := Lib.hid (B1.out.trans (b2.mono B1.out.size))
  have O2 := Lib.hid p2
  have k0 := Whole.cell (whole_below2 GX.out B2.out) 0
  have k1 := Whole.cell (whole_below2 GX.out B2.out) 1
  have k2 := Whole.cell (whole_below2 GX.out B2.out) 2
  simp [rcells] at k0 k1 k2
  clear p2 b2 g0 g1 g2
  go_wp2_with fail
  refine (HC.out _ B2.out).mono ?_; rintro e x3 ⟨A3, c3, rfl, p3, b3⟩
  have B3 := Lib.hid (B2.out.trans (b3.mono B2.out.size))
  have M3 := Lib.hid (O2.out.below b3 (Nat.le_refl _))
  have O3 := Lib.hid p3
  clear p3 b3 k0 k1 k2
  by_cases e1 : en = 0
  · by_cases e2 : cn = 0
    · obtain ⟨o1, o2, o3, o4, o5, o6⟩ := okR_yes.1 (OKR.out e1)
      simp only at o1 o2 o3 o4 o5 o6
      subst e1 e2
      go_wp2_with fail
      refine (HF.out _ B3.out).mono ?_; rintro e x4 ⟨rfl, b4⟩
      have B4 := Lib.hid (B3.out.trans (b4.mono B3.out.size))
      have M4 := Lib.hid (M3.out.below b4 (Nat.le_refl _))
      have C4 := Lib.hid (O3.out.below b4 (Nat.le_refl _))
      have HM := Lib.hid (find10 x4.heap.size A2 _ c2 ps a2 x4 M4.out.rns (Nat.le_refl _))
      clear b4
      go_wp2_with fail
      refine (HM.out).mono ?_; rintro e x5 ⟨rfl, b5⟩
      have B5 := Lib.hid (B4.out.trans (b5.mono B4.out.size))
      have M5 := Lib.hid (M4.out.below b5 (Nat.le_refl _))
      have C5 := Lib.hid (C4.out.below b5 (Nat.le_refl _))
      have HN := Lib.hid (find10 x5.heap.size A3 _ c3 cs a2 x5 C5.out.rns (Nat.le_refl _))
      clear b5
      go_wp2_with fail
      refine (HN.out).mono ?_; rintro e x6 ⟨rfl, b6⟩
      have B6 := Lib.hid (B5.out.trans (b6.mono B5.out.size))
      have M6 := Lib.hid (M5.out.below b6 (Nat.le_refl _))
      have C6 := Lib.hid (C5.out.below b6 (Nat.le_refl _))
      have f0 := Whole.cell (whole_below2 GX.out B6.out) 0
      have f1 := Whole.cell (whole_below2 GX.out B6.out) 1
      have f2 := Whole.cell (whole_below2 GX.out B6.out) 2
      simp [rcells] at f0 f1 f2
      clear b6
      generalize fv cs a2 = cv at *
      generalize fe cs a2 = ec at *
      generalize fv ps a2 = pv at *
      generalize fe ps a2 = ep at *
      have hws : IntKind.i64.wrap (ra + rm) = ra + rm := by rw [IntKind.wrap_i64]; omega
      cases hx : inR ⟨ra, rd, rm⟩ a2 with
      | true =>
        have hi := inR_yes.1 hx
        have i1 : ra ≤ a2 := hi.1
        have i2 : a2 < ra + rm := hi.2
        obtain ⟨q1, q2⟩ := FI.out (by simp) hx
        have q3 := CI.out (by simp) hx
        subst q1 q2 q3
        have hw2 : IntKind.i64.wrap (rd + a2) = rd + a2 := by rw [IntKind.wrap_i64]; omega
        have hw3 : IntKind.i64.wrap (rd + a2 - ra) = rd + a2 - ra := by rw [IntKind.wrap_i64]; omega
        clear hi hx
        go_wp2_with fail
        go_ret
        exact ⟨rfl, BX.out.trans (B6.out.mono BX.out.size)⟩
      | false =>
        have hi := inR_no.1 hx
        have i1 : ¬ (ra ≤ a2 ∧ a2 < ra + rm) := hi
        obtain ⟨q1, q2⟩ := FO.out (by simp) hx
        obtain ⟨q3, q4⟩ := CO.out (by simp) hx
        have q1 : pv = va := q1
        have q2 : ep = ea := q2
        have q3 : cv = va := q3
        have q4 : ec = ea := q4
        subst q1 q2 q3 q4
        have HR1 := right11 x6.heap.size A2 _ c2 ps x6 M6.out.rns (Nat.le_refl _)
        rw [PRT.out (by simp)] at HR1
        have HR1 := Lib.hid HR1
        have HR2 := fun (x : World) (b : Below x6.heap.size x6 x) => right11 x.heap.size A3 _ c3 cs x (C6.out.below b (Nat.le_refl _)).rns (Nat.le_refl _)
        rw [CRT.out (by simp)] at HR2
        have HR2 := Lib.hid HR2
        clear hi hx
        by_cases i2 : ra ≤ a2
        · have i3 : ra + rm ≤ a2 := by omega
          clear i1
          go_wp2_with fail
          refine (HR1.out).mono ?_; rintro e x7 ⟨rfl, b7⟩
          have B7 := Lib.hid (B6.out.trans (b7.mono B6.out.size))
          have HR3 := Lib.hid (HR2.out _ b7)
          clear b7
          go_wp2_with fail
          refine (HR3.out).mono ?_; rintro e x8 ⟨rfl, b8⟩
          have B8 := Lib.hid (B7.out.trans (b8.mono B7.out.size))
          clear b8
          go_wp2_with fail
          go_ret
          exact ⟨rfl, BX.out.trans (B8.out.mono BX.out.size)⟩
        · clear i1
          go_wp2_with fail
          refine (HR1.out).mono ?_; rintro e x7 ⟨rfl, b7⟩
          have B7 := Lib.hid (B6.out.trans (b7.mono B6.out.size))
          have HR3 := Lib.hid (HR2.out _ b7)
          clear b7
          go_wp2_with fail
          refine (HR3.out).mono ?_; rintro e x8 ⟨rfl, b8⟩
          have B8 := Lib.hid (B7.out.trans (b8.mono B7.out.size))
          clear b8
          go_wp2_with fail
          go_ret
          exact ⟨rfl, BX.out.trans (B8.out.mono BX.out.size)⟩
    · have hb2 : (cn != 0) = true := by rw [bne_iff_ne]; exact e2
      subst e1
      clear e2
      obtain ⟨pn, hpn⟩ : ∃ pn, pn = ps.length := ⟨_, rfl⟩
      rw [← hpn]
      clear hpn
      go_wp2_with fail
      go_ret
      exact ⟨rfl, BX.out.trans (B3.out.mono BX.out.size)⟩
  · have hb1 : (en != 0) = true := by rw [bne_iff_ne]; exact e1
    have hb3 : (en == 0) = false := by rw [beq_eq_false_iff_ne]; exact e1
    have hz := NP.out e1
    subst hz
    clear e1
    go_wp2_with fail
    go_ret
    exact ⟨rfl, BX.out.trans (B3.out.mono BX.out.size)⟩

set_option maxRecDepth 100000 in
theorem contract (H : Type) (enc : TypeId × Value → H) (W : World) (base : Nat) (args : Array Value) (ds gs : List (DataW H)) (before : List MemPlace)
    (hval : ∀ (j : Nat) t v, Try.f6.params[j]? = some t → args[j]? = some v → Value.okWide Try.prog W .any base t v)
    (hW : DataW.Whole enc Try.prog Try.f6.params.toList Rows.runsLastSpec.vars false W args.toList ds gs before) :
    Calls Try.prog 6 args W fun e W' => ∃ v, e = .returned v ∧ Rows.runsLastSpec.post enc Try.prog Try.f6 false true false false W args v W' := by
  have hW' := hW
  obtain ⟨p, q, hA0, hV, rfl, hfz, hnd⟩ := hW
  have hA : DataW.TrodAll enc Try.prog W 0 (fun _ => true) true Try.f6.params.toList args.toList ds p := hA0
  rw [Try.params6] at hA hval
  obtain ⟨v0, vs0, d0, ds0, p0, q0, hargs, rfl, rfl, h0, rr0⟩ := trodAll_cons hA
  obtain ⟨v1, vs1, d1, ds1, p1, q1, rfl, rfl, rfl, h1, rr1⟩ := trodAll_cons rr0
  obtain ⟨v2, vs2, d2, ds2, p2, q2, rfl, rfl, rfl, h2, rr2⟩ := trodAll_cons rr1
  obtain ⟨rfl, rfl, rfl⟩ := trodAll_nil rr2
  obtain rfl : args = #[v0, v1, v2] := by cases args; simp_all
  obtain ⟨rfl, rfl⟩ := trodVars_none hV
  obtain ⟨a0, len0, cap0, rfl⟩ := okWide_slice Try.underlying22 (hval 0 22 v0 rfl rfl)
  have k0 := h0
  have lt0 : ∀ x ∈ p0, x.block < W.heap.size := by obtain ⟨m, hm⟩ := k0; exact DataW.trod_lt m _ _ _ hm
  obtain ⟨⟨z0, w0⟩, u0⟩ := open_ops h0
  have k1 := h1
  have lt1 : ∀ x ∈ p1, x.block < W.heap.size := by obtain ⟨m, hm⟩ := k1; exact DataW.trod_lt m _ _ _ hm
  obtain ⟨o1, rfl⟩ := open_op (hval 1 34 v1 rfl rfl) h1
  obtain ⟨a2, rfl, rfl, rfl, w2⟩ := open_int Try.underlying3 (hval 2 3 v2 rfl rfl) h2
  clear hA0
  refine (walk a0 len0 cap0 z0 o1 a2 W w0 w2).mono fun e W' ⟨he, bel⟩ => ?_
  subst he
  exact ⟨_, rfl, _, _, _, [], _, [], hW', trodAll_mk1 (shut_bool Try.underlying4 _), (trodAll_cons_mk (Below.trod laidOut (by kernel_rfl) (of_decide_eq_true (by kernel_rfl)) k0 bel lt0) (trodAll_cons_mk (Below.trod laidOut (by kernel_rfl) (of_decide_eq_true (by kernel_rfl)) k1 bel lt1) (trodAll_cons_mk (shut_int Try.underlying3 w2) trodAll_mk0))), rfl, bel.frame _, fun h => by cases h⟩

set_option maxRecDepth 100000 in
theorem lifted (os : Os) (started : os.Started) (H : Type) (enc : TypeId × Value → H) :
    ReturnsInHanded {} Try.checked os 6 .any (Rows.runsLastSpec.pre6 enc Try.prog Try.f6 Rows.runsLastRow.domain false) (Rows.runsLastSpec.post enc Try.prog Try.f6 false true false false) := by
  refine returnsInHanded_of_change (C := Try.checked) own started (by kernel_rfl) Try.func6
    (ChangeSpec.witness6 (enc := enc) (C := Try.checked) false ⟨#[], #[.slice none 0 0, .agg #[.int .i64 0, .int .i64 0, .int .i64 0], .int .i64 0], []⟩ 8 (by kernel_rfl) (by kernel_rfl) (by kernel_rfl) (by kernel_rfl)) ?_
  intro W base args ds gs before hval hW _ _
  exact contract H enc W base args ds gs before hval hW

theorem over : Rows.runsLastRow.holds Try.pinned (OpenSpec.ofChange Rows.runsLastSpec) :=
  OpenClaim.holds_of_wide 6 Try.f6 rfl rfl rfl rfl rfl rfl rfl ⟨rfl, rfl, rfl, rfl, rfl⟩ rfl rfl rfl rfl rfl (by kernel_rfl) Try.func6 (by kernel_rfl)
    (of_decide_eq_true (by kernel_rfl)) (by unfold Func.isWrapper; first | (rw [if_pos (by decide +kernel)]; kernel_rfl) | (rw [if_neg (by decide +kernel)]; exact ⟨rfl, rfl⟩))
    (fun os started H enc _ => lifted os started H enc)

/-- ████ THE STATEMENT ████ -/
theorem proved : Rows.RunsLastSaid := over
#print axioms proved
end Go.Proofs.Ytfcihgincfcdkaa.runsLast
