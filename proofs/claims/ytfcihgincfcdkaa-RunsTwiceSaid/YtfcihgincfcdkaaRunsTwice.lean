/-
  Put twice is put once, put and cut is cut, and two that do not touch can be put in either order.
-/
import Derived.Test.YtfcihgincfcdkaaRows
import Derived.Test.YtfcihgincfcdkaaFrame
import Derived.Test.YtfcihgincfcdkaaRFacts
import Derived.Test.YtfcihgincfcdkaaAlive
import Derived.WalkKit
import Derived.ProofKit
import Derived.OpenShut
import Derived.ShutString
import Derived.ChangeOld
import Derived.Below
import Derived.SizedLaws
import Derived.RegionTactic
import Derived.Deep.RegionWith
import Derived.Deep.CutBlock
import Derived.ChangeAlike
namespace Go.Proofs.Ytfcihgincfcdkaa.runsTwice
open Go.ChangeShapes Go.WideShapes Go.ChangeAt Go.RowKit Words Go.Proofs.Ytfcihgincfcdkaa.Rns
open Go.ChangeMaps (open_string shut_string)
set_option linter.unusedVariables false

theorem own : ownKnob Try.prog.godebug = none := by kernel_rfl
theorem laidOut : laidOutB Try.prog = true := by kernel_rfl

set_option maxRecDepth 20000 in
set_option maxHeartbeats 4000000 in
/-- The walk: the Go text returns true and writes nothing that was there. -/
theorem walk (a0 : Option Addr) (len0 cap0 : Nat) (z0 : List Nop) (o1 : Nop) (o2 : Nop) (w : World) (w0 : Rns w w.heap.size a0 len0 cap0 z0)  :
    Calls Try.prog 8 #[.slice a0 len0 cap0, oval o1, oval o2] w fun e w' => e = .returned (.bool true) ∧ Below w.heap.size w w' := by
  have H := Lib.hid w0
  obtain ⟨wb, hwb⟩ : ∃ wb, (w.alloc (.cells (rcells o1).toArray 34)).alloc (.cells (rcells o2).toArray 34) = wb := ⟨_, rfl⟩
  have BX : Hid (Below w.heap.size w wb) := Lib.hid (by rw [← hwb]; exact two_blocks w _ _)
  have gx : Whole wb w.heap.size 34 (rcells o1).toArray := by rw [← hwb]; exact (Whole.new w 34 _).alloc _
  have gy : Whole wb (w.heap.size + 1) 34 (rcells o2).toArray := by
    rw [← hwb]
    have := Whole.new (w.alloc (.cells (rcells o1).toArray 34)) 34 (rcells o2).toArray
    rwa [World.size_alloc] at this
  have HB1 : Hid (∀ x : World, Below wb.heap.size wb x → x.cell? ⟨w.heap.size, 0, none⟩ = some (.int .i64 o1.a) ∧ x.cell? ⟨w.heap.size, 1, none⟩ = some (.int .i64 o1.d) ∧ x.cell? ⟨w.heap.size, 2, none⟩ = some (.int .i64 o1.m)) := Lib.hid fun x b =>
    ⟨by rw [Whole.cell (whole_below2 gx b)]; rfl, by rw [Whole.cell (whole_below2 gx b)]; rfl, by rw [Whole.cell (whole_below2 gx b)]; rfl⟩
  have HB2 : Hid (∀ x : World, Below wb.heap.size wb x → x.cell? ⟨w.heap.size + 1, 0, none⟩ = some (.int .i64 o2.a) ∧ x.cell? ⟨w.heap.size + 1, 1, none⟩ = some (.int .i64 o2.d) ∧ x.cell? ⟨w.heap.size + 1, 2, none⟩ = some (.int .i64 o2.m)) := Lib.hid fun x b =>
    ⟨by rw [Whole.cell (whole_below2 gy b)]; rfl, by rw [Whole.cell (whole_below2 gy b)]; rfl, by rw [Whole.cell (whole_below2 gy b)]; rfl⟩
  have HA := Lib.hid (alive18 wb)
  have HPl := fun (x : World) (b : Below wb.heap.size wb x) => put17 w.heap.size a0 len0 cap0 z0 o1 x (Words.Rd.below H.out (BX.out.trans (b.mono BX.out.size)) (Nat.le_refl _)) (Nat.le_trans BX.out.size b.size)
  have HPs := fun (x : World) (b : Below wb.heap.size wb x) => put17 w.heap.size a0 len0 cap0 z0 o2 x (Words.Rd.below H.out (BX.out.trans (b.mono BX.out.size)) (Nat.le_refl _)) (Nat.le_trans BX.out.size b.size)
  have HCl := fun (x : World) (b : Below wb.heap.size wb x) => cut14 w.heap.size a0 len0 cap0 z0 o1.a o1.m x (Words.Rd.below H.out (BX.out.trans (b.mono BX.out.size)) (Nat.le_refl _)) (Nat.le_trans BX.out.size b.size)
  have HPa := fun (x : World) (A : Option Addr) (n c : Nat) (h : Rns x x.heap.size A n c (pl z0 o1)) => put17 x.heap.size A n c (pl z0 o1) o1 x h (Nat.le_refl _)
  have HCa := fun (x : World) (A : Option Addr) (n c : Nat) (h : Rns x x.heap.size A n c (pl z0 o1)) => cut14 x.heap.size A n c (pl z0 o1) o1.a o1.m x h (Nat.le_refl _)
  have HPx := fun (x : World) (A : Option Addr) (n c : Nat) (h : Rns x x.heap.size A n c (pl z0 o1)) => put17 x.heap.size A n c (pl z0 o1) o2 x h (Nat.le_refl _)
  have HPz := fun (x : World) (A : Option Addr) (n c : Nat) (h : Rns x x.heap.size A n c (pl z0 o2)) => put17 x.heap.size A n c (pl z0 o2) o1 x h (Nat.le_refl _)
  have T1 := fun h => put_twice (l := z0) (r := o1) h
  have T2 := fun h h2 => put_cut (l := z0) (r := o1) h h2
  have T3 := fun h h2 h3 h4 => put_order (l := z0) (r := o1) (s := o2) h h2 h3 h4
  have OK1 := fun h => (ok_of_pe (l := z0) (r := o1) h).2.1
  have OK2 := fun h => (ok_of_pe (l := z0) (r := o2) h).2.1
  generalize pl (pl z0 o1) o1 = pb at *
  generalize pe (pl z0 o1) o1 = eb at *
  generalize cl (pl z0 o1) o1.a o1.m = pc at *
  generalize ce (pl z0 o1) o1.a o1.m = ec at *
  generalize pl (pl z0 o1) o2 = px at *
  generalize pe (pl z0 o1) o2 = ex at *
  generalize pl (pl z0 o2) o1 = pz at *
  generalize pe (pl z0 o2) o1 = ez at *
  generalize pl z0 o1 = pa at *
  generalize pe z0 o1 = ea at *
  generalize pl z0 o2 = py at *
  generalize pe z0 o2 = ey at *
  generalize cl z0 o1.a o1.m = pd at *
  generalize ce z0 o1.a o1.m = ed at *
  have HPl := Lib.hid HPl
  have HPs := Lib.hid HPs
  have HCl := Lib.hid HCl
  have HPa := Lib.hid HPa
  have HCa := Lib.hid HCa
  have HPx := Lib.hid HPx
  have HPz := Lib.hid HPz
  have T1 := Lib.hid T1
  have T2 := Lib.hid T2
  have T3 := Lib.hid T3
  have OK1 := Lib.hid OK1
  have OK2 := Lib.hid OK2
  obtain ⟨ra, rd, rm⟩ := o1
  obtain ⟨sa, sd, sm⟩ := o2
  have HWB : Hid ((w.alloc (.cells #[.int .i64 ra, .int .i64 rd, .int .i64 rm] 34)).alloc (.cells #[.int .i64 sa, .int .i64 sd, .int .i64 sm] 34) = wb) := Lib.hid hwb
  unfold oval rval
  unfold rval at HPl HPs HPa HPx HPz
  simp only at HPl HPs HCl HPa HCa HPx HPz T3 HB1 HB2 ⊢
  clear hwb gx gy
  go_enter Try.func8, Try.ntmps8
  go_wp2_with fail
  rw [HWB.out]
  refine (HA.out).mono ?_; rintro e x1 ⟨rfl, b1⟩
  have B1 := Lib.hid b1
  obtain ⟨g0, g1, g2⟩ := HB1.out _ b1
  clear b1
  go_wp2_with fail
  refine (HPl.out _ B1.out).mono ?_; rintro e x2 ⟨A2, c2, rfl, p2, b2⟩
  have B2 := Lib.hid (B1.out.trans (b2.mono B1.out.size))
  have RA2 := Lib.hid p2
  clear p2 b2 g0 g1 g2
  obtain ⟨g0, g1, g2⟩ := HB1.out _ B2.out
  go_wp2_with fail
  refine (HPa.out _ _ _ _ RA2.out.rns).mono ?_; rintro e x3 ⟨A3, c3, rfl, p3, b3⟩
  have B3 := Lib.hid (B2.out.trans (b3.mono B2.out.size))
  have RA3 := Lib.hid (RA2.out.below b3 (Nat.le_refl _))
  have RB3 := Lib.hid p3
  clear p3 b3 g0 g1 g2
  obtain ⟨g0, g1, g2⟩ := HB1.out _ B3.out
  go_wp2_with fail
  refine (HCa.out _ _ _ _ RA3.out.rns).mono ?_; rintro e x4 ⟨A4, c4, rfl, p4, b4⟩
  have B4 := Lib.hid (B3.out.trans (b4.mono B3.out.size))
  have RA4 := Lib.hid (RA3.out.below b4 (Nat.le_refl _))
  have RB4 := Lib.hid (RB3.out.below b4 (Nat.le_refl _))
  have RC4 := Lib.hid p4
  clear p4 b4 g0 g1 g2
  obtain ⟨g0, g1, g2⟩ := HB1.out _ B4.out
  go_wp2_with fail
  refine (HCl.out _ B4.out).mono ?_; rintro e x5 ⟨A5, c5, rfl, p5, b5⟩
  have B5 := Lib.hid (B4.out.trans (b5.mono B4.out.size))
  have RA5 := Lib.hid (RA4.out.below b5 (Nat.le_refl _))
  have RB5 := Lib.hid (RB4.out.below b5 (Nat.le_refl _))
  have RC5 := Lib.hid (RC4.out.below b5 (Nat.le_refl _))
  have RD5 := Lib.hid p5
  clear p5 b5 g0 g1 g2
  by_cases e1 : ea = 0
  · by_cases e2 : ed = 0
    · obtain ⟨q1, q2⟩ := T1.out e1
      obtain ⟨q3, q4⟩ := T2.out e1 e2
      have E1 := equal16_yes _ _ A2 A3 _ _ c2 c3 _ _ x5 RA5.out.rns RB5.out.rns q1.symm
      have E2 := fun (x : World) (b : Below x5.heap.size x5 x) => equal16_yes _ _ A4 A5 _ _ c4 c5 _ _ x (RC5.out.below b (Nat.le_refl _)).rns (RD5.out.below b (Nat.le_refl _)).rns q3
      have E1 := Lib.hid E1
      have E2 := Lib.hid E2
      have Q1 := Lib.hid q1
      have Z1 := Lib.hid e1
      have OKA := Lib.hid (OK1.out e1)
      subst q2 q4 e2
      clear q1 q3
      have hea : (ea != 0) = false := by rw [bne_eq_false_iff_eq]; exact e1
      clear e1
      go_wp2_with fail
      refine (E1.out).mono ?_; rintro e x6 ⟨rfl, L6⟩
      have B6 := Lib.hid (B5.out.trans (L6.below.mono B5.out.size))
      have E3 := Lib.hid (E2.out _ L6.below)
      have RA6 := Lib.hid (RA5.out.below L6.below (Nat.le_refl _))
      clear L6
      go_wp2_with fail
      refine (E3.out).mono ?_; rintro e x7 ⟨rfl, L7⟩
      have B7 := Lib.hid (B6.out.trans (L7.below.mono B6.out.size))
      have RA7 := Lib.hid (RA6.out.below L7.below (Nat.le_refl _))
      clear L7
      obtain ⟨h0, h1, h2⟩ := HB2.out _ B7.out
      go_wp2_with fail
      refine (HPx.out _ _ _ _ RA7.out.rns).mono ?_; rintro e x8 ⟨A8, c8, rfl, p8, b8⟩
      have B8 := Lib.hid (B7.out.trans (b8.mono B7.out.size))
      have RX8 := Lib.hid p8
      clear p8 b8 h0 h1 h2
      obtain ⟨h0, h1, h2⟩ := HB2.out _ B8.out
      go_wp2_with fail
      refine (HPs.out _ B8.out).mono ?_; rintro e x9 ⟨A9, c9, rfl, p9, b9⟩
      have B9 := Lib.hid (B8.out.trans (b9.mono B8.out.size))
      have RX9 := Lib.hid (RX8.out.below b9 (Nat.le_refl _))
      have RY9 := Lib.hid p9
      clear p9 b9 h0 h1 h2
      obtain ⟨g0, g1, g2⟩ := HB1.out _ B9.out
      obtain ⟨h0, h1, h2⟩ := HB2.out _ B9.out
      by_cases e3 : ex = 0
      · by_cases e4 : ey = 0
        · obtain ⟨o1, o2, o3, o4, o5, o6⟩ := okR_yes.1 OKA.out
          obtain ⟨p1, p2, p3, p4, p5, p6⟩ := okR_yes.1 (OK2.out e4)
          simp only at o1 o2 o3 o4 o5 o6 p1 p2 p3 p4 p5 p6
          have hw1 : IntKind.i64.wrap (sa + sm) = sa + sm := by rw [IntKind.wrap_i64]; omega
          have hw2 : IntKind.i64.wrap (ra + rm) = ra + rm := by rw [IntKind.wrap_i64]; omega
          have Z3 := Lib.hid e3
          have Z4 := Lib.hid e4
          subst e3 e4
          clear o1 o2 o3 o4 o5 o6 p1 p2 p3 p4 p5 p6
          have TZ := Lib.hid (T3.out Z1.out (by simp) (by simp))
          have HZ := Lib.hid (HPz.out _ _ _ _ RY9.out.rns)
          by_cases i1 : ra < sa + sm
          · by_cases i2 : sa < ra + rm
            · go_wp2_with fail
              go_ret
              exact ⟨rfl, BX.out.trans (B9.out.mono BX.out.size)⟩
            · obtain ⟨q1, q2⟩ := TZ.out (by omega)
              have Q9 := Lib.hid q1
              subst q2
              clear q1
              go_wp2_with fail
              refine (HZ.out).mono ?_; rintro e y1 ⟨A10, c10, rfl, p10, b10⟩
              have B10 := Lib.hid (B9.out.trans (b10.mono B9.out.size))
              have E4 := Lib.hid (equal16_yes _ _ A8 A10 _ _ c8 c10 _ _ y1 (RX9.out.below b10 (Nat.le_refl _)).rns p10.rns Q9.out.symm)
              clear p10 b10 g0 g1 g2 h0 h1 h2
              go_wp2_with fail
              refine (E4.out).mono ?_; rintro e y2 ⟨rfl, L11⟩
              have B11 := Lib.hid (B10.out.trans (L11.below.mono B10.out.size))
              clear L11
              go_wp2_with fail
              go_ret
              exact ⟨rfl, BX.out.trans (B11.out.mono BX.out.size)⟩
          · obtain ⟨q1, q2⟩ := TZ.out (by omega)
            have Q9 := Lib.hid q1
            subst q2
            clear q1
            go_wp2_with fail
            refine (HZ.out).mono ?_; rintro e y1 ⟨A10, c10, rfl, p10, b10⟩
            have B10 := Lib.hid (B9.out.trans (b10.mono B9.out.size))
            have E4 := Lib.hid (equal16_yes _ _ A8 A10 _ _ c8 c10 _ _ y1 (RX9.out.below b10 (Nat.le_refl _)).rns p10.rns Q9.out.symm)
            clear p10 b10 g0 g1 g2 h0 h1 h2
            go_wp2_with fail
            refine (E4.out).mono ?_; rintro e y2 ⟨rfl, L11⟩
            have B11 := Lib.hid (B10.out.trans (L11.below.mono B10.out.size))
            clear L11
            go_wp2_with fail
            go_ret
            exact ⟨rfl, BX.out.trans (B11.out.mono BX.out.size)⟩
        · have hb2 : (ey != 0) = true := by rw [bne_iff_ne]; exact e4
          subst e3
          clear e4
          go_wp2_with fail
          go_ret
          exact ⟨rfl, BX.out.trans (B9.out.mono BX.out.size)⟩
      · have hb2 : (ex != 0) = true := by rw [bne_iff_ne]; exact e3
        clear e3
        go_wp2_with fail
        go_ret
        exact ⟨rfl, BX.out.trans (B9.out.mono BX.out.size)⟩
    · have hb2 : (ed != 0) = true := by rw [bne_iff_ne]; exact e2
      subst e1
      clear e2
      go_wp2_with fail
      go_ret
      exact ⟨rfl, BX.out.trans (B5.out.mono BX.out.size)⟩
  · have hb1 : (ea != 0) = true := by rw [bne_iff_ne]; exact e1
    clear e1
    go_wp2_with fail
    go_ret
    exact ⟨rfl, BX.out.trans (B5.out.mono BX.out.size)⟩

set_option maxRecDepth 100000 in
theorem contract (H : Type) (enc : TypeId × Value → H) (W : World) (base : Nat) (args : Array Value) (ds gs : List (DataW H)) (before : List MemPlace)
    (hval : ∀ (j : Nat) t v, Try.f8.params[j]? = some t → args[j]? = some v → Value.okWide Try.prog W .any base t v)
    (hW : DataW.Whole enc Try.prog Try.f8.params.toList Rows.runsTwiceSpec.vars false W args.toList ds gs before) :
    Calls Try.prog 8 args W fun e W' => ∃ v, e = .returned v ∧ Rows.runsTwiceSpec.post enc Try.prog Try.f8 false true false false W args v W' := by
  have hW' := hW
  obtain ⟨p, q, hA0, hV, rfl, hfz, hnd⟩ := hW
  have hA : DataW.TrodAll enc Try.prog W 0 (fun _ => true) true Try.f8.params.toList args.toList ds p := hA0
  rw [Try.params8] at hA hval
  obtain ⟨v0, vs0, d0, ds0, p0, q0, hargs, rfl, rfl, h0, rr0⟩ := trodAll_cons hA
  obtain ⟨v1, vs1, d1, ds1, p1, q1, rfl, rfl, rfl, h1, rr1⟩ := trodAll_cons rr0
  obtain ⟨v2, vs2, d2, ds2, p2, q2, rfl, rfl, rfl, h2, rr2⟩ := trodAll_cons rr1
  obtain ⟨rfl, rfl, rfl⟩ := trodAll_nil rr2
  obtain rfl : args = #[v0, v1, v2] := by cases args; simp_all
  obtain ⟨rfl, rfl⟩ := trodVars_none hV
  obtain ⟨a0, len0, cap0, rfl⟩ := okWide_slice Try.underlying22 (hval 0 22 v0 rfl rfl)
  have k0 := h0
  have lt0 : ∀ x ∈ p0, x.block < W.heap.size := by obtain ⟨m, hm⟩ := k0; exact DataW.trod_lt m _ _ _ hm
  obtain ⟨⟨z0, w0⟩, u0⟩ := open_ops h0
  have k1 := h1
  have lt1 : ∀ x ∈ p1, x.block < W.heap.size := by obtain ⟨m, hm⟩ := k1; exact DataW.trod_lt m _ _ _ hm
  obtain ⟨o1, rfl⟩ := open_op (hval 1 34 v1 rfl rfl) h1
  have k2 := h2
  have lt2 : ∀ x ∈ p2, x.block < W.heap.size := by obtain ⟨m, hm⟩ := k2; exact DataW.trod_lt m _ _ _ hm
  obtain ⟨o2, rfl⟩ := open_op (hval 2 34 v2 rfl rfl) h2
  clear hA0
  refine (walk a0 len0 cap0 z0 o1 o2 W w0).mono fun e W' ⟨he, bel⟩ => ?_
  subst he
  exact ⟨_, rfl, _, _, _, [], _, [], hW', trodAll_mk1 (shut_bool Try.underlying4 _), (trodAll_cons_mk (Below.trod laidOut (by kernel_rfl) (of_decide_eq_true (by kernel_rfl)) k0 bel lt0) (trodAll_cons_mk (Below.trod laidOut (by kernel_rfl) (of_decide_eq_true (by kernel_rfl)) k1 bel lt1) (trodAll_cons_mk (Below.trod laidOut (by kernel_rfl) (of_decide_eq_true (by kernel_rfl)) k2 bel lt2) trodAll_mk0))), rfl, bel.frame _, fun h => by cases h⟩

set_option maxRecDepth 100000 in
theorem lifted (os : Os) (started : os.Started) (H : Type) (enc : TypeId × Value → H) :
    ReturnsInHanded {} Try.checked os 8 .any (Rows.runsTwiceSpec.pre6 enc Try.prog Try.f8 Rows.runsTwiceRow.domain false) (Rows.runsTwiceSpec.post enc Try.prog Try.f8 false true false false) := by
  refine returnsInHanded_of_change (C := Try.checked) own started (by kernel_rfl) Try.func8
    (ChangeSpec.witness6 (enc := enc) (C := Try.checked) false ⟨#[], #[.slice none 0 0, .agg #[.int .i64 0, .int .i64 0, .int .i64 0], .agg #[.int .i64 0, .int .i64 0, .int .i64 0]], []⟩ 8 (by kernel_rfl) (by kernel_rfl) (by kernel_rfl) (by kernel_rfl)) ?_
  intro W base args ds gs before hval hW _ _
  exact contract H enc W base args ds gs before hval hW

theorem over : Rows.runsTwiceRow.holds Try.pinned (OpenSpec.ofChange Rows.runsTwiceSpec) :=
  OpenClaim.holds_of_wide 8 Try.f8 rfl rfl rfl rfl rfl rfl rfl ⟨rfl, rfl, rfl, rfl, rfl⟩ rfl rfl rfl rfl rfl (by kernel_rfl) Try.func8 (by kernel_rfl)
    (of_decide_eq_true (by kernel_rfl)) (by unfold Func.isWrapper; first | (rw [if_pos (by decide +kernel)]; kernel_rfl) | (rw [if_neg (by decide +kernel)]; exact ⟨rfl, rfl⟩))
    (fun os started H enc _ => lifted os started H enc)

/-- ████ THE STATEMENT ████ -/
theorem proved : Rows.RunsTwiceSaid := over
#print axioms proved
end Go.Proofs.Ytfcihgincfcdkaa.runsTwice
