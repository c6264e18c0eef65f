/-
  There is one list for one file, in whatever parts it is put.
-/
import Derived.Test.YtfcihgincfcdkaaRows
import Derived.Test.YtfcihgincfcdkaaFrame
import Derived.Test.YtfcihgincfcdkaaRFacts
import Derived.Test.YtfcihgincfcdkaaAlive
import Derived.WalkKit
import Derived.ProofKit
import Derived.OpenShut
import Derived.ShutString
import Derived.ChangeOld
import Derived.Below
import Derived.SizedLaws
import Derived.RegionTactic
import Derived.Deep.RegionWith
import Derived.Deep.CutBlock
import Derived.ChangeAlike
namespace Go.Proofs.Ytfcihgincfcdkaa.runsOne
open Go.ChangeShapes Go.WideShapes Go.ChangeAt Go.RowKit Words Go.Proofs.Ytfcihgincfcdkaa.Rns
open Go.ChangeMaps (open_string shut_string)
set_option linter.unusedVariables false

theorem own : ownKnob Try.prog.godebug = none := by kernel_rfl
theorem laidOut : laidOutB Try.prog = true := by kernel_rfl

set_option maxRecDepth 20000 in
set_option maxHeartbeats 4000000 in
/-- The walk: the Go text returns true and writes nothing that was there. -/
theorem walk (o0 : Nop) (a1 : Int) (w : World) (w1 : (Lit.int .i64 a1).wf = true)  :
    Calls Try.prog 7 #[oval o0, .int .i64 a1] w fun e w' => e = .returned (.bool true) ∧ Below w.heap.size w w' := by
  obtain ⟨wb, hwb⟩ : ∃ wb, w.alloc (.cells (rcells o0).toArray 34) = wb := ⟨_, rfl⟩
  have BX : Hid (Below w.heap.size w wb) := Lib.hid (by rw [← hwb]; exact boxed w _)
  have GX : Whole wb w.heap.size 34 (rcells o0).toArray := by rw [← hwb]; exact Whole.new w 34 _
  have HB1 : Hid (∀ x : World, Below wb.heap.size wb x → x.cell? ⟨w.heap.size, 0, none⟩ = some (.int .i64 o0.a) ∧ x.cell? ⟨w.heap.size, 1, none⟩ = some (.int .i64 o0.d) ∧ x.cell? ⟨w.heap.size, 2, none⟩ = some (.int .i64 o0.m)) := Lib.hid fun x b =>
    ⟨by rw [Whole.cell (whole_below2 GX b)]; rfl, by rw [Whole.cell (whole_below2 GX b)]; rfl, by rw [Whole.cell (whole_below2 GX b)]; rfl⟩
  have HA := Lib.hid (alive18 wb)
  obtain ⟨ra, rd, rm⟩ := o0
  have HWB : Hid (w.alloc (.cells #[.int .i64 ra, .int .i64 rd, .int .i64 rm] 34) = wb) := Lib.hid hwb
  unfold oval rval
  simp only at HB1 ⊢
  clear hwb GX
  go_enter Try.func7, Try.ntmps7
  go_wp2_with fail
  rw [HWB.out]
  refine (HA.out).mono ?_; rintro e x1 ⟨rfl, b1⟩
  have B1 := Lib.hid b1
  obtain ⟨g0, g1, g2⟩ := HB1.out _ b1
  clear b1
  by_cases t1 : ra < 0
  · go_wp2_with fail
    go_ret
    exact ⟨rfl, BX.out.trans (B1.out.mono BX.out.size)⟩
  by_cases t2 : rd < 0
  · go_wp2_with fail
    go_ret
    exact ⟨rfl, BX.out.trans (B1.out.mono BX.out.size)⟩
  by_cases t3 : rm < 2
  · go_wp2_with fail
    go_ret
    exact ⟨rfl, BX.out.trans (B1.out.mono BX.out.size)⟩
  by_cases t4 : 1000 < ra
  · go_wp2_with fail
    go_ret
    exact ⟨rfl, BX.out.trans (B1.out.mono BX.out.size)⟩
  by_cases t5 : 1000 < rd
  · go_wp2_with fail
    go_ret
    exact ⟨rfl, BX.out.trans (B1.out.mono BX.out.size)⟩
  by_cases t6 : 60 < rm
  · go_wp2_with fail
    go_ret
    exact ⟨rfl, BX.out.trans (B1.out.mono BX.out.size)⟩
  by_cases t7 : a1 < 1
  · go_wp2_with fail
    go_ret
    exact ⟨rfl, BX.out.trans (B1.out.mono BX.out.size)⟩
  by_cases t8 : rm ≤ a1
  · go_wp2_with fail
    go_ret
    exact ⟨rfl, BX.out.trans (B1.out.mono BX.out.size)⟩
  have okr : okR ⟨ra, rd, rm⟩ = true := ok_small (by omega) (by omega) (by omega) (by omega) (by omega) (by omega)
  have oka : okR ⟨ra + a1, rd + a1, rm - a1⟩ = true := ok_small (by omega) (by omega) (by omega) (by omega) (by omega) (by omega)
  have okb : okR ⟨ra, rd, a1⟩ = true := ok_small (by omega) (by omega) (by omega) (by omega) (by omega) (by omega)
  have N1 := put_nil okr
  have N2 := put_nil oka
  have N3 := put_front oka okb okr
  have H1 := put17 0 none 0 0 [] ⟨ra, rd, rm⟩ x1 (Words.Rd.nil_ x1 0 3) (Nat.zero_le _)
  rw [N1.1, N1.2] at H1
  unfold rval at H1
  simp only at H1
  have H1 := Lib.hid H1
  have H2 := fun (x : World) => put17 0 none 0 0 [] ⟨ra + a1, rd + a1, rm - a1⟩ x (Words.Rd.nil_ x 0 3) (Nat.zero_le _)
  rw [N2.1, N2.2] at H2
  unfold rval at H2
  simp only at H2
  have H2 := Lib.hid H2
  have H3 := fun (x : World) (A : Option Addr) (n c : Nat) (h : Rns x x.heap.size A n c [⟨ra + a1, rd + a1, rm - a1⟩]) => put17 x.heap.size A n c [⟨ra + a1, rd + a1, rm - a1⟩] ⟨ra, rd, a1⟩ x h (Nat.le_refl _)
  rw [N3.1, N3.2] at H3
  unfold rval at H3
  simp only at H3
  have H3 := Lib.hid H3
  have hw1 : IntKind.i64.wrap (ra + a1) = ra + a1 := by rw [IntKind.wrap_i64]; omega
  have hw2 : IntKind.i64.wrap (rd + a1) = rd + a1 := by rw [IntKind.wrap_i64]; omega
  have hw3 : IntKind.i64.wrap (rm - a1) = rm - a1 := by rw [IntKind.wrap_i64]; omega
  clear okr oka okb N1 N2 N3
  go_wp2_with fail
  refine (H1.out).mono ?_; rintro e x2 ⟨A2, c2, rfl, p2, b2⟩
  have B2 := Lib.hid (B1.out.trans (b2.mono B1.out.size))
  have R2 := Lib.hid p2
  clear p2 b2 g0 g1 g2
  obtain ⟨g0, g1, g2⟩ := HB1.out _ B2.out
  go_wp2_with fail
  refine (H2.out _).mono ?_; rintro e x3 ⟨A3, c3, rfl, p3, b3⟩
  have B3 := Lib.hid (B2.out.trans (b3.mono B2.out.size))
  have R3 := Lib.hid (R2.out.below b3 (Nat.le_refl _))
  have HH := Lib.hid (H3.out _ _ _ _ p3.rns)
  clear p3 b3 g0 g1 g2
  obtain ⟨g0, g1, g2⟩ := HB1.out _ B3.out
  go_wp2_with fail
  refine (HH.out).mono ?_; rintro e x4 ⟨A4, c4, rfl, p4, b4⟩
  have B4 := Lib.hid (B3.out.trans (b4.mono B3.out.size))
  have R4 := Lib.hid (R3.out.below b4 (Nat.le_refl _))
  have S4 := Lib.hid p4
  clear p4 b4 g0 g1 g2 hw1 hw2 hw3
  obtain ⟨g0, g1, g2⟩ := HB1.out _ B4.out
  go_wp2_with fail
  go_loopw [11, 90] (fun s i wr => ∃ (k : Nat) (A c : _), s = .slice A (upto ra rd k).length c ∧ i = .int .i64 k ∧ (k : Int) ≤ rm ∧ Below wb.heap.size wb wr ∧ Below x4.heap.size x4 wr ∧ OwnRn wr x4.heap.size A (upto ra rd k).length c (upto ra rd k)) (fun _ i _ => (rm - intOf i).toNat)
  case atStart => exact ⟨0, none, 0, rfl, rfl, by omega, B4.out, Below.refl _ _, Go.World.ownsRow_nil x4 _ 34 3⟩
  case round =>
    obtain ⟨k, A, c, rfl, rfl, hk, hb, hb4, hrow⟩ := hrel
    have BW := Lib.hid hb
    have BV := Lib.hid hb4
    have RW := Lib.hid hrow
    obtain ⟨f0, f1, f2⟩ := HB1.out _ hb
    clear hb hb4 hrow g0 g1 g2
    by_cases hlt : (k : Int) < rm
    · have NX := upto_next (a := ra) (d := rd) (k := k) (by omega) (by omega) (by omega) (by omega) (by omega)
      have HN := put17 wr.heap.size A _ c (upto ra rd k) ⟨ra + k, rd + k, 1⟩ wr RW.out.rns (Nat.le_refl _)
      rw [NX.1, NX.2] at HN
      unfold rval at HN
      simp only at HN
      have HN := Lib.hid HN
      have hv1 : IntKind.i64.wrap (ra + (k : Int)) = ra + k := by rw [IntKind.wrap_i64]; omega
      have hv2 : IntKind.i64.wrap (rd + (k : Int)) = rd + k := by rw [IntKind.wrap_i64]; omega
      have hv3 : IntKind.i64.wrap ((k : Int) + 1) = (k : Int) + 1 := by rw [IntKind.wrap_i64]; omega
      clear NX
      go_wp2_with fail
      refine (HN.out).mono ?_; rintro e x5 ⟨A5, c5, rfl, p5, b5⟩
      have B5 := Lib.hid (BW.out.trans (b5.mono BW.out.size))
      have V5 := Lib.hid (BV.out.trans (b5.mono BV.out.size))
      have R5 := Lib.hid (p5.more BV.out.size)
      clear p5 b5 f0 f1 f2
      go_wp2_with fail
      go_roundw
      case rel => exact ⟨k + 1, A5, c5, rfl, by first | rfl | go_num, by omega, B5.out, V5.out, R5.out⟩
      case measure => simp [intOf]; omega
    · have hke : (k : Int) = rm := by omega
      have hup : upto ra rd k = [⟨ra, rd, rm⟩] := by unfold upto; rw [if_neg (by omega), hke]
      have hrw := RW.out
      rw [hup] at hrw ⊢
      have RX := Lib.hid hrw
      have E1 := Lib.hid (equal16_yes _ _ A4 A2 _ _ c4 c2 _ _ wr (S4.out.below BV.out (Nat.le_refl _)).rns (R4.out.below BV.out (Nat.le_refl _)).rns rfl)
      have E2 := Lib.hid (fun (x : World) (b : Below wr.heap.size wr x) => equal16_yes _ _ A A2 _ _ c c2 _ _ x (RX.out.below b (Nat.le_refl _)).rns ((R4.out.below BV.out (Nat.le_refl _)).below b (Nat.le_refl _)).rns rfl)
      clear hrw hup f0 f1 f2
      go_wp2_with fail
      refine (E1.out).mono ?_; rintro e x5 ⟨rfl, L5⟩
      have B5 := Lib.hid (BW.out.trans (L5.below.mono BW.out.size))
      have E3 := Lib.hid (E2.out _ L5.below)
      clear L5
      go_wp2_with fail
      refine (E3.out).mono ?_; rintro e x6 ⟨rfl, L6⟩
      have B6 := Lib.hid (B5.out.trans (L6.below.mono B5.out.size))
      clear L6
      go_wp2_with fail
      go_ret
      exact ⟨rfl, BX.out.trans (B6.out.mono BX.out.size)⟩

set_option maxRecDepth 100000 in
theorem contract (H : Type) (enc : TypeId × Value → H) (W : World) (base : Nat) (args : Array Value) (ds gs : List (DataW H)) (before : List MemPlace)
    (hval : ∀ (j : Nat) t v, Try.f7.params[j]? = some t → args[j]? = some v → Value.okWide Try.prog W .any base t v)
    (hW : DataW.Whole enc Try.prog Try.f7.params.toList Rows.runsOneSpec.vars false W args.toList ds gs before) :
    Calls Try.prog 7 args W fun e W' => ∃ v, e = .returned v ∧ Rows.runsOneSpec.post enc Try.prog Try.f7 false true false false W args v W' := by
  have hW' := hW
  obtain ⟨p, q, hA0, hV, rfl, hfz, hnd⟩ := hW
  have hA : DataW.TrodAll enc Try.prog W 0 (fun _ => true) true Try.f7.params.toList args.toList ds p := hA0
  rw [Try.params7] at hA hval
  obtain ⟨v0, vs0, d0, ds0, p0, q0, hargs, rfl, rfl, h0, rr0⟩ := trodAll_cons hA
  obtain ⟨v1, vs1, d1, ds1, p1, q1, rfl, rfl, rfl, h1, rr1⟩ := trodAll_cons rr0
  obtain ⟨rfl, rfl, rfl⟩ := trodAll_nil rr1
  obtain rfl : args = #[v0, v1] := by cases args; simp_all
  obtain ⟨rfl, rfl⟩ := trodVars_none hV
  have k0 := h0
  have lt0 : ∀ x ∈ p0, x.block < W.heap.size := by obtain ⟨m, hm⟩ := k0; exact DataW.trod_lt m _ _ _ hm
  obtain ⟨o0, rfl⟩ := open_op (hval 0 34 v0 rfl rfl) h0
  obtain ⟨a1, rfl, rfl, rfl, w1⟩ := open_int Try.underlying3 (hval 1 3 v1 rfl rfl) h1
  clear hA0
  refine (walk o0 a1 W w1).mono fun e W' ⟨he, bel⟩ => ?_
  subst he
  exact ⟨_, rfl, _, _, _, [], _, [], hW', trodAll_mk1 (shut_bool Try.underlying4 _), (trodAll_cons_mk (Below.trod laidOut (by kernel_rfl) (of_decide_eq_true (by kernel_rfl)) k0 bel lt0) (trodAll_cons_mk (shut_int Try.underlying3 w1) trodAll_mk0)), rfl, bel.frame _, fun h => by cases h⟩

set_option maxRecDepth 100000 in
theorem lifted (os : Os) (started : os.Started) (H : Type) (enc : TypeId × Value → H) :
    ReturnsInHanded {} Try.checked os 7 .any (Rows.runsOneSpec.pre6 enc Try.prog Try.f7 Rows.runsOneRow.domain false) (Rows.runsOneSpec.post enc Try.prog Try.f7 false true false false) := by
  refine returnsInHanded_of_change (C := Try.checked) own started (by kernel_rfl) Try.func7
    (ChangeSpec.witness6 (enc := enc) (C := Try.checked) false ⟨#[], #[.agg #[.int .i64 0, .int .i64 0, .int .i64 0], .int .i64 0], []⟩ 8 (by kernel_rfl) (by kernel_rfl) (by kernel_rfl) (by kernel_rfl)) ?_
  intro W base args ds gs before hval hW _ _
  exact contract H enc W base args ds gs before hval hW

theorem over : Rows.runsOneRow.holds Try.pinned (OpenSpec.ofChange Rows.runsOneSpec) :=
  OpenClaim.holds_of_wide 7 Try.f7 rfl rfl rfl rfl rfl rfl rfl ⟨rfl, rfl, rfl, rfl, rfl⟩ rfl rfl rfl rfl rfl (by kernel_rfl) Try.func7 (by kernel_rfl)
    (of_decide_eq_true (by kernel_rfl)) (by unfold Func.isWrapper; first | (rw [if_pos (by decide +kernel)]; kernel_rfl) | (rw [if_neg (by decide +kernel)]; exact ⟨rfl, rfl⟩))
    (fun os started H enc _ => lifted os started H enc)

/-- ████ THE STATEMENT ████ -/
theorem proved : Rows.RunsOneSaid := over
#print axioms proved
end Go.Proofs.Ytfcihgincfcdkaa.runsOne
