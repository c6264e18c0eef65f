/-
  VictimTells holds for every input: Right, Greedy and Spread return what G1 says, for every list and every spread.
-/
import Derived.Test.YtodnjeahjalinaaRows
import Derived.Test.YtodnjeahjalinaaRefs2
import Derived.Test.YtodnjeahjalinaaTells
import Derived.Test.YtodnjeahjalinaaFrame
import Derived.WalkKit
import Derived.ProofKit
import Derived.OpenShut
import Derived.ShutString
import Derived.ChangeOld
import Derived.Below
import Derived.SizedLaws
import Derived.RegionTactic
import Derived.Deep.RegionWith
import Derived.Deep.CutBlock
import Derived.ChangeAlike
namespace Go.Proofs.Ytodnjeahjalinaa.victimTells
open Go.ChangeShapes Go.WideShapes Go.ChangeAt Go.RowKit Words Go.Proofs.Ytodnjeahjalinaa.Vic
open Go.ChangeMaps (open_string shut_string)
set_option linter.unusedVariables false

theorem own : ownKnob Try.prog.godebug = none := by kernel_rfl
theorem laidOut : laidOutB Try.prog = true := by kernel_rfl

set_option maxRecDepth 20000 in
set_option maxHeartbeats 4000000 in
/-- The walk: the Go text returns true and writes nothing that was there. -/
theorem walk (a0 : Option Addr) (len0 cap0 : Nat) (z0 : List Fil) (a1 : Int) (w : World) (w0 : Fl w w.heap.size a0 len0 cap0 z0) (w1 : (Lit.int .i64 a1).wf = true)  :
    Calls Try.prog 3 #[.slice a0 len0 cap0, .int .i64 a1] w fun e w' => e = .returned (.bool true) ∧ Below w.heap.size w w' := by
  have R := Lib.hid (fun (wa : World) (b : Below w.heap.size w wa) => (Words.Rd.below w0 b (Nat.le_refl _) : Fl wa w.heap.size a0 len0 cap0 z0))
  have L := Lib.hid w0.len
  have HA := Lib.hid (greedy9 _ _ _ _ z0 a1 w w0 (Nat.le_refl _))
  have HG := Lib.hid (fun (wa : World) (b : Below w.heap.size w wa) => ggreedy10 _ _ _ _ z0 a1 wa (R.out wa b) b.size)
  have HR := Lib.hid (fun (wa : World) (b : Below w.heap.size w wa) => right11 _ _ _ _ z0 wa (R.out wa b) b.size)
  have HS := Lib.hid (fun (wa : World) (b : Below w.heap.size w wa) => gright12 _ _ _ _ z0 wa (R.out wa b) b.size)
  have HT := Lib.hid (fun (hr : right z0 = true) (wa : World) (b : Below w.heap.size w wa) => spread13 _ _ _ _ z0 wa (R.out wa b) b.size hr)
  clear w0 w1
  generalize gidx z0 a1 = gi at *
  generalize gerr z0 a1 = ge at *
  have q1 : (gi != gi) = false := by rw [bne_eq_false_iff_eq]
  have q2 : (ge != ge) = false := by rw [bne_eq_false_iff_eq]
  cases hr : right z0 with
  | false =>
    rw [hr] at HR HS
    clear hr HT
    go_enter Try.func3, Try.ntmps3
    go_wp2_with fail
    refine (HA.out).mono ?_; rintro e x1 ⟨rfl, b1⟩
    have B1 := Lib.hid b1
    clear b1
    go_wp2_with fail
    refine (HG.out _ B1.out).mono ?_; rintro e x2 ⟨rfl, b2⟩
    have B2 := Lib.hid (B1.out.trans (b2.mono B1.out.size))
    clear b2
    go_wp2_with fail
    refine (HR.out _ B2.out).mono ?_; rintro e x3 ⟨rfl, b3⟩
    have B3 := Lib.hid (B2.out.trans (b3.mono B2.out.size))
    clear b3
    go_wp2_with fail
    refine (HS.out _ B3.out).mono ?_; rintro e x4 ⟨rfl, b4⟩
    have B4 := Lib.hid (B3.out.trans (b4.mono B3.out.size))
    clear b4
    go_wp2_with fail
    refine (HS.out _ B4.out).mono ?_; rintro e x5 ⟨rfl, b5⟩
    have B5 := Lib.hid (B4.out.trans (b5.mono B4.out.size))
    clear b5
    go_wp2_with fail
    go_ret
    exact ⟨rfl, B5.out⟩
  | true =>
    rw [hr] at HR HS
    have HT := Lib.hid (HT.out hr)
    have HRT := Lib.hid hr
    have HM0 := Lib.hid (MI.start hr)
    have hlen := right_len hr
    rw [L.out] at hlen
    clear hr
    go_enter Try.func3, Try.ntmps3
    go_wp2_with fail
    refine (HA.out).mono ?_; rintro e x1 ⟨rfl, b1⟩
    have B1 := Lib.hid b1
    clear b1
    go_wp2_with fail
    refine (HG.out _ B1.out).mono ?_; rintro e x2 ⟨rfl, b2⟩
    have B2 := Lib.hid (B1.out.trans (b2.mono B1.out.size))
    clear b2
    go_wp2_with fail
    refine (HR.out _ B2.out).mono ?_; rintro e x3 ⟨rfl, b3⟩
    have B3 := Lib.hid (B2.out.trans (b3.mono B2.out.size))
    clear b3
    go_wp2_with fail
    refine (HS.out _ B3.out).mono ?_; rintro e x4 ⟨rfl, b4⟩
    have B4 := Lib.hid (B3.out.trans (b4.mono B3.out.size))
    clear b4
    go_wp2_with fail
    refine (HS.out _ B4.out).mono ?_; rintro e x5 ⟨rfl, b5⟩
    have B5 := Lib.hid (B4.out.trans (b5.mono B4.out.size))
    clear b5
    go_wp2_with fail
    go_loopw [9, 46] (fun a i wr => ∃ (k : Nat) (v : Int), a = .int .i64 v ∧ i = .int .i64 k ∧ k ≤ len0 ∧ MI z0 k 0 v ∧ Below w.heap.size w wr) (fun _ i _ => (len0 - intOf i).toNat)
    case atStart => exact ⟨0, 0, rfl, rfl, by omega, HM0.out, B5.out⟩
    case round =>
      obtain ⟨k, v, rfl, rfl, hkn, hmi, hbel⟩ := hrel
      obtain ⟨wo, rfl⟩ : ∃ wo, wo = wr := ⟨_, rfl⟩
      have HM := Lib.hid hmi
      have HB := Lib.hid hbel
      clear hmi hbel
      by_cases hlt : k < len0
      · obtain ⟨g, o, rfl, _, _⟩ := Words.Rd.row (R.out _ HB.out) (by omega)
        obtain ⟨c0, c1, c2⟩ := Fl.cells (R.out _ HB.out) rfl (nth_get (l := z0) (k := k) (by rw [L.out]; exact hlt))
        have hrx := right_nth HRT.out (k := k) (by rw [L.out]; exact hlt)
        have p0 := hrx.2.2.2.1
        have p1 := hrx.2.2.2.2
        have HB1 := Lib.hid (HB.out.alloc HB.out.size (fbox (nth z0 k)))
        have HNX := Lib.hid (fun (j : Nat) (v d : Int) (h : MI z0 k j v) (hj : j < len0) (hd : d = (nth z0 k).wear - (nth z0 j).wear) => h.next (by rw [L.out]; exact hlt) (by rw [L.out]; exact hj) hd)
        have hbox : (wo.alloc (fbox (nth z0 k))).cell? ⟨wo.heap.size, 2, none⟩ = some (.int .i64 (nth z0 k).wear) := cell_of_row _ _ 2 _ 28 (0, 0) (heap_alloc_new wo _)
        obtain ⟨x, hx⟩ : ∃ x, x = nth z0 k := ⟨_, rfl⟩
        rw [← hx] at c0 c1 c2 p0 p1 HB1 hbox
        simp only [← hx] at HNX
        clear hrx hx
        obtain ⟨xn, xf, xw⟩ := x
        have p0 : 0 ≤ xw := p0
        have p1 : xw ≤ 1048576 := p1
        unfold fbox at HB1 hbox
        go_wp2_with fail
        go_loopw [9, 52] (fun b i ws => ∃ (j : Nat) (v : Int), i = .int .i64 j ∧ j ≤ len0 ∧ b = .int .i64 v ∧ MI z0 k j v ∧ Below (wo.alloc (.cells #[.int .i64 xn, .int .i64 xf, .int .i64 xw] 28)).heap.size (wo.alloc (.cells #[.int .i64 xn, .int .i64 xf, .int .i64 xw] 28)) ws) (fun _ i _ => (len0 - intOf i).toNat)
        case atStart => exact ⟨0, v, rfl, by omega, rfl, HM.out, Below.refl _ _⟩
        case round =>
          obtain ⟨j, v2, rfl, hjn, rfl, hmi, hbel⟩ := hrel
          have hsz : wo.heap.size < wr.heap.size := by have := hbel.size; simp at this; omega
          have hne : wo.heap.size ≠ wr.heap.size := by omega
          have hfw := (hbel.cell (p := ⟨wo.heap.size, 2, none⟩) (by simp)).trans hbox
          have HM2 := Lib.hid hmi
          have HBI := Lib.hid hbel
          have HB2 := Lib.hid (HB1.out.trans (hbel.mono HB1.out.size))
          clear hmi hbel hbox
          by_cases hj : j < len0
          · obtain ⟨d0, d1, d2⟩ := Fl.cells (R.out _ HB2.out) rfl (nth_get (l := z0) (k := j) (by rw [L.out]; exact hj))
            have hry := right_nth HRT.out (k := j) (by rw [L.out]; exact hj)
            have y0 := hry.2.2.2.1
            have y1 := hry.2.2.2.2
            have HBI2 := Lib.hid (HBI.out.alloc HBI.out.size (fbox (nth z0 j)))
            have HN2 := Lib.hid (HNX.out j v2 (xw - (nth z0 j).wear) HM2.out hj rfl)
            obtain ⟨y, hy⟩ : ∃ y, y = nth z0 j := ⟨_, rfl⟩
            rw [← hy] at d0 d1 d2 y0 y1 HBI2 HN2
            clear hry hy
            obtain ⟨yn, yf, yw⟩ := y
            have y0 : 0 ≤ yw := y0
            have y1 : yw ≤ 1048576 := y1
            go_wp2_with fail
            go_roundw
            case rel => exact ⟨j + 1, _, by go_num, by omega, rfl, HN2.out, HBI2.out⟩
            case measure => simp [intOf]; omega
          · obtain rfl : j = len0 := by omega
            have HN2 := Lib.hid (HM2.out.fin L.out.symm)
            go_wp2_with fail
            go_roundw
            case rel => exact ⟨k + 1, v2, rfl, by go_num, by omega, HN2.out, HB2.out⟩
            case measure => simp [intOf]; omega
      · obtain rfl : k = len0 := by omega
        obtain rfl : v = spr z0 := HM.out.all L.out.symm
        have q3 : (spr z0 == spr z0) = true := by simp
        go_wp2_with fail
        refine (HT.out _ HB.out).mono ?_; rintro e x6 ⟨rfl, b6⟩
        have B6 := Lib.hid (HB.out.trans (b6.mono HB.out.size))
        clear b6
        go_wp2_with fail
        go_ret
        exact ⟨rfl, B6.out⟩

set_option maxRecDepth 100000 in
theorem contract (H : Type) (enc : TypeId × Value → H) (W : World) (base : Nat) (args : Array Value) (ds gs : List (DataW H)) (before : List MemPlace)
    (hval : ∀ (j : Nat) t v, Try.f3.params[j]? = some t → args[j]? = some v → Value.okWide Try.prog W .any base t v)
    (hW : DataW.Whole enc Try.prog Try.f3.params.toList Rows.victimTellsSpec.vars false W args.toList ds gs before) :
    Calls Try.prog 3 args W fun e W' => ∃ v, e = .returned v ∧ Rows.victimTellsSpec.post enc Try.prog Try.f3 false true false false W args v W' := by
  have hW' := hW
  obtain ⟨p, q, hA0, hV, rfl, hfz, hnd⟩ := hW
  have hA : DataW.TrodAll enc Try.prog W 0 (fun _ => true) true Try.f3.params.toList args.toList ds p := hA0
  rw [Try.params3] at hA hval
  obtain ⟨v0, vs0, d0, ds0, p0, q0, hargs, rfl, rfl, h0, rr0⟩ := trodAll_cons hA
  obtain ⟨v1, vs1, d1, ds1, p1, q1, rfl, rfl, rfl, h1, rr1⟩ := trodAll_cons rr0
  obtain ⟨rfl, rfl, rfl⟩ := trodAll_nil rr1
  obtain rfl : args = #[v0, v1] := by cases args; simp_all
  obtain ⟨rfl, rfl⟩ := trodVars_none hV
  obtain ⟨a0, len0, cap0, rfl⟩ := okWide_slice Try.underlying22 (hval 0 22 v0 rfl rfl)
  have k0 := h0
  have lt0 : ∀ x ∈ p0, x.block < W.heap.size := by obtain ⟨m, hm⟩ := k0; exact DataW.trod_lt m _ _ _ hm
  obtain ⟨⟨z0, w0⟩, u0⟩ := open_fl h0
  obtain ⟨a1, rfl, rfl, rfl, w1⟩ := open_int Try.underlying3 (hval 1 3 v1 rfl rfl) h1
  clear hA0
  refine (walk a0 len0 cap0 z0 a1 W w0 w1).mono fun e W' ⟨he, bel⟩ => ?_
  subst he
  exact ⟨_, rfl, _, _, _, [], _, [], hW', trodAll_mk1 (shut_bool Try.underlying4 _), (trodAll_cons_mk (Below.trod laidOut (by kernel_rfl) (of_decide_eq_true (by kernel_rfl)) k0 bel lt0) (trodAll_cons_mk (shut_int Try.underlying3 w1) trodAll_mk0)), rfl, bel.frame _, fun h => by cases h⟩

set_option maxRecDepth 100000 in
theorem lifted (os : Os) (started : os.Started) (H : Type) (enc : TypeId × Value → H) :
    ReturnsInHanded {} Try.checked os 3 .any (Rows.victimTellsSpec.pre6 enc Try.prog Try.f3 Rows.victimTellsRow.domain false) (Rows.victimTellsSpec.post enc Try.prog Try.f3 false true false false) := by
  refine returnsInHanded_of_change (C := Try.checked) own started (by kernel_rfl) Try.func3
    (ChangeSpec.witness6 (enc := enc) (C := Try.checked) false ⟨#[], #[.slice none 0 0, .int .i64 0], []⟩ 8 (by kernel_rfl) (by kernel_rfl) (by kernel_rfl) (by kernel_rfl)) ?_
  intro W base args ds gs before hval hW _ _
  exact contract H enc W base args ds gs before hval hW

theorem over : Rows.victimTellsRow.holds Try.pinned (OpenSpec.ofChange Rows.victimTellsSpec) :=
  OpenClaim.holds_of_wide 3 Try.f3 rfl rfl rfl rfl rfl rfl rfl ⟨rfl, rfl, rfl, rfl, rfl⟩ rfl rfl rfl rfl rfl (by kernel_rfl) Try.func3 (by kernel_rfl)
    (of_decide_eq_true (by kernel_rfl)) (by unfold Func.isWrapper; first | (rw [if_pos (by decide +kernel)]; kernel_rfl) | (rw [if_neg (by decide +kernel)]; exact ⟨rfl, rfl⟩))
    (fun os started H enc _ => lifted os started H enc)

/-- ████ THE STATEMENT ████ -/
theorem proved : Rows.VictimTellsSaid := over
#print axioms proved
end Go.Proofs.Ytodnjeahjalinaa.victimTells
