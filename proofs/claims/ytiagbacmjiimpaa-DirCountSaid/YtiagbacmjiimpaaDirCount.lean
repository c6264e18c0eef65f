/-
  DirCount, at every list of entries and every entry: one name more is one entry more, one less is one less, and each name of a folder is found.
-/
import Derived.Test.YtiagbacmjiimpaaRows
import Derived.Test.YtiagbacmjiimpaaEFrame
import Derived.Test.YtiagbacmjiimpaaEFacts
import Derived.Test.YtiagbacmjiimpaaPLast
import Derived.WalkKit
import Derived.ProofKit
import Derived.OpenShut
import Derived.ShutString
import Derived.ChangeOld
import Derived.Below
import Derived.SizedLaws
import Derived.RegionTactic
import Derived.Deep.RegionWith
import Derived.Deep.CutBlock
import Derived.ChangeAlike
namespace Go.Proofs.Ytiagbacmjiimpaa.dirCount
open Go.ChangeShapes Go.WideShapes Go.ChangeAt Go.RowKit Words Go.Proofs.Ytiagbacmjiimpaa.Dir
open Go.ChangeMaps (open_string shut_string)
set_option linter.unusedVariables false

theorem own : ownKnob Try.prog.godebug = none := by kernel_rfl
theorem laidOut : laidOutB Try.prog = true := by kernel_rfl

set_option maxRecDepth 100000 in
set_option maxHeartbeats 8000000 in
/-- The walk: the Go text returns true and writes nothing that was there. -/
theorem walk (a0 : Option Addr) (len0 cap0 : Nat) (z0 : List En) (o1 : En) (w : World) (w0 : Fl w w.heap.size a0 len0 cap0 z0) (e1 : o1.n.length ≤ maxLen) (r0 : cap0 * 24 ≤ 140737488351232) :
    Calls Try.prog 8 #[.slice a0 len0 cap0, eval_ o1] w fun e w' => e = .returned (.bool true) ∧ Below w.heap.size w w' := by
  have CON := con
  have H := Lib.hid w0.rd
  have HWF := Lib.hid w0.wf
  have HL := Lib.hid w0.rd.len
  have HLE := w0.rd.le
  have HN := w0.rd.small
  have HCB : len0 * 24 ≤ 140737488351232 := by omega
  obtain ⟨wb, hwb⟩ : ∃ wb, w.alloc (.cells #[.string (str o1.n), .int .i64 o1.i] 24) = wb := ⟨_, rfl⟩
  have bx : Below w.heap.size w wb := by rw [← hwb]; exact boxed w _
  have g1 : Whole wb w.heap.size 24 #[.string (str o1.n), .int .i64 o1.i] := by rw [← hwb]; exact Whole.new w 24 _
  have HB : Hid (∀ x : World, Below wb.heap.size wb x → (x.cell? ⟨w.heap.size, 0, none⟩ = some (.string (str o1.n)) ∧ x.cell? ⟨w.heap.size, 1, none⟩ = some (.int .i64 o1.i)) ∧ Ens x w.heap.size a0 len0 cap0 z0 ∧ w.heap.size ≤ x.heap.size ∧ Below w.heap.size w x) := Lib.hid fun x b =>
    ⟨⟨by rw [Whole.cell (whole_below2 g1 b)]; rfl, by rw [Whole.cell (whole_below2 g1 b)]; rfl⟩, Words.Rd.below H.out (bx.trans (b.mono bx.size)) (Nat.le_refl _), Nat.le_trans bx.size b.size, bx.trans (b.mono bx.size)⟩
  have HA := Lib.hid (alive21 CON wb)
  have F1 := fun (x : World) (b : Below wb.heap.size wb x) => CON.add w.heap.size a0 len0 cap0 z0 o1 x (HB.out x b).2.1 HWF.out e1 (by omega) (HB.out x b).2.2.1
  have F2 := fun (x : World) (b : Below wb.heap.size wb x) => CON.rem w.heap.size a0 len0 cap0 z0 o1.n x (HB.out x b).2.1 HWF.out e1 (by omega) (HB.out x b).2.2.1
  have F3 := Lib.hid (fun (x : World) (b : Below wb.heap.size wb x) (nm : List UInt8) (hn : nm.length ≤ maxLen) => CON.find w.heap.size a0 len0 cap0 z0 nm x (HB.out x b).2.1 HWF.out hn (HB.out x b).2.2.1)
  have F4 := Lib.hid (fun (x : World) (b : Below wb.heap.size wb x) => CON.right w.heap.size a0 len0 cap0 z0 x (HB.out x b).2.1 HWF.out (HB.out x b).2.2.1)
  have A1 := fun h => al_length (l := z0) (e := o1) h
  have A2 := fun h => rl_length (l := z0) (nm := o1.n) h
  have A3 := fun h => not_both (l := z0) (e := o1) h
  rw [HL.out] at A1 A2
  have A1 := Lib.hid A1
  have A2 := Lib.hid A2
  have A3 := Lib.hid A3
  unfold Lst at F1 F2
  obtain ⟨nn, ii⟩ := o1
  unfold eval_ at F1 ⊢
  simp only at hwb F1 F2 e1
  have F1 := Lib.hid F1
  have F2 := Lib.hid F2
  have hw1 : IntKind.i64.wrap ((len0 : Int) + 1) = (len0 : Int) + 1 := by rw [IntKind.wrap_i64]; omega
  have hw2 : IntKind.i64.wrap ((len0 : Int) - 1) = (len0 : Int) - 1 := by rw [IntKind.wrap_i64]; omega
  clear w0 bx g1 HCB
  go_enter Try.func8, Try.ntmps8
  go_wp2_with fail
  refine (HA.out).mono ?_; rintro e w2 ⟨rfl, b2⟩
  have B2 := Lib.hid b2
  have G1 := Lib.hid (F1.out w2 b2)
  obtain ⟨⟨q0, q1⟩, _, _, _⟩ := HB.out w2 b2
  clear b2
  go_wp2_with fail
  refine (G1.out).mono ?_; rintro e w3 ⟨A5, n3, c3, rfl, l3, o3, b3⟩
  have B3 := Lib.hid (B2.out.trans (b3.mono B2.out.size))
  have L3 := Lib.hid l3
  have G2 := Lib.hid (F2.out w3 B3.out)
  obtain ⟨⟨p0, p1⟩, _, _, _⟩ := HB.out w3 B3.out
  clear b3 o3 l3 q0 q1
  go_wp2_with fail
  refine (G2.out).mono ?_; rintro e w4 ⟨A6, n4, c4, rfl, l4, o4, b4⟩
  have B4 := Lib.hid (B3.out.trans (b4.mono B3.out.size))
  have L4 := Lib.hid l4
  clear b4 o4 l4 p0 p1
  generalize ae z0 ⟨nn, ii⟩ = x1 at *
  generalize re z0 nn = x2 at *
  go_upto_region 5 with fail
  go_cut [57] (fun u wx => u = .bool false ∧ wx = w4)
  case first =>
    by_cases h1 : x1 = 0
    · have h2 := A3.out h1
      have h3 : n3 = len0 + 1 := by rw [← L3.out]; exact A1.out h1
      have t1 : (x1 == 0) = true := by rw [beq_iff_eq]; exact h1
      have t2 : (x2 == 0) = false := by rw [beq_eq_false_iff_ne]; exact h2
      have t3 : ((n3 : Int) != (len0 : Int) + 1) = false := by rw [bne_eq_false_iff_eq]; omega
      clear h1 h2 h3
      go_wp2_with fail
      go_meet
      exact ⟨rfl, rfl⟩
    · have t1 : (x1 == 0) = false := by rw [beq_eq_false_iff_ne]; exact h1
      clear h1
      by_cases h2 : x2 = 0
      · have h3 := A2.out h2
        rw [L4.out] at h3
        have t2 : (x2 == 0) = true := by rw [beq_iff_eq]; exact h2
        have t3 : ((n4 : Int) != (len0 : Int) - 1) = false := by rw [bne_eq_false_iff_eq]; omega
        clear h2 h3
        go_wp2_with fail
        go_meet
        exact ⟨rfl, rfl⟩
      · have t2 : (x2 == 0) = false := by rw [beq_eq_false_iff_ne]; exact h2
        clear h2
        go_wp2_with fail
        go_meet
        exact ⟨rfl, rfl⟩
  case rest =>
    obtain ⟨rfl, rfl⟩ := hcut
    clear A1 A2 A3 F1 F2 L3 L4 hw1 hw2
    go_wp2_with fail
    go_loopw [60] (fun i wr => ∃ k : Nat, i = .int .i64 k ∧ k ≤ len0 ∧ Below wb.heap.size wb wr) (fun i _ => (len0 - intOf i).toNat)
    case atStart => exact ⟨0, rfl, by omega, B4.out⟩
    case round =>
      obtain ⟨k, rfl, hk, hbel⟩ := hrel
      have BW := Lib.hid hbel
      clear hbel
      by_cases hlt : k < len0
      · obtain ⟨_, r1, _, _⟩ := HB.out wr BW.out
        obtain ⟨g, o, rfl, _, _⟩ := Words.Rd.row r1 (by omega)
        have HK : Hid (k < z0.length) := Lib.hid (by rw [HL.out]; exact hlt)
        obtain ⟨c0, c1⟩ := Ens.cells r1 rfl (eth_get HK.out)
        have hmem := List.mem_of_getElem? (eth_get HK.out)
        have hfit := HWF.out _ hmem
        have EF := Lib.hid (fun (h : rt z0 = true) => each_found h hmem)
        obtain ⟨wc, hwc⟩ : ∃ wc, wr.alloc (.cells #[.string (str (eth z0 k).n), .int .i64 (eth z0 k).i] 24) = wc := ⟨_, rfl⟩
        have BC : Hid (Below wb.heap.size wb wc) := Lib.hid (by rw [← hwc]; exact BW.out.alloc BW.out.size _)
        have gc : Whole wc wr.heap.size 24 #[.string (str (eth z0 k).n), .int .i64 (eth z0 k).i] := by rw [← hwc]; exact Whole.new wr 24 _
        have G3 := F3.out wc BC.out (eth z0 k).n hfit
        obtain ⟨⟨xn, xi⟩, hx⟩ : ∃ x, x = eth z0 k := ⟨_, rfl⟩
        rw [← hx] at c0 c1 EF hwc gc G3
        simp only at c0 c1 hwc gc G3
        simp only at EF
        have q0 := gc.cell 0
        have q1 := gc.cell 1
        simp at q0 q1
        have GC := Lib.hid gc
        have G3 := Lib.hid G3
        clear hx hmem hfit gc r1
        go_wp2_with fail
        refine (G3.out).mono ?_; rintro e w6 ⟨rfl, b6⟩
        have B6 := Lib.hid (BC.out.trans (b6.mono BC.out.size))
        have GD := Lib.hid (whole_below2 GC.out b6)
        have G4 := F4.out w6 B6.out
        clear b6
        cases hr : rt z0 with
        | false =>
          rw [hr] at G4
          generalize fv z0 xn = v1 at *
          generalize fe z0 xn = x3 at *
          have G4 := Lib.hid G4
          clear hr
          go_wp2_with fail
          refine (G4.out).mono ?_; rintro e w7 ⟨rfl, b7⟩
          have B7 := Lib.hid (B6.out.trans (b7.mono B6.out.size))
          clear b7
          go_wp2_with fail
          go_roundw
          case rel => exact ⟨k + 1, by go_num, by omega, B7.out⟩
          case measure => simp [intOf]; omega
        | true =>
          obtain ⟨j1, j2⟩ := EF.out hr
          rw [hr] at G4
          rw [j1, j2]
          have G4 := Lib.hid G4
          clear hr j1 j2
          go_wp2_with fail
          refine (G4.out).mono ?_; rintro e w7 ⟨rfl, b7⟩
          have B7 := Lib.hid (B6.out.trans (b7.mono B6.out.size))
          have y1 := (whole_below2 GD.out b7).cell 1
          simp at y1
          clear b7
          go_wp2_with fail
          go_roundw
          case rel => exact ⟨k + 1, by go_num, by omega, B7.out⟩
          case measure => simp [intOf]; omega
      · obtain rfl : k = len0 := by omega
        have BF := Lib.hid ((HB.out wr BW.out).2.2.2)
        go_wp2_with fail
        go_ret
        exact ⟨rfl, BF.out⟩

set_option maxRecDepth 100000 in
theorem contract (H : Type) (enc : TypeId × Value → H) (W : World) (base : Nat) (args : Array Value) (ds gs : List (DataW H)) (before : List MemPlace)
    (hval : ∀ (j : Nat) t v, Try.f8.params[j]? = some t → args[j]? = some v → Value.okWide Try.prog W .any base t v)
    (hW : DataW.Whole enc Try.prog Try.f8.params.toList Rows.dirCountSpec.vars false W args.toList ds gs before) (hsz : (DataW.weightsEach Try.prog (Try.f8.params.toList ++ Rows.dirCountSpec.plain.varTypes Try.prog) (ds ++ gs)).all (· ≤ reachBytes) = true) :
    Calls Try.prog 8 args W fun e W' => ∃ v, e = .returned v ∧ Rows.dirCountSpec.post enc Try.prog Try.f8 false true false false W args v W' := by
  have hW' := hW
  obtain ⟨p, q, hA0, hV, rfl, hfz, hnd⟩ := hW
  have hA : DataW.TrodAll enc Try.prog W 0 (fun _ => true) true Try.f8.params.toList args.toList ds p := hA0
  rw [Try.params8] at hA hval hsz
  obtain ⟨v0, vs0, d0, ds0, p0, q0, hargs, rfl, rfl, h0, rr0⟩ := trodAll_cons hA
  obtain ⟨v1, vs1, d1, ds1, p1, q1, rfl, rfl, rfl, h1, rr1⟩ := trodAll_cons rr0
  obtain ⟨rfl, rfl, rfl⟩ := trodAll_nil rr1
  obtain rfl : args = #[v0, v1] := by cases args; simp_all
  obtain ⟨rfl, rfl⟩ := trodVars_none hV
  obtain ⟨a0, len0, cap0, rfl⟩ := okWide_slice Try.underlying22 (hval 0 22 v0 rfl rfl)
  have k0 := h0
  have lt0 : ∀ x ∈ p0, x.block < W.heap.size := by obtain ⟨m, hm⟩ := k0; exact DataW.trod_lt m _ _ _ hm
  obtain ⟨⟨z0, w0⟩, u0⟩ := open_fl h0
  have r0 := reach_fl hsz (j := 0) rfl rfl u0
  have k1 := h1
  have lt1 : ∀ x ∈ p1, x.block < W.heap.size := by obtain ⟨m, hm⟩ := k1; exact DataW.trod_lt m _ _ _ hm
  obtain ⟨o1, e1, rfl⟩ := open_en (hval 1 24 v1 rfl rfl) h1
  clear hA0
  refine (walk a0 len0 cap0 z0 o1 W w0 e1 r0).mono fun e W' ⟨he, bel⟩ => ?_
  subst he
  exact ⟨_, rfl, _, _, _, [], _, [], hW', trodAll_mk1 (shut_bool Try.underlying4 _), (trodAll_cons_mk (Below.trod laidOut (by kernel_rfl) (of_decide_eq_true (by kernel_rfl)) k0 bel lt0) (trodAll_cons_mk (Below.trod laidOut (by kernel_rfl) (of_decide_eq_true (by kernel_rfl)) k1 bel lt1) trodAll_mk0)), rfl, bel.frame _, fun h => by cases h⟩

set_option maxRecDepth 100000 in
theorem lifted (os : Os) (started : os.Started) (H : Type) (enc : TypeId × Value → H) :
    ReturnsInHanded {} Try.checked os 8 .any (Rows.dirCountSpec.pre6 enc Try.prog Try.f8 Rows.dirCountRow.domain false) (Rows.dirCountSpec.post enc Try.prog Try.f8 false true false false) := by
  refine returnsInHanded_of_change_sized (C := Try.checked) own started (by kernel_rfl) Try.func8
    (ChangeSpec.witness6 (enc := enc) (C := Try.checked) false ⟨#[], #[.slice none 0 0, .agg #[.string ⟨#[]⟩, .int .i64 0]], []⟩ 8 (by kernel_rfl) (by kernel_rfl) (by kernel_rfl) (by kernel_rfl)) ?_
  intro W base args ds gs before hval hW _ hsz _
  exact contract H enc W base args ds gs before hval hW hsz

theorem over : Rows.dirCountRow.holds Try.pinned (OpenSpec.ofChange Rows.dirCountSpec) :=
  OpenClaim.holds_of_wide 8 Try.f8 rfl rfl rfl rfl rfl rfl rfl ⟨rfl, rfl, rfl, rfl, rfl⟩ rfl rfl rfl rfl rfl (by kernel_rfl) Try.func8 (by kernel_rfl)
    (of_decide_eq_true (by kernel_rfl)) (by unfold Func.isWrapper; first | (rw [if_pos (by decide +kernel)]; kernel_rfl) | (rw [if_neg (by decide +kernel)]; exact ⟨rfl, rfl⟩))
    (fun os started H enc _ => lifted os started H enc)

/-- ████ THE STATEMENT ████ -/
theorem proved : Rows.DirCountSaid := over
#print axioms proved
end Go.Proofs.Ytiagbacmjiimpaa.dirCount
