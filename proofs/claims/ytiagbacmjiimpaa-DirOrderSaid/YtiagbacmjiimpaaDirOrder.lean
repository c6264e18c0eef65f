/-
  DirOrder, at every list of entries and every two entries: in whatever order the two are added, it is one folder.
-/
import Derived.Test.YtiagbacmjiimpaaRows
import Derived.Test.YtiagbacmjiimpaaEFrame
import Derived.Test.YtiagbacmjiimpaaEFacts
import Derived.Test.YtiagbacmjiimpaaPLast
import Derived.WalkKit
import Derived.ProofKit
import Derived.OpenShut
import Derived.ShutString
import Derived.ChangeOld
import Derived.Below
import Derived.SizedLaws
import Derived.RegionTactic
import Derived.Deep.RegionWith
import Derived.Deep.CutBlock
import Derived.ChangeAlike
namespace Go.Proofs.Ytiagbacmjiimpaa.dirOrder
open Go.ChangeShapes Go.WideShapes Go.ChangeAt Go.RowKit Words Go.Proofs.Ytiagbacmjiimpaa.Dir
open Go.ChangeMaps (open_string shut_string)
set_option linter.unusedVariables false

theorem own : ownKnob Try.prog.godebug = none := by kernel_rfl
theorem laidOut : laidOutB Try.prog = true := by kernel_rfl

set_option maxRecDepth 100000 in
set_option maxHeartbeats 8000000 in
/-- The walk: the Go text returns true and writes nothing that was there. -/
theorem walk (a0 : Option Addr) (len0 cap0 : Nat) (z0 : List En) (o1 : En) (o2 : En) (w : World) (w0 : Fl w w.heap.size a0 len0 cap0 z0) (e1 : o1.n.length ≤ maxLen) (e2 : o2.n.length ≤ maxLen) (r0 : cap0 * 24 ≤ 140737488351232) :
    Calls Try.prog 6 #[.slice a0 len0 cap0, eval_ o1, eval_ o2] w fun e w' => e = .returned (.bool true) ∧ Below w.heap.size w w' := by
  have CON := con
  have H := Lib.hid w0.rd
  have HWF := Lib.hid w0.wf
  have HL := Lib.hid w0.rd.len
  have HLE := w0.rd.le
  have HN := w0.rd.small
  obtain ⟨wb, hwb⟩ : ∃ wb, (w.alloc (.cells #[.string (str o1.n), .int .i64 o1.i] 24)).alloc (.cells #[.string (str o2.n), .int .i64 o2.i] 24) = wb := ⟨_, rfl⟩
  have bx : Below w.heap.size w wb := by rw [← hwb]; exact two_blocks w _ _
  have g1 : Whole wb w.heap.size 24 #[.string (str o1.n), .int .i64 o1.i] := by rw [← hwb]; exact (Whole.new w 24 _).alloc _
  have g2 : Whole wb (w.heap.size + 1) 24 #[.string (str o2.n), .int .i64 o2.i] := by
    rw [← hwb]
    have := Whole.new (w.alloc (.cells #[.string (str o1.n), .int .i64 o1.i] 24)) 24 #[.string (str o2.n), .int .i64 o2.i]
    rwa [World.size_alloc] at this
  have HB : Hid (∀ x : World, Below wb.heap.size wb x → (x.cell? ⟨w.heap.size, 0, none⟩ = some (.string (str o1.n)) ∧ x.cell? ⟨w.heap.size, 1, none⟩ = some (.int .i64 o1.i)) ∧ (x.cell? ⟨w.heap.size + 1, 0, none⟩ = some (.string (str o2.n)) ∧ x.cell? ⟨w.heap.size + 1, 1, none⟩ = some (.int .i64 o2.i)) ∧ Ens x w.heap.size a0 len0 cap0 z0 ∧ w.heap.size ≤ x.heap.size ∧ Below w.heap.size w x) := Lib.hid fun x b =>
    ⟨⟨by rw [Whole.cell (whole_below2 g1 b)]; rfl, by rw [Whole.cell (whole_below2 g1 b)]; rfl⟩, ⟨by rw [Whole.cell (whole_below2 g2 b)]; rfl, by rw [Whole.cell (whole_below2 g2 b)]; rfl⟩, Words.Rd.below H.out (bx.trans (b.mono bx.size)) (Nat.le_refl _), Nat.le_trans bx.size b.size, bx.trans (b.mono bx.size)⟩
  have HA := Lib.hid (alive21 CON wb)
  have F1 := fun (x : World) (b : Below wb.heap.size wb x) => CON.add w.heap.size a0 len0 cap0 z0 o1 x (HB.out x b).2.2.1 HWF.out e1 (by omega) (HB.out x b).2.2.2.1
  have F2 := fun (x : World) (A : Option Addr) (n c : Nat) (h : Ens x x.heap.size A n c (al z0 o1)) (hn : n ≤ len0 + 1) => CON.add x.heap.size A n c (al z0 o1) o2 x h (wf_al HWF.out e1) e2 (by omega) (Nat.le_refl _)
  have F3 := fun (x : World) (b : Below wb.heap.size wb x) => CON.add w.heap.size a0 len0 cap0 z0 o2 x (HB.out x b).2.2.1 HWF.out e2 (by omega) (HB.out x b).2.2.2.1
  have F4 := fun (x : World) (A : Option Addr) (n c : Nat) (h : Ens x x.heap.size A n c (al z0 o2)) (hn : n ≤ len0 + 1) => CON.add x.heap.size A n c (al z0 o2) o1 x h (wf_al HWF.out e2) e1 (by omega) (Nat.le_refl _)
  have LM := Lib.hid (fun (o : En) => al_le z0 o)
  have OR := Lib.hid (fun h1 h2 => add_order (l := z0) (a := o1) (b := o2) h1 h2)
  unfold Lst at F1 F2 F3 F4
  have B0 := Lib.hid (Below.refl wb.heap.size wb)
  have L1 := Lib.hid (LM.out o1)
  have L2 := Lib.hid (LM.out o2)
  obtain ⟨n1, i1⟩ := o1
  obtain ⟨n2, i2⟩ := o2
  unfold eval_ at F1 F2 F3 F4 ⊢
  simp only at hwb F1 F2 F3 F4 e1 e2
  try simp only at L1 L2 HB
  have F1 := Lib.hid F1
  have F2 := Lib.hid F2
  have F3 := Lib.hid F3
  have F4 := Lib.hid F4
  clear w0 bx g1 g2 LM
  go_enter Try.func6, Try.ntmps6
  go_wp2_with fail
  refine (HA.out).mono ?_; rintro e w2 ⟨rfl, b2⟩
  have B2 := Lib.hid b2
  have G1 := Lib.hid (F1.out w2 b2)
  obtain ⟨⟨q0, q1⟩, _, _, _, _⟩ := HB.out w2 b2
  clear b2
  go_wp2_with fail
  refine (G1.out).mono ?_; rintro e w3 ⟨A3, n3, c3, rfl, l3, o3, b3⟩
  have B3 := Lib.hid (B2.out.trans (b3.mono B2.out.size))
  have G2 := Lib.hid (F2.out w3 A3 n3 c3 o3.gps (by rw [← l3, ← HL.out]; exact L1.out))
  obtain ⟨_, ⟨p0, p1⟩, _, _, _⟩ := HB.out w3 B3.out
  clear q0 q1 l3 b3 o3
  go_wp2_with fail
  refine (G2.out).mono ?_; rintro e w4 ⟨A4, n4, c4, rfl, l4, o4, b4⟩
  have B4 := Lib.hid (B3.out.trans (b4.mono B3.out.size))
  have O4 := Lib.hid o4
  have L4 := Lib.hid l4
  have G3 := Lib.hid (F3.out w4 B4.out)
  obtain ⟨_, ⟨q0, q1⟩, _, _, _⟩ := HB.out w4 B4.out
  clear p0 p1 l4 b4 o4
  go_wp2_with fail
  refine (G3.out).mono ?_; rintro e w5 ⟨A5, n5, c5, rfl, l5, o5, b5⟩
  have B5 := Lib.hid (B4.out.trans (b5.mono B4.out.size))
  have O5 := Lib.hid (O4.out.below b5 (Nat.le_refl _))
  have G4 := Lib.hid (F4.out w5 A5 n5 c5 o5.gps (by rw [← l5, ← HL.out]; exact L2.out))
  obtain ⟨⟨p0, p1⟩, _, _, _, _⟩ := HB.out w5 B5.out
  clear q0 q1 l5 b5 o5
  go_wp2_with fail
  refine (G4.out).mono ?_; rintro e w6 ⟨A6, n6, c6, rfl, l6, o6, b6⟩
  have B6 := Lib.hid (B5.out.trans (b6.mono B5.out.size))
  have O6 := Lib.hid (O5.out.below b6 (Nat.le_refl _))
  have R6 := Lib.hid o6
  have BF := Lib.hid ((HB.out w6 B6.out).2.2.2.2)
  clear p0 p1 b6 o6
  by_cases h1 : ae z0 ⟨n1, i1⟩ = 0
  · by_cases h2 : ae (al z0 ⟨n1, i1⟩) ⟨n2, i2⟩ = 0
    · obtain ⟨h3, h4, h5⟩ := OR.out h1 h2
      rw [h1, h2, h3, h4]
      have hn : n6 = n4 := by rw [← l6, ← L4.out, h5]
      have EQ := Lib.hid (equal17_yes _ _ A4 A6 n4 n6 c4 c6 _ _ w6 O6.out.gps R6.out.gps h5)
      clear h1 h2 h3 h4 h5 hn l6
      go_wp2_with fail
      refine (EQ.out).mono ?_; rintro e w7 ⟨rfl, L7⟩
      have B7 := Lib.hid (BF.out.trans (L7.below.mono BF.out.size))
      clear L7
      go_wp2_with fail
      go_ret
      exact ⟨rfl, B7.out⟩
    · generalize ae (al z0 ⟨n1, i1⟩) ⟨n2, i2⟩ = x2 at *
      have t2 : (x2 != 0) = true := by rw [bne_iff_ne]; exact h2
      rw [h1]
      clear h1 h2 l6
      go_wp2_with fail
      go_ret
      exact ⟨rfl, BF.out⟩
  · generalize ae z0 ⟨n1, i1⟩ = x1 at *
    have t1 : (x1 != 0) = true := by rw [bne_iff_ne]; exact h1
    clear h1 l6
    go_wp2_with fail
    go_ret
    exact ⟨rfl, BF.out⟩

set_option maxRecDepth 100000 in
theorem contract (H : Type) (enc : TypeId × Value → H) (W : World) (base : Nat) (args : Array Value) (ds gs : List (DataW H)) (before : List MemPlace)
    (hval : ∀ (j : Nat) t v, Try.f6.params[j]? = some t → args[j]? = some v → Value.okWide Try.prog W .any base t v)
    (hW : DataW.Whole enc Try.prog Try.f6.params.toList Rows.dirOrderSpec.vars false W args.toList ds gs before) (hsz : (DataW.weightsEach Try.prog (Try.f6.params.toList ++ Rows.dirOrderSpec.plain.varTypes Try.prog) (ds ++ gs)).all (· ≤ reachBytes) = true) :
    Calls Try.prog 6 args W fun e W' => ∃ v, e = .returned v ∧ Rows.dirOrderSpec.post enc Try.prog Try.f6 false true false false W args v W' := by
  have hW' := hW
  obtain ⟨p, q, hA0, hV, rfl, hfz, hnd⟩ := hW
  have hA : DataW.TrodAll enc Try.prog W 0 (fun _ => true) true Try.f6.params.toList args.toList ds p := hA0
  rw [Try.params6] at hA hval hsz
  obtain ⟨v0, vs0, d0, ds0, p0, q0, hargs, rfl, rfl, h0, rr0⟩ := trodAll_cons hA
  obtain ⟨v1, vs1, d1, ds1, p1, q1, rfl, rfl, rfl, h1, rr1⟩ := trodAll_cons rr0
  obtain ⟨v2, vs2, d2, ds2, p2, q2, rfl, rfl, rfl, h2, rr2⟩ := trodAll_cons rr1
  obtain ⟨rfl, rfl, rfl⟩ := trodAll_nil rr2
  obtain rfl : args = #[v0, v1, v2] := by cases args; simp_all
  obtain ⟨rfl, rfl⟩ := trodVars_none hV
  obtain ⟨a0, len0, cap0, rfl⟩ := okWide_slice Try.underlying22 (hval 0 22 v0 rfl rfl)
  have k0 := h0
  have lt0 : ∀ x ∈ p0, x.block < W.heap.size := by obtain ⟨m, hm⟩ := k0; exact DataW.trod_lt m _ _ _ hm
  obtain ⟨⟨z0, w0⟩, u0⟩ := open_fl h0
  have r0 := reach_fl hsz (j := 0) rfl rfl u0
  have k1 := h1
  have lt1 : ∀ x ∈ p1, x.block < W.heap.size := by obtain ⟨m, hm⟩ := k1; exact DataW.trod_lt m _ _ _ hm
  obtain ⟨o1, e1, rfl⟩ := open_en (hval 1 24 v1 rfl rfl) h1
  have k2 := h2
  have lt2 : ∀ x ∈ p2, x.block < W.heap.size := by obtain ⟨m, hm⟩ := k2; exact DataW.trod_lt m _ _ _ hm
  obtain ⟨o2, e2, rfl⟩ := open_en (hval 2 24 v2 rfl rfl) h2
  clear hA0
  refine (walk a0 len0 cap0 z0 o1 o2 W w0 e1 e2 r0).mono fun e W' ⟨he, bel⟩ => ?_
  subst he
  exact ⟨_, rfl, _, _, _, [], _, [], hW', trodAll_mk1 (shut_bool Try.underlying4 _), (trodAll_cons_mk (Below.trod laidOut (by kernel_rfl) (of_decide_eq_true (by kernel_rfl)) k0 bel lt0) (trodAll_cons_mk (Below.trod laidOut (by kernel_rfl) (of_decide_eq_true (by kernel_rfl)) k1 bel lt1) (trodAll_cons_mk (Below.trod laidOut (by kernel_rfl) (of_decide_eq_true (by kernel_rfl)) k2 bel lt2) trodAll_mk0))), rfl, bel.frame _, fun h => by cases h⟩

set_option maxRecDepth 100000 in
theorem lifted (os : Os) (started : os.Started) (H : Type) (enc : TypeId × Value → H) :
    ReturnsInHanded {} Try.checked os 6 .any (Rows.dirOrderSpec.pre6 enc Try.prog Try.f6 Rows.dirOrderRow.domain false) (Rows.dirOrderSpec.post enc Try.prog Try.f6 false true false false) := by
  refine returnsInHanded_of_change_sized (C := Try.checked) own started (by kernel_rfl) Try.func6
    (ChangeSpec.witness6 (enc := enc) (C := Try.checked) false ⟨#[], #[.slice none 0 0, .agg #[.string ⟨#[]⟩, .int .i64 0], .agg #[.string ⟨#[]⟩, .int .i64 0]], []⟩ 8 (by kernel_rfl) (by kernel_rfl) (by kernel_rfl) (by kernel_rfl)) ?_
  intro W base args ds gs before hval hW _ hsz _
  exact contract H enc W base args ds gs before hval hW hsz

theorem over : Rows.dirOrderRow.holds Try.pinned (OpenSpec.ofChange Rows.dirOrderSpec) :=
  OpenClaim.holds_of_wide 6 Try.f6 rfl rfl rfl rfl rfl rfl rfl ⟨rfl, rfl, rfl, rfl, rfl⟩ rfl rfl rfl rfl rfl (by kernel_rfl) Try.func6 (by kernel_rfl)
    (of_decide_eq_true (by kernel_rfl)) (by unfold Func.isWrapper; first | (rw [if_pos (by decide +kernel)]; kernel_rfl) | (rw [if_neg (by decide +kernel)]; exact ⟨rfl, rfl⟩))
    (fun os started H enc _ => lifted os started H enc)

/-- ████ THE STATEMENT ████ -/
theorem proved : Rows.DirOrderSaid := over
#print axioms proved
end Go.Proofs.Ytiagbacmjiimpaa.dirOrder
