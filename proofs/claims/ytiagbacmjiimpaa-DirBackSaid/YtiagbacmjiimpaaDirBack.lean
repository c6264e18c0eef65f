/-
  DirBack, at every list of entries, every entry and every other name: what is added is found, nothing else changes, and removed again it is as it was.
-/
import Derived.Test.YtiagbacmjiimpaaRows
import Derived.Test.YtiagbacmjiimpaaEFrame
import Derived.Test.YtiagbacmjiimpaaEFacts
import Derived.Test.YtiagbacmjiimpaaPLast
import Derived.WalkKit
import Derived.ProofKit
import Derived.OpenShut
import Derived.ShutString
import Derived.ChangeOld
import Derived.Below
import Derived.SizedLaws
import Derived.RegionTactic
import Derived.Deep.RegionWith
import Derived.Deep.CutBlock
import Derived.ChangeAlike
namespace Go.Proofs.Ytiagbacmjiimpaa.dirBack
open Go.ChangeShapes Go.WideShapes Go.ChangeAt Go.RowKit Words Go.Proofs.Ytiagbacmjiimpaa.Dir
open Go.ChangeMaps (open_string shut_string)
set_option linter.unusedVariables false

theorem own : ownKnob Try.prog.godebug = none := by kernel_rfl
theorem laidOut : laidOutB Try.prog = true := by kernel_rfl

set_option maxRecDepth 100000 in
set_option maxHeartbeats 8000000 in
/-- The walk: the Go text returns true and writes nothing that was there. -/
theorem walk (a0 : Option Addr) (len0 cap0 : Nat) (z0 : List En) (o1 : En) (t2 : List UInt8) (w : World) (w0 : Fl w w.heap.size a0 len0 cap0 z0) (e1 : o1.n.length ≤ maxLen) (e2 : t2.length ≤ maxLen) (r0 : cap0 * 24 ≤ 140737488351232) :
    Calls Try.prog 5 #[.slice a0 len0 cap0, eval_ o1, .string (str t2)] w fun e w' => e = .returned (.bool true) ∧ Below w.heap.size w w' := by
  have CON := con
  have H := Lib.hid w0.rd
  have HWF := Lib.hid w0.wf
  have HL := Lib.hid w0.rd.len
  have HLE := w0.rd.le
  have HN := w0.rd.small
  obtain ⟨wb, hwb⟩ : ∃ wb, w.alloc (.cells #[.string (str o1.n), .int .i64 o1.i] 24) = wb := ⟨_, rfl⟩
  have bx : Below w.heap.size w wb := by rw [← hwb]; exact boxed w _
  have g1 : Whole wb w.heap.size 24 #[.string (str o1.n), .int .i64 o1.i] := by rw [← hwb]; exact Whole.new w 24 _
  have HB : Hid (∀ x : World, Below wb.heap.size wb x → (x.cell? ⟨w.heap.size, 0, none⟩ = some (.string (str o1.n)) ∧ x.cell? ⟨w.heap.size, 1, none⟩ = some (.int .i64 o1.i)) ∧ Ens x w.heap.size a0 len0 cap0 z0 ∧ w.heap.size ≤ x.heap.size ∧ Below w.heap.size w x) := Lib.hid fun x b =>
    ⟨⟨by rw [Whole.cell (whole_below2 g1 b)]; rfl, by rw [Whole.cell (whole_below2 g1 b)]; rfl⟩, Words.Rd.below H.out (bx.trans (b.mono bx.size)) (Nat.le_refl _), Nat.le_trans bx.size b.size, bx.trans (b.mono bx.size)⟩
  have HA := Lib.hid (alive21 CON wb)
  have HWM := Lib.hid (wf_al HWF.out e1)
  have HLM := al_le z0 o1
  rw [HL.out] at HLM
  have HLM := Lib.hid HLM
  have F1 := fun (x : World) (b : Below wb.heap.size wb x) => CON.add w.heap.size a0 len0 cap0 z0 o1 x (HB.out x b).2.1 HWF.out e1 (by omega) (HB.out x b).2.2.1
  have F2 := fun (x : World) (A : Option Addr) (n c : Nat) (h : Ens x x.heap.size A n c (al z0 o1)) => CON.find x.heap.size A n c (al z0 o1) o1.n x h HWM.out e1 (Nat.le_refl _)
  have F3 := fun (x : World) (b : Below wb.heap.size wb x) => CON.find w.heap.size a0 len0 cap0 z0 t2 x (HB.out x b).2.1 HWF.out e2 (HB.out x b).2.2.1
  have F4 := fun (x : World) (A : Option Addr) (n c : Nat) (h : Ens x x.heap.size A n c (al z0 o1)) => CON.find x.heap.size A n c (al z0 o1) t2 x h HWM.out e2 (Nat.le_refl _)
  have F5 := fun (x : World) (A : Option Addr) (n c : Nat) (h : Ens x x.heap.size A n c (al z0 o1)) (hn : n ≤ len0 + 1) => CON.rem x.heap.size A n c (al z0 o1) o1.n x h HWM.out e1 (by omega) (Nat.le_refl _)
  have F6 := fun (x : World) (A : Option Addr) (n c : Nat) (h : Ens x x.heap.size A n c (al z0 o1)) => CON.right x.heap.size A n c (al z0 o1) x h HWM.out (Nat.le_refl _)
  have RF := Lib.hid (fun h => add_back (l := z0) (e := o1) h t2)
  have NO := Lib.hid (fun h => al_no (l := z0) (e := o1) h)
  have s1 := str_list o1.n
  have s2 := str_list t2
  have SB : (t2 == o1.n) = decide (t2 = o1.n) := list_beq
  unfold Lst at F1 F5
  obtain ⟨nn, ii⟩ := o1
  unfold eval_ at F1 ⊢
  simp only at hwb F1 F2 F5 e1 s1 SB
  have F1 := Lib.hid F1
  clear w0 HWM bx g1
  go_enter Try.func5, Try.ntmps5
  have F2 := Lib.hid F2
  have F3 := Lib.hid F3
  have F4 := Lib.hid F4
  have F5 := Lib.hid F5
  have F6 := Lib.hid F6
  go_wp2_with fail
  refine (HA.out).mono ?_; rintro e w2 ⟨rfl, b2⟩
  have B2 := Lib.hid b2
  have G1 := Lib.hid (F1.out w2 b2)
  obtain ⟨⟨q0, q1⟩, _, _, _⟩ := HB.out w2 b2
  clear b2
  go_wp2_with fail
  refine (G1.out).mono ?_; rintro e w3 ⟨A3, n3, c3, rfl, l3, o3, b3⟩
  have B3 := Lib.hid (B2.out.trans (b3.mono B2.out.size))
  have O3 := Lib.hid o3
  have L3 := Lib.hid l3
  have NL := Lib.hid (show n3 ≤ len0 + 1 by rw [← l3]; exact HLM.out)
  obtain ⟨⟨p0, p1⟩, _, _, _⟩ := HB.out w3 B3.out
  clear b3 o3 l3 q0 q1
  by_cases h1 : ae z0 ⟨nn, ii⟩ = 0
  · obtain ⟨k1, k2, k3, k4, k5, k6⟩ := RF.out h1
    have F2 := F2.out
    have F3 := F3.out
    have F4 := F4.out
    have F5 := F5.out
    have F6 := F6.out
    rw [k1, k2] at F2
    rw [k4, k5] at F5
    rw [k6] at F6
    have F2 := Lib.hid F2
    have F5 := Lib.hid F5
    have F6 := Lib.hid F6
    have K3 := Lib.hid k3
    rw [h1]
    generalize fv z0 t2 = v1 at *
    generalize fe z0 t2 = x1 at *
    generalize fv (al z0 ⟨nn, ii⟩) t2 = v2 at *
    generalize fe (al z0 ⟨nn, ii⟩) t2 = x2 at *
    generalize al z0 ⟨nn, ii⟩ = M at *
    have F3 := Lib.hid F3
    have F4 := Lib.hid F4
    clear h1 k1 k2 k3 k4 k5 k6 RF NO F1 HLM
    have G2 := Lib.hid (F2.out w3 A3 n3 c3 O3.out.gps)
    go_wp2_with fail
    refine (G2.out).mono ?_; rintro e w4 ⟨rfl, b4⟩
    have B4 := Lib.hid (B3.out.trans (b4.mono B3.out.size))
    have O4 := Lib.hid (O3.out.below b4 (Nat.le_refl _))
    have G3 := Lib.hid (F3.out w4 B4.out)
    clear b4 p0 p1
    go_wp2_with fail
    refine (G3.out).mono ?_; rintro e w5 ⟨rfl, b5⟩
    have B5 := Lib.hid (B4.out.trans (b5.mono B4.out.size))
    have O5 := Lib.hid (O4.out.below b5 (Nat.le_refl _))
    have G4 := Lib.hid (F4.out w5 A3 n3 c3 O5.out.gps)
    clear b5
    go_wp2_with fail
    refine (G4.out).mono ?_; rintro e w6 ⟨rfl, b6⟩
    have B6 := Lib.hid (B5.out.trans (b6.mono B5.out.size))
    have O6 := Lib.hid (O5.out.below b6 (Nat.le_refl _))
    have G5 := Lib.hid (F5.out w6 A3 n3 c3 O6.out.gps NL.out)
    obtain ⟨⟨p0, p1⟩, _, _, _⟩ := HB.out w6 B6.out
    clear b6
    go_wp2_with fail
    refine (G5.out).mono ?_; rintro e w7 ⟨A7, n7, c7, rfl, l7, o7, b7⟩
    have B7 := Lib.hid (B6.out.trans (b7.mono B6.out.size))
    have O7 := Lib.hid (O6.out.below b7 (Nat.le_refl _))
    have R7 := Lib.hid o7
    obtain ⟨⟨q0, q1⟩, r7, _, _⟩ := HB.out w7 B7.out
    have EQ := Lib.hid (equal17_yes _ _ A7 a0 n7 len0 c7 cap0 z0 z0 w7 R7.out.gps r7 rfl)
    clear b7 o7 l7 r7 p0 p1
    have fin : ∀ w8, Below w7.heap.size w7 w8 → Calls Try.prog 14 #[.slice A3 n3 c3] w8 fun e w' => e = .returned (.bool true) ∧ Below w8.heap.size w8 w' := fun w8 L8 => F6.out w8 A3 n3 c3 (O7.out.below L8 (Nat.le_refl _)).gps
    have FIN := Lib.hid fin
    clear fin
    by_cases ho : t2 = nn
    · have hb : decide (t2 = nn) = true := decide_eq_true ho
      rw [hb] at SB
      clear ho hb
      go_wp2_with fail
      refine (EQ.out).mono ?_; rintro e w8 ⟨rfl, L8⟩
      have B8 := Lib.hid (B7.out.trans (L8.below.mono B7.out.size))
      have G6 := Lib.hid (FIN.out w8 L8.below)
      clear L8
      go_wp2_with fail
      refine (G6.out).mono ?_; rintro e w9 ⟨rfl, b9⟩
      have BF := Lib.hid ((HB.out w9 (B8.out.trans (b9.mono B8.out.size))).2.2.2)
      clear b9
      go_wp2_with fail
      go_ret
      exact ⟨rfl, BF.out⟩
    · have hb : decide (t2 = nn) = false := decide_eq_false ho
      obtain ⟨j1, j2⟩ := K3.out ho
      rw [hb] at SB
      have j1b : (x1 == x2) = true := by rw [beq_iff_eq]; exact j1
      have j2b : (v1 == v2) = true := by rw [beq_iff_eq]; exact j2
      clear ho hb j1 j2 K3
      go_wp2_with fail
      refine (EQ.out).mono ?_; rintro e w8 ⟨rfl, L8⟩
      have B8 := Lib.hid (B7.out.trans (L8.below.mono B7.out.size))
      have G6 := Lib.hid (FIN.out w8 L8.below)
      clear L8
      go_wp2_with fail
      refine (G6.out).mono ?_; rintro e w9 ⟨rfl, b9⟩
      have BF := Lib.hid ((HB.out w9 (B8.out.trans (b9.mono B8.out.size))).2.2.2)
      clear b9
      go_wp2_with fail
      go_ret
      exact ⟨rfl, BF.out⟩
  · have hb : (ae z0 ⟨nn, ii⟩ != 0) = true := by rw [bne_iff_ne]; exact h1
    have K := NO.out h1
    have BF := Lib.hid ((HB.out w3 B3.out).2.2.2)
    rw [K] at L3
    generalize ae z0 ⟨nn, ii⟩ = x1 at *
    clear h1 K RF NO F1 F2 F3 F4 F5 F6
    obtain rfl : n3 = 0 := L3.out.symm
    go_wp2_with fail
    go_ret
    exact ⟨rfl, BF.out⟩

set_option maxRecDepth 100000 in
theorem contract (H : Type) (enc : TypeId × Value → H) (W : World) (base : Nat) (args : Array Value) (ds gs : List (DataW H)) (before : List MemPlace)
    (hval : ∀ (j : Nat) t v, Try.f5.params[j]? = some t → args[j]? = some v → Value.okWide Try.prog W .any base t v)
    (hW : DataW.Whole enc Try.prog Try.f5.params.toList Rows.dirBackSpec.vars false W args.toList ds gs before) (hsz : (DataW.weightsEach Try.prog (Try.f5.params.toList ++ Rows.dirBackSpec.plain.varTypes Try.prog) (ds ++ gs)).all (· ≤ reachBytes) = true) :
    Calls Try.prog 5 args W fun e W' => ∃ v, e = .returned v ∧ Rows.dirBackSpec.post enc Try.prog Try.f5 false true false false W args v W' := by
  have hW' := hW
  obtain ⟨p, q, hA0, hV, rfl, hfz, hnd⟩ := hW
  have hA : DataW.TrodAll enc Try.prog W 0 (fun _ => true) true Try.f5.params.toList args.toList ds p := hA0
  rw [Try.params5] at hA hval hsz
  obtain ⟨v0, vs0, d0, ds0, p0, q0, hargs, rfl, rfl, h0, rr0⟩ := trodAll_cons hA
  obtain ⟨v1, vs1, d1, ds1, p1, q1, rfl, rfl, rfl, h1, rr1⟩ := trodAll_cons rr0
  obtain ⟨v2, vs2, d2, ds2, p2, q2, rfl, rfl, rfl, h2, rr2⟩ := trodAll_cons rr1
  obtain ⟨rfl, rfl, rfl⟩ := trodAll_nil rr2
  obtain rfl : args = #[v0, v1, v2] := by cases args; simp_all
  obtain ⟨rfl, rfl⟩ := trodVars_none hV
  obtain ⟨a0, len0, cap0, rfl⟩ := okWide_slice Try.underlying22 (hval 0 22 v0 rfl rfl)
  have k0 := h0
  have lt0 : ∀ x ∈ p0, x.block < W.heap.size := by obtain ⟨m, hm⟩ := k0; exact DataW.trod_lt m _ _ _ hm
  obtain ⟨⟨z0, w0⟩, u0⟩ := open_fl h0
  have r0 := reach_fl hsz (j := 0) rfl rfl u0
  have k1 := h1
  have lt1 : ∀ x ∈ p1, x.block < W.heap.size := by obtain ⟨m, hm⟩ := k1; exact DataW.trod_lt m _ _ _ hm
  obtain ⟨o1, e1, rfl⟩ := open_en (hval 1 24 v1 rfl rfl) h1
  have k2 := h2
  have lt2 : ∀ x ∈ p2, x.block < W.heap.size := by obtain ⟨m, hm⟩ := k2; exact DataW.trod_lt m _ _ _ hm
  obtain ⟨t2, e2, rfl⟩ := open_str (hval 2 9 v2 rfl rfl) h2
  clear hA0
  refine (walk a0 len0 cap0 z0 o1 t2 W w0 e1 e2 r0).mono fun e W' ⟨he, bel⟩ => ?_
  subst he
  exact ⟨_, rfl, _, _, _, [], _, [], hW', trodAll_mk1 (shut_bool Try.underlying4 _), (trodAll_cons_mk (Below.trod laidOut (by kernel_rfl) (of_decide_eq_true (by kernel_rfl)) k0 bel lt0) (trodAll_cons_mk (Below.trod laidOut (by kernel_rfl) (of_decide_eq_true (by kernel_rfl)) k1 bel lt1) (trodAll_cons_mk (Below.trod laidOut (by kernel_rfl) (of_decide_eq_true (by kernel_rfl)) k2 bel lt2) trodAll_mk0))), rfl, bel.frame _, fun h => by cases h⟩

set_option maxRecDepth 100000 in
theorem lifted (os : Os) (started : os.Started) (H : Type) (enc : TypeId × Value → H) :
    ReturnsInHanded {} Try.checked os 5 .any (Rows.dirBackSpec.pre6 enc Try.prog Try.f5 Rows.dirBackRow.domain false) (Rows.dirBackSpec.post enc Try.prog Try.f5 false true false false) := by
  refine returnsInHanded_of_change_sized (C := Try.checked) own started (by kernel_rfl) Try.func5
    (ChangeSpec.witness6 (enc := enc) (C := Try.checked) false ⟨#[], #[.slice none 0 0, .agg #[.string ⟨#[]⟩, .int .i64 0], .string ⟨#[]⟩], []⟩ 8 (by kernel_rfl) (by kernel_rfl) (by kernel_rfl) (by kernel_rfl)) ?_
  intro W base args ds gs before hval hW _ hsz _
  exact contract H enc W base args ds gs before hval hW hsz

theorem over : Rows.dirBackRow.holds Try.pinned (OpenSpec.ofChange Rows.dirBackSpec) :=
  OpenClaim.holds_of_wide 5 Try.f5 rfl rfl rfl rfl rfl rfl rfl ⟨rfl, rfl, rfl, rfl, rfl⟩ rfl rfl rfl rfl rfl (by kernel_rfl) Try.func5 (by kernel_rfl)
    (of_decide_eq_true (by kernel_rfl)) (by unfold Func.isWrapper; first | (rw [if_pos (by decide +kernel)]; kernel_rfl) | (rw [if_neg (by decide +kernel)]; exact ⟨rfl, rfl⟩))
    (fun os started H enc _ => lifted os started H enc)

/-- ████ THE STATEMENT ████ -/
theorem proved : Rows.DirBackSaid := over
#print axioms proved
end Go.Proofs.Ytiagbacmjiimpaa.dirBack
