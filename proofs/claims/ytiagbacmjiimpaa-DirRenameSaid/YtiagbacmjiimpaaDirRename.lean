/-
  DirRename, at every list of entries and every two names: renamed there and back it is as it was, and whose it is stays.
-/
import Derived.Test.YtiagbacmjiimpaaRows
import Derived.Test.YtiagbacmjiimpaaEFrame
import Derived.Test.YtiagbacmjiimpaaEFacts
import Derived.Test.YtiagbacmjiimpaaPLast
import Derived.WalkKit
import Derived.ProofKit
import Derived.OpenShut
import Derived.ShutString
import Derived.ChangeOld
import Derived.Below
import Derived.SizedLaws
import Derived.RegionTactic
import Derived.Deep.RegionWith
import Derived.Deep.CutBlock
import Derived.ChangeAlike
namespace Go.Proofs.Ytiagbacmjiimpaa.dirRename
open Go.ChangeShapes Go.WideShapes Go.ChangeAt Go.RowKit Words Go.Proofs.Ytiagbacmjiimpaa.Dir
open Go.ChangeMaps (open_string shut_string)
set_option linter.unusedVariables false

theorem own : ownKnob Try.prog.godebug = none := by kernel_rfl
theorem laidOut : laidOutB Try.prog = true := by kernel_rfl

set_option maxRecDepth 100000 in
set_option maxHeartbeats 8000000 in
/-- The walk: the Go text returns true and writes nothing that was there. -/
theorem walk (a0 : Option Addr) (len0 cap0 : Nat) (z0 : List En) (t1 : List UInt8) (t2 : List UInt8) (w : World) (w0 : Fl w w.heap.size a0 len0 cap0 z0) (e1 : t1.length ≤ maxLen) (e2 : t2.length ≤ maxLen) (r0 : cap0 * 24 ≤ 140737488351232) :
    Calls Try.prog 7 #[.slice a0 len0 cap0, .string (str t1), .string (str t2)] w fun e w' => e = .returned (.bool true) ∧ Below w.heap.size w w' := by
  have CON := con
  have H := Lib.hid w0.rd
  have HWF := Lib.hid w0.wf
  have HL := Lib.hid w0.rd.len
  have HLE := w0.rd.le
  have HN := w0.rd.small
  have HB : Hid (∀ x : World, Below w.heap.size w x → Ens x w.heap.size a0 len0 cap0 z0) := Lib.hid fun x b => Words.Rd.below H.out b (Nat.le_refl _)
  have HA := Lib.hid (alive21 CON w)
  have HWM := Lib.hid (wf_nl (l := z0) (f := t1) (t := t2) HWF.out e2)
  have HLM := nl_le z0 t1 t2
  rw [HL.out] at HLM
  have HLM := Lib.hid HLM
  have F1 := fun (x : World) (b : Below w.heap.size w x) => CON.ren w.heap.size a0 len0 cap0 z0 t1 t2 x (HB.out x b) HWF.out e1 e2 (by omega) b.size
  have F2 := fun (x : World) (b : Below w.heap.size w x) => CON.find w.heap.size a0 len0 cap0 z0 t1 x (HB.out x b) HWF.out e1 b.size
  have F3 := fun (x : World) (A : Option Addr) (n c : Nat) (h : Ens x x.heap.size A n c (nl z0 t1 t2)) => CON.find x.heap.size A n c (nl z0 t1 t2) t2 x h HWM.out e2 (Nat.le_refl _)
  have F4 := fun (x : World) (A : Option Addr) (n c : Nat) (h : Ens x x.heap.size A n c (nl z0 t1 t2)) (hn : n ≤ len0) => CON.ren x.heap.size A n c (nl z0 t1 t2) t2 t1 x h HWM.out e2 e1 (by omega) (Nat.le_refl _)
  have F5 := fun (x : World) (A : Option Addr) (n c : Nat) (h : Ens x x.heap.size A n c (nl z0 t1 t2)) => CON.find x.heap.size A n c (nl z0 t1 t2) t1 x h HWM.out e1 (Nat.le_refl _)
  have RF := Lib.hid (fun h => ren_facts (l := z0) (f := t1) (t := t2) h)
  have NO := Lib.hid (fun h => nl_no (l := z0) (f := t1) (t := t2) h)
  have s1 := str_list t1
  have s2 := str_list t2
  have SB : (t1 == t2) = decide (t1 = t2) := list_beq
  unfold Lst at F1 F4
  have F1 := Lib.hid F1
  have F2 := Lib.hid F2
  have F3 := Lib.hid F3
  have F4 := Lib.hid F4
  have F5 := Lib.hid F5
  clear w0 HWM
  go_enter Try.func7, Try.ntmps7
  go_wp2_with fail
  refine (HA.out).mono ?_; rintro e w2 ⟨rfl, b2⟩
  have B2 := Lib.hid b2
  have G1 := Lib.hid (F1.out w2 b2)
  clear b2
  go_wp2_with fail
  refine (G1.out).mono ?_; rintro e w3 ⟨A3, n3, c3, rfl, l3, o3, b3⟩
  have B3 := Lib.hid (B2.out.trans (b3.mono B2.out.size))
  have O3 := Lib.hid o3
  have L3 := Lib.hid l3
  have NL := Lib.hid (show n3 ≤ len0 by rw [← l3]; exact HLM.out)
  clear b3 o3 l3
  by_cases h1 : ne z0 t1 t2 = 0
  · obtain ⟨k1, k2, k3, k4, k5, k6, k7⟩ := RF.out h1
    have h1b : (ne z0 t1 t2 != 0) = false := by rw [h1]; rfl
    obtain rfl : n3 = len0 := by rw [← L3.out, k7, HL.out]
    have F2 := F2.out
    have F3 := F3.out
    have F4 := F4.out
    have F5 := F5.out
    rw [k1] at F2
    rw [k2, ← k3] at F3
    rw [k4, k5] at F4
    have F2 := Lib.hid F2
    have F3 := Lib.hid F3
    have F4 := Lib.hid F4
    have F5 := Lib.hid F5
    rw [h1]
    generalize fv z0 t1 = v1 at *
    generalize fv (nl z0 t1 t2) t1 = v5 at *
    generalize fe (nl z0 t1 t2) t1 = x5 at *
    generalize nl z0 t1 t2 = M at *
    clear h1 h1b k1 k2 k3 k4 k5 k7 RF NO F1 HLM
    have G2 := Lib.hid (F2.out w3 B3.out)
    go_wp2_with fail
    refine (G2.out).mono ?_; rintro e w4 ⟨rfl, b4⟩
    have B4 := Lib.hid (B3.out.trans (b4.mono B3.out.size))
    have O4 := Lib.hid (O3.out.below b4 (Nat.le_refl _))
    have G3 := Lib.hid (F3.out w4 A3 n3 c3 O4.out.gps)
    clear b4
    go_wp2_with fail
    refine (G3.out).mono ?_; rintro e w5 ⟨rfl, b5⟩
    have B5 := Lib.hid (B4.out.trans (b5.mono B4.out.size))
    have O5 := Lib.hid (O4.out.below b5 (Nat.le_refl _))
    have G4 := Lib.hid (F4.out w5 A3 n3 c3 O5.out.gps NL.out)
    clear b5
    go_wp2_with fail
    refine (G4.out).mono ?_; rintro e w6 ⟨A6, n6, c6, rfl, l6, o6, b6⟩
    have B6 := Lib.hid (B5.out.trans (b6.mono B5.out.size))
    have O6 := Lib.hid (O5.out.below b6 (Nat.le_refl _))
    have R6 := Lib.hid o6
    have L6 := Lib.hid l6
    have G5 := Lib.hid (F5.out w6 A3 n3 c3 O6.out.gps)
    clear b6 o6 l6
    go_wp2_with fail
    refine (G5.out).mono ?_; rintro e w7 ⟨rfl, b7⟩
    have B7 := Lib.hid (B6.out.trans (b7.mono B6.out.size))
    have R7 := Lib.hid (R6.out.below b7 (Nat.le_refl _))
    have EQ := Lib.hid (equal17_yes _ _ A6 a0 n6 n3 c6 cap0 z0 z0 w7 R7.out.gps (HB.out w7 B7.out) rfl)
    clear b7
    go_wp2_with fail
    refine (EQ.out).mono ?_; rintro e w8 ⟨rfl, L8⟩
    have B8 := Lib.hid (B7.out.trans (L8.below.mono B7.out.size))
    clear L8
    have K6 : (decide (x5 = 3) == !decide (t1 = t2)) = true := by rw [k6, beq_self_eq_true]
    go_wp2_with fail
    go_ret
    exact ⟨rfl, B8.out⟩
  · have hb : (ne z0 t1 t2 != 0) = true := by rw [bne_iff_ne]; exact h1
    have K := NO.out h1
    rw [K] at L3
    generalize ne z0 t1 t2 = x1 at *
    clear h1 K RF NO F1 F2 F3 F4 F5
    obtain rfl : n3 = 0 := L3.out.symm
    go_wp2_with fail
    go_ret
    exact ⟨rfl, B3.out⟩

set_option maxRecDepth 100000 in
theorem contract (H : Type) (enc : TypeId × Value → H) (W : World) (base : Nat) (args : Array Value) (ds gs : List (DataW H)) (before : List MemPlace)
    (hval : ∀ (j : Nat) t v, Try.f7.params[j]? = some t → args[j]? = some v → Value.okWide Try.prog W .any base t v)
    (hW : DataW.Whole enc Try.prog Try.f7.params.toList Rows.dirRenameSpec.vars false W args.toList ds gs before) (hsz : (DataW.weightsEach Try.prog (Try.f7.params.toList ++ Rows.dirRenameSpec.plain.varTypes Try.prog) (ds ++ gs)).all (· ≤ reachBytes) = true) :
    Calls Try.prog 7 args W fun e W' => ∃ v, e = .returned v ∧ Rows.dirRenameSpec.post enc Try.prog Try.f7 false true false false W args v W' := by
  have hW' := hW
  obtain ⟨p, q, hA0, hV, rfl, hfz, hnd⟩ := hW
  have hA : DataW.TrodAll enc Try.prog W 0 (fun _ => true) true Try.f7.params.toList args.toList ds p := hA0
  rw [Try.params7] at hA hval hsz
  obtain ⟨v0, vs0, d0, ds0, p0, q0, hargs, rfl, rfl, h0, rr0⟩ := trodAll_cons hA
  obtain ⟨v1, vs1, d1, ds1, p1, q1, rfl, rfl, rfl, h1, rr1⟩ := trodAll_cons rr0
  obtain ⟨v2, vs2, d2, ds2, p2, q2, rfl, rfl, rfl, h2, rr2⟩ := trodAll_cons rr1
  obtain ⟨rfl, rfl, rfl⟩ := trodAll_nil rr2
  obtain rfl : args = #[v0, v1, v2] := by cases args; simp_all
  obtain ⟨rfl, rfl⟩ := trodVars_none hV
  obtain ⟨a0, len0, cap0, rfl⟩ := okWide_slice Try.underlying22 (hval 0 22 v0 rfl rfl)
  have k0 := h0
  have lt0 : ∀ x ∈ p0, x.block < W.heap.size := by obtain ⟨m, hm⟩ := k0; exact DataW.trod_lt m _ _ _ hm
  obtain ⟨⟨z0, w0⟩, u0⟩ := open_fl h0
  have r0 := reach_fl hsz (j := 0) rfl rfl u0
  have k1 := h1
  have lt1 : ∀ x ∈ p1, x.block < W.heap.size := by obtain ⟨m, hm⟩ := k1; exact DataW.trod_lt m _ _ _ hm
  obtain ⟨t1, e1, rfl⟩ := open_str (hval 1 9 v1 rfl rfl) h1
  have k2 := h2
  have lt2 : ∀ x ∈ p2, x.block < W.heap.size := by obtain ⟨m, hm⟩ := k2; exact DataW.trod_lt m _ _ _ hm
  obtain ⟨t2, e2, rfl⟩ := open_str (hval 2 9 v2 rfl rfl) h2
  clear hA0
  refine (walk a0 len0 cap0 z0 t1 t2 W w0 e1 e2 r0).mono fun e W' ⟨he, bel⟩ => ?_
  subst he
  exact ⟨_, rfl, _, _, _, [], _, [], hW', trodAll_mk1 (shut_bool Try.underlying4 _), (trodAll_cons_mk (Below.trod laidOut (by kernel_rfl) (of_decide_eq_true (by kernel_rfl)) k0 bel lt0) (trodAll_cons_mk (Below.trod laidOut (by kernel_rfl) (of_decide_eq_true (by kernel_rfl)) k1 bel lt1) (trodAll_cons_mk (Below.trod laidOut (by kernel_rfl) (of_decide_eq_true (by kernel_rfl)) k2 bel lt2) trodAll_mk0))), rfl, bel.frame _, fun h => by cases h⟩

set_option maxRecDepth 100000 in
theorem lifted (os : Os) (started : os.Started) (H : Type) (enc : TypeId × Value → H) :
    ReturnsInHanded {} Try.checked os 7 .any (Rows.dirRenameSpec.pre6 enc Try.prog Try.f7 Rows.dirRenameRow.domain false) (Rows.dirRenameSpec.post enc Try.prog Try.f7 false true false false) := by
  refine returnsInHanded_of_change_sized (C := Try.checked) own started (by kernel_rfl) Try.func7
    (ChangeSpec.witness6 (enc := enc) (C := Try.checked) false ⟨#[], #[.slice none 0 0, .string ⟨#[]⟩, .string ⟨#[]⟩], []⟩ 8 (by kernel_rfl) (by kernel_rfl) (by kernel_rfl) (by kernel_rfl)) ?_
  intro W base args ds gs before hval hW _ hsz _
  exact contract H enc W base args ds gs before hval hW hsz

theorem over : Rows.dirRenameRow.holds Try.pinned (OpenSpec.ofChange Rows.dirRenameSpec) :=
  OpenClaim.holds_of_wide 7 Try.f7 rfl rfl rfl rfl rfl rfl rfl ⟨rfl, rfl, rfl, rfl, rfl⟩ rfl rfl rfl rfl rfl (by kernel_rfl) Try.func7 (by kernel_rfl)
    (of_decide_eq_true (by kernel_rfl)) (by unfold Func.isWrapper; first | (rw [if_pos (by decide +kernel)]; kernel_rfl) | (rw [if_neg (by decide +kernel)]; exact ⟨rfl, rfl⟩))
    (fun os started H enc _ => lifted os started H enc)

/-- ████ THE STATEMENT ████ -/
theorem proved : Rows.DirRenameSaid := over
#print axioms proved
end Go.Proofs.Ytiagbacmjiimpaa.dirRename
