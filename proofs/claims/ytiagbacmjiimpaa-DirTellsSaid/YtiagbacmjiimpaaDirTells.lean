/-
  DirTells, at every list of entries and every entry: dir.Good, Right, Find, Add and Remove answer what O1 says.
-/
import Derived.Test.YtiagbacmjiimpaaRows
import Derived.Test.YtiagbacmjiimpaaEFrame
import Derived.Test.YtiagbacmjiimpaaEJoin
import Derived.Test.YtiagbacmjiimpaaPLast
import Derived.WalkKit
import Derived.ProofKit
import Derived.OpenShut
import Derived.ShutString
import Derived.ChangeOld
import Derived.Below
import Derived.SizedLaws
import Derived.RegionTactic
import Derived.Deep.RegionWith
import Derived.Deep.RegionHeld3
import Derived.Deep.CutBlock
import Derived.ChangeAlike
namespace Go.Proofs.Ytiagbacmjiimpaa.dirTells
open Go.ChangeShapes Go.WideShapes Go.ChangeAt Go.RowKit Words Go.Proofs.Ytiagbacmjiimpaa.Dir
open Go.ChangeMaps (open_string shut_string)
set_option linter.unusedVariables false

theorem own : ownKnob Try.prog.godebug = none := by kernel_rfl
theorem laidOut : laidOutB Try.prog = true := by kernel_rfl

set_option maxRecDepth 100000 in
set_option maxHeartbeats 8000000 in
/-- The walk: the Go text returns true and writes nothing that was there. -/
theorem walk (a0 : Option Addr) (len0 cap0 : Nat) (z0 : List En) (o1 : En) (w : World) (w0 : Fl w w.heap.size a0 len0 cap0 z0) (e1 : o1.n.length ≤ maxLen) (r0 : cap0 * 24 ≤ 140737488351232) :
    Calls Try.prog 3 #[.slice a0 len0 cap0, eval_ o1] w fun e w' => e = .returned (.bool true) ∧ Below w.heap.size w w' := by
  have CON := con
  have mx := mixedO
  have H := Lib.hid w0.rd
  have HWF := Lib.hid w0.wf
  have HL := Lib.hid w0.rd.len
  have HLE := w0.rd.le
  have HN := w0.rd.small
  have HCB : len0 * 24 ≤ 140737488351232 := by omega
  obtain ⟨wb, hwb⟩ : ∃ wb, w.alloc (.cells #[.string (str o1.n), .int .i64 o1.i] 24) = wb := ⟨_, rfl⟩
  have bx : Below w.heap.size w wb := by rw [← hwb]; exact boxed w _
  have g1 : Whole wb w.heap.size 24 #[.string (str o1.n), .int .i64 o1.i] := by rw [← hwb]; exact Whole.new w 24 _
  have HB : Hid (∀ x : World, Below wb.heap.size wb x → (x.cell? ⟨w.heap.size, 0, none⟩ = some (.string (str o1.n)) ∧ x.cell? ⟨w.heap.size, 1, none⟩ = some (.int .i64 o1.i)) ∧ Ens x w.heap.size a0 len0 cap0 z0 ∧ w.heap.size ≤ x.heap.size ∧ Below w.heap.size w x) := Lib.hid fun x b =>
    ⟨⟨by rw [Whole.cell (whole_below2 g1 b)]; rfl, by rw [Whole.cell (whole_below2 g1 b)]; rfl⟩, Words.Rd.below H.out (bx.trans (b.mono bx.size)) (Nat.le_refl _), Nat.le_trans bx.size b.size, bx.trans (b.mono bx.size)⟩
  have F1 := fun (x : World) (b : Below wb.heap.size wb x) => CON.find w.heap.size a0 len0 cap0 z0 o1.n x (HB.out x b).2.1 HWF.out e1 (HB.out x b).2.2.1
  have F2 := fun (x : World) (b : Below wb.heap.size wb x) => CON.add w.heap.size a0 len0 cap0 z0 o1 x (HB.out x b).2.1 HWF.out e1 (by omega) (HB.out x b).2.2.1
  have F3 := fun (x : World) (b : Below wb.heap.size wb x) => CON.rem w.heap.size a0 len0 cap0 z0 o1.n x (HB.out x b).2.1 HWF.out e1 (by omega) (HB.out x b).2.2.1
  have F4 := fun (x : World) => CON.good o1.n x e1
  have F5 := fun (x : World) => ogood13 o1.n x e1
  have F6 := fun (x : World) (b : Below wb.heap.size wb x) => CON.right w.heap.size a0 len0 cap0 z0 x (HB.out x b).2.1 HWF.out (HB.out x b).2.2.1
  have F7 := fun (x : World) (b : Below wb.heap.size wb x) => oright15 w.heap.size a0 len0 cap0 z0 x (HB.out x b).2.1 HWF.out (HB.out x b).2.2.1
  have F8 := fun (x : World) (b : Below wb.heap.size wb x) => at16 o1.n w.heap.size a0 len0 cap0 z0 x (HB.out x b).2.1 (HB.out x b).2.2.1
  have NOA := Lib.hid (fun h => al_no (l := z0) (e := o1) h)
  have NOR := Lib.hid (fun h => rl_no (l := z0) (nm := o1.n) h)
  unfold Lst at F2 F3
  obtain ⟨nn, ii⟩ := o1
  unfold eval_ at F2 ⊢
  simp only at hwb F1 F2 F3 F4 F5 F8 e1
  try simp only at NOR
  have F1 := Lib.hid F1
  have F2 := Lib.hid F2
  have F3 := Lib.hid F3
  have F4 := Lib.hid F4
  have F5 := Lib.hid F5
  have F6 := Lib.hid F6
  have F7 := Lib.hid F7
  have F8 := Lib.hid F8
  have B0 := Lib.hid (Below.refl wb.heap.size wb)
  have s1 := str_list nn
  obtain ⟨⟨q0, q1⟩, _, _, _⟩ := HB.out wb B0.out
  clear w0 bx g1
  go_enter Try.func3, Try.ntmps3
  have G1 := Lib.hid (F1.out wb B0.out)
  go_wp2_with fail
  refine (G1.out).mono ?_; rintro e w2 ⟨rfl, b2⟩
  have B2 := Lib.hid b2
  have G2 := Lib.hid (F2.out w2 b2)
  obtain ⟨⟨p0, p1⟩, _, _, _⟩ := HB.out w2 b2
  clear b2 q0 q1
  go_wp2_with fail
  refine (G2.out).mono ?_; rintro e w3 ⟨A3, n3, c3, rfl, l3, o3, b3⟩
  have B3 := Lib.hid (B2.out.trans (b3.mono B2.out.size))
  have O3 := Lib.hid o3
  have L3 := Lib.hid l3
  have G3 := Lib.hid (F3.out w3 B3.out)
  obtain ⟨⟨q0, q1⟩, _, _, _⟩ := HB.out w3 B3.out
  clear b3 o3 l3 p0 p1
  go_wp2_with fail
  refine (G3.out).mono ?_; rintro e w4 ⟨A4, n4, c4, rfl, l4, o4, b4⟩
  have B4 := Lib.hid (B3.out.trans (b4.mono B3.out.size))
  have OA := Lib.hid (O3.out.below b4 (Nat.le_refl _))
  have OB := Lib.hid o4
  have L4 := Lib.hid l4
  obtain ⟨⟨p0, p1⟩, _, _, _⟩ := HB.out w4 B4.out
  clear b4 o4 l4 q0 q1 O3
  go_upto_region 4 with fail
  go_cut [45] (fun u wx => u = .bool false ∧ Below w4.heap.size w4 wx)
  case first =>
    have bl : Below w4.heap.size w4 w4.drew := (Below.refl _ _).drew
    generalize good nn = gd at *
    generalize rt z0 = rz at *
    go_region_with (first
      | (go_at_call 12; refine (F4.out _).mono ?_; rintro e x ⟨rfl, hb⟩
         have bl := bl.trans (hb.mono bl.size)
         obtain ⟨⟨p0, p1⟩, _, _, _⟩ := HB.out x (B4.out.trans (bl.mono B4.out.size)))
      | (go_at_call 13; refine (F5.out _).mono ?_; rintro e x ⟨rfl, hb⟩
         have bl := bl.trans (hb.mono bl.size)
         obtain ⟨⟨p0, p1⟩, _, _, _⟩ := HB.out x (B4.out.trans (bl.mono B4.out.size)))
      | (go_at_call 14; refine (F6.out _ (B4.out.trans (bl.mono B4.out.size))).mono ?_; rintro e x ⟨rfl, hb⟩
         have bl := bl.trans (hb.mono bl.size))
      | (go_at_call 15; refine (F7.out _ (B4.out.trans (bl.mono B4.out.size))).mono ?_; rintro e x ⟨rfl, hb⟩
         have bl := bl.trans (hb.mono bl.size)))
    all_goals
      go_wp2_with fail
      go_meet
      exact ⟨rfl, bl⟩
  case rest =>
    obtain ⟨rfl, b5⟩ := hcut
    have BC := Lib.hid (B4.out.trans (b5.mono B4.out.size))
    have PA := Lib.hid (OA.out.below b5 (Nat.le_refl _))
    have PB := Lib.hid (OB.out.below b5 (Nat.le_refl _))
    have G7 := F7.out wc BC.out
    have G8 := F8.out
    have FE : Hid (fe z0 nn = if rt z0 = false then 1 else if has z0 nn = true then 0 else 3) := Lib.hid rfl
    have RE : Hid (re z0 nn = if rt z0 = false then 1 else if has z0 nn = true then 0 else 3) := Lib.hid rfl
    have FV : Hid (fv z0 nn = if fe z0 nn = 0 then fnd z0 nn else 0) := Lib.hid rfl
    have AE : Hid (ae z0 ⟨nn, ii⟩ = if rt z0 = false then 1 else if good nn = false then 2 else if has z0 nn = true then 6 else 0) := Lib.hid rfl
    have NA := Lib.hid (fun (h : ae z0 ⟨nn, ii⟩ ≠ 0) => show n3 = 0 by rw [← L3.out, NOA.out h]; rfl)
    have NB := Lib.hid (fun (h : re z0 nn ≠ 0) => show n4 = 0 by rw [← L4.out, NOR.out h]; rfl)
    clear b5 OA OB F1 F2 F3 F4 F6 F7 p0 p1
    cases hr : rt z0 with
    | false =>
      have h1 : fe z0 nn = 1 := by rw [FE.out, hr]; rfl
      have h2 : re z0 nn = 1 := by rw [RE.out, hr]; rfl
      have h3 : ae z0 ⟨nn, ii⟩ = 1 := by rw [AE.out, hr]; rfl
      have h4 : fv z0 nn = 0 := by rw [FV.out, h1]; rfl
      obtain rfl := NA.out (by rw [h3]; decide)
      obtain rfl := NB.out (by rw [h2]; decide)
      rw [h1, h2, h3, h4]
      rw [hr] at G7
      have G7 := Lib.hid G7
      clear h1 h2 h3 h4 hr G8
      go_wp2_with fail
      refine (G7.out).mono ?_; rintro e w6 ⟨rfl, b6⟩
      have BF := Lib.hid ((HB.out w6 (BC.out.trans (b6.mono BC.out.size))).2.2.2)
      clear b6
      go_wp2_with fail
      go_ret
      exact ⟨rfl, BF.out⟩
    | true =>
      rw [hr] at G7
      have G7 := Lib.hid G7
      have HR := Lib.hid hr
      clear hr
      go_wp2_with fail
      refine (G7.out).mono ?_; rintro e w6 ⟨rfl, b6⟩
      have B6 := Lib.hid (BC.out.trans (b6.mono BC.out.size))
      have QA := Lib.hid (PA.out.below b6 (Nat.le_refl _))
      have QB := Lib.hid (PB.out.below b6 (Nat.le_refl _))
      have G8 := Lib.hid (G8 w6 B6.out)
      obtain ⟨⟨p0, p1⟩, _, _, _⟩ := HB.out w6 B6.out
      clear b6 PA PB
      go_wp2_with fail
      refine (G8.out).mono ?_; rintro e w7 ⟨v, rfl, av, b7⟩
      have B7 := Lib.hid (B6.out.trans (b7.mono B6.out.size))
      have RA := Lib.hid (QA.out.below b7 (Nat.le_refl _))
      have RB := Lib.hid (QB.out.below b7 (Nat.le_refl _))
      obtain ⟨⟨q0, q1⟩, r7, _, _⟩ := HB.out w7 B7.out
      have R7 := Lib.hid r7
      clear b7 p0 p1 QA QB r7
      rcases at_has av with ⟨hv, hh, k, hk, hkl, hkn⟩ | ⟨hv, hh⟩
      · obtain ⟨re0, rle⟩ := rem_at HR.out hkl hkn
        obtain ⟨fe0, fve⟩ := fv_at HR.out hkl hkn
        have hg : good nn = true := by rw [← hkn]; exact (rt_iff.1 HR.out).1 _ (List.mem_of_getElem? (eth_get hkl))
        have h3 : ae z0 ⟨nn, ii⟩ = 6 := by rw [AE.out, HR.out, hg, hh]; rfl
        obtain rfl := NA.out (by rw [h3]; decide)
        have hkn0 : k < len0 := by rw [← HL.out]; exact hkl
        obtain ⟨g, o, rfl, _, _⟩ := Words.Rd.row R7.out (by omega)
        obtain ⟨c0, c1⟩ := Ens.cells R7.out rfl (eth_get hkl)
        obtain rfl : n4 = k + (len0 - (k + 1)) := by rw [← L4.out, rle, List.length_append, List.length_take, List.length_drop, HL.out]; omega
        rw [rle] at RB
        rw [h3, fe0, fve, re0]
        subst hk
        obtain ⟨⟨xn, xi⟩, hx⟩ : ∃ x, x = eth z0 k := ⟨_, rfl⟩
        rw [← hx] at c0 c1 ⊢
        simp only at c0 c1 ⊢
        obtain ⟨i0, hi0, hz0, hz1, hz2⟩ := info_parts info24
        obtain ⟨m, hm⟩ : ∃ m, k + 1 = m := ⟨_, rfl⟩
        have hkm : (k : Int) + 1 = (m : Int) := by omega
        have hwm : IntKind.i64.wrap (m : Int) = (m : Int) := by rw [IntKind.wrap_i64]; omega
        have hs1 := fun w => run_head (P := Try.prog) w 22 24 i0 Try.underlying22 hi0 (some ⟨g, o, none⟩) len0 cap0 k k rfl (by omega)
        have hs2 := fun w => run_tailN (P := Try.prog) w 22 24 i0 2 Try.underlying22 hi0 hz1 (some ⟨g, o, none⟩) len0 cap0 m (m : Int) rfl (by omega)
        have RT := Lib.hid (Ens.rest R7.out (k := m) (by omega))
        generalize (if cap0 = m then some (⟨g, o, none⟩ : Addr) else (some (⟨g, o, none⟩ : Addr)).map (·.add (m * 2))) = AT at *
        obtain ⟨t, ht⟩ : ∃ t, len0 - m = t := ⟨_, rfl⟩
        obtain ⟨ct, hct⟩ : ∃ t, cap0 - m = t := ⟨_, rfl⟩
        have HC := fun (y : World) (b : Below w7.heap.size w7 y) => clone18 w.heap.size (some ⟨g, o, none⟩) k cap0 (z0.take k) y (Words.Rd.below (Ens.head R7.out (Nat.le_of_lt hkn0)) b (HB.out w7 B7.out).2.2.1) (Nat.le_trans (HB.out w7 B7.out).2.2.1 b.size) (by omega)
        unfold MadeEn at HC
        rw [show (z0.take k).length = k by rw [List.length_take, HL.out]; omega] at HC
        rw [hm, ht] at RB
        rw [ht, hct] at RT
        have HEQ := fun (x : World) (A : Option Addr) (c : Nat) (b : Below w7.heap.size w7 x) (h : Ens x x.heap.size A (k + t) c (z0.take k ++ z0.drop m)) => equal17_yes _ _ A4 A _ _ c4 c _ _ x (RB.out.below b (Nat.le_refl _)).gps h rfl
        have HC := Lib.hid HC
        have HEQ := Lib.hid HEQ
        have hN1 : k + t ≤ maxLen := by unfold maxLen; omega
        have hN2 : (k + t) * 24 ≤ 140737488355328 := by omega
        rw [hm, ht]
        rw [ht, hct] at hs2
        have RN := Lib.hid (HB.out w7 B7.out).2.2.1
        have GL : Hid (g < w7.heap.size) := Lib.hid (World.block_lt_of_cell? w7 _ c1)
        have bl := Lib.hid (show Below w7.heap.size w7 w7.drew from (Below.refl w7.heap.size w7).drew)
        have C1 := Lib.hid c1
        clear fe0 fve re0 rle h3 hg hh av hkl hkn hx hv hm ht hct c0 q0 q1 R7 RA NA NB FE RE FV AE F5 L3 L4 NOA NOR
        have hk1 : (0 : Int) ≤ (k : Int) := by omega
        have hk2 : (k : Int) < (len0 : Int) := by omega
        have hk3 : (k : Int) ≤ (cap0 : Int) := by omega
        have hm1 : (0 : Int) ≤ (m : Int) := by omega
        have hm2 : (m : Int) ≤ (len0 : Int) := by omega
        have cd : w7.drew.cell? ⟨g, o + k * 2 + 1, none⟩ = some (.int .i64 xi) := c1
        go_wp2_with fail
        go_region_held3 (fun w' => w'.cell? ⟨g, o + k * 2 + 1, none⟩ = some (.int .i64 xi))
          (first | (with_reducible exact cd) | (with_reducible assumption))
          (first
            | ((refine step_append_rdG (P := Try.prog) _ (by first | kernel_rfl | rfl) (.tmp 106) (.tmp 110) 22 (by rfl) w7.heap.size 24 i0 _ 2 24 Try.underlying22 hi0 hz0 hz1 hz2 rfl (by decide) _ k (lcells (z0.take k)) (by rfl) OC.out w.heap.size AT t ct (lcells (z0.drop m)) (by rfl) RC.out (lcells_one _) hN1 hN2 SC.out ?_); (intro A9 c9 x9 hown hg; rw [← lcells_append] at hown; have bl := Lib.hid (below_grown BC1.out OC.out hg SC.out (Nat.le_refl _)); have O9 := Lib.hid (show OwnEn x9 w7.heap.size A9 (k + t) c9 (z0.take k ++ z0.drop m) from hown); have ce := (bl.out.cell (p := ⟨g, o + k * 2 + 1, none⟩) GL.out).trans C1.out; clear hown hg))
            | (go_at_call 18; ((with_reducible refine (HC.out _ ?_).mono ?_); (exact bl.out); rintro e x1 ⟨Ac, cc, rfl, oc, bc⟩; have BC1 := Lib.hid (show Below w7.heap.size w7 x1 from bl.out.trans (bc.mono bl.out.size)); have OC := Lib.hid (show OwnEn x1 w7.heap.size Ac k cc (z0.take k) from OwnEn.more oc bl.out.size); have RC := Lib.hid (Words.Rd.below RT.out BC1.out RN.out); have SC := Lib.hid BC1.out.size; have cx := (BC1.out.cell (p := ⟨g, o + k * 2 + 1, none⟩) GL.out).trans C1.out; clear oc bc))
            | (go_at_call 17; ((with_reducible refine (HEQ.out _ _ _ ?_ ?_).mono ?_); (exact bl.out); (exact O9.out.gps); rintro e x3 ⟨rfl, L3x⟩; have b3 := Lib.hid (bl.out.trans (L3x.below.mono bl.out.size)); have cy := (b3.out.cell (p := ⟨g, o + k * 2 + 1, none⟩) GL.out).trans C1.out; clear L3x)))
        have BF := Lib.hid ((HB.out _ (B7.out.trans (b3.out.mono B7.out.size))).2.2.2)
        clear cx ce cy
        go_wp2_with fail
        go_ret
        exact ⟨rfl, BF.out⟩
      · have h1 : fe z0 nn = 3 := by rw [FE.out, HR.out, hh]; rfl
        have h2 : re z0 nn = 3 := by rw [RE.out, HR.out, hh]; rfl
        have h4 : fv z0 nn = 0 := by rw [FV.out, h1]; rfl
        obtain rfl := NB.out (by rw [h2]; decide)
        rw [h1, h2, h4]
        have hv0 : ¬ 0 ≤ v := by omega
        have F5 := F5.out
        cases hg : good nn with
        | false =>
          have h3 : ae z0 ⟨nn, ii⟩ = 2 := by rw [AE.out, HR.out, hg]; rfl
          obtain rfl := NA.out (by rw [h3]; decide)
          rw [h3]
          rw [hg] at F5
          have F5 := Lib.hid (F5 w7)
          clear h1 h2 h3 h4 hg hv hh av
          go_wp2_with fail
          refine (F5.out).mono ?_; rintro e w8 ⟨rfl, b8⟩
          have BF := Lib.hid ((HB.out w8 (B7.out.trans (b8.mono B7.out.size))).2.2.2)
          clear b8
          go_wp2_with fail
          go_ret
          exact ⟨rfl, BF.out⟩
        | true =>
          have h3 : ae z0 ⟨nn, ii⟩ = 0 := by rw [AE.out, HR.out, hg, hh]; rfl
          obtain ⟨dd, ds⟩ := add_sorted h3
          rw [h3]
          rw [hg] at F5
          have F5 := Lib.hid (F5 w7)
          clear h1 h2 h4 hg hv hh av
          go_wp2_with fail
          refine (F5.out).mono ?_; rintro e w8 ⟨rfl, b8⟩
          have B8 := Lib.hid (B7.out.trans (b8.mono B7.out.size))
          have SA := Lib.hid (RA.out.below b8 (Nat.le_refl _))
          obtain ⟨⟨p0, p1⟩, r8, _, _⟩ := HB.out w8 B8.out
          clear b8 q0 q1
          have ob : Below w8.heap.size w8 (w8.alloc (.cells #[.string (str nn), .int .i64 ii] 24)) := boxed w8 _
          have HC1 := clone18 w.heap.size a0 len0 cap0 z0 w8.drew (Words.Rd.drew r8) (HB.out w8 B8.out).2.2.1 (by omega)
          have HC2 := clone18 w.heap.size a0 len0 cap0 z0 (w8.alloc (.cells #[.string (str nn), .int .i64 ii] 24)).drew (Words.Rd.drew (Words.Rd.below r8 ob (HB.out w8 B8.out).2.2.1)) (Nat.le_trans (HB.out w8 B8.out).2.2.1 ob.size) (by omega)
          have EN2 : Words.Rd (w8.alloc (.cells #[.string (str nn), .int .i64 ii] 24)).drew (w8.heap.size + 1) 2 (some ⟨w8.heap.size, 0, none⟩) 1 1 (lcells [⟨nn, ii⟩]) := Words.Rd.drew (one_en w8 ⟨nn, ii⟩)
          have EN1 := Lib.hid (fun x => one_en x ⟨nn, ii⟩)
          unfold MadeEn at HC1 HC2
          rw [HL.out] at HC1 HC2
          have HC1 := Lib.hid HC1
          have HC2 := Lib.hid HC2
          have EN2 := Lib.hid EN2
          have HO := fun (x : World) (A : Option Addr) (c : Nat) (h : Ens x x.heap.size A (len0 + 1) c (z0 ++ [⟨nn, ii⟩])) => osort19 x.heap.size A (len0 + 1) c _ x h dd (Nat.le_refl _) (by omega)
          rw [ds] at HO
          unfold MadeEn at HO
          rw [L3.out] at HO
          have HO := Lib.hid HO
          have HEQ := Lib.hid (fun (x : World) (A : Option Addr) (c : Nat) (b : Below w8.heap.size w8 x) (h : Ens x x.heap.size A n3 c (al z0 ⟨nn, ii⟩)) => equal17_yes _ _ A3 A n3 n3 c3 c _ _ x (SA.out.below b (Nat.le_refl _)).gps h rfl)
          have t8a := (ob.cell (p := ⟨w.heap.size, 0, none⟩) (by have := (HB.out w8 B8.out).2.2.1; have := World.block_lt_of_cell? w8 ⟨w.heap.size, 0, none⟩ p0; exact this)).trans p0
          have OB := Lib.hid ob
          obtain ⟨i0, hi0, hz0, hz1, hz2⟩ := info_parts info24
          have hN1 : len0 + 1 ≤ maxLen := by unfold maxLen; omega
          have hN2 : (len0 + 1) * 24 ≤ 140737488355328 := by omega
          clear h3 dd ds r8 ob t8a
          go_wp2_with fail
          go_region_law (first
            | (refine step_append_rdG (P := Try.prog) _ (by first | rfl | kernel_rfl) (.tmp 145) (.tmp 147) 22 rfl w8.heap.size 24 i0 _ 2 24 Try.underlying22 hi0 hz0 hz1 hz2 rfl (by decide) _ len0 (lcells z0) (by simp [Act.eval]) OC1.out _ _ 1 1 (lcells [⟨nn, ii⟩]) (by simp [Act.eval]) RC1.out (lcells_one _) hN1 hN2 SC1.out ?_
               intro A9 c9 x9 hown hg
               have bl := Lib.hid (below_grown BC1.out OC1.out hg SC1.out (Nat.le_refl _))
               rw [← lcells_append] at hown
               have O9 := Lib.hid (show OwnEn x9 w8.heap.size A9 (len0 + 1) c9 (z0 ++ [⟨nn, ii⟩]) from hown)
               clear hown hg)
            | (refine step_append_rdG (P := Try.prog) _ (by first | rfl | kernel_rfl) (.tmp 145) (.tmp 147) 22 rfl w8.heap.size 24 i0 _ 2 24 Try.underlying22 hi0 hz0 hz1 hz2 rfl (by decide) _ len0 (lcells z0) (by simp [Act.eval]) OC2.out _ _ 1 1 (lcells [⟨nn, ii⟩]) (by simp [Act.eval]) RC2.out (lcells_one _) hN1 hN2 SC2.out ?_
               intro A9 c9 x9 hown hg
               have bl := Lib.hid (below_grown BC2.out OC2.out hg SC2.out (Nat.le_refl _))
               rw [← lcells_append] at hown
               have O9 := Lib.hid (show OwnEn x9 w8.heap.size A9 (len0 + 1) c9 (z0 ++ [⟨nn, ii⟩]) from hown)
               clear hown hg)
            | (go_simp; (first
                | (go_at_call 18; (first
                    | ((with_reducible refine (HC1.out).mono ?_); rintro e x1 ⟨Ac, cc, rfl, oc, bc⟩
                       have BX := Lib.hid (show Below w8.heap.size w8 x1 from (Below.refl _ _).drew.trans bc)
                       have bo := boxed x1 (.cells #[.string (str nn), .int .i64 ii] 24)
                       have OC1 := Lib.hid (show OwnEn (x1.alloc (.cells #[.string (str nn), .int .i64 ii] 24)) w8.heap.size Ac len0 cc z0 from OwnEn.below oc bo (Nat.le_refl _))
                       have RC1 := Lib.hid (EN1.out x1)
                       have BC1 := Lib.hid (BX.out.trans (bo.mono BX.out.size))
                       have SC1 := Lib.hid BC1.out.size
                       obtain ⟨⟨p0, p1⟩, _, _, _⟩ := HB.out x1 (B8.out.trans (BX.out.mono B8.out.size))
                       clear oc bc bo)
                    | ((with_reducible refine (HC2.out).mono ?_); rintro e x1 ⟨Ac, cc, rfl, oc, bc⟩
                       have BC2 := Lib.hid (show Below w8.heap.size w8 x1 from (OB.out.drew).trans (bc.mono OB.out.size))
                       have OC2 := Lib.hid (show OwnEn x1 w8.heap.size Ac len0 cc z0 from OwnEn.more oc OB.out.size)
                       have RC2 := Lib.hid (Words.Rd.below EN2.out bc (by show w8.heap.size + 1 ≤ _; rw [show (w8.alloc (.cells #[.string (str nn), .int .i64 ii] 24)).drew.heap.size = w8.heap.size + 1 from World.size_alloc ..]; exact Nat.le_refl _))
                       have SC2 := Lib.hid BC2.out.size
                       clear oc bc)))
                | (go_at_call 19; refine (HO.out _ A9 c9 O9.out.gps).mono ?_; rintro e x2 ⟨Ao, co, rfl, oo, bo⟩
                   have bl := Lib.hid (bl.out.trans (bo.mono bl.out.size))
                   have OO := Lib.hid (OwnEn.gps oo)
                   clear oo bo)
                | (go_at_call 17; refine (HEQ.out _ Ao co bl.out OO.out).mono ?_; rintro e x3 ⟨rfl, L3x⟩
                   have bl := Lib.hid (bl.out.trans (L3x.below.mono bl.out.size))
                   clear L3x))))
          all_goals
            have BF := Lib.hid ((HB.out _ (B8.out.trans (bl.out.mono B8.out.size))).2.2.2)
            go_wp2_with fail
            go_ret
            exact ⟨rfl, BF.out⟩

set_option maxRecDepth 100000 in
theorem contract (H : Type) (enc : TypeId × Value → H) (W : World) (base : Nat) (args : Array Value) (ds gs : List (DataW H)) (before : List MemPlace)
    (hval : ∀ (j : Nat) t v, Try.f3.params[j]? = some t → args[j]? = some v → Value.okWide Try.prog W .any base t v)
    (hW : DataW.Whole enc Try.prog Try.f3.params.toList Rows.dirTellsSpec.vars false W args.toList ds gs before) (hsz : (DataW.weightsEach Try.prog (Try.f3.params.toList ++ Rows.dirTellsSpec.plain.varTypes Try.prog) (ds ++ gs)).all (· ≤ reachBytes) = true) :
    Calls Try.prog 3 args W fun e W' => ∃ v, e = .returned v ∧ Rows.dirTellsSpec.post enc Try.prog Try.f3 false true false false W args v W' := by
  have hW' := hW
  obtain ⟨p, q, hA0, hV, rfl, hfz, hnd⟩ := hW
  have hA : DataW.TrodAll enc Try.prog W 0 (fun _ => true) true Try.f3.params.toList args.toList ds p := hA0
  rw [Try.params3] at hA hval hsz
  obtain ⟨v0, vs0, d0, ds0, p0, q0, hargs, rfl, rfl, h0, rr0⟩ := trodAll_cons hA
  obtain ⟨v1, vs1, d1, ds1, p1, q1, rfl, rfl, rfl, h1, rr1⟩ := trodAll_cons rr0
  obtain ⟨rfl, rfl, rfl⟩ := trodAll_nil rr1
  obtain rfl : args = #[v0, v1] := by cases args; simp_all
  obtain ⟨rfl, rfl⟩ := trodVars_none hV
  obtain ⟨a0, len0, cap0, rfl⟩ := okWide_slice Try.underlying22 (hval 0 22 v0 rfl rfl)
  have k0 := h0
  have lt0 : ∀ x ∈ p0, x.block < W.heap.size := by obtain ⟨m, hm⟩ := k0; exact DataW.trod_lt m _ _ _ hm
  obtain ⟨⟨z0, w0⟩, u0⟩ := open_fl h0
  have r0 := reach_fl hsz (j := 0) rfl rfl u0
  have k1 := h1
  have lt1 : ∀ x ∈ p1, x.block < W.heap.size := by obtain ⟨m, hm⟩ := k1; exact DataW.trod_lt m _ _ _ hm
  obtain ⟨o1, e1, rfl⟩ := open_en (hval 1 24 v1 rfl rfl) h1
  clear hA0
  refine (walk a0 len0 cap0 z0 o1 W w0 e1 r0).mono fun e W' ⟨he, bel⟩ => ?_
  subst he
  exact ⟨_, rfl, _, _, _, [], _, [], hW', trodAll_mk1 (shut_bool Try.underlying4 _), (trodAll_cons_mk (Below.trod laidOut (by kernel_rfl) (of_decide_eq_true (by kernel_rfl)) k0 bel lt0) (trodAll_cons_mk (Below.trod laidOut (by kernel_rfl) (of_decide_eq_true (by kernel_rfl)) k1 bel lt1) trodAll_mk0)), rfl, bel.frame _, fun h => by cases h⟩

set_option maxRecDepth 100000 in
theorem lifted (os : Os) (started : os.Started) (H : Type) (enc : TypeId × Value → H) :
    ReturnsInHanded {} Try.checked os 3 .any (Rows.dirTellsSpec.pre6 enc Try.prog Try.f3 Rows.dirTellsRow.domain false) (Rows.dirTellsSpec.post enc Try.prog Try.f3 false true false false) := by
  refine returnsInHanded_of_change_sized (C := Try.checked) own started (by kernel_rfl) Try.func3
    (ChangeSpec.witness6 (enc := enc) (C := Try.checked) false ⟨#[], #[.slice none 0 0, .agg #[.string ⟨#[]⟩, .int .i64 0]], []⟩ 8 (by kernel_rfl) (by kernel_rfl) (by kernel_rfl) (by kernel_rfl)) ?_
  intro W base args ds gs before hval hW _ hsz _
  exact contract H enc W base args ds gs before hval hW hsz

theorem over : Rows.dirTellsRow.holds Try.pinned (OpenSpec.ofChange Rows.dirTellsSpec) :=
  OpenClaim.holds_of_wide 3 Try.f3 rfl rfl rfl rfl rfl rfl rfl ⟨rfl, rfl, rfl, rfl, rfl⟩ rfl rfl rfl rfl rfl (by kernel_rfl) Try.func3 (by kernel_rfl)
    (of_decide_eq_true (by kernel_rfl)) (by unfold Func.isWrapper; first | (rw [if_pos (by decide +kernel)]; kernel_rfl) | (rw [if_neg (by decide +kernel)]; exact ⟨rfl, rfl⟩))
    (fun os started H enc _ => lifted os started H enc)

/-- ████ THE STATEMENT ████ -/
theorem proved : Rows.DirTellsSaid := over
#print axioms proved
end Go.Proofs.Ytiagbacmjiimpaa.dirTells
