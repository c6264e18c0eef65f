/-
  DirRenames, at every list of entries and every two names: dir.Rename answers what O1 says.
-/
import Derived.Test.YtiagbacmjiimpaaRows
import Derived.Test.YtiagbacmjiimpaaEFrame
import Derived.Test.YtiagbacmjiimpaaEFacts2
import Derived.Test.YtiagbacmjiimpaaPLast
import Derived.WalkKit
import Derived.ProofKit
import Derived.OpenShut
import Derived.ShutString
import Derived.ChangeOld
import Derived.Below
import Derived.SizedLaws
import Derived.RegionTactic
import Derived.Deep.RegionWith
import Derived.Deep.CutBlock
import Derived.ChangeAlike
namespace Go.Proofs.Ytiagbacmjiimpaa.dirRenames
open Go.ChangeShapes Go.WideShapes Go.ChangeAt Go.RowKit Words Go.Proofs.Ytiagbacmjiimpaa.Dir
open Go.ChangeMaps (open_string shut_string)
set_option linter.unusedVariables false

theorem own : ownKnob Try.prog.godebug = none := by kernel_rfl
theorem laidOut : laidOutB Try.prog = true := by kernel_rfl

set_option maxRecDepth 100000 in
set_option maxHeartbeats 8000000 in
/-- The walk: the Go text returns true and writes nothing that was there. -/
theorem walk (a0 : Option Addr) (len0 cap0 : Nat) (z0 : List En) (t1 : List UInt8) (t2 : List UInt8) (w : World) (w0 : Fl w w.heap.size a0 len0 cap0 z0) (e1 : t1.length ≤ maxLen) (e2 : t2.length ≤ maxLen) (r0 : cap0 * 24 ≤ 140737488351232) :
    Calls Try.prog 4 #[.slice a0 len0 cap0, .string (str t1), .string (str t2)] w fun e w' => e = .returned (.bool true) ∧ Below w.heap.size w w' := by
  have CON := con
  have H := Lib.hid w0.rd
  have HWF := Lib.hid w0.wf
  have HL := Lib.hid w0.rd.len
  have HLE := w0.rd.le
  have HN := w0.rd.small
  have HB : Hid (∀ x : World, Below w.heap.size w x → Ens x w.heap.size a0 len0 cap0 z0) := Lib.hid fun x b => Words.Rd.below H.out b (Nat.le_refl _)
  have HLM := nl_le z0 t1 t2
  rw [HL.out] at HLM
  have HLM := Lib.hid HLM
  have F1 := CON.ren w.heap.size a0 len0 cap0 z0 t1 t2 w (HB.out w (Below.refl _ _)) HWF.out e1 e2 (by omega) (Nat.le_refl _)
  have F2 := fun (x : World) (b : Below w.heap.size w x) => at16 t1 w.heap.size a0 len0 cap0 z0 x (HB.out x b) b.size
  have F3 := fun (x : World) (b : Below w.heap.size w x) => oright15 w.heap.size a0 len0 cap0 z0 x (HB.out x b) HWF.out b.size
  have F4 := fun (x : World) => ogood13 t2 x e2
  have F5 := Lib.hid (fun (x : World) (b : Below w.heap.size w x) => at16 t2 w.heap.size a0 len0 cap0 z0 x (HB.out x b) b.size)
  have F6 := fun (x : World) (b : Below w.heap.size w x) => clone18 w.heap.size a0 len0 cap0 z0 x (HB.out x b) b.size (by omega)
  have F7 := Lib.hid (fun (x : World) (A : Option Addr) (c : Nat) (l : List En) (h : Ens x x.heap.size A len0 c l) (hd : Dist l) => osort19 x.heap.size A len0 c l x h hd (Nat.le_refl _) (by omega))
  have RS := Lib.hid (fun h1 h2 (k : Nat) h3 h4 => ren_sorted (l := z0) (f := t1) (t := t2) (k := k) h1 h2 h3 h4)
  have NO := Lib.hid (fun h => nl_no (l := z0) (f := t1) (t := t2) h)
  have RSM := Lib.hid (fun (h : ne z0 t1 t2 = 0) => (ren_facts h).2.2.2.2.2.2)
  have s1 := str_list t1
  have s2 := str_list t2
  have SB : (t1 == t2) = decide (t1 = t2) := list_beq
  unfold Lst at F1
  unfold MadeEn at F6
  rw [HL.out] at F6
  have F1 := Lib.hid F1
  have F2 := Lib.hid F2
  have F6 := Lib.hid F6
  clear w0
  go_enter Try.func4, Try.ntmps4
  go_wp2_with fail
  refine (F1.out).mono ?_; rintro e w2 ⟨A2, n2, c2, rfl, l2, o2, b2⟩
  have B2 := Lib.hid b2
  have O2 := Lib.hid o2
  have L2 := Lib.hid l2
  have G2 := Lib.hid (F2.out w2 b2)
  clear b2 o2 l2
  go_wp2_with fail
  refine (G2.out).mono ?_; rintro e w3 ⟨v1, rfl, av1, b3⟩
  have B3 := Lib.hid (B2.out.trans (b3.mono B2.out.size))
  have O3 := Lib.hid (O2.out.below b3 (Nat.le_refl _))
  have AV := Lib.hid (at_has av1)
  have G3 := F3 w3 B3.out
  clear b3 av1 O2 F1 F2
  have fail1 : ∀ x : Int, ne z0 t1 t2 = x → x ≠ 0 → n2 = 0 := fun x h1 h2 => by
    rw [← L2.out, NO.out (by rw [h1]; exact h2)]; rfl
  have FAIL := Lib.hid fail1
  clear fail1
  cases hr : rt z0 with
  | false =>
    have hne : ne z0 t1 t2 = 1 := by unfold ne; rw [hr]; rfl
    obtain rfl := FAIL.out 1 hne (by decide)
    rw [hne]
    rw [hr] at G3
    have G3 := Lib.hid G3
    clear hr hne F3 F4
    go_wp2_with fail
    refine (G3.out).mono ?_; rintro e w4 ⟨rfl, b4⟩
    have B4 := Lib.hid (B3.out.trans (b4.mono B3.out.size))
    clear b4
    go_wp2_with fail
    go_ret
    exact ⟨rfl, B4.out⟩
  | true =>
    rw [hr] at G3
    have G3 := Lib.hid G3
    rcases AV.out with ⟨hv, hh, k, hk, hkl, hkn⟩ | ⟨hv, hh⟩
    · by_cases hft : t1 = t2
      · have hne : ne z0 t1 t2 = 0 := ne_ok.2 ⟨hr, hh, .inl hft⟩
        have hnl : nl z0 t1 t2 = z0 := by rw [← hft]; exact ren_same (by rw [hft] at hne ⊢; exact hne)
        have K := O3.out
        rw [hnl] at K
        rw [hne]
        obtain rfl : n2 = len0 := by rw [← L2.out, hnl, HL.out]
        have EQ := Lib.hid (fun (x : World) (b : Below w3.heap.size w3 x) => equal17_yes _ _ A2 a0 n2 n2 c2 cap0 z0 z0 x (K.below b (Nat.le_refl _)).gps (HB.out x (B3.out.trans (b.mono B3.out.size))) rfl)
        rw [decide_eq_true hft] at SB
        have hv0 : ¬ v1 < 0 := by omega
        clear hr hne hnl hft hh hk hkl hkn K F3 F4 hv
        go_wp2_with fail
        refine (G3.out).mono ?_; rintro e w4 ⟨rfl, b4⟩
        have B4 := Lib.hid (B3.out.trans (b4.mono B3.out.size))
        have EQ2 := Lib.hid (EQ.out w4 b4)
        clear b4
        go_wp2_with fail
        refine (EQ2.out).mono ?_; rintro e w5 ⟨rfl, L5⟩
        have B5 := Lib.hid (B4.out.trans (L5.below.mono B4.out.size))
        clear L5
        go_wp2_with fail
        go_ret
        exact ⟨rfl, B5.out⟩
      · rw [decide_eq_false hft] at SB
        have hv0 : ¬ v1 < 0 := by omega
        cases hg : good t2 with
        | false =>
          have hne : ne z0 t1 t2 = 2 := by unfold ne; rw [hr, hh, hg]; simp [hft]
          obtain rfl := FAIL.out 2 hne (by decide)
          rw [hne]
          rw [hg] at F4
          have F4 := Lib.hid F4
          clear hr hne hft hh hk hkl hkn hg F3 hv
          go_wp2_with fail
          refine (G3.out).mono ?_; rintro e w4 ⟨rfl, b4⟩
          have B4 := Lib.hid (B3.out.trans (b4.mono B3.out.size))
          clear b4
          go_wp2_with fail
          refine (F4.out w4).mono ?_; rintro e w5 ⟨rfl, b5⟩
          have B5 := Lib.hid (B4.out.trans (b5.mono B4.out.size))
          clear b5
          go_wp2_with fail
          go_ret
          exact ⟨rfl, B5.out⟩
        | true =>
          rw [hg] at F4
          have F4 := Lib.hid F4
          have HG := Lib.hid hg
          have HR := Lib.hid hr
          have HH := Lib.hid hh
          have HFT := Lib.hid hft
          have HK := Lib.hid hk
          have HKL := Lib.hid hkl
          have HKN := Lib.hid hkn
          clear hr hft hh hk hkl hkn hg F3 hv
          go_wp2_with fail
          refine (G3.out).mono ?_; rintro e w4 ⟨rfl, b4⟩
          have B4 := Lib.hid (B3.out.trans (b4.mono B3.out.size))
          have O4 := Lib.hid (O3.out.below b4 (Nat.le_refl _))
          clear b4
          go_wp2_with fail
          refine (F4.out w4).mono ?_; rintro e w5 ⟨rfl, b5⟩
          have B5 := Lib.hid (B4.out.trans (b5.mono B4.out.size))
          have O5 := Lib.hid (O4.out.below b5 (Nat.le_refl _))
          have G5 := Lib.hid (F5.out w5 B5.out)
          clear b5
          go_wp2_with fail
          refine (G5.out).mono ?_; rintro e w6 ⟨v2, rfl, av2, b6⟩
          have B6 := Lib.hid (B5.out.trans (b6.mono B5.out.size))
          have O6 := Lib.hid (O5.out.below b6 (Nat.le_refl _))
          rcases at_has av2 with ⟨hv2, hh2, _⟩ | ⟨hv2, hh2⟩
          · have hne : ne z0 t1 t2 = 6 := by unfold ne; rw [HR.out, HH.out, HG.out, hh2]; simp [HFT.out]
            obtain rfl := FAIL.out 6 hne (by decide)
            rw [hne]
            clear hne hh2 b6 av2
            go_wp2_with fail
            go_ret
            exact ⟨rfl, B6.out⟩
          · have hne : ne z0 t1 t2 = 0 := ne_ok.2 ⟨HR.out, HH.out, .inr ⟨HG.out, hh2⟩⟩
            obtain ⟨hdist, hsrt⟩ := RS.out hne HFT.out k HKL.out HKN.out
            obtain rfl : n2 = len0 := by rw [← L2.out, RSM.out hne, HL.out]
            rw [hne]
            have DI := Lib.hid hdist
            have SR := Lib.hid hsrt
            have G6 := Lib.hid (F6.out w6 B6.out)
            have hk' := HK.out
            subst hk'
            have hkn0 : k < n2 := by rw [← HL.out]; exact HKL.out
            have hv2' : ¬ 0 ≤ v2 := by omega
            clear hne hh2 b6 av2 hdist hsrt hv2
            go_wp2_with fail
            refine (G6.out).mono ?_; rintro e w7 ⟨A7, c7, rfl, o7, b7⟩
            have B7 := Lib.hid (B6.out.trans (b7.mono B6.out.size))
            have O7 := Lib.hid (O6.out.below b7 (Nat.le_refl _))
            obtain ⟨g7, rfl, hg7, hg7b⟩ := o7.addr (by omega)
            obtain ⟨j0, j1⟩ := o7.at_ hkn0
            have j2 := o7.frozen (k * 2)
            obtain ⟨o8, g8⟩ := o7.name hkn0 t2
            obtain ⟨W8, hW8⟩ : ∃ W8, w7.setCell ⟨g7, k * 2, none⟩ (.string (str t2)) = W8 := ⟨_, rfl⟩
            rw [hW8] at o8 g8
            have b8 : Below w6.heap.size w6 W8 := b7.grown g8 b7.size (fun j hj => by cases hj; exact hg7)
            have B8 := Lib.hid (B6.out.trans (b8.mono B6.out.size))
            have O8 := Lib.hid (O6.out.below b8 (Nat.le_refl _))
            have G7 := F7.out W8 (some ⟨g7, 0, none⟩) c7 _ o8.gps DI.out
            rw [SR.out] at G7
            unfold MadeEn at G7
            rw [L2.out] at G7
            have G7 := Lib.hid G7
            clear o7 b7 b8 o8 g8
            go_wp2_with fail
            refine (G7.out).mono ?_; rintro e w9 ⟨A9, c9, rfl, o9, b9⟩
            have B9 := Lib.hid (B8.out.trans (b9.mono B8.out.size))
            have O9 := Lib.hid (O8.out.below b9 (Nat.le_refl _))
            have EQ := Lib.hid (equal17_yes _ _ A2 A9 n2 n2 c2 c9 _ _ w9 O9.out.gps o9.gps rfl)
            clear o9 b9
            go_wp2_with fail
            refine (EQ.out).mono ?_; rintro e w10 ⟨rfl, L10⟩
            have B10 := Lib.hid (B9.out.trans (L10.below.mono B9.out.size))
            clear L10
            go_wp2_with fail
            go_ret
            exact ⟨rfl, B10.out⟩
    · have hne : ne z0 t1 t2 = 3 := by unfold ne; rw [hr, hh]; rfl
      obtain rfl := FAIL.out 3 hne (by decide)
      rw [hne]
      clear hr hne hh F3 F4
      go_wp2_with fail
      refine (G3.out).mono ?_; rintro e w4 ⟨rfl, b4⟩
      have B4 := Lib.hid (B3.out.trans (b4.mono B3.out.size))
      clear b4
      go_wp2_with fail
      go_ret
      exact ⟨rfl, B4.out⟩

set_option maxRecDepth 100000 in
theorem contract (H : Type) (enc : TypeId × Value → H) (W : World) (base : Nat) (args : Array Value) (ds gs : List (DataW H)) (before : List MemPlace)
    (hval : ∀ (j : Nat) t v, Try.f4.params[j]? = some t → args[j]? = some v → Value.okWide Try.prog W .any base t v)
    (hW : DataW.Whole enc Try.prog Try.f4.params.toList Rows.dirRenamesSpec.vars false W args.toList ds gs before) (hsz : (DataW.weightsEach Try.prog (Try.f4.params.toList ++ Rows.dirRenamesSpec.plain.varTypes Try.prog) (ds ++ gs)).all (· ≤ reachBytes) = true) :
    Calls Try.prog 4 args W fun e W' => ∃ v, e = .returned v ∧ Rows.dirRenamesSpec.post enc Try.prog Try.f4 false true false false W args v W' := by
  have hW' := hW
  obtain ⟨p, q, hA0, hV, rfl, hfz, hnd⟩ := hW
  have hA : DataW.TrodAll enc Try.prog W 0 (fun _ => true) true Try.f4.params.toList args.toList ds p := hA0
  rw [Try.params4] at hA hval hsz
  obtain ⟨v0, vs0, d0, ds0, p0, q0, hargs, rfl, rfl, h0, rr0⟩ := trodAll_cons hA
  obtain ⟨v1, vs1, d1, ds1, p1, q1, rfl, rfl, rfl, h1, rr1⟩ := trodAll_cons rr0
  obtain ⟨v2, vs2, d2, ds2, p2, q2, rfl, rfl, rfl, h2, rr2⟩ := trodAll_cons rr1
  obtain ⟨rfl, rfl, rfl⟩ := trodAll_nil rr2
  obtain rfl : args = #[v0, v1, v2] := by cases args; simp_all
  obtain ⟨rfl, rfl⟩ := trodVars_none hV
  obtain ⟨a0, len0, cap0, rfl⟩ := okWide_slice Try.underlying22 (hval 0 22 v0 rfl rfl)
  have k0 := h0
  have lt0 : ∀ x ∈ p0, x.block < W.heap.size := by obtain ⟨m, hm⟩ := k0; exact DataW.trod_lt m _ _ _ hm
  obtain ⟨⟨z0, w0⟩, u0⟩ := open_fl h0
  have r0 := reach_fl hsz (j := 0) rfl rfl u0
  have k1 := h1
  have lt1 : ∀ x ∈ p1, x.block < W.heap.size := by obtain ⟨m, hm⟩ := k1; exact DataW.trod_lt m _ _ _ hm
  obtain ⟨t1, e1, rfl⟩ := open_str (hval 1 9 v1 rfl rfl) h1
  have k2 := h2
  have lt2 : ∀ x ∈ p2, x.block < W.heap.size := by obtain ⟨m, hm⟩ := k2; exact DataW.trod_lt m _ _ _ hm
  obtain ⟨t2, e2, rfl⟩ := open_str (hval 2 9 v2 rfl rfl) h2
  clear hA0
  refine (walk a0 len0 cap0 z0 t1 t2 W w0 e1 e2 r0).mono fun e W' ⟨he, bel⟩ => ?_
  subst he
  exact ⟨_, rfl, _, _, _, [], _, [], hW', trodAll_mk1 (shut_bool Try.underlying4 _), (trodAll_cons_mk (Below.trod laidOut (by kernel_rfl) (of_decide_eq_true (by kernel_rfl)) k0 bel lt0) (trodAll_cons_mk (Below.trod laidOut (by kernel_rfl) (of_decide_eq_true (by kernel_rfl)) k1 bel lt1) (trodAll_cons_mk (Below.trod laidOut (by kernel_rfl) (of_decide_eq_true (by kernel_rfl)) k2 bel lt2) trodAll_mk0))), rfl, bel.frame _, fun h => by cases h⟩

set_option maxRecDepth 100000 in
theorem lifted (os : Os) (started : os.Started) (H : Type) (enc : TypeId × Value → H) :
    ReturnsInHanded {} Try.checked os 4 .any (Rows.dirRenamesSpec.pre6 enc Try.prog Try.f4 Rows.dirRenamesRow.domain false) (Rows.dirRenamesSpec.post enc Try.prog Try.f4 false true false false) := by
  refine returnsInHanded_of_change_sized (C := Try.checked) own started (by kernel_rfl) Try.func4
    (ChangeSpec.witness6 (enc := enc) (C := Try.checked) false ⟨#[], #[.slice none 0 0, .string ⟨#[]⟩, .string ⟨#[]⟩], []⟩ 8 (by kernel_rfl) (by kernel_rfl) (by kernel_rfl) (by kernel_rfl)) ?_
  intro W base args ds gs before hval hW _ hsz _
  exact contract H enc W base args ds gs before hval hW hsz

theorem over : Rows.dirRenamesRow.holds Try.pinned (OpenSpec.ofChange Rows.dirRenamesSpec) :=
  OpenClaim.holds_of_wide 4 Try.f4 rfl rfl rfl rfl rfl rfl rfl ⟨rfl, rfl, rfl, rfl, rfl⟩ rfl rfl rfl rfl rfl (by kernel_rfl) Try.func4 (by kernel_rfl)
    (of_decide_eq_true (by kernel_rfl)) (by unfold Func.isWrapper; first | (rw [if_pos (by decide +kernel)]; kernel_rfl) | (rw [if_neg (by decide +kernel)]; exact ⟨rfl, rfl⟩))
    (fun os started H enc _ => lifted os started H enc)

/-- ████ THE STATEMENT ████ -/
theorem proved : Rows.DirRenamesSaid := over
#print axioms proved
end Go.Proofs.Ytiagbacmjiimpaa.dirRenames
