/-
  As many writes fit as there are pages, whatever is trimmed between; all others are refused.
-/
import Derived.Test.YtegllglfnngijaaRows
import Derived.Test.YtegllglfnngijaaKeep
import Derived.WalkKit
import Derived.ProofKit
import Derived.OpenShut
import Derived.ShutString
import Derived.ChangeOld
import Derived.Below
import Derived.SizedLaws
import Derived.RegionTactic
import Derived.Deep.RegionWith
import Derived.Deep.CutBlock
import Derived.ChangeAlike
namespace Go.Proofs.Ytegllglfnngijaa.remapFull
open Go.ChangeShapes Go.WideShapes Go.ChangeAt Go.RowKit Words Go.Proofs.Ytegllglfnngijaa.Rem
open Go.ChangeMaps (open_string shut_string)
set_option linter.unusedVariables false

theorem own : ownKnob Try.prog.godebug = none := by kernel_rfl
theorem laidOut : laidOutB Try.prog = true := by kernel_rfl

set_option maxRecDepth 20000 in
set_option maxHeartbeats 4000000 in
/-- The walk: the Go text returns true and writes nothing that was there. -/
theorem walk (a0 : Int) (a1 : Option Addr) (len1 cap1 : Nat) (z1 : List Nop) (w : World) (w0 : (Lit.int .i64 a0).wf = true) (w1 : Ops w w.heap.size a1 len1 cap1 z1) (r1 : cap1 * 16 ≤ 140737488351232) :
    Calls Try.prog 7 #[.int .i64 a0, .slice a1 len1 cap1] w fun e w' => e = .returned (.bool true) ∧ Below w.heap.size w w' := by
  have hn : len1 ≤ 8796093022208 := by have := Words.Rd.le w1; omega
  have HAL := Lib.hid (alive14 w)
  have HP8 := (fun x (b : Below w.heap.size w x) => play8 _ _ _ _ z1 a0 x (Words.Rd.below w1 b (Nat.le_refl _)) b.size hn)
  unfold Played at HP8
  have lpa := pAt_length a0 z1
  have s1 := size25_of lpa
  have o1 := arr_all (pAt a0 z1)
  cases hpk : pok a0 with
  | false =>
    obtain ⟨e1, e2, e3, e4⟩ := bad_of hpk z1
    simp only [e1, e2, e3, e4, List.length_nil] at HP8
    simp only [e4] at lpa s1 o1
    have HP8 := Lib.hid HP8
    clear w0 w1 r1 hn e1 e2 e3 e4 hpk
    go_enter Try.func7, Try.ntmps7
    go_wp2_with fail
    refine (HAL.out).mono ?_; rintro e x1 ⟨rfl, b1⟩
    have B1 := Lib.hid b1
    clear b1
    go_wp2_with fail
    refine (HP8.out _ B1.out).mono ?_; rintro e x2 ⟨A1, c1, A2, c2, rfl, i1, i2, b2⟩
    have B2 := Lib.hid ((next_below B1.out b2 B1.out.size).alloc (next_below B1.out b2 B1.out.size).size (.cells (icells zero16).toArray 25))
    clear i1 i2 b2
    go_wp2_with (refine wpList_store_new rfl 25 (.tmp 6) (.tmp 19) rfl x2 (icells zero16).toArray rfl rfl 25 (icells zero16).toArray s1 (z16_size lpa) o1 ?_)
    go_ret
    exact ⟨rfl, B2.out⟩
  | true =>
    obtain ⟨P, wr0, G⟩ := good_of hpk z1
    obtain rfl := G.pg
    have hpl := w1.len
    have hel : (errs P [] z1).length = len1 := by rw [errs_length]; exact hpl
    simp only [G.err, G.code, hel, G.at_] at HP8
    have HP8 := Lib.hid HP8
    rw [G.at_] at lpa s1 o1
    have HFA := Lib.hid (fun k o ho hw => full_at (P := P) (l := z1) (k := k) (o := o) ho hw)
    have HCY := Lib.hid (fun k o ho hw => cnt_yes (l := z1) (k := k) (o := o) ho hw)
    have HCN := Lib.hid (fun k o ho hw => cnt_no (l := z1) (k := k) (o := o) ho hw)
    have HCL := Lib.hid (fun k => cnt_le z1 k)
    have hP := G.le
    have H := Lib.hid w1
    have L := Lib.hid hpl
    generalize pNo P z1 = pn at *
    clear w0 w1 r1 hpk G hpl hel
    go_enter Try.func7, Try.ntmps7
    go_wp2_with fail
    refine (HAL.out).mono ?_; rintro e x1 ⟨rfl, b1⟩
    have B1 := Lib.hid b1
    clear b1
    go_wp2_with fail
    refine (HP8.out _ B1.out).mono ?_; rintro e x2 ⟨A1, c1, A2, c2, rfl, i1, i2, b2⟩
    have B2 := Lib.hid ((next_below B1.out b2 B1.out.size).alloc (next_below B1.out b2 B1.out.size).size (.cells (icells (ats wr0)).toArray 25))
    obtain ⟨x3, h3⟩ : ∃ x3, x2.alloc (.cells (icells (ats wr0)).toArray 25) = x3 := ⟨_, rfl⟩
    have I1 : Ints x3 x3.heap.size A1 len1 c1 (errs P [] z1) := h3 ▸ ints_next i1 ((Below.refl _ _).alloc (Nat.le_refl _) _)
    have I1 := Lib.hid I1
    rw [h3] at B2
    clear i1 i2 b2
    go_wp2_with (first
      | (refine wpList_store_new rfl 25 (.tmp 6) (.tmp 19) rfl x2 (icells (ats wr0)).toArray rfl rfl 25 (icells zero16).toArray s1 (z16_size lpa) o1 ?_; rw [h3]; clear h3))
    go_loopw [9, 35] (fun n i wr => ∃ (k : Nat), n = .int .i64 (cnt z1 k : Nat) ∧ i = .int .i64 k ∧ k ≤ len1 ∧ Below x3.heap.size x3 wr) (fun _ i _ => (len1 - intOf i).toNat)
    case atStart => exact ⟨0, by rw [cnt_zero]; rfl, rfl, by omega, Below.refl _ _⟩
    case round =>
      obtain ⟨k, rfl, rfl, hk, hb⟩ := hrel
      have HB := Lib.hid hb
      clear hb
      by_cases hlt : k < len1
      · obtain ⟨gl, ol, rfl, _, _⟩ := Words.Rd.row H.out (by omega)
        obtain ⟨o, ho⟩ : ∃ o, z1[k]? = some o := ⟨_, List.getElem?_eq_getElem (by rw [L.out]; exact hlt)⟩
        have BF := Lib.hid (next_below B2.out HB.out B2.out.size)
        obtain ⟨c0, c1'⟩ := Ops.cells (Words.Rd.below H.out BF.out (Nat.le_refl _)) rfl ho
        have HO := Lib.hid ho
        clear ho
        obtain ⟨kd, nn⟩ := o
        have c0 : wr.cell? ⟨gl, ol + k * 2, none⟩ = some (.int .i64 kd) := c0
        have c1' : wr.cell? ⟨gl, ol + k * 2 + 1, none⟩ = some (.int .i64 nn) := c1'
        have B3 := Lib.hid (HB.out.alloc HB.out.size (.cells #[.int .i64 kd, .int .i64 nn] 37))
        cases hw : isW ⟨kd, nn⟩ with
        | false =>
          have HN := Lib.hid (HCN.out k _ HO.out hw)
          have hno : ¬ (kd = 1 ∧ 0 ≤ nn ∧ nn < 16) := fun h => by rw [isW_iff.2 h] at hw; cases hw
          clear hw
          generalize cnt z1 k = cn at *
          by_cases hk1 : kd = 1
          · subst hk1
            by_cases hn0 : nn < 0
            · go_wp2_with fail
              go_roundw
              case rel => exact ⟨k + 1, by rw [HN.out], by go_num, by omega, B3.out⟩
              case measure => simp [intOf]; omega
            · have hn1 : nn ≥ 16 := by omega
              go_wp2_with fail
              go_roundw
              case rel => exact ⟨k + 1, by rw [HN.out], by go_num, by omega, B3.out⟩
              case measure => simp [intOf]; omega
          · have hkb : (kd != 1) = true := by rw [bne_iff_ne]; exact hk1
            clear hk1
            go_wp2_with fail
            go_roundw
            case rel => exact ⟨k + 1, by rw [HN.out], by go_num, by omega, B3.out⟩
            case measure => simp [intOf]; omega
        | true =>
          obtain ⟨hk1, hn0, hn1⟩ := isW_iff.1 hw
          have hk1 : kd = 1 := hk1
          have hn0 : 0 ≤ nn := hn0
          have hn1 : nn < 16 := hn1
          subst hk1
          have HN := Lib.hid (HCY.out k _ HO.out hw)
          have HE := Lib.hid (HFA.out k _ HO.out hw)
          have hcl := HCL.out k
          obtain ⟨g1, o1', rfl, _, _⟩ := Words.Rd.row I1.out (by omega)
          have hq0 : ¬ nn < 0 := by omega
          have hq1 : ¬ nn ≥ 16 := by omega
          clear hw
          generalize cnt z1 k = cn at *
          by_cases hc : cn < P
          · have he := HE.out
            rw [if_pos hc] at he
            have d0 := Ints.cellAt (ints_next I1.out B3.out) rfl he
            have hdc : decide ((cn : Int) < (P : Int)) = true := decide_eq_true (by omega)
            clear he
            go_wp2_with fail
            go_roundw
            case rel => exact ⟨k + 1, by rw [HN.out]; go_num, by go_num, by omega, B3.out⟩
            case measure => simp [intOf]; omega
          · have he := HE.out
            rw [if_neg hc] at he
            have d0 := Ints.cellAt (ints_next I1.out B3.out) rfl he
            have hdc : decide ((cn : Int) < (P : Int)) = false := decide_eq_false (by omega)
            clear he
            go_wp2_with fail
            go_roundw
            case rel => exact ⟨k + 1, by rw [HN.out]; go_num, by go_num, by omega, B3.out⟩
            case measure => simp [intOf]; omega
      · have BF := Lib.hid (next_below B2.out HB.out B2.out.size)
        go_wp2_with fail
        go_ret
        exact ⟨rfl, BF.out⟩

set_option maxRecDepth 100000 in
theorem contract (H : Type) (enc : TypeId × Value → H) (W : World) (base : Nat) (args : Array Value) (ds gs : List (DataW H)) (before : List MemPlace)
    (hval : ∀ (j : Nat) t v, Try.f7.params[j]? = some t → args[j]? = some v → Value.okWide Try.prog W .any base t v)
    (hW : DataW.Whole enc Try.prog Try.f7.params.toList Rows.remapFullSpec.vars false W args.toList ds gs before) (hsz : (DataW.weightsEach Try.prog (Try.f7.params.toList ++ Rows.remapFullSpec.plain.varTypes Try.prog) (ds ++ gs)).all (· ≤ reachBytes) = true) :
    Calls Try.prog 7 args W fun e W' => ∃ v, e = .returned v ∧ Rows.remapFullSpec.post enc Try.prog Try.f7 false true false false W args v W' := by
  have hW' := hW
  obtain ⟨p, q, hA0, hV, rfl, hfz, hnd⟩ := hW
  have hA : DataW.TrodAll enc Try.prog W 0 (fun _ => true) true Try.f7.params.toList args.toList ds p := hA0
  rw [Try.params7] at hA hval hsz
  obtain ⟨v0, vs0, d0, ds0, p0, q0, hargs, rfl, rfl, h0, rr0⟩ := trodAll_cons hA
  obtain ⟨v1, vs1, d1, ds1, p1, q1, rfl, rfl, rfl, h1, rr1⟩ := trodAll_cons rr0
  obtain ⟨rfl, rfl, rfl⟩ := trodAll_nil rr1
  obtain rfl : args = #[v0, v1] := by cases args; simp_all
  obtain ⟨rfl, rfl⟩ := trodVars_none hV
  obtain ⟨a0, rfl, rfl, rfl, w0⟩ := open_int Try.underlying3 (hval 0 3 v0 rfl rfl) h0
  obtain ⟨a1, len1, cap1, rfl⟩ := okWide_slice Try.underlying22 (hval 1 22 v1 rfl rfl)
  have k1 := h1
  have lt1 : ∀ x ∈ p1, x.block < W.heap.size := by obtain ⟨m, hm⟩ := k1; exact DataW.trod_lt m _ _ _ hm
  obtain ⟨⟨z1, w1⟩, u1⟩ := open_ops h1
  have r1 := reach_ops hsz (j := 1) rfl rfl u1
  clear hA0
  refine (walk a0 a1 len1 cap1 z1 W w0 w1 r1).mono fun e W' ⟨he, bel⟩ => ?_
  subst he
  exact ⟨_, rfl, _, _, _, [], _, [], hW', trodAll_mk1 (shut_bool Try.underlying4 _), (trodAll_cons_mk (shut_int Try.underlying3 w0) (trodAll_cons_mk (Below.trod laidOut (by kernel_rfl) (of_decide_eq_true (by kernel_rfl)) k1 bel lt1) trodAll_mk0)), rfl, bel.frame _, fun h => by cases h⟩

set_option maxRecDepth 100000 in
theorem lifted (os : Os) (started : os.Started) (H : Type) (enc : TypeId × Value → H) :
    ReturnsInHanded {} Try.checked os 7 .any (Rows.remapFullSpec.pre6 enc Try.prog Try.f7 Rows.remapFullRow.domain false) (Rows.remapFullSpec.post enc Try.prog Try.f7 false true false false) := by
  refine returnsInHanded_of_change_sized (C := Try.checked) own started (by kernel_rfl) Try.func7
    (ChangeSpec.witness6 (enc := enc) (C := Try.checked) false ⟨#[], #[.int .i64 0, .slice none 0 0], []⟩ 8 (by kernel_rfl) (by kernel_rfl) (by kernel_rfl) (by kernel_rfl)) ?_
  intro W base args ds gs before hval hW _ hsz _
  exact contract H enc W base args ds gs before hval hW hsz

theorem over : Rows.remapFullRow.holds Try.pinned (OpenSpec.ofChange Rows.remapFullSpec) :=
  OpenClaim.holds_of_wide 7 Try.f7 rfl rfl rfl rfl rfl rfl rfl ⟨rfl, rfl, rfl, rfl, rfl⟩ rfl rfl rfl rfl rfl (by kernel_rfl) Try.func7 (by kernel_rfl)
    (of_decide_eq_true (by kernel_rfl)) (by unfold Func.isWrapper; first | (rw [if_pos (by decide +kernel)]; kernel_rfl) | (rw [if_neg (by decide +kernel)]; exact ⟨rfl, rfl⟩))
    (fun os started H enc _ => lifted os started H enc)

/-- ████ THE STATEMENT ████ -/
theorem proved : Rows.RemapFullSaid := over
#print axioms proved
end Go.Proofs.Ytegllglfnngijaa.remapFull
