/-
  Right, Find, Number and Mark of package bad return the results and errors that the document specifies, for all arguments.
-/
import Derived.Test.YtocmbknccjnggaaRows
import Derived.Test.YtocmbknccjnggaaTell
import Derived.WalkKit
import Derived.ProofKit
import Derived.OpenShut
import Derived.ShutString
import Derived.ChangeOld
import Derived.Below
import Derived.SizedLaws
import Derived.RegionTactic
import Derived.Deep.RegionWith
import Derived.Deep.CutBlock
import Derived.ChangeAlike
namespace Go.Proofs.Ytocmbknccjnggaa.badTells
open Go.ChangeShapes Go.WideShapes Go.ChangeAt Go.RowKit Words Go.Proofs.Ytocmbknccjnggaa.Bad
open Go.ChangeMaps (open_string shut_string)
set_option linter.unusedVariables false

theorem own : ownKnob Try.prog.godebug = none := by kernel_rfl
theorem laidOut : laidOutB Try.prog = true := by kernel_rfl

set_option maxRecDepth 20000 in
set_option maxHeartbeats 8000000 in
/-- The walk: the Go text returns true and writes nothing that was there. -/
theorem walk (a0 : Int) (a1 : Option Addr) (len1 cap1 : Nat) (z1 : List Int) (a2 : Int) (w : World) (w0 : (Lit.int .i64 a0).wf = true) (w1 : Ints w w.heap.size a1 len1 cap1 z1) (w2 : (Lit.int .i64 a2).wf = true)  :
    Calls Try.prog 3 #[.int .i64 a0, .slice a1 len1 cap1, .int .i64 a2] w fun e w' => e = .returned (.bool true) ∧ Below w.heap.size w w' := by
  obtain ⟨i3, hi3, hz30, hz31, hz32⟩ := info_parts info3
  have L : Hid (z1.length = len1) := Lib.hid (Ints.len w1)
  obtain ⟨nM, hnM⟩ : ∃ k, (mval a0 z1 a2).length = k := ⟨_, rfl⟩
  have hf := fun wa (hb : Below w.heap.size w wa) => find7 _ _ _ _ a0 z1 a2 wa (Rd.below w1 hb (Nat.le_refl _))
  have hn := fun wa (hb : Below w.heap.size w wa) => number8 _ _ _ _ a0 z1 a2 wa (Rd.below w1 hb (Nat.le_refl _))
  have hm := fun wa (hb : Below w.heap.size w wa) => mark9 _ _ _ _ a0 z1 a2 wa (Rd.below w1 hb (Nat.le_refl _)) hb.size nM hnM
  have hr := fun wa (hb : Below w.heap.size w wa) => right10 _ _ _ _ a0 z1 wa (Rd.below w1 hb (Nat.le_refl _))
  have he := fun wa (hb : Below w.heap.size w wa) => eright11 _ _ _ _ a0 z1 wa (Rd.below w1 hb (Nat.le_refl _))
  have HC := Lib.hid (fun wa (hb : Below w.heap.size w wa) => contains13 _ _ _ _ z1 a2 wa (Rd.below w1 hb (Nat.le_refl _)))
  simp only [two] at hf hn
  cases hR : right a0 z1 with
  | false =>
    simp only [hR] at hr he
    have HR := Lib.hid hr
    have HE := Lib.hid he
    obtain ⟨r1, r2, r3, r4⟩ := refused (by decide) (cerr_form (x := a2) hR)
    have f1 := ferr_form (n := a2) hR
    have f2 := fval_no (show ferr a0 z1 a2 ≠ 0 by rw [f1]; decide)
    simp only [f1, f2] at hf
    simp only [r1, r2] at hn
    simp only [r3, r4] at hm
    obtain rfl : nM = 0 := by rw [← hnM, r4]; rfl
    clear hr he hR r1 r2 r3 r4 f1 f2 hnM
    have HF := Lib.hid hf
    have HN := Lib.hid hn
    have HM := Lib.hid hm
    clear hf hn hm
    go_enter Try.func3, Try.ntmps3
    go_wp2_with fail
    refine (HF.out w (Below.refl _ _)).mono ?_; rintro e w' ⟨rfl, rfl⟩
    go_wp2_with fail
    refine (HN.out w (Below.refl _ _)).mono ?_; rintro e w' ⟨rfl, rfl⟩
    go_wp2_with fail
    refine (HM.out w (Below.refl _ _)).mono ?_; rintro e wb ⟨A1, c1, rfl, ho, hb⟩
    have O1 := Lib.hid ho
    have B1 := Lib.hid hb
    clear ho hb
    go_wp2_with fail
    refine (HR.out wb B1.out).mono ?_; rintro e w' ⟨rfl, rfl⟩
    go_wp2_with fail
    refine (HE.out wb B1.out).mono ?_; rintro e w' ⟨rfl, rfl⟩
    go_wp2_with fail
    refine (HE.out wb B1.out).mono ?_; rintro e w' ⟨rfl, rfl⟩
    go_wp2_with fail
    go_ret
    exact ⟨ret_bool (by rfl), B1.out⟩
  | true =>
    simp only [hR] at hr he
    have HR := Lib.hid hr
    have HE := Lib.hid he
    have hbl := (right_iff.1 hR).1
    have hl := right_len hR
    have hI := (right_iff.1 hR).2
    rw [L.out] at hl
    clear hr he
    obtain ⟨b, rfl⟩ := Int.eq_ofNat_of_zero_le hbl.1
    have hga := goods_all hR
    obtain ⟨q, hq⟩ : ∃ q, (goods b z1).length = q := ⟨_, rfl⟩
    rw [Int.toNat_natCast, hq, L.out] at hga
    replace hga : q + len1 = b := by omega
    have hg := fun wa (hb : Below w.heap.size w wa) => egood12 _ _ _ _ b z1 wa (Rd.below w1 hb (Nat.le_refl _)) hb.size (by omega)
    simp only [hq] at hg
    have HG := Lib.hid hg
    have HK := Lib.hid (fun wa (hb : Below w.heap.size w wa) => clone14 _ _ _ _ z1 wa (Rd.below w1 hb (Nat.le_refl _)) hb.size (by omega))
    have hlb : len1 ≤ 4096 := by omega
    clear hg
    by_cases h0 : a2 < 0
    · have q1 : decide (a2 < 0) = true := by simp [h0]
      obtain ⟨r1, r2, r3, r4⟩ := refused (by decide) (cerr_range (x := a2) hR (.inl h0))
      have f1 := ferr_none (n := a2) hR (.inl h0)
      have f2 := fval_no (show ferr b z1 a2 ≠ 0 by rw [f1]; decide)
      simp only [f1, f2] at hf
      simp only [r1, r2] at hn
      simp only [r3, r4] at hm
      obtain rfl : nM = 0 := by rw [← hnM, r4]; rfl
      clear hR r1 r2 r3 r4 f1 f2 hnM h0
      have HF := Lib.hid hf
      have HN := Lib.hid hn
      have HM := Lib.hid hm
      clear hf hn hm
      go_enter Try.func3, Try.ntmps3
      go_wp2_with fail
      refine (HF.out w (Below.refl _ _)).mono ?_; rintro e w' ⟨rfl, rfl⟩
      go_wp2_with fail
      refine (HN.out w (Below.refl _ _)).mono ?_; rintro e w' ⟨rfl, rfl⟩
      go_wp2_with fail
      refine (HM.out w (Below.refl _ _)).mono ?_; rintro e wb ⟨A1, c1, rfl, ho, hb⟩
      have O1 := Lib.hid ho
      have B1 := Lib.hid hb
      clear ho hb
      go_wp2_with fail
      refine (HR.out wb B1.out).mono ?_; rintro e w' ⟨rfl, rfl⟩
      go_wp2_with fail
      refine (HE.out wb B1.out).mono ?_; rintro e w' ⟨rfl, rfl⟩
      go_wp2_with fail
      refine (HE.out wb B1.out).mono ?_; rintro e w' ⟨rfl, rfl⟩
      go_wp2_with fail
      refine (HG.out wb B1.out).mono ?_; rintro e wc ⟨A2, c2, rfl, ho, hb⟩
      have O2 := Lib.hid ho
      have D1 := Lib.hid hb
      have B2 := Lib.hid (B1.out.trans (hb.mono B1.out.size))
      clear ho hb
      go_wp2_with fail
      go_ret
      exact ⟨ret_bool (by rfl), B2.out⟩
    · have q1 : decide (a2 < 0) = false := by simp [h0]
      by_cases hb : (b : Int) ≤ a2
      · have q2 : decide ((q : Int) ≤ a2) = true := by simp only [decide_eq_true_eq]; omega
        have q3 : decide ((b : Int) ≤ a2) = true := by simp only [decide_eq_true_eq]; omega
        obtain ⟨r1, r2, r3, r4⟩ := refused (by decide) (cerr_range (x := a2) hR (.inr hb))
        have f1 := ferr_none (n := a2) hR (.inr (by rw [L.out]; omega))
        have f2 := fval_no (show ferr b z1 a2 ≠ 0 by rw [f1]; decide)
        simp only [f1, f2] at hf
        simp only [r1, r2] at hn
        simp only [r3, r4] at hm
        obtain rfl : nM = 0 := by rw [← hnM, r4]; rfl
        clear hR r1 r2 r3 r4 f1 f2 hnM h0 hb
        have HF := Lib.hid hf
        have HN := Lib.hid hn
        have HM := Lib.hid hm
        clear hf hn hm
        go_enter Try.func3, Try.ntmps3
        go_wp2_with fail
        refine (HF.out w (Below.refl _ _)).mono ?_; rintro e w' ⟨rfl, rfl⟩
        go_wp2_with fail
        refine (HN.out w (Below.refl _ _)).mono ?_; rintro e w' ⟨rfl, rfl⟩
        go_wp2_with fail
        refine (HM.out w (Below.refl _ _)).mono ?_; rintro e wb ⟨A1, c1, rfl, ho, hb⟩
        have O1 := Lib.hid ho
        have B1 := Lib.hid hb
        clear ho hb
        go_wp2_with fail
        refine (HR.out wb B1.out).mono ?_; rintro e w' ⟨rfl, rfl⟩
        go_wp2_with fail
        refine (HE.out wb B1.out).mono ?_; rintro e w' ⟨rfl, rfl⟩
        go_wp2_with fail
        refine (HE.out wb B1.out).mono ?_; rintro e w' ⟨rfl, rfl⟩
        go_wp2_with fail
        refine (HG.out wb B1.out).mono ?_; rintro e wc ⟨A2, c2, rfl, ho, hb⟩
        have O2 := Lib.hid ho
        have D1 := Lib.hid hb
        have B2 := Lib.hid (B1.out.trans (hb.mono B1.out.size))
        clear ho hb
        go_wp2_with fail
        go_ret
        exact ⟨ret_bool (by rfl), B2.out⟩
      · have q3 : decide ((b : Int) ≤ a2) = false := by simp only [decide_eq_false_iff_not]; omega
        by_cases hx : a2 ∈ z1
        · obtain ⟨r1, r2, r3, r4⟩ := dead hR (by omega) (by omega) hx
          simp only [r1, r2] at hn
          simp only [r3, r4] at hm
          rw [show decide (a2 ∈ z1) = true by simp [hx]] at HC
          obtain rfl : nM = 0 := by rw [← hnM, r4]; rfl
          clear r1 r2 r3 r4 hnM hx
          by_cases hqa : (q : Int) ≤ a2
          · have q2 : decide ((q : Int) ≤ a2) = true := by simp only [decide_eq_true_eq]; omega
            have f1 := ferr_none (n := a2) hR (.inr (by rw [L.out]; omega))
            have f2 := fval_no (show ferr b z1 a2 ≠ 0 by rw [f1]; decide)
            simp only [f1, f2] at hf
            clear hR f1 f2 h0 hb hqa
            have HF := Lib.hid hf
            have HN := Lib.hid hn
            have HM := Lib.hid hm
            clear hf hn hm
            go_enter Try.func3, Try.ntmps3
            go_wp2_with fail
            refine (HF.out w (Below.refl _ _)).mono ?_; rintro e w' ⟨rfl, rfl⟩
            go_wp2_with fail
            refine (HN.out w (Below.refl _ _)).mono ?_; rintro e w' ⟨rfl, rfl⟩
            go_wp2_with fail
            refine (HM.out w (Below.refl _ _)).mono ?_; rintro e wb ⟨A1, c1, rfl, ho, hb⟩
            have O1 := Lib.hid ho
            have B1 := Lib.hid hb
            clear ho hb
            go_wp2_with fail
            refine (HR.out wb B1.out).mono ?_; rintro e w' ⟨rfl, rfl⟩
            go_wp2_with fail
            refine (HE.out wb B1.out).mono ?_; rintro e w' ⟨rfl, rfl⟩
            go_wp2_with fail
            refine (HE.out wb B1.out).mono ?_; rintro e w' ⟨rfl, rfl⟩
            go_wp2_with fail
            refine (HG.out wb B1.out).mono ?_; rintro e wc ⟨A2, c2, rfl, ho, hb⟩
            have O2 := Lib.hid ho
            have D1 := Lib.hid hb
            have B2 := Lib.hid (B1.out.trans (hb.mono B1.out.size))
            clear ho hb
            go_wp2_with fail
            refine (HC.out wc B2.out).mono ?_; rintro e w' ⟨rfl, rfl⟩
            go_wp2_with fail
            go_ret
            exact ⟨ret_bool (by rfl), B2.out⟩
          · obtain ⟨k, rfl⟩ := Int.eq_ofNat_of_zero_le (show 0 ≤ a2 by omega)
            have q2 : decide ((q : Int) ≤ (k : Int)) = false := by simp only [decide_eq_false_iff_not]; omega
            have f1 := ferr_ok (n := (k : Int)) hR (by omega) (by rw [L.out]; omega)
            have HGF : Hid ((goods b z1)[k]? = some (find k z1)) := Lib.hid (by have := goods_find f1; rwa [Int.toNat_natCast, Int.toNat_natCast] at this)
            have f2 := fval_ok f1
            simp only [f1, f2] at hf
            generalize find (k : Int) z1 = y at *
            clear hR f1 f2 h0 hb
            have HF := Lib.hid hf
            have HN := Lib.hid hn
            have HM := Lib.hid hm
            clear hf hn hm
            go_enter Try.func3, Try.ntmps3
            go_wp2_with fail
            refine (HF.out w (Below.refl _ _)).mono ?_; rintro e w' ⟨rfl, rfl⟩
            go_wp2_with fail
            refine (HN.out w (Below.refl _ _)).mono ?_; rintro e w' ⟨rfl, rfl⟩
            go_wp2_with fail
            refine (HM.out w (Below.refl _ _)).mono ?_; rintro e wb ⟨A1, c1, rfl, ho, hb⟩
            have O1 := Lib.hid ho
            have B1 := Lib.hid hb
            clear ho hb
            go_wp2_with fail
            refine (HR.out wb B1.out).mono ?_; rintro e w' ⟨rfl, rfl⟩
            go_wp2_with fail
            refine (HE.out wb B1.out).mono ?_; rintro e w' ⟨rfl, rfl⟩
            go_wp2_with fail
            refine (HE.out wb B1.out).mono ?_; rintro e w' ⟨rfl, rfl⟩
            go_wp2_with fail
            refine (HG.out wb B1.out).mono ?_; rintro e wc ⟨A2, c2, rfl, ho, hb⟩
            have O2 := Lib.hid ho
            have D1 := Lib.hid hb
            have B2 := Lib.hid (B1.out.trans (hb.mono B1.out.size))
            clear ho hb
            have O2 := O2
            obtain ⟨g, cc, hv, _, _⟩ := own_form_pos O2.out (by omega)
            injection hv with hv1 hv2 hv3
            subst hv1 hv3
            have hc := O2.out.ints.cellAt rfl HGF.out
            rw [Nat.zero_add] at hc
            go_wp2_with fail
            refine (HC.out wc B2.out).mono ?_; rintro e w' ⟨rfl, rfl⟩
            go_wp2_with fail
            go_ret
            exact ⟨ret_bool (by rfl), B2.out⟩
        · obtain ⟨r1, r2, r3, r4⟩ := alive hR (by omega) (by omega) hx
          simp only [r1, r2] at hn
          simp only [r3, r4] at hm
          rw [show decide (a2 ∈ z1) = false by simp [hx]] at HC
          have HPL := Lib.hid (fun (w2 w3 : World) (e : Ending) => place_good (k := b) hI (by omega) (by omega) hx (w := w2) (w' := w3) (e := e))
          have HLA : Hid ((z1 ++ [a2]).length = len1 + 1) := Lib.hid (by rw [List.length_append, L.out]; rfl)
          have HSO := Lib.hid (sort_ins hI hx (by omega) (by omega))
          have hnM2 : nM = len1 + 1 := by rw [← hnM, r4, ins_length, L.out]
          subst hnM2
          generalize a2 - (cnt a2 z1 : Int) = v at *
          clear r1 r2 r3 r4 hnM hx
          by_cases hqa : (q : Int) ≤ a2
          · have q2 : decide ((q : Int) ≤ a2) = true := by simp only [decide_eq_true_eq]; omega
            have f1 := ferr_none (n := a2) hR (.inr (by rw [L.out]; omega))
            have f2 := fval_no (show ferr b z1 a2 ≠ 0 by rw [f1]; decide)
            simp only [f1, f2] at hf
            clear hR f1 f2 h0 hb hqa
            have HF := Lib.hid hf
            have HN := Lib.hid hn
            have HM := Lib.hid hm
            clear hf hn hm
            go_enter Try.func3, Try.ntmps3
            go_wp2_with fail
            refine (HF.out w (Below.refl _ _)).mono ?_; rintro e w' ⟨rfl, rfl⟩
            go_wp2_with fail
            refine (HN.out w (Below.refl _ _)).mono ?_; rintro e w' ⟨rfl, rfl⟩
            go_wp2_with fail
            refine (HM.out w (Below.refl _ _)).mono ?_; rintro e wb ⟨A1, c1, rfl, ho, hb⟩
            have O1 := Lib.hid ho
            have B1 := Lib.hid hb
            clear ho hb
            go_wp2_with fail
            refine (HR.out wb B1.out).mono ?_; rintro e w' ⟨rfl, rfl⟩
            go_wp2_with fail
            refine (HE.out wb B1.out).mono ?_; rintro e w' ⟨rfl, rfl⟩
            go_wp2_with fail
            refine (HE.out wb B1.out).mono ?_; rintro e w' ⟨rfl, rfl⟩
            go_wp2_with fail
            refine (HG.out wb B1.out).mono ?_; rintro e wc ⟨A2, c2, rfl, ho, hb⟩
            have O2 := Lib.hid ho
            have D1 := Lib.hid hb
            have B2 := Lib.hid (B1.out.trans (hb.mono B1.out.size))
            clear ho hb
            go_wp2_with fail
            refine (HC.out wc B2.out).mono ?_; rintro e w' ⟨rfl, rfl⟩
            go_wp2_with fail
            refine (HK.out wc B2.out).mono ?_; rintro e we ⟨A4, c4, rfl, ho, hb⟩
            have E1 : Hid (Below wc.heap.size wc (we.alloc (.cells #[.int .i64 (a2)] 3))) := Lib.hid (hb.alloc hb.size _)
            have O4 : Hid (OwnI (we.alloc (.cells #[.int .i64 (a2)] 3)) wc.heap.size A4 len1 c4 z1) := Lib.hid (own_below ho ((Below.refl _ _).alloc (Nat.le_refl _) _) (Nat.le_refl _))
            have HR4 := Lib.hid (Words.one_cell we 3 (a2))
            have hs4 : wc.heap.size ≤ (we.alloc (.cells #[.int .i64 (a2)] 3)).heap.size := E1.out.size
            clear ho hb
            go_wp2_with (first
              | (at_builtin; refine wpList_append_rd _ rfl (.tmp 140) (.tmp 142) 22 rfl wc.heap.size 3 i3 (.int .i64 0) 1 8 Try.underlying22 hi3 hz30 hz31 hz32 rfl (by decide) _ len1 (icells z1) rfl O4.out (we.heap.size + 1) (some ⟨we.heap.size, 0, none⟩) 1 1 (icells [a2]) rfl HR4.out (icells_one _) (by simp only [maxLen]; omega) (by omega) hs4 ?_
                 intro A5 c5 wf hown hg
                 obtain ⟨g5, cc5, hv5, _, _⟩ := own_form_pos hown (by omega)
                 injection hv5 with hv51 hv52 hv53
                 subst hv51 hv53
                 rw [← icells_append] at hown
                 have E2 := Lib.hid (below_grown E1.out O4.out hg hs4 (Nat.le_refl _))
                 have O5 : Hid (OwnI wf wc.heap.size (some ⟨g5, 0, none⟩) (len1 + 1) c5 (z1 ++ [a2])) := Lib.hid hown
                 clear hown hg))
            refine (sort15 wc.heap.size g5 (len1 + 1) c5 (z1 ++ [a2]) wf O5.out HLA.out (by omega)).mono ?_; rintro e wg ⟨rfl, ho, hg⟩
            rw [HSO.out] at ho
            have E3 := Lib.hid (below_grown E2.out O5.out hg E2.out.size (Nat.le_refl _))
            have O6 := Lib.hid ho
            have D2 := Lib.hid (D1.out.trans (E3.out.mono D1.out.size))
            have B3 := Lib.hid (B2.out.trans (E3.out.mono B2.out.size))
            clear ho hg
            go_wp2_with fail
            refine (index16 _ _ _ _ _ (a2) wg (Rd.below O2.out.ints E3.out (Nat.le_refl _))).mono ?_; rintro e w' hx; obtain ⟨rfl, rfl⟩ := HPL.out _ _ _ hx
            clear hx
            go_wp2_with fail
            refine (equal17 _ _ _ _ _ _ _ _ _ _ wg (Rd.below O1.out.ints D2.out (Nat.le_refl _)) O6.out.ints).mono ?_; rintro e wh hq; obtain ⟨rfl, nd, hwh⟩ := EqB.yes hq rfl
            have bw : Below wg.heap.size wg wh := by rw [hwh]; exact below_drewN (Below.refl _ _) _
            have B4 := Lib.hid (B3.out.trans (bw.mono B3.out.size))
            clear hq hwh bw
            go_wp2_with fail
            go_ret
            exact ⟨ret_bool (by rfl), B4.out⟩
          · obtain ⟨k, rfl⟩ := Int.eq_ofNat_of_zero_le (show 0 ≤ a2 by omega)
            have q2 : decide ((q : Int) ≤ (k : Int)) = false := by simp only [decide_eq_false_iff_not]; omega
            have f1 := ferr_ok (n := (k : Int)) hR (by omega) (by rw [L.out]; omega)
            have HGF : Hid ((goods b z1)[k]? = some (find k z1)) := Lib.hid (by have := goods_find f1; rwa [Int.toNat_natCast, Int.toNat_natCast] at this)
            have f2 := fval_ok f1
            simp only [f1, f2] at hf
            generalize find (k : Int) z1 = y at *
            clear hR f1 f2 h0 hb
            have HF := Lib.hid hf
            have HN := Lib.hid hn
            have HM := Lib.hid hm
            clear hf hn hm
            go_enter Try.func3, Try.ntmps3
            go_wp2_with fail
            refine (HF.out w (Below.refl _ _)).mono ?_; rintro e w' ⟨rfl, rfl⟩
            go_wp2_with fail
            refine (HN.out w (Below.refl _ _)).mono ?_; rintro e w' ⟨rfl, rfl⟩
            go_wp2_with fail
            refine (HM.out w (Below.refl _ _)).mono ?_; rintro e wb ⟨A1, c1, rfl, ho, hb⟩
            have O1 := Lib.hid ho
            have B1 := Lib.hid hb
            clear ho hb
            go_wp2_with fail
            refine (HR.out wb B1.out).mono ?_; rintro e w' ⟨rfl, rfl⟩
            go_wp2_with fail
            refine (HE.out wb B1.out).mono ?_; rintro e w' ⟨rfl, rfl⟩
            go_wp2_with fail
            refine (HE.out wb B1.out).mono ?_; rintro e w' ⟨rfl, rfl⟩
            go_wp2_with fail
            refine (HG.out wb B1.out).mono ?_; rintro e wc ⟨A2, c2, rfl, ho, hb⟩
            have O2 := Lib.hid ho
            have D1 := Lib.hid hb
            have B2 := Lib.hid (B1.out.trans (hb.mono B1.out.size))
            clear ho hb
            have O2 := O2
            obtain ⟨g, cc, hv, _, _⟩ := own_form_pos O2.out (by omega)
            injection hv with hv1 hv2 hv3
            subst hv1 hv3
            have hc := O2.out.ints.cellAt rfl HGF.out
            rw [Nat.zero_add] at hc
            go_wp2_with fail
            refine (HC.out wc B2.out).mono ?_; rintro e w' ⟨rfl, rfl⟩
            go_wp2_with fail
            refine (HK.out wc B2.out).mono ?_; rintro e we ⟨A4, c4, rfl, ho, hb⟩
            have E1 : Hid (Below wc.heap.size wc (we.alloc (.cells #[.int .i64 (k : Int)] 3))) := Lib.hid (hb.alloc hb.size _)
            have O4 : Hid (OwnI (we.alloc (.cells #[.int .i64 (k : Int)] 3)) wc.heap.size A4 len1 c4 z1) := Lib.hid (own_below ho ((Below.refl _ _).alloc (Nat.le_refl _) _) (Nat.le_refl _))
            have HR4 := Lib.hid (Words.one_cell we 3 (k : Int))
            have hs4 : wc.heap.size ≤ (we.alloc (.cells #[.int .i64 (k : Int)] 3)).heap.size := E1.out.size
            clear ho hb
            go_wp2_with (first
              | (at_builtin; refine wpList_append_rd _ rfl (.tmp 140) (.tmp 142) 22 rfl wc.heap.size 3 i3 (.int .i64 0) 1 8 Try.underlying22 hi3 hz30 hz31 hz32 rfl (by decide) _ len1 (icells z1) rfl O4.out (we.heap.size + 1) (some ⟨we.heap.size, 0, none⟩) 1 1 (icells [(k : Int)]) rfl HR4.out (icells_one _) (by simp only [maxLen]; omega) (by omega) hs4 ?_
                 intro A5 c5 wf hown hg
                 obtain ⟨g5, cc5, hv5, _, _⟩ := own_form_pos hown (by omega)
                 injection hv5 with hv51 hv52 hv53
                 subst hv51 hv53
                 rw [← icells_append] at hown
                 have E2 := Lib.hid (below_grown E1.out O4.out hg hs4 (Nat.le_refl _))
                 have O5 : Hid (OwnI wf wc.heap.size (some ⟨g5, 0, none⟩) (len1 + 1) c5 (z1 ++ [(k : Int)])) := Lib.hid hown
                 clear hown hg))
            refine (sort15 wc.heap.size g5 (len1 + 1) c5 (z1 ++ [(k : Int)]) wf O5.out HLA.out (by omega)).mono ?_; rintro e wg ⟨rfl, ho, hg⟩
            rw [HSO.out] at ho
            have E3 := Lib.hid (below_grown E2.out O5.out hg E2.out.size (Nat.le_refl _))
            have O6 := Lib.hid ho
            have D2 := Lib.hid (D1.out.trans (E3.out.mono D1.out.size))
            have B3 := Lib.hid (B2.out.trans (E3.out.mono B2.out.size))
            clear ho hg
            go_wp2_with fail
            refine (index16 _ _ _ _ _ (k : Int) wg (Rd.below O2.out.ints E3.out (Nat.le_refl _))).mono ?_; rintro e w' hx; obtain ⟨rfl, rfl⟩ := HPL.out _ _ _ hx
            clear hx
            go_wp2_with fail
            refine (equal17 _ _ _ _ _ _ _ _ _ _ wg (Rd.below O1.out.ints D2.out (Nat.le_refl _)) O6.out.ints).mono ?_; rintro e wh hq; obtain ⟨rfl, nd, hwh⟩ := EqB.yes hq rfl
            have bw : Below wg.heap.size wg wh := by rw [hwh]; exact below_drewN (Below.refl _ _) _
            have B4 := Lib.hid (B3.out.trans (bw.mono B3.out.size))
            clear hq hwh bw
            go_wp2_with fail
            go_ret
            exact ⟨ret_bool (by rfl), B4.out⟩

set_option maxRecDepth 100000 in
theorem contract (H : Type) (enc : TypeId × Value → H) (W : World) (base : Nat) (args : Array Value) (ds gs : List (DataW H)) (before : List MemPlace)
    (hval : ∀ (j : Nat) t v, Try.f3.params[j]? = some t → args[j]? = some v → Value.okWide Try.prog W .any base t v)
    (hW : DataW.Whole enc Try.prog Try.f3.params.toList Rows.badTellsSpec.vars false W args.toList ds gs before) :
    Calls Try.prog 3 args W fun e W' => ∃ v, e = .returned v ∧ Rows.badTellsSpec.post enc Try.prog Try.f3 false true false false W args v W' := by
  have hW' := hW
  obtain ⟨p, q, hA0, hV, rfl, hfz, hnd⟩ := hW
  have hA : DataW.TrodAll enc Try.prog W 0 (fun _ => true) true Try.f3.params.toList args.toList ds p := hA0
  rw [Try.params3] at hA hval
  obtain ⟨v0, vs0, d0, ds0, p0, q0, hargs, rfl, rfl, h0, rr0⟩ := trodAll_cons hA
  obtain ⟨v1, vs1, d1, ds1, p1, q1, rfl, rfl, rfl, h1, rr1⟩ := trodAll_cons rr0
  obtain ⟨v2, vs2, d2, ds2, p2, q2, rfl, rfl, rfl, h2, rr2⟩ := trodAll_cons rr1
  obtain ⟨rfl, rfl, rfl⟩ := trodAll_nil rr2
  obtain rfl : args = #[v0, v1, v2] := by cases args; simp_all
  obtain ⟨rfl, rfl⟩ := trodVars_none hV
  obtain ⟨a0, rfl, rfl, rfl, w0⟩ := open_int Try.underlying3 (hval 0 3 v0 rfl rfl) h0
  obtain ⟨a1, len1, cap1, rfl⟩ := okWide_slice Try.underlying22 (hval 1 22 v1 rfl rfl)
  have k1 := h1
  have lt1 : ∀ x ∈ p1, x.block < W.heap.size := by obtain ⟨m, hm⟩ := k1; exact DataW.trod_lt m _ _ _ hm
  obtain ⟨⟨z1, w1⟩, u1⟩ := open_ints h1
  obtain ⟨a2, rfl, rfl, rfl, w2⟩ := open_int Try.underlying3 (hval 2 3 v2 rfl rfl) h2
  clear hA0
  refine (walk a0 a1 len1 cap1 z1 a2 W w0 w1 w2).mono fun e W' ⟨he, bel⟩ => ?_
  subst he
  exact ⟨_, rfl, _, _, _, [], _, [], hW', trodAll_mk1 (shut_bool Try.underlying4 _), (trodAll_cons_mk (shut_int Try.underlying3 w0) (trodAll_cons_mk (Below.trod laidOut (by kernel_rfl) (of_decide_eq_true (by kernel_rfl)) k1 bel lt1) (trodAll_cons_mk (shut_int Try.underlying3 w2) trodAll_mk0))), rfl, bel.frame _, fun h => by cases h⟩

set_option maxRecDepth 100000 in
theorem lifted (os : Os) (started : os.Started) (H : Type) (enc : TypeId × Value → H) :
    ReturnsInHanded {} Try.checked os 3 .any (Rows.badTellsSpec.pre6 enc Try.prog Try.f3 Rows.badTellsRow.domain false) (Rows.badTellsSpec.post enc Try.prog Try.f3 false true false false) := by
  refine returnsInHanded_of_change (C := Try.checked) own started (by kernel_rfl) Try.func3
    (ChangeSpec.witness6 (enc := enc) (C := Try.checked) false ⟨#[], #[.int .i64 0, .slice none 0 0, .int .i64 0], []⟩ 8 (by kernel_rfl) (by kernel_rfl) (by kernel_rfl) (by kernel_rfl)) ?_
  intro W base args ds gs before hval hW _ _
  exact contract H enc W base args ds gs before hval hW

theorem over : Rows.badTellsRow.holds Try.pinned (OpenSpec.ofChange Rows.badTellsSpec) :=
  OpenClaim.holds_of_wide 3 Try.f3 rfl rfl rfl rfl rfl rfl rfl ⟨rfl, rfl, rfl, rfl, rfl⟩ rfl rfl rfl rfl rfl (by kernel_rfl) Try.func3 (by kernel_rfl)
    (of_decide_eq_true (by kernel_rfl)) (by unfold Func.isWrapper; first | (rw [if_pos (by decide +kernel)]; kernel_rfl) | (rw [if_neg (by decide +kernel)]; exact ⟨rfl, rfl⟩))
    (fun os started H enc _ => lifted os started H enc)

/-- ████ THE STATEMENT ████ -/
theorem proved : Rows.BadTellsSaid := over
#print axioms proved
end Go.Proofs.Ytocmbknccjnggaa.badTells
