/-
  Marking a block as bad shifts only the numbers above it, and the order of marking does not matter, for all arguments.
-/
import Derived.Test.YtocmbknccjnggaaRows
import Derived.Test.YtocmbknccjnggaaFrame
import Derived.WalkKit
import Derived.ProofKit
import Derived.OpenShut
import Derived.ShutString
import Derived.ChangeOld
import Derived.Below
import Derived.SizedLaws
import Derived.RegionTactic
import Derived.Deep.RegionWith
import Derived.Deep.CutBlock
import Derived.ChangeAlike
namespace Go.Proofs.Ytocmbknccjnggaa.badMark
open Go.ChangeShapes Go.WideShapes Go.ChangeAt Go.RowKit Words Go.Proofs.Ytocmbknccjnggaa.Bad
open Go.ChangeMaps (open_string shut_string)
set_option linter.unusedVariables false

theorem own : ownKnob Try.prog.godebug = none := by kernel_rfl
theorem laidOut : laidOutB Try.prog = true := by kernel_rfl

set_option maxRecDepth 20000 in
set_option maxHeartbeats 8000000 in
/-- The walk: the Go text returns true and writes nothing that was there. -/
theorem walk (a0 : Int) (a1 : Option Addr) (len1 cap1 : Nat) (z1 : List Int) (a2 : Int) (a3 : Int) (a4 : Int) (w : World) (w0 : (Lit.int .i64 a0).wf = true) (w1 : Ints w w.heap.size a1 len1 cap1 z1) (w2 : (Lit.int .i64 a2).wf = true) (w3 : (Lit.int .i64 a3).wf = true) (w4 : (Lit.int .i64 a4).wf = true)  :
    Calls Try.prog 5 #[.int .i64 a0, .slice a1 len1 cap1, .int .i64 a2, .int .i64 a3, .int .i64 a4] w fun e w' => e = .returned (.bool true) ∧ Below w.heap.size w w' := by
  have HA := Lib.hid (alive18 w)
  obtain ⟨M, hM⟩ : ∃ M, mval a0 z1 a2 = M := ⟨_, rfl⟩
  obtain ⟨nM, hnM⟩ : ∃ k, (mval a0 z1 a2).length = k := ⟨_, rfl⟩
  have hm1 := fun wa (hb : Below w.heap.size w wa) => mark9 _ _ _ _ a0 z1 a2 wa (Rd.below w1 hb (Nat.le_refl _)) hb.size nM hnM
  rw [hM] at hm1 hnM
  by_cases he : merr a0 z1 a2 = 0
  · have hMi : M = ins a2 z1 := by rw [← hM]; exact mval_ok he
    have hMr : right a0 M = true := by rw [hMi]; exact ins_right he
    obtain ⟨Y, hY⟩ : ∃ Y, mval a0 z1 a3 = Y := ⟨_, rfl⟩
    obtain ⟨nY, hnY⟩ : ∃ k, (mval a0 z1 a3).length = k := ⟨_, rfl⟩
    obtain ⟨X, hX⟩ : ∃ X, mval a0 M a3 = X := ⟨_, rfl⟩
    obtain ⟨nX, hnX⟩ : ∃ k, (mval a0 M a3).length = k := ⟨_, rfl⟩
    obtain ⟨Z, hZ⟩ : ∃ Z, mval a0 Y a2 = Z := ⟨_, rfl⟩
    obtain ⟨nZ, hnZ⟩ : ∃ k, (mval a0 Y a2).length = k := ⟨_, rfl⟩
    have hf1 := fun wb (hb : Below w.heap.size w wb) => find7 _ _ _ _ a0 z1 a4 wb (Rd.below w1 hb (Nat.le_refl _))
    have hf2 := fun B A c wb (h : Ints wb B A nM c M) => find7 B A nM c a0 M a4 wb h
    have hm2 := fun B A c wb (h : Ints wb B A nM c M) (hB : B ≤ wb.heap.size) => mark9 B A nM c a0 M a3 wb h hB nX hnX
    have hm3 := fun wc (hb : Below w.heap.size w wc) => mark9 _ _ _ _ a0 z1 a3 wc (Rd.below w1 hb (Nat.le_refl _)) hb.size nY hnY
    have hm4 := fun B A c wd (h : Ints wd B A nY c Y) (hB : B ≤ wd.heap.size) => mark9 B A nY c a0 Y a2 wd h hB nZ hnZ
    have hr := fun B A c wf (h : Ints wf B A nM c M) => right10 B A nM c a0 M wf h
    simp only [hMr] at hr
    simp only [two] at hf1 hf2
    simp only [hX] at hm2
    simp only [hY] at hm3
    simp only [hZ] at hm4
    rw [he] at hm1
    have HM1 := Lib.hid hm1
    have HR := Lib.hid hr
    have hins := find_ins a2 z1 a4
    rw [← hMi] at hins
    have key : merr a0 M a3 = 0 → merr a0 z1 a3 = 0 ∧ merr a0 Y a2 = 0 ∧ X = Z := fun h => by
      obtain ⟨_, h0, h1, hm⟩ := merr_zero h
      obtain ⟨hr1, g0, g1, gm⟩ := merr_zero he
      rw [hMi, mem_ins] at hm
      have e1 : merr a0 z1 a3 = 0 := merr_ok hr1 h0 h1 (fun hh => hm (.inr hh))
      have hYi : Y = ins a3 z1 := by rw [← hY]; exact mval_ok e1
      have e2 : merr a0 Y a2 = 0 := by
        rw [hYi]
        refine merr_ok (ins_right e1) g0 g1 (fun hh => ?_)
        rcases mem_ins.1 hh with e | e
        · exact hm (.inl e.symm)
        · exact gm e
      refine ⟨e1, e2, ?_⟩
      rw [← hX, ← hZ, mval_ok h, mval_ok e2, hMi, hYi]
      exact ins_comm (fun e => hm (.inl e)) z1
    clear hm1 hr he hMr hM hnM hX hY hZ hnX hnY hnZ hMi
    by_cases hf : ferr a0 z1 a4 = 0
    · by_cases hg : ferr a0 M a4 = 0
      · simp only [hf, fval_ok hf] at hf1
        simp only [hg, fval_ok hg] at hf2
        by_cases hlt : find a4 z1 < a2
        · simp only [hins.1 hlt] at hf2
          have q1 : decide (find a4 z1 < a2) = true := by simp [hlt]
          have q2 : decide (a2 ≤ find a4 z1) = false := by simp; omega
          generalize find a4 z1 = was at *
          clear hf hg hlt
          by_cases hh : merr a0 M a3 = 0
          · obtain ⟨e1, e2, e3⟩ := key hh
            simp only [hh] at hm2
            simp only [e1] at hm3
            simp only [e2] at hm4
            have HXZ := Lib.hid e3
            have HF1 := Lib.hid hf1
            have HF2 := Lib.hid hf2
            have HM2 := Lib.hid hm2
            have HM3 := Lib.hid hm3
            have HM4 := Lib.hid hm4
            clear hf1 hf2 hm2 hm3 hm4 hins key
            clear hh e1 e2 e3
            go_enter Try.func5, Try.ntmps5
            go_wp2_with fail
            refine (HA.out).mono ?_; rintro e wa ⟨rfl, hb⟩
            have B1 := Lib.hid hb
            clear hb
            go_wp2_with fail
            refine (HM1.out wa B1.out).mono ?_; rintro e wb ⟨A1, c1, rfl, ho, hb⟩
            have O1 := Lib.hid ho
            have B2 := Lib.hid (B1.out.trans (hb.mono B1.out.size))
            clear ho hb
            go_wp2_with fail
            refine (HF1.out wb B2.out).mono ?_; rintro e w' ⟨rfl, rfl⟩
            go_wp2_with fail
            refine (HF2.out _ _ _ wb O1.out.ints).mono ?_; rintro e w' ⟨rfl, rfl⟩
            go_wp2_with fail
            refine (HM2.out _ _ _ wb O1.out.ints (Nat.le_refl _)).mono ?_; rintro e wc ⟨A2, c2, rfl, ho, hb⟩
            have O2 := Lib.hid ho
            have B3 := Lib.hid (B2.out.trans (hb.mono B2.out.size))
            have D1 := Lib.hid hb
            clear ho hb
            go_wp2_with fail
            refine (HM3.out wc B3.out).mono ?_; rintro e wd ⟨A3, c3, rfl, ho, hb⟩
            have O3 := Lib.hid ho
            have B4 := Lib.hid (B3.out.trans (hb.mono B3.out.size))
            have D2 := Lib.hid hb
            clear ho hb
            go_wp2_with fail
            refine (HM4.out _ _ _ wd O3.out.ints (Nat.le_refl _)).mono ?_; rintro e we ⟨A4, c4, rfl, ho, hb⟩
            have O4 := Lib.hid ho
            have B5 := Lib.hid (B4.out.trans (hb.mono B4.out.size))
            have D3 := Lib.hid (D2.out.trans (hb.mono D2.out.size))
            have D4 := Lib.hid (D1.out.trans (D3.out.mono D1.out.size))
            clear ho hb
            go_wp2_with fail
            refine (equal17 _ _ _ _ _ _ _ _ X Z we (Rd.below O2.out.ints D3.out (Nat.le_refl _)) O4.out.ints).mono ?_; rintro e wf hq; obtain ⟨rfl, nd, hwf⟩ := EqB.yes hq HXZ.out
            have bw : Below we.heap.size we wf := by rw [hwf]; exact below_drewN (Below.refl _ _) _
            have B6 := Lib.hid (B5.out.trans (bw.mono B5.out.size))
            have D5 := Lib.hid (D4.out.trans (bw.mono D4.out.size))
            clear hq hwf bw
            go_wp2_with fail
            refine (HR.out _ _ _ wf (Rd.below O1.out.ints D5.out (Nat.le_refl _))).mono ?_; rintro e w' ⟨rfl, rfl⟩
            go_wp2_with fail
            go_ret
            exact ⟨ret_bool (by rfl), B6.out⟩
          · have p1 : (merr a0 M a3 != 0) = true := by rw [bne_iff_ne]; exact hh
            generalize merr a0 M a3 = h at *
            generalize merr a0 z1 a3 = i at *
            generalize merr a0 Y a2 = j at *
            have HF1 := Lib.hid hf1
            have HF2 := Lib.hid hf2
            have HM2 := Lib.hid hm2
            have HM3 := Lib.hid hm3
            have HM4 := Lib.hid hm4
            clear hf1 hf2 hm2 hm3 hm4 hins key
            clear hh
            go_enter Try.func5, Try.ntmps5
            go_wp2_with fail
            refine (HA.out).mono ?_; rintro e wa ⟨rfl, hb⟩
            have B1 := Lib.hid hb
            clear hb
            go_wp2_with fail
            refine (HM1.out wa B1.out).mono ?_; rintro e wb ⟨A1, c1, rfl, ho, hb⟩
            have O1 := Lib.hid ho
            have B2 := Lib.hid (B1.out.trans (hb.mono B1.out.size))
            clear ho hb
            go_wp2_with fail
            refine (HF1.out wb B2.out).mono ?_; rintro e w' ⟨rfl, rfl⟩
            go_wp2_with fail
            refine (HF2.out _ _ _ wb O1.out.ints).mono ?_; rintro e w' ⟨rfl, rfl⟩
            go_wp2_with fail
            refine (HM2.out _ _ _ wb O1.out.ints (Nat.le_refl _)).mono ?_; rintro e wc ⟨A2, c2, rfl, ho, hb⟩
            have O2 := Lib.hid ho
            have B3 := Lib.hid (B2.out.trans (hb.mono B2.out.size))
            have D1 := Lib.hid hb
            clear ho hb
            go_wp2_with fail
            refine (HM3.out wc B3.out).mono ?_; rintro e wd ⟨A3, c3, rfl, ho, hb⟩
            have O3 := Lib.hid ho
            have B4 := Lib.hid (B3.out.trans (hb.mono B3.out.size))
            have D2 := Lib.hid hb
            clear ho hb
            go_wp2_with fail
            refine (HM4.out _ _ _ wd O3.out.ints (Nat.le_refl _)).mono ?_; rintro e we ⟨A4, c4, rfl, ho, hb⟩
            have O4 := Lib.hid ho
            have B5 := Lib.hid (B4.out.trans (hb.mono B4.out.size))
            have D3 := Lib.hid (D2.out.trans (hb.mono D2.out.size))
            have D4 := Lib.hid (D1.out.trans (D3.out.mono D1.out.size))
            clear ho hb
            go_wp2_with fail
            go_ret
            exact ⟨ret_bool (by rfl), B5.out⟩
        · have hgt := hins.2 (by omega)
          have q1 : decide (find a4 z1 < a2) = false := by simp [hlt]
          have q2 : decide (a2 ≤ find a4 z1) = true := by simp; omega
          have q3 : decide (find a4 M ≤ find a4 z1) = false := by simp; omega
          generalize find a4 z1 = was at *
          generalize find a4 M = now at *
          clear hf hg hlt hgt
          by_cases hh : merr a0 M a3 = 0
          · obtain ⟨e1, e2, e3⟩ := key hh
            simp only [hh] at hm2
            simp only [e1] at hm3
            simp only [e2] at hm4
            have HXZ := Lib.hid e3
            have HF1 := Lib.hid hf1
            have HF2 := Lib.hid hf2
            have HM2 := Lib.hid hm2
            have HM3 := Lib.hid hm3
            have HM4 := Lib.hid hm4
            clear hf1 hf2 hm2 hm3 hm4 hins key
            clear hh e1 e2 e3
            go_enter Try.func5, Try.ntmps5
            go_wp2_with fail
            refine (HA.out).mono ?_; rintro e wa ⟨rfl, hb⟩
            have B1 := Lib.hid hb
            clear hb
            go_wp2_with fail
            refine (HM1.out wa B1.out).mono ?_; rintro e wb ⟨A1, c1, rfl, ho, hb⟩
            have O1 := Lib.hid ho
            have B2 := Lib.hid (B1.out.trans (hb.mono B1.out.size))
            clear ho hb
            go_wp2_with fail
            refine (HF1.out wb B2.out).mono ?_; rintro e w' ⟨rfl, rfl⟩
            go_wp2_with fail
            refine (HF2.out _ _ _ wb O1.out.ints).mono ?_; rintro e w' ⟨rfl, rfl⟩
            go_wp2_with fail
            refine (HM2.out _ _ _ wb O1.out.ints (Nat.le_refl _)).mono ?_; rintro e wc ⟨A2, c2, rfl, ho, hb⟩
            have O2 := Lib.hid ho
            have B3 := Lib.hid (B2.out.trans (hb.mono B2.out.size))
            have D1 := Lib.hid hb
            clear ho hb
            go_wp2_with fail
            refine (HM3.out wc B3.out).mono ?_; rintro e wd ⟨A3, c3, rfl, ho, hb⟩
            have O3 := Lib.hid ho
            have B4 := Lib.hid (B3.out.trans (hb.mono B3.out.size))
            have D2 := Lib.hid hb
            clear ho hb
            go_wp2_with fail
            refine (HM4.out _ _ _ wd O3.out.ints (Nat.le_refl _)).mono ?_; rintro e we ⟨A4, c4, rfl, ho, hb⟩
            have O4 := Lib.hid ho
            have B5 := Lib.hid (B4.out.trans (hb.mono B4.out.size))
            have D3 := Lib.hid (D2.out.trans (hb.mono D2.out.size))
            have D4 := Lib.hid (D1.out.trans (D3.out.mono D1.out.size))
            clear ho hb
            go_wp2_with fail
            refine (equal17 _ _ _ _ _ _ _ _ X Z we (Rd.below O2.out.ints D3.out (Nat.le_refl _)) O4.out.ints).mono ?_; rintro e wf hq; obtain ⟨rfl, nd, hwf⟩ := EqB.yes hq HXZ.out
            have bw : Below we.heap.size we wf := by rw [hwf]; exact below_drewN (Below.refl _ _) _
            have B6 := Lib.hid (B5.out.trans (bw.mono B5.out.size))
            have D5 := Lib.hid (D4.out.trans (bw.mono D4.out.size))
            clear hq hwf bw
            go_wp2_with fail
            refine (HR.out _ _ _ wf (Rd.below O1.out.ints D5.out (Nat.le_refl _))).mono ?_; rintro e w' ⟨rfl, rfl⟩
            go_wp2_with fail
            go_ret
            exact ⟨ret_bool (by rfl), B6.out⟩
          · have p1 : (merr a0 M a3 != 0) = true := by rw [bne_iff_ne]; exact hh
            generalize merr a0 M a3 = h at *
            generalize merr a0 z1 a3 = i at *
            generalize merr a0 Y a2 = j at *
            have HF1 := Lib.hid hf1
            have HF2 := Lib.hid hf2
            have HM2 := Lib.hid hm2
            have HM3 := Lib.hid hm3
            have HM4 := Lib.hid hm4
            clear hf1 hf2 hm2 hm3 hm4 hins key
            clear hh
            go_enter Try.func5, Try.ntmps5
            go_wp2_with fail
            refine (HA.out).mono ?_; rintro e wa ⟨rfl, hb⟩
            have B1 := Lib.hid hb
            clear hb
            go_wp2_with fail
            refine (HM1.out wa B1.out).mono ?_; rintro e wb ⟨A1, c1, rfl, ho, hb⟩
            have O1 := Lib.hid ho
            have B2 := Lib.hid (B1.out.trans (hb.mono B1.out.size))
            clear ho hb
            go_wp2_with fail
            refine (HF1.out wb B2.out).mono ?_; rintro e w' ⟨rfl, rfl⟩
            go_wp2_with fail
            refine (HF2.out _ _ _ wb O1.out.ints).mono ?_; rintro e w' ⟨rfl, rfl⟩
            go_wp2_with fail
            refine (HM2.out _ _ _ wb O1.out.ints (Nat.le_refl _)).mono ?_; rintro e wc ⟨A2, c2, rfl, ho, hb⟩
            have O2 := Lib.hid ho
            have B3 := Lib.hid (B2.out.trans (hb.mono B2.out.size))
            have D1 := Lib.hid hb
            clear ho hb
            go_wp2_with fail
            refine (HM3.out wc B3.out).mono ?_; rintro e wd ⟨A3, c3, rfl, ho, hb⟩
            have O3 := Lib.hid ho
            have B4 := Lib.hid (B3.out.trans (hb.mono B3.out.size))
            have D2 := Lib.hid hb
            clear ho hb
            go_wp2_with fail
            refine (HM4.out _ _ _ wd O3.out.ints (Nat.le_refl _)).mono ?_; rintro e we ⟨A4, c4, rfl, ho, hb⟩
            have O4 := Lib.hid ho
            have B5 := Lib.hid (B4.out.trans (hb.mono B4.out.size))
            have D3 := Lib.hid (D2.out.trans (hb.mono D2.out.size))
            have D4 := Lib.hid (D1.out.trans (D3.out.mono D1.out.size))
            clear ho hb
            go_wp2_with fail
            go_ret
            exact ⟨ret_bool (by rfl), B5.out⟩
      · simp only [hf, fval_ok hf] at hf1
        have q1 : (ferr a0 M a4 == 0) = false := by rw [beq_eq_false_iff_ne]; exact hg
        generalize ferr a0 M a4 = g at *
        generalize fval a0 M a4 = now at *
        generalize find a4 z1 = was at *
        clear hf hg
        by_cases hh : merr a0 M a3 = 0
        · obtain ⟨e1, e2, e3⟩ := key hh
          simp only [hh] at hm2
          simp only [e1] at hm3
          simp only [e2] at hm4
          have HXZ := Lib.hid e3
          have HF1 := Lib.hid hf1
          have HF2 := Lib.hid hf2
          have HM2 := Lib.hid hm2
          have HM3 := Lib.hid hm3
          have HM4 := Lib.hid hm4
          clear hf1 hf2 hm2 hm3 hm4 hins key
          clear hh e1 e2 e3
          go_enter Try.func5, Try.ntmps5
          go_wp2_with fail
          refine (HA.out).mono ?_; rintro e wa ⟨rfl, hb⟩
          have B1 := Lib.hid hb
          clear hb
          go_wp2_with fail
          refine (HM1.out wa B1.out).mono ?_; rintro e wb ⟨A1, c1, rfl, ho, hb⟩
          have O1 := Lib.hid ho
          have B2 := Lib.hid (B1.out.trans (hb.mono B1.out.size))
          clear ho hb
          go_wp2_with fail
          refine (HF1.out wb B2.out).mono ?_; rintro e w' ⟨rfl, rfl⟩
          go_wp2_with fail
          refine (HF2.out _ _ _ wb O1.out.ints).mono ?_; rintro e w' ⟨rfl, rfl⟩
          go_wp2_with fail
          refine (HM2.out _ _ _ wb O1.out.ints (Nat.le_refl _)).mono ?_; rintro e wc ⟨A2, c2, rfl, ho, hb⟩
          have O2 := Lib.hid ho
          have B3 := Lib.hid (B2.out.trans (hb.mono B2.out.size))
          have D1 := Lib.hid hb
          clear ho hb
          go_wp2_with fail
          refine (HM3.out wc B3.out).mono ?_; rintro e wd ⟨A3, c3, rfl, ho, hb⟩
          have O3 := Lib.hid ho
          have B4 := Lib.hid (B3.out.trans (hb.mono B3.out.size))
          have D2 := Lib.hid hb
          clear ho hb
          go_wp2_with fail
          refine (HM4.out _ _ _ wd O3.out.ints (Nat.le_refl _)).mono ?_; rintro e we ⟨A4, c4, rfl, ho, hb⟩
          have O4 := Lib.hid ho
          have B5 := Lib.hid (B4.out.trans (hb.mono B4.out.size))
          have D3 := Lib.hid (D2.out.trans (hb.mono D2.out.size))
          have D4 := Lib.hid (D1.out.trans (D3.out.mono D1.out.size))
          clear ho hb
          go_wp2_with fail
          refine (equal17 _ _ _ _ _ _ _ _ X Z we (Rd.below O2.out.ints D3.out (Nat.le_refl _)) O4.out.ints).mono ?_; rintro e wf hq; obtain ⟨rfl, nd, hwf⟩ := EqB.yes hq HXZ.out
          have bw : Below we.heap.size we wf := by rw [hwf]; exact below_drewN (Below.refl _ _) _
          have B6 := Lib.hid (B5.out.trans (bw.mono B5.out.size))
          have D5 := Lib.hid (D4.out.trans (bw.mono D4.out.size))
          clear hq hwf bw
          go_wp2_with fail
          refine (HR.out _ _ _ wf (Rd.below O1.out.ints D5.out (Nat.le_refl _))).mono ?_; rintro e w' ⟨rfl, rfl⟩
          go_wp2_with fail
          go_ret
          exact ⟨ret_bool (by rfl), B6.out⟩
        · have p1 : (merr a0 M a3 != 0) = true := by rw [bne_iff_ne]; exact hh
          generalize merr a0 M a3 = h at *
          generalize merr a0 z1 a3 = i at *
          generalize merr a0 Y a2 = j at *
          have HF1 := Lib.hid hf1
          have HF2 := Lib.hid hf2
          have HM2 := Lib.hid hm2
          have HM3 := Lib.hid hm3
          have HM4 := Lib.hid hm4
          clear hf1 hf2 hm2 hm3 hm4 hins key
          clear hh
          go_enter Try.func5, Try.ntmps5
          go_wp2_with fail
          refine (HA.out).mono ?_; rintro e wa ⟨rfl, hb⟩
          have B1 := Lib.hid hb
          clear hb
          go_wp2_with fail
          refine (HM1.out wa B1.out).mono ?_; rintro e wb ⟨A1, c1, rfl, ho, hb⟩
          have O1 := Lib.hid ho
          have B2 := Lib.hid (B1.out.trans (hb.mono B1.out.size))
          clear ho hb
          go_wp2_with fail
          refine (HF1.out wb B2.out).mono ?_; rintro e w' ⟨rfl, rfl⟩
          go_wp2_with fail
          refine (HF2.out _ _ _ wb O1.out.ints).mono ?_; rintro e w' ⟨rfl, rfl⟩
          go_wp2_with fail
          refine (HM2.out _ _ _ wb O1.out.ints (Nat.le_refl _)).mono ?_; rintro e wc ⟨A2, c2, rfl, ho, hb⟩
          have O2 := Lib.hid ho
          have B3 := Lib.hid (B2.out.trans (hb.mono B2.out.size))
          have D1 := Lib.hid hb
          clear ho hb
          go_wp2_with fail
          refine (HM3.out wc B3.out).mono ?_; rintro e wd ⟨A3, c3, rfl, ho, hb⟩
          have O3 := Lib.hid ho
          have B4 := Lib.hid (B3.out.trans (hb.mono B3.out.size))
          have D2 := Lib.hid hb
          clear ho hb
          go_wp2_with fail
          refine (HM4.out _ _ _ wd O3.out.ints (Nat.le_refl _)).mono ?_; rintro e we ⟨A4, c4, rfl, ho, hb⟩
          have O4 := Lib.hid ho
          have B5 := Lib.hid (B4.out.trans (hb.mono B4.out.size))
          have D3 := Lib.hid (D2.out.trans (hb.mono D2.out.size))
          have D4 := Lib.hid (D1.out.trans (D3.out.mono D1.out.size))
          clear ho hb
          go_wp2_with fail
          go_ret
          exact ⟨ret_bool (by rfl), B5.out⟩
    · have q1 : (ferr a0 z1 a4 == 0) = false := by rw [beq_eq_false_iff_ne]; exact hf
      generalize ferr a0 z1 a4 = f at *
      generalize fval a0 z1 a4 = was at *
      generalize ferr a0 M a4 = g at *
      generalize fval a0 M a4 = now at *
      clear hf
      by_cases hh : merr a0 M a3 = 0
      · obtain ⟨e1, e2, e3⟩ := key hh
        simp only [hh] at hm2
        simp only [e1] at hm3
        simp only [e2] at hm4
        have HXZ := Lib.hid e3
        have HF1 := Lib.hid hf1
        have HF2 := Lib.hid hf2
        have HM2 := Lib.hid hm2
        have HM3 := Lib.hid hm3
        have HM4 := Lib.hid hm4
        clear hf1 hf2 hm2 hm3 hm4 hins key
        clear hh e1 e2 e3
        go_enter Try.func5, Try.ntmps5
        go_wp2_with fail
        refine (HA.out).mono ?_; rintro e wa ⟨rfl, hb⟩
        have B1 := Lib.hid hb
        clear hb
        go_wp2_with fail
        refine (HM1.out wa B1.out).mono ?_; rintro e wb ⟨A1, c1, rfl, ho, hb⟩
        have O1 := Lib.hid ho
        have B2 := Lib.hid (B1.out.trans (hb.mono B1.out.size))
        clear ho hb
        go_wp2_with fail
        refine (HF1.out wb B2.out).mono ?_; rintro e w' ⟨rfl, rfl⟩
        go_wp2_with fail
        refine (HF2.out _ _ _ wb O1.out.ints).mono ?_; rintro e w' ⟨rfl, rfl⟩
        go_wp2_with fail
        refine (HM2.out _ _ _ wb O1.out.ints (Nat.le_refl _)).mono ?_; rintro e wc ⟨A2, c2, rfl, ho, hb⟩
        have O2 := Lib.hid ho
        have B3 := Lib.hid (B2.out.trans (hb.mono B2.out.size))
        have D1 := Lib.hid hb
        clear ho hb
        go_wp2_with fail
        refine (HM3.out wc B3.out).mono ?_; rintro e wd ⟨A3, c3, rfl, ho, hb⟩
        have O3 := Lib.hid ho
        have B4 := Lib.hid (B3.out.trans (hb.mono B3.out.size))
        have D2 := Lib.hid hb
        clear ho hb
        go_wp2_with fail
        refine (HM4.out _ _ _ wd O3.out.ints (Nat.le_refl _)).mono ?_; rintro e we ⟨A4, c4, rfl, ho, hb⟩
        have O4 := Lib.hid ho
        have B5 := Lib.hid (B4.out.trans (hb.mono B4.out.size))
        have D3 := Lib.hid (D2.out.trans (hb.mono D2.out.size))
        have D4 := Lib.hid (D1.out.trans (D3.out.mono D1.out.size))
        clear ho hb
        go_wp2_with fail
        refine (equal17 _ _ _ _ _ _ _ _ X Z we (Rd.below O2.out.ints D3.out (Nat.le_refl _)) O4.out.ints).mono ?_; rintro e wf hq; obtain ⟨rfl, nd, hwf⟩ := EqB.yes hq HXZ.out
        have bw : Below we.heap.size we wf := by rw [hwf]; exact below_drewN (Below.refl _ _) _
        have B6 := Lib.hid (B5.out.trans (bw.mono B5.out.size))
        have D5 := Lib.hid (D4.out.trans (bw.mono D4.out.size))
        clear hq hwf bw
        go_wp2_with fail
        refine (HR.out _ _ _ wf (Rd.below O1.out.ints D5.out (Nat.le_refl _))).mono ?_; rintro e w' ⟨rfl, rfl⟩
        go_wp2_with fail
        go_ret
        exact ⟨ret_bool (by rfl), B6.out⟩
      · have p1 : (merr a0 M a3 != 0) = true := by rw [bne_iff_ne]; exact hh
        generalize merr a0 M a3 = h at *
        generalize merr a0 z1 a3 = i at *
        generalize merr a0 Y a2 = j at *
        have HF1 := Lib.hid hf1
        have HF2 := Lib.hid hf2
        have HM2 := Lib.hid hm2
        have HM3 := Lib.hid hm3
        have HM4 := Lib.hid hm4
        clear hf1 hf2 hm2 hm3 hm4 hins key
        clear hh
        go_enter Try.func5, Try.ntmps5
        go_wp2_with fail
        refine (HA.out).mono ?_; rintro e wa ⟨rfl, hb⟩
        have B1 := Lib.hid hb
        clear hb
        go_wp2_with fail
        refine (HM1.out wa B1.out).mono ?_; rintro e wb ⟨A1, c1, rfl, ho, hb⟩
        have O1 := Lib.hid ho
        have B2 := Lib.hid (B1.out.trans (hb.mono B1.out.size))
        clear ho hb
        go_wp2_with fail
        refine (HF1.out wb B2.out).mono ?_; rintro e w' ⟨rfl, rfl⟩
        go_wp2_with fail
        refine (HF2.out _ _ _ wb O1.out.ints).mono ?_; rintro e w' ⟨rfl, rfl⟩
        go_wp2_with fail
        refine (HM2.out _ _ _ wb O1.out.ints (Nat.le_refl _)).mono ?_; rintro e wc ⟨A2, c2, rfl, ho, hb⟩
        have O2 := Lib.hid ho
        have B3 := Lib.hid (B2.out.trans (hb.mono B2.out.size))
        have D1 := Lib.hid hb
        clear ho hb
        go_wp2_with fail
        refine (HM3.out wc B3.out).mono ?_; rintro e wd ⟨A3, c3, rfl, ho, hb⟩
        have O3 := Lib.hid ho
        have B4 := Lib.hid (B3.out.trans (hb.mono B3.out.size))
        have D2 := Lib.hid hb
        clear ho hb
        go_wp2_with fail
        refine (HM4.out _ _ _ wd O3.out.ints (Nat.le_refl _)).mono ?_; rintro e we ⟨A4, c4, rfl, ho, hb⟩
        have O4 := Lib.hid ho
        have B5 := Lib.hid (B4.out.trans (hb.mono B4.out.size))
        have D3 := Lib.hid (D2.out.trans (hb.mono D2.out.size))
        have D4 := Lib.hid (D1.out.trans (D3.out.mono D1.out.size))
        clear ho hb
        go_wp2_with fail
        go_ret
        exact ⟨ret_bool (by rfl), B5.out⟩
  · have q1 : (merr a0 z1 a2 != 0) = true := by rw [bne_iff_ne]; exact he
    have hz : nM = 0 := by rw [← hnM, ← hM]; exact mark_no he
    subst hz
    generalize merr a0 z1 a2 = h at *
    have HM1 := Lib.hid hm1
    clear hm1 he hM hnM
    go_enter Try.func5, Try.ntmps5
    go_wp2_with fail
    refine (HA.out).mono ?_; rintro e wa ⟨rfl, hb⟩
    have B1 := Lib.hid hb
    clear hb
    go_wp2_with fail
    refine (HM1.out wa B1.out).mono ?_; rintro e wb ⟨A1, c1, rfl, ho, hb⟩
    have B2 := Lib.hid (B1.out.trans (hb.mono B1.out.size))
    clear ho hb
    go_wp2_with fail
    go_ret
    exact ⟨ret_bool (by rfl), B2.out⟩

set_option maxRecDepth 100000 in
theorem contract (H : Type) (enc : TypeId × Value → H) (W : World) (base : Nat) (args : Array Value) (ds gs : List (DataW H)) (before : List MemPlace)
    (hval : ∀ (j : Nat) t v, Try.f5.params[j]? = some t → args[j]? = some v → Value.okWide Try.prog W .any base t v)
    (hW : DataW.Whole enc Try.prog Try.f5.params.toList Rows.badMarkSpec.vars false W args.toList ds gs before) :
    Calls Try.prog 5 args W fun e W' => ∃ v, e = .returned v ∧ Rows.badMarkSpec.post enc Try.prog Try.f5 false true false false W args v W' := by
  have hW' := hW
  obtain ⟨p, q, hA0, hV, rfl, hfz, hnd⟩ := hW
  have hA : DataW.TrodAll enc Try.prog W 0 (fun _ => true) true Try.f5.params.toList args.toList ds p := hA0
  rw [Try.params5] at hA hval
  obtain ⟨v0, vs0, d0, ds0, p0, q0, hargs, rfl, rfl, h0, rr0⟩ := trodAll_cons hA
  obtain ⟨v1, vs1, d1, ds1, p1, q1, rfl, rfl, rfl, h1, rr1⟩ := trodAll_cons rr0
  obtain ⟨v2, vs2, d2, ds2, p2, q2, rfl, rfl, rfl, h2, rr2⟩ := trodAll_cons rr1
  obtain ⟨v3, vs3, d3, ds3, p3, q3, rfl, rfl, rfl, h3, rr3⟩ := trodAll_cons rr2
  obtain ⟨v4, vs4, d4, ds4, p4, q4, rfl, rfl, rfl, h4, rr4⟩ := trodAll_cons rr3
  obtain ⟨rfl, rfl, rfl⟩ := trodAll_nil rr4
  obtain rfl : args = #[v0, v1, v2, v3, v4] := by cases args; simp_all
  obtain ⟨rfl, rfl⟩ := trodVars_none hV
  obtain ⟨a0, rfl, rfl, rfl, w0⟩ := open_int Try.underlying3 (hval 0 3 v0 rfl rfl) h0
  obtain ⟨a1, len1, cap1, rfl⟩ := okWide_slice Try.underlying22 (hval 1 22 v1 rfl rfl)
  have k1 := h1
  have lt1 : ∀ x ∈ p1, x.block < W.heap.size := by obtain ⟨m, hm⟩ := k1; exact DataW.trod_lt m _ _ _ hm
  obtain ⟨⟨z1, w1⟩, u1⟩ := open_ints h1
  obtain ⟨a2, rfl, rfl, rfl, w2⟩ := open_int Try.underlying3 (hval 2 3 v2 rfl rfl) h2
  obtain ⟨a3, rfl, rfl, rfl, w3⟩ := open_int Try.underlying3 (hval 3 3 v3 rfl rfl) h3
  obtain ⟨a4, rfl, rfl, rfl, w4⟩ := open_int Try.underlying3 (hval 4 3 v4 rfl rfl) h4
  clear hA0
  refine (walk a0 a1 len1 cap1 z1 a2 a3 a4 W w0 w1 w2 w3 w4).mono fun e W' ⟨he, bel⟩ => ?_
  subst he
  exact ⟨_, rfl, _, _, _, [], _, [], hW', trodAll_mk1 (shut_bool Try.underlying4 _), (trodAll_cons_mk (shut_int Try.underlying3 w0) (trodAll_cons_mk (Below.trod laidOut (by kernel_rfl) (of_decide_eq_true (by kernel_rfl)) k1 bel lt1) (trodAll_cons_mk (shut_int Try.underlying3 w2) (trodAll_cons_mk (shut_int Try.underlying3 w3) (trodAll_cons_mk (shut_int Try.underlying3 w4) trodAll_mk0))))), rfl, bel.frame _, fun h => by cases h⟩

set_option maxRecDepth 100000 in
theorem lifted (os : Os) (started : os.Started) (H : Type) (enc : TypeId × Value → H) :
    ReturnsInHanded {} Try.checked os 5 .any (Rows.badMarkSpec.pre6 enc Try.prog Try.f5 Rows.badMarkRow.domain false) (Rows.badMarkSpec.post enc Try.prog Try.f5 false true false false) := by
  refine returnsInHanded_of_change (C := Try.checked) own started (by kernel_rfl) Try.func5
    (ChangeSpec.witness6 (enc := enc) (C := Try.checked) false ⟨#[], #[.int .i64 0, .slice none 0 0, .int .i64 0, .int .i64 0, .int .i64 0], []⟩ 8 (by kernel_rfl) (by kernel_rfl) (by kernel_rfl) (by kernel_rfl)) ?_
  intro W base args ds gs before hval hW _ _
  exact contract H enc W base args ds gs before hval hW

theorem over : Rows.badMarkRow.holds Try.pinned (OpenSpec.ofChange Rows.badMarkSpec) :=
  OpenClaim.holds_of_wide 5 Try.f5 rfl rfl rfl rfl rfl rfl rfl ⟨rfl, rfl, rfl, rfl, rfl⟩ rfl rfl rfl rfl rfl (by kernel_rfl) Try.func5 (by kernel_rfl)
    (of_decide_eq_true (by kernel_rfl)) (by unfold Func.isWrapper; first | (rw [if_pos (by decide +kernel)]; kernel_rfl) | (rw [if_neg (by decide +kernel)]; exact ⟨rfl, rfl⟩))
    (fun os started H enc _ => lifted os started H enc)

/-- ████ THE STATEMENT ████ -/
theorem proved : Rows.BadMarkSaid := over
#print axioms proved
end Go.Proofs.Ytocmbknccjnggaa.badMark
