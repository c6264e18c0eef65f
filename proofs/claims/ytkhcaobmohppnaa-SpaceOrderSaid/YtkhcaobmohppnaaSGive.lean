/-
  The document's own step: SpaceGive.
-/
import Derived.Test.YtkhcaobmohppnaaSStep0
namespace Go.Proofs.Ytkhcaobmohppnaa.Spc
open Go.ChangeShapes Go.WideShapes Go.ChangeAt Go.RowKit Words Go.Sort
set_option linter.unusedVariables false

theorem grown_setCell (w : World) (p : Addr) (u : Value) : w.grownBy (w.setCell p u) (some p.block) := ⟨rfl, rfl, rfl, by simp [World.setCell], fun i hi hne => by
  have h : ¬ p.block = i := fun e => hne (by rw [e])
  simp [World.setCell, Array.getElem?_modify, h]⟩
theorem own_set2 {w : World} {base b : Nat} {A : Option Addr} {n c : Nat} {l : List Gp} {e a : Value} (h : OwnGp w base A n c l) (hb : ∀ q, (Value.slice A n c).ownBlock = some q → b < q) :
    OwnGp ((w.setCell ⟨b, 0, none⟩ e).setCell ⟨b, 1, none⟩ a) base A n c l := by
  have hne : (Value.slice A n c).ownBlock = none ∨ (Value.slice A n c).ownBlock ≠ some b := by
    cases hv : (Value.slice A n c).ownBlock with
    | none => exact .inl rfl
    | some q => exact .inr (fun e => by injection e with e; have := hb q hv; omega)
  have g1 : w.grownBy ((w.setCell ⟨b, 0, none⟩ e).setCell ⟨b, 1, none⟩ a) (some b) := (grown_setCell w ⟨b, 0, none⟩ e).trans (grown_setCell _ ⟨b, 1, none⟩ a)
  exact Go.World.ownsRow.kept h g1 hne
set_option maxRecDepth 100000 in
set_option maxHeartbeats 8000000 in
theorem nstep_give (B : Nat) (A : Option Addr) (n c : Nat) (l : List Gp) (s : Int) (oa om : Int) (w : World) (h : Gps w B A n c l) (hB : B ≤ w.heap.size) (hf : okRow s l = true) (r1 : 1 ≤ om) (r2 : om ≤ s) (r3 : 0 ≤ oa) (r4 : oa ≤ s - om) :
    Calls Try.prog 10 #[.int .i64 s, .slice A n c, .agg #[.int .i64 3, .int .i64 oa, .int .i64 om]] w (NS w s l ⟨3, oa, om⟩) := by
  obtain ⟨wb, hwb⟩ : ∃ wb, (w.alloc (.cells #[.int .i64 3, .int .i64 oa, .int .i64 om] 24)).alloc (.cells #[.int .i64 0, .int .i64 0] 27) = wb := ⟨_, rfl⟩
  have BX : Hid (Below w.heap.size w wb) := Lib.hid (by rw [← hwb]; exact two_blocks w _ _)
  have G5 : Hid (Whole wb w.heap.size 24 #[.int .i64 3, .int .i64 oa, .int .i64 om]) := Lib.hid (by rw [← hwb]; exact (Whole.new w 24 _).alloc _)
  have G7 : Hid (Whole wb (w.heap.size + 1) 27 #[.int .i64 0, .int .i64 0]) := Lib.hid (by
    rw [← hwb]
    have := Whole.new (w.alloc (.cells #[.int .i64 3, .int .i64 oa, .int .i64 om] 24)) 27 #[.int .i64 0, .int .i64 0]
    rwa [World.size_alloc] at this)
  have HWB := Lib.hid hwb
  have HNR := Lib.hid (nrow11 B A n c l s wb (Words.Rd.below h BX.out hB) (Nat.le_trans hB BX.out.size))
  clear hwb h
  have HFF := Lib.hid hf
  have HF := Lib.hid hf
  obtain ⟨s0, s1, sch⟩ := ok_ch hf
  have SCH := Lib.hid sch
  clear hf sch
  go_enter Try.func10, Try.ntmps10
  go_wp2_with fail
  rw [HWB.out]
  refine (HNR.out).mono ?_; intro e w2 h2
  obtain ⟨⟨g, c2, rfl, o2⟩, b2⟩ := h2.yes HF.out
  have B2 := Lib.hid b2
  have S2 : Hid (ST wb g s.toNat c2 (rowOf l s.toNat) w2) := Lib.hid ⟨b2, o2⟩
  clear h2 o2 b2
  obtain ⟨z, rfl⟩ : ∃ z : Nat, s = z := ⟨s.toNat, by omega⟩
  have HZ : Hid ((z : Int).toNat = z) := Lib.hid (by omega)
  rw [HZ.out] at S2
  rw [HZ.out]
  have k0 := Whole.cell (whole_below2 G5.out B2.out) 0
  have k1 := Whole.cell (whole_below2 G5.out B2.out) 1
  have k2 := Whole.cell (whole_below2 G5.out B2.out) 2
  simp at k0 k1 k2
  obtain ⟨m, rfl⟩ : ∃ m : Nat, om = m := ⟨om.toNat, by omega⟩
  obtain ⟨a, rfl⟩ : ∃ a : Nat, oa = a := ⟨oa.toNat, by omega⟩
  have hw1 : IntKind.i64.wrap ((z : Int) - m) = z - m := by rw [IntKind.wrap_i64]; omega
  have ham : a + m ≤ z := by omega
  go_wp2_with fail
  go_loopw [123] (fun i wr => ∃ (j : Nat), i = .int .i64 j ∧ j ≤ m ∧ ST wb g z c2 (rowOf l z) wr ∧ ∀ j' : Nat, j' < j → mem l ((a : Int) + j') = false) (fun i _ => (m - intOf i).toNat)
  case atStart => exact ⟨0, rfl, by omega, S2.out, fun j' h => absurd h (by omega)⟩
  case round =>
    obtain ⟨j, rfl, hj, hst, hno⟩ := hrel
    have SS := Lib.hid hst
    have NO := Lib.hid hno
    have f0 := Whole.cell (whole_below2 G5.out hst.bel) 0
    have f1 := Whole.cell (whole_below2 G5.out hst.bel) 1
    have f2 := Whole.cell (whole_below2 G5.out hst.bel) 2
    simp at f0 f1 f2
    clear hst hno k0 k1 k2
    by_cases hjm : j < m
    · obtain ⟨x, hx⟩ : ∃ x : Nat, x = a + j := ⟨_, rfl⟩
      have hxz : x < z := by omega
      have hwx : IntKind.i64.wrap ((a : Int) + (j : Int)) = (x : Int) := by rw [IntKind.wrap_i64]; omega
      have cx := SS.out.row.at_ hxz
      rw [at_rowOf hxz, show (x : Int) = (a : Int) + j by omega] at cx
      clear hx
      cases hm : mem l ((a : Int) + j) with
      | true =>
        rw [hm] at cx
        have SE := Lib.hid (ser_held (o := ⟨3, a, m⟩) HFF.out (by show ¬ ((m : Int) < 1 ∨ (z : Int) < m ∨ ((3 : Int) = 3 ∧ ((a : Int) < 0 ∨ (z : Int) - m < a))); omega) rfl (held_yes (n := ((m : Int)).toNat) (j := j) (by omega) hm))
        have BR := Lib.hid SS.out.bel
        clear hm
        have HN := Lib.hid (no29 6)
        go_wp2_with fail
        refine (HN.out _).mono ?_; rintro e y1 ⟨rfl, b1⟩
        have BY := Lib.hid (BR.out.trans (b1.mono BR.out.size))
        have GY := Lib.hid (whole_below2 G7.out BY.out)
        have q0 := Whole.cell GY.out 0
        have q1 := Whole.cell GY.out 1
        have q2 := Whole.frozen GY.out 0
        have q3 := Whole.frozen GY.out 1
        simp at q0 q1
        clear b1
        unfold aval
        go_wp2_with fail
        refine bodyPost_ret (results_two rfl rfl (box_set GY.out)) rfl ?_
        exact ns_err SE.out (by decide) (((BX.out.trans (BY.out.mono BX.out.size)).setCell (by show w.heap.size ≤ w.heap.size + 1; omega) _).setCell (by show w.heap.size ≤ w.heap.size + 1; omega) _)
      | false =>
        rw [hm] at cx
        have NN : Hid (∀ j' : Nat, j' < j + 1 → mem l ((a : Int) + j') = false) := Lib.hid (fun j' h => by
          by_cases h1 : j' < j
          · exact NO.out j' h1
          · obtain rfl : j' = j := by omega
            exact hm)
        clear hm
        go_wp2_with fail
        go_roundw
        case rel => exact ⟨j + 1, by go_num, by omega, SS.out, NN.out⟩
        case measure => simp [intOf]; omega
    · obtain rfl : m = j := by omega
      have SE := Lib.hid (ser_give (o := ⟨3, a, m⟩) HFF.out (by show ¬ ((m : Int) < 1 ∨ (z : Int) < m ∨ ((3 : Int) = 3 ∧ ((a : Int) < 0 ∨ (z : Int) - m < a))); omega) rfl (held_no (n := ((m : Int)).toNat) (fun j' h => NO.out j' (by omega))))
      generalize wr = wq at *
      go_wp2_with fail
      have R0 := Lib.hid (rs_start l z (a : Int) true)
      go_loopw [144] (fun i wr => ∃ (j : Nat) (row' : List Bool), i = .int .i64 j ∧ j ≤ m ∧ RS row' z l (a : Int) j true ∧ ST wb g z c2 row' wr) (fun i _ => (m - intOf i).toNat)
      case atStart => exact ⟨0, _, rfl, by omega, R0.out, SS.out⟩
      case round =>
        obtain ⟨j, row', rfl, hj, hrs, hst⟩ := hrel
        have RR := Lib.hid hrs
        have SS := Lib.hid hst
        have f0 := Whole.cell (whole_below2 G5.out hst.bel) 0
        have f1 := Whole.cell (whole_below2 G5.out hst.bel) 1
        have f2 := Whole.cell (whole_below2 G5.out hst.bel) 2
        simp at f0 f1 f2
        clear hrs hst
        by_cases hjm : j < m
        · obtain ⟨x, hx⟩ : ∃ x : Nat, (x : Int) = (a : Int) + j := ⟨((a : Int) + j).toNat, by omega⟩
          have hxz : x < z := by omega
          have hwx : IntKind.i64.wrap ((a : Int) + (j : Int)) = (x : Int) := by rw [IntKind.wrap_i64]; omega
          have k1 := SS.out.row.frozen x
          have k2 := SS.out.row.at_ hxz
          have SN := Lib.hid (SS.out.set x true)
          have RN := Lib.hid (RR.out.next hx hxz)
          clear hx
          go_wp2_with fail
          go_roundw
          case rel => exact ⟨j + 1, _, by go_num, by omega, RN.out, SN.out⟩
          case measure => simp [intOf]; omega
        · obtain rfl : j = m := by omega
          have RD := Lib.hid (RR.out.done (m := (j : Int)) rfl)
          have HG := Lib.hid (ngaps30 wr.heap.size (some ⟨g, 0, none⟩) z c2 row' wr SS.out.row.bls (Nat.le_refl _) (by omega))
          clear f0 f1 f2
          go_wp2_with fail
          refine (HG.out).mono ?_; rintro e w9 ⟨A9, c9, rfl, P9⟩
          have B9 := Lib.hid (SS.out.bel.trans (P9.bel.mono SS.out.bel.size))
          have O9 := Lib.hid (P9.row.more (Nat.le_trans BX.out.size SS.out.bel.size))
          have GY := Lib.hid (whole_below2 G7.out B9.out)
          have q0 := Whole.cell GY.out 0
          have q1 := Whole.cell GY.out 1
          have q2 := Whole.frozen GY.out 0
          have q3 := Whole.frozen GY.out 1
          simp at q0 q1
          have O9W : Hid (∀ q, (Value.slice A9 (gk row' z).length c9).ownBlock = some q → wr.heap.size ≤ q) := Lib.hid fun q hq => (P9.row.lt q hq).1
          clear P9
          obtain ⟨ln, hln⟩ : ∃ ln, ln = (gk row' z).length := ⟨_, rfl⟩
          have LN := Lib.hid hln
          rw [← hln] at O9 O9W ⊢
          clear hln
          go_wp2_with fail
          refine bodyPost_ret (results_two rfl rfl (box_set GY.out)) rfl ?_
          refine ns_ok SE.out (L := gk row' z) ?_ ?_ LN.out.symm ?_ ?_
          · rw [HZ.out, RD.out]; rfl
          · rfl
          · have hlt : ∀ q, (Value.slice A9 ln c9).ownBlock = some q → wr.heap.size ≤ q := fun q hq => (O9W.out q hq)
            exact own_set2 O9.out (fun q hq => by have := hlt q hq; have := SS.out.bel.size; have := G7.out.lt; omega)
          · exact ((BX.out.trans (B9.out.mono BX.out.size)).setCell (by show w.heap.size ≤ w.heap.size + 1; omega) _).setCell (by show w.heap.size ≤ w.heap.size + 1; omega) _
end Go.Proofs.Ytkhcaobmohppnaa.Spc
