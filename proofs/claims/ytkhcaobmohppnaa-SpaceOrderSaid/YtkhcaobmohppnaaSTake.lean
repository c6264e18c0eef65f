/-
  The document's own step: SpaceTake, SpaceFit.
-/
import Derived.Test.YtkhcaobmohppnaaSGive
namespace Go.Proofs.Ytkhcaobmohppnaa.Spc
open Go.ChangeShapes Go.WideShapes Go.ChangeAt Go.RowKit Words Go.Sort
set_option linter.unusedVariables false

set_option maxRecDepth 100000 in
set_option maxHeartbeats 8000000 in
theorem nstep_take1 (B : Nat) (A : Option Addr) (n c : Nat) (l : List Gp) (s : Int) (oa om : Int) (w : World) (h : Gps w B A n c l) (hB : B ≤ w.heap.size) (hf : okRow s l = true) (r1 : 1 ≤ om) (r2 : om ≤ s) :
    Calls Try.prog 10 #[.int .i64 s, .slice A n c, .agg #[.int .i64 1, .int .i64 oa, .int .i64 om]] w (NS w s l ⟨1, oa, om⟩) := by
  obtain ⟨wb, hwb⟩ : ∃ wb, (w.alloc (.cells #[.int .i64 1, .int .i64 oa, .int .i64 om] 24)).alloc (.cells #[.int .i64 0, .int .i64 0] 27) = wb := ⟨_, rfl⟩
  have BX : Hid (Below w.heap.size w wb) := Lib.hid (by rw [← hwb]; exact two_blocks w _ _)
  have G5 : Hid (Whole wb w.heap.size 24 #[.int .i64 1, .int .i64 oa, .int .i64 om]) := Lib.hid (by rw [← hwb]; exact (Whole.new w 24 _).alloc _)
  have G7 : Hid (Whole wb (w.heap.size + 1) 27 #[.int .i64 0, .int .i64 0]) := Lib.hid (by
    rw [← hwb]
    have := Whole.new (w.alloc (.cells #[.int .i64 1, .int .i64 oa, .int .i64 om] 24)) 27 #[.int .i64 0, .int .i64 0]
    rwa [World.size_alloc] at this)
  have HWB := Lib.hid hwb
  have HNR := Lib.hid (nrow11 B A n c l s wb (Words.Rd.below h BX.out hB) (Nat.le_trans hB BX.out.size))
  clear hwb h
  have HFF := Lib.hid hf
  have HGK := Lib.hid (gk_row hf)
  have HF := Lib.hid hf
  obtain ⟨s0, s1, sch⟩ := ok_ch hf
  have SCH := Lib.hid sch
  clear hf sch
  go_enter Try.func10, Try.ntmps10
  go_wp2_with fail
  rw [HWB.out]
  refine (HNR.out).mono ?_; intro e w2 h2
  obtain ⟨⟨g, c2, rfl, o2⟩, b2⟩ := h2.yes HF.out
  have B2 := Lib.hid b2
  have S2 : Hid (ST wb g s.toNat c2 (rowOf l s.toNat) w2) := Lib.hid ⟨b2, o2⟩
  clear h2 o2 b2
  obtain ⟨z, rfl⟩ : ∃ z : Nat, s = z := ⟨s.toNat, by omega⟩
  have HZ : Hid ((z : Int).toNat = z) := Lib.hid (by omega)
  rw [HZ.out] at S2
  rw [HZ.out]
  have k0 := Whole.cell (whole_below2 G5.out B2.out) 0
  have k1 := Whole.cell (whole_below2 G5.out B2.out) 1
  have k2 := Whole.cell (whole_below2 G5.out B2.out) 2
  simp at k0 k1 k2
  rw [HZ.out] at HGK
  obtain ⟨m, rfl⟩ : ∃ m : Nat, om = m := ⟨om.toNat, by omega⟩
  have HPK := Lib.hid (pk_pk (o := ⟨1, oa, m⟩) (fun x hx => by have := SCH.out.each x hx; omega))
  have HEA := Lib.hid (fun x hx => SCH.out.each x hx)
  have hl4 := gk_length (rowOf l z) z
  rw [HGK.out] at hl4
  have HG0 := ngaps30 w2.heap.size (some ⟨g, 0, none⟩) z c2 (rowOf l z) w2 S2.out.row.bls (Nat.le_refl _) (by omega)
  rw [HGK.out] at HG0
  have HG0 := Lib.hid HG0
  go_wp2_with fail
  refine (HG0.out).mono ?_; rintro e w3 ⟨A3, c3, rfl, P3⟩
  have S3 := Lib.hid (S2.out.next P3.bel)
  have O3 := Lib.hid P3.row
  obtain ⟨ln, hln⟩ : ∃ ln, ln = l.length := ⟨_, rfl⟩
  have LN := Lib.hid hln
  rw [← hln] at O3 hl4 ⊢
  clear P3 hln k0 k1 k2
  go_wp2_with fail
  go_loopw [11, 12, 86] (fun p q i wr => ∃ (k : Nat) (st : Int × Int), p = .int .i64 st.1 ∧ q = .int .i64 st.2 ∧ i = .int .i64 k ∧ k ≤ ln ∧ st = pk ⟨1, oa, m⟩ (l.take k) ∧ Below w3.heap.size w3 wr) (fun _ _ i _ => (ln - intOf i).toNat)
  case atStart => exact ⟨0, (-1, 0), rfl, rfl, rfl, by omega, rfl, Below.refl _ _⟩
  case round =>
    obtain ⟨k, st, rfl, rfl, rfl, hk, hst, hbel⟩ := hrel
    have B3 := Lib.hid hbel
    have SR := Lib.hid (S3.out.next hbel)
    have HST := Lib.hid hst
    clear hbel hst
    obtain ⟨p, q⟩ := st
    simp only
    by_cases hlt : k < ln
    · have OR := Lib.hid (O3.out.below B3.out (Nat.le_refl _))
      obtain ⟨g3, rfl, hg3a, hg3b⟩ := O3.out.addr (by omega)
      have HX : Hid (l[k]? = some (gth l k)) := Lib.hid (gth_get (by rw [← LN.out]; exact hlt))
      obtain ⟨c0, c1⟩ := OR.out.at_ hlt
      have PN := Lib.hid (pk_next (o := ⟨1, oa, m⟩) HX.out)
      rw [← HST.out] at PN
      obtain ⟨x, hx⟩ : ∃ x, x = gth l k := ⟨_, rfl⟩
      rw [← hx] at c0 c1 PN
      clear hx
      obtain ⟨ga, gm⟩ := x
      simp only at c0 c1
      have BX4 := Lib.hid (B3.out.trans ((boxed wr (.cells #[.int .i64 ga, .int .i64 gm] 36)).mono B3.out.size))
      have X5 := (whole_below2 G5.out SR.out.bel).alloc (.cells #[.int .i64 ga, .int .i64 gm] 36)
      have f0 := Whole.cell X5 0
      have f1 := Whole.cell X5 1
      have f2 := Whole.cell X5 2
      simp at f0 f1 f2
      clear X5
      by_cases t1 : (m : Int) ≤ gm
      · by_cases t2 : p < 0
        · skip
          have E1 := Lib.hid (PN.out.trans (pkS_yes (o := ⟨1, oa, m⟩) (st := (p, q)) (g := ⟨ga, gm⟩) t1 (.inl t2)))
          go_wp2_with fail
          go_quiet (fail)
          go_wp2_with fail
          go_roundw
          case rel => exact ⟨k + 1, (ga, gm), rfl, rfl, by go_num, by omega, E1.out.symm, below_drewN BX4.out _⟩
          case measure => simp [intOf]; omega
        · skip
          have E1 := Lib.hid (PN.out.trans (pkS_no (o := ⟨1, oa, m⟩) (st := (p, q)) (g := ⟨ga, gm⟩) (by simp only; omega)))
          go_wp2_with fail
          go_roundw
          case rel => exact ⟨k + 1, (p, q), rfl, rfl, by go_num, by omega, E1.out.symm, BX4.out⟩
          case measure => simp [intOf]; omega
      · skip
        have E1 := Lib.hid (PN.out.trans (pkS_no (o := ⟨1, oa, m⟩) (st := (p, q)) (g := ⟨ga, gm⟩) (by simp only; omega)))
        go_wp2_with fail
        go_roundw
        case rel => exact ⟨k + 1, (p, q), rfl, rfl, by go_num, by omega, E1.out.symm, BX4.out⟩
        case measure => simp [intOf]; omega
    · obtain rfl : k = ln := by omega
      have HST2 := HST.out
      rw [List.take_of_length_le (by rw [← LN.out]; exact Nat.le_refl _)] at HST2
      have PQ := Lib.hid HST2
      clear HST2
      by_cases t5 : p < 0
      · have SE := Lib.hid (ser_full (o := ⟨1, oa, m⟩) HFF.out (by simp) (by show ¬ ((m : Int) < 1 ∨ (z : Int) < m ∨ ((1 : Int) = 3 ∧ ((oa : Int) < 0 ∨ (z : Int) - m < oa))); omega) (by simp) (by rw [← PQ.out]; exact t5))
        have BR := Lib.hid SR.out.bel
        have HN := Lib.hid (no29 4)
        go_wp2_with fail
        refine (HN.out _).mono ?_; rintro e y1 ⟨rfl, b1⟩
        have BY := Lib.hid (BR.out.trans (b1.mono BR.out.size))
        have GY := Lib.hid (whole_below2 G7.out BY.out)
        have q0 := Whole.cell GY.out 0
        have q1 := Whole.cell GY.out 1
        have q2 := Whole.frozen GY.out 0
        have q3 := Whole.frozen GY.out 1
        simp at q0 q1
        clear b1
        unfold aval
        go_wp2_with fail
        refine bodyPost_ret (results_two rfl rfl (box_set GY.out)) rfl ?_
        exact ns_err SE.out (by decide) (((BX.out.trans (BY.out.mono BX.out.size)).setCell (by show w.heap.size ≤ w.heap.size + 1; omega) _).setCell (by show w.heap.size ≤ w.heap.size + 1; omega) _)
      have SE := Lib.hid (ser_take (o := ⟨1, oa, m⟩) HFF.out (by simp) (by show ¬ ((m : Int) < 1 ∨ (z : Int) < m ∨ ((1 : Int) = 3 ∧ ((oa : Int) < 0 ∨ (z : Int) - m < oa))); omega) (by simp) (by rw [← PQ.out]; exact t5))
      have AT : Hid (ats ⟨1, oa, m⟩ l = p) := Lib.hid (by
        show (if (1 : Int) = 3 then oa else (pk ⟨1, oa, m⟩ l).1) = p
        rw [if_neg (by omega), ← PQ.out])
      have hb : p + m ≤ z := by
        rcases HPK.out with ⟨h1, _⟩ | ⟨x, hx, h1, h2⟩
        · rw [← PQ.out] at h1; injection h1 with h1 _; omega
        · rw [← PQ.out] at h1
          injection h1 with h1 _
          have := HEA.out x hx
          simp only at h2
          omega
      have f0 := Whole.cell (whole_below2 G5.out SR.out.bel) 0
      have f1 := Whole.cell (whole_below2 G5.out SR.out.bel) 1
      have f2 := Whole.cell (whole_below2 G5.out SR.out.bel) 2
      simp at f0 f1 f2
      generalize wr = wq at *
      go_wp2_with fail
      go_loopw [123] (fun i wr => ∃ (j : Nat), i = .int .i64 j ∧ j ≤ m ∧ ST wb g z c2 (rowOf l z) wr) (fun i _ => (m - intOf i).toNat)
      case atStart => exact ⟨0, rfl, by omega, SR.out⟩
      case round =>
        obtain ⟨j, rfl, hj, hst⟩ := hrel
        have SS := Lib.hid hst
        have f0 := Whole.cell (whole_below2 G5.out hst.bel) 0
        have f1 := Whole.cell (whole_below2 G5.out hst.bel) 1
        have f2 := Whole.cell (whole_below2 G5.out hst.bel) 2
        simp at f0 f1 f2
        clear hst
        by_cases hjm : j < m
        · go_wp2_with fail
          go_roundw
          case rel => exact ⟨j + 1, by go_num, by omega, SS.out⟩
          case measure => simp [intOf]; omega
        · obtain rfl : m = j := by omega
          generalize wr = wp at *
          go_wp2_with fail
          have R0 := Lib.hid (rs_start l z p false)
          go_loopw [144] (fun i wr => ∃ (j : Nat) (row' : List Bool), i = .int .i64 j ∧ j ≤ m ∧ RS row' z l p j false ∧ ST wb g z c2 row' wr) (fun i _ => (m - intOf i).toNat)
          case atStart => exact ⟨0, _, rfl, by omega, R0.out, SS.out⟩
          case round =>
            obtain ⟨j, row', rfl, hj, hrs, hst⟩ := hrel
            have RR := Lib.hid hrs
            have SS := Lib.hid hst
            have f0 := Whole.cell (whole_below2 G5.out hst.bel) 0
            have f1 := Whole.cell (whole_below2 G5.out hst.bel) 1
            have f2 := Whole.cell (whole_below2 G5.out hst.bel) 2
            simp at f0 f1 f2
            clear hrs hst
            by_cases hjm : j < m
            · obtain ⟨x, hx⟩ : ∃ x : Nat, (x : Int) = p + j := ⟨(p + j).toNat, by omega⟩
              have hxz : x < z := by omega
              have hwx : IntKind.i64.wrap (p + (j : Int)) = (x : Int) := by rw [IntKind.wrap_i64]; omega
              have k1 := SS.out.row.frozen x
              have k2 := SS.out.row.at_ hxz
              have SN := Lib.hid (SS.out.set x false)
              have RN := Lib.hid (RR.out.next hx hxz)
              clear hx
              go_wp2_with fail
              go_roundw
              case rel => exact ⟨j + 1, _, by go_num, by omega, RN.out, SN.out⟩
              case measure => simp [intOf]; omega
            · obtain rfl : j = m := by omega
              have RD := Lib.hid (RR.out.done (m := (j : Int)) rfl)
              have HG := Lib.hid (ngaps30 wr.heap.size (some ⟨g, 0, none⟩) z c2 row' wr SS.out.row.bls (Nat.le_refl _) (by omega))
              clear f0 f1 f2
              go_wp2_with fail
              refine (HG.out).mono ?_; rintro e w9 ⟨A9, c9, rfl, P9⟩
              have B9 := Lib.hid (SS.out.bel.trans (P9.bel.mono SS.out.bel.size))
              have O9 := Lib.hid (P9.row.more (Nat.le_trans BX.out.size SS.out.bel.size))
              have GY := Lib.hid (whole_below2 G7.out B9.out)
              have q0 := Whole.cell GY.out 0
              have q1 := Whole.cell GY.out 1
              have q2 := Whole.frozen GY.out 0
              have q3 := Whole.frozen GY.out 1
              simp at q0 q1
              have O9W : Hid (∀ q, (Value.slice A9 (gk row' z).length c9).ownBlock = some q → wr.heap.size ≤ q) := Lib.hid fun q hq => (P9.row.lt q hq).1
              clear P9
              obtain ⟨ln, hln⟩ : ∃ ln, ln = (gk row' z).length := ⟨_, rfl⟩
              have LN := Lib.hid hln
              rw [← hln] at O9 O9W ⊢
              clear hln
              go_wp2_with fail
              refine bodyPost_ret (results_two rfl rfl (box_set GY.out)) rfl ?_
              refine ns_ok SE.out (L := gk row' z) ?_ ?_ LN.out.symm ?_ ?_
              · rw [HZ.out, RD.out]; rw [AT.out]; rfl
              · exact AT.out
              · have hlt : ∀ q, (Value.slice A9 ln c9).ownBlock = some q → wr.heap.size ≤ q := fun q hq => (O9W.out q hq)
                exact own_set2 O9.out (fun q hq => by have := hlt q hq; have := SS.out.bel.size; have := G7.out.lt; omega)
              · exact ((BX.out.trans (B9.out.mono BX.out.size)).setCell (by show w.heap.size ≤ w.heap.size + 1; omega) _).setCell (by show w.heap.size ≤ w.heap.size + 1; omega) _
set_option maxRecDepth 100000 in
set_option maxHeartbeats 8000000 in
theorem nstep_take2 (B : Nat) (A : Option Addr) (n c : Nat) (l : List Gp) (s : Int) (oa om : Int) (w : World) (h : Gps w B A n c l) (hB : B ≤ w.heap.size) (hf : okRow s l = true) (r1 : 1 ≤ om) (r2 : om ≤ s) :
    Calls Try.prog 10 #[.int .i64 s, .slice A n c, .agg #[.int .i64 2, .int .i64 oa, .int .i64 om]] w (NS w s l ⟨2, oa, om⟩) := by
  obtain ⟨wb, hwb⟩ : ∃ wb, (w.alloc (.cells #[.int .i64 2, .int .i64 oa, .int .i64 om] 24)).alloc (.cells #[.int .i64 0, .int .i64 0] 27) = wb := ⟨_, rfl⟩
  have BX : Hid (Below w.heap.size w wb) := Lib.hid (by rw [← hwb]; exact two_blocks w _ _)
  have G5 : Hid (Whole wb w.heap.size 24 #[.int .i64 2, .int .i64 oa, .int .i64 om]) := Lib.hid (by rw [← hwb]; exact (Whole.new w 24 _).alloc _)
  have G7 : Hid (Whole wb (w.heap.size + 1) 27 #[.int .i64 0, .int .i64 0]) := Lib.hid (by
    rw [← hwb]
    have := Whole.new (w.alloc (.cells #[.int .i64 2, .int .i64 oa, .int .i64 om] 24)) 27 #[.int .i64 0, .int .i64 0]
    rwa [World.size_alloc] at this)
  have HWB := Lib.hid hwb
  have HNR := Lib.hid (nrow11 B A n c l s wb (Words.Rd.below h BX.out hB) (Nat.le_trans hB BX.out.size))
  clear hwb h
  have HFF := Lib.hid hf
  have HGK := Lib.hid (gk_row hf)
  have HF := Lib.hid hf
  obtain ⟨s0, s1, sch⟩ := ok_ch hf
  have SCH := Lib.hid sch
  clear hf sch
  go_enter Try.func10, Try.ntmps10
  go_wp2_with fail
  rw [HWB.out]
  refine (HNR.out).mono ?_; intro e w2 h2
  obtain ⟨⟨g, c2, rfl, o2⟩, b2⟩ := h2.yes HF.out
  have B2 := Lib.hid b2
  have S2 : Hid (ST wb g s.toNat c2 (rowOf l s.toNat) w2) := Lib.hid ⟨b2, o2⟩
  clear h2 o2 b2
  obtain ⟨z, rfl⟩ : ∃ z : Nat, s = z := ⟨s.toNat, by omega⟩
  have HZ : Hid ((z : Int).toNat = z) := Lib.hid (by omega)
  rw [HZ.out] at S2
  rw [HZ.out]
  have k0 := Whole.cell (whole_below2 G5.out B2.out) 0
  have k1 := Whole.cell (whole_below2 G5.out B2.out) 1
  have k2 := Whole.cell (whole_below2 G5.out B2.out) 2
  simp at k0 k1 k2
  rw [HZ.out] at HGK
  obtain ⟨m, rfl⟩ : ∃ m : Nat, om = m := ⟨om.toNat, by omega⟩
  have HPK := Lib.hid (pk_pk (o := ⟨2, oa, m⟩) (fun x hx => by have := SCH.out.each x hx; omega))
  have HEA := Lib.hid (fun x hx => SCH.out.each x hx)
  have hl4 := gk_length (rowOf l z) z
  rw [HGK.out] at hl4
  have HG0 := ngaps30 w2.heap.size (some ⟨g, 0, none⟩) z c2 (rowOf l z) w2 S2.out.row.bls (Nat.le_refl _) (by omega)
  rw [HGK.out] at HG0
  have HG0 := Lib.hid HG0
  go_wp2_with fail
  refine (HG0.out).mono ?_; rintro e w3 ⟨A3, c3, rfl, P3⟩
  have S3 := Lib.hid (S2.out.next P3.bel)
  have O3 := Lib.hid P3.row
  obtain ⟨ln, hln⟩ : ∃ ln, ln = l.length := ⟨_, rfl⟩
  have LN := Lib.hid hln
  rw [← hln] at O3 hl4 ⊢
  clear P3 hln k0 k1 k2
  go_wp2_with fail
  go_loopw [11, 12, 86] (fun p q i wr => ∃ (k : Nat) (st : Int × Int), p = .int .i64 st.1 ∧ q = .int .i64 st.2 ∧ i = .int .i64 k ∧ k ≤ ln ∧ st = pk ⟨2, oa, m⟩ (l.take k) ∧ Below w3.heap.size w3 wr) (fun _ _ i _ => (ln - intOf i).toNat)
  case atStart => exact ⟨0, (-1, 0), rfl, rfl, rfl, by omega, rfl, Below.refl _ _⟩
  case round =>
    obtain ⟨k, st, rfl, rfl, rfl, hk, hst, hbel⟩ := hrel
    have B3 := Lib.hid hbel
    have SR := Lib.hid (S3.out.next hbel)
    have HST := Lib.hid hst
    clear hbel hst
    obtain ⟨p, q⟩ := st
    simp only
    by_cases hlt : k < ln
    · have OR := Lib.hid (O3.out.below B3.out (Nat.le_refl _))
      obtain ⟨g3, rfl, hg3a, hg3b⟩ := O3.out.addr (by omega)
      have HX : Hid (l[k]? = some (gth l k)) := Lib.hid (gth_get (by rw [← LN.out]; exact hlt))
      obtain ⟨c0, c1⟩ := OR.out.at_ hlt
      have PN := Lib.hid (pk_next (o := ⟨2, oa, m⟩) HX.out)
      rw [← HST.out] at PN
      obtain ⟨x, hx⟩ : ∃ x, x = gth l k := ⟨_, rfl⟩
      rw [← hx] at c0 c1 PN
      clear hx
      obtain ⟨ga, gm⟩ := x
      simp only at c0 c1
      have BX4 := Lib.hid (B3.out.trans ((boxed wr (.cells #[.int .i64 ga, .int .i64 gm] 36)).mono B3.out.size))
      have X5 := (whole_below2 G5.out SR.out.bel).alloc (.cells #[.int .i64 ga, .int .i64 gm] 36)
      have f0 := Whole.cell X5 0
      have f1 := Whole.cell X5 1
      have f2 := Whole.cell X5 2
      simp at f0 f1 f2
      clear X5
      by_cases t1 : (m : Int) ≤ gm
      · by_cases t2 : p < 0
        · skip
          have E1 := Lib.hid (PN.out.trans (pkS_yes (o := ⟨2, oa, m⟩) (st := (p, q)) (g := ⟨ga, gm⟩) t1 (.inl t2)))
          go_wp2_with fail
          go_quiet (fail)
          go_wp2_with fail
          go_roundw
          case rel => exact ⟨k + 1, (ga, gm), rfl, rfl, by go_num, by omega, E1.out.symm, below_drewN BX4.out _⟩
          case measure => simp [intOf]; omega
        · by_cases t3 : gm < q
          · skip
            have E1 := Lib.hid (PN.out.trans (pkS_yes (o := ⟨2, oa, m⟩) (st := (p, q)) (g := ⟨ga, gm⟩) t1 (.inr ⟨rfl, t3⟩)))
            go_wp2_with fail
            go_quiet (fail)
            go_wp2_with fail
            go_roundw
            case rel => exact ⟨k + 1, (ga, gm), rfl, rfl, by go_num, by omega, E1.out.symm, below_drewN BX4.out _⟩
            case measure => simp [intOf]; omega
          · skip
            have E1 := Lib.hid (PN.out.trans (pkS_no (o := ⟨2, oa, m⟩) (st := (p, q)) (g := ⟨ga, gm⟩) (by simp only; omega)))
            go_wp2_with fail
            go_roundw
            case rel => exact ⟨k + 1, (p, q), rfl, rfl, by go_num, by omega, E1.out.symm, BX4.out⟩
            case measure => simp [intOf]; omega
      · skip
        have E1 := Lib.hid (PN.out.trans (pkS_no (o := ⟨2, oa, m⟩) (st := (p, q)) (g := ⟨ga, gm⟩) (by simp only; omega)))
        go_wp2_with fail
        go_roundw
        case rel => exact ⟨k + 1, (p, q), rfl, rfl, by go_num, by omega, E1.out.symm, BX4.out⟩
        case measure => simp [intOf]; omega
    · obtain rfl : k = ln := by omega
      have HST2 := HST.out
      rw [List.take_of_length_le (by rw [← LN.out]; exact Nat.le_refl _)] at HST2
      have PQ := Lib.hid HST2
      clear HST2
      by_cases t5 : p < 0
      · have SE := Lib.hid (ser_full (o := ⟨2, oa, m⟩) HFF.out (by simp) (by show ¬ ((m : Int) < 1 ∨ (z : Int) < m ∨ ((2 : Int) = 3 ∧ ((oa : Int) < 0 ∨ (z : Int) - m < oa))); omega) (by simp) (by rw [← PQ.out]; exact t5))
        have BR := Lib.hid SR.out.bel
        have HN := Lib.hid (no29 4)
        go_wp2_with fail
        refine (HN.out _).mono ?_; rintro e y1 ⟨rfl, b1⟩
        have BY := Lib.hid (BR.out.trans (b1.mono BR.out.size))
        have GY := Lib.hid (whole_below2 G7.out BY.out)
        have q0 := Whole.cell GY.out 0
        have q1 := Whole.cell GY.out 1
        have q2 := Whole.frozen GY.out 0
        have q3 := Whole.frozen GY.out 1
        simp at q0 q1
        clear b1
        unfold aval
        go_wp2_with fail
        refine bodyPost_ret (results_two rfl rfl (box_set GY.out)) rfl ?_
        exact ns_err SE.out (by decide) (((BX.out.trans (BY.out.mono BX.out.size)).setCell (by show w.heap.size ≤ w.heap.size + 1; omega) _).setCell (by show w.heap.size ≤ w.heap.size + 1; omega) _)
      have SE := Lib.hid (ser_take (o := ⟨2, oa, m⟩) HFF.out (by simp) (by show ¬ ((m : Int) < 1 ∨ (z : Int) < m ∨ ((2 : Int) = 3 ∧ ((oa : Int) < 0 ∨ (z : Int) - m < oa))); omega) (by simp) (by rw [← PQ.out]; exact t5))
      have AT : Hid (ats ⟨2, oa, m⟩ l = p) := Lib.hid (by
        show (if (2 : Int) = 3 then oa else (pk ⟨2, oa, m⟩ l).1) = p
        rw [if_neg (by omega), ← PQ.out])
      have hb : p + m ≤ z := by
        rcases HPK.out with ⟨h1, _⟩ | ⟨x, hx, h1, h2⟩
        · rw [← PQ.out] at h1; injection h1 with h1 _; omega
        · rw [← PQ.out] at h1
          injection h1 with h1 _
          have := HEA.out x hx
          simp only at h2
          omega
      have f0 := Whole.cell (whole_below2 G5.out SR.out.bel) 0
      have f1 := Whole.cell (whole_below2 G5.out SR.out.bel) 1
      have f2 := Whole.cell (whole_below2 G5.out SR.out.bel) 2
      simp at f0 f1 f2
      generalize wr = wq at *
      go_wp2_with fail
      go_loopw [123] (fun i wr => ∃ (j : Nat), i = .int .i64 j ∧ j ≤ m ∧ ST wb g z c2 (rowOf l z) wr) (fun i _ => (m - intOf i).toNat)
      case atStart => exact ⟨0, rfl, by omega, SR.out⟩
      case round =>
        obtain ⟨j, rfl, hj, hst⟩ := hrel
        have SS := Lib.hid hst
        have f0 := Whole.cell (whole_below2 G5.out hst.bel) 0
        have f1 := Whole.cell (whole_below2 G5.out hst.bel) 1
        have f2 := Whole.cell (whole_below2 G5.out hst.bel) 2
        simp at f0 f1 f2
        clear hst
        by_cases hjm : j < m
        · go_wp2_with fail
          go_roundw
          case rel => exact ⟨j + 1, by go_num, by omega, SS.out⟩
          case measure => simp [intOf]; omega
        · obtain rfl : m = j := by omega
          generalize wr = wp at *
          go_wp2_with fail
          have R0 := Lib.hid (rs_start l z p false)
          go_loopw [144] (fun i wr => ∃ (j : Nat) (row' : List Bool), i = .int .i64 j ∧ j ≤ m ∧ RS row' z l p j false ∧ ST wb g z c2 row' wr) (fun i _ => (m - intOf i).toNat)
          case atStart => exact ⟨0, _, rfl, by omega, R0.out, SS.out⟩
          case round =>
            obtain ⟨j, row', rfl, hj, hrs, hst⟩ := hrel
            have RR := Lib.hid hrs
            have SS := Lib.hid hst
            have f0 := Whole.cell (whole_below2 G5.out hst.bel) 0
            have f1 := Whole.cell (whole_below2 G5.out hst.bel) 1
            have f2 := Whole.cell (whole_below2 G5.out hst.bel) 2
            simp at f0 f1 f2
            clear hrs hst
            by_cases hjm : j < m
            · obtain ⟨x, hx⟩ : ∃ x : Nat, (x : Int) = p + j := ⟨(p + j).toNat, by omega⟩
              have hxz : x < z := by omega
              have hwx : IntKind.i64.wrap (p + (j : Int)) = (x : Int) := by rw [IntKind.wrap_i64]; omega
              have k1 := SS.out.row.frozen x
              have k2 := SS.out.row.at_ hxz
              have SN := Lib.hid (SS.out.set x false)
              have RN := Lib.hid (RR.out.next hx hxz)
              clear hx
              go_wp2_with fail
              go_roundw
              case rel => exact ⟨j + 1, _, by go_num, by omega, RN.out, SN.out⟩
              case measure => simp [intOf]; omega
            · obtain rfl : j = m := by omega
              have RD := Lib.hid (RR.out.done (m := (j : Int)) rfl)
              have HG := Lib.hid (ngaps30 wr.heap.size (some ⟨g, 0, none⟩) z c2 row' wr SS.out.row.bls (Nat.le_refl _) (by omega))
              clear f0 f1 f2
              go_wp2_with fail
              refine (HG.out).mono ?_; rintro e w9 ⟨A9, c9, rfl, P9⟩
              have B9 := Lib.hid (SS.out.bel.trans (P9.bel.mono SS.out.bel.size))
              have O9 := Lib.hid (P9.row.more (Nat.le_trans BX.out.size SS.out.bel.size))
              have GY := Lib.hid (whole_below2 G7.out B9.out)
              have q0 := Whole.cell GY.out 0
              have q1 := Whole.cell GY.out 1
              have q2 := Whole.frozen GY.out 0
              have q3 := Whole.frozen GY.out 1
              simp at q0 q1
              have O9W : Hid (∀ q, (Value.slice A9 (gk row' z).length c9).ownBlock = some q → wr.heap.size ≤ q) := Lib.hid fun q hq => (P9.row.lt q hq).1
              clear P9
              obtain ⟨ln, hln⟩ : ∃ ln, ln = (gk row' z).length := ⟨_, rfl⟩
              have LN := Lib.hid hln
              rw [← hln] at O9 O9W ⊢
              clear hln
              go_wp2_with fail
              refine bodyPost_ret (results_two rfl rfl (box_set GY.out)) rfl ?_
              refine ns_ok SE.out (L := gk row' z) ?_ ?_ LN.out.symm ?_ ?_
              · rw [HZ.out, RD.out]; rw [AT.out]; rfl
              · exact AT.out
              · have hlt : ∀ q, (Value.slice A9 ln c9).ownBlock = some q → wr.heap.size ≤ q := fun q hq => (O9W.out q hq)
                exact own_set2 O9.out (fun q hq => by have := hlt q hq; have := SS.out.bel.size; have := G7.out.lt; omega)
              · exact ((BX.out.trans (B9.out.mono BX.out.size)).setCell (by show w.heap.size ≤ w.heap.size + 1; omega) _).setCell (by show w.heap.size ≤ w.heap.size + 1; omega) _
end Go.Proofs.Ytkhcaobmohppnaa.Spc
