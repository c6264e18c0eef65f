/-
  What the document's own CMay, CTorn and CForce return.
-/
import Derived.Test.YtaombamfglljaaaRefs
namespace Go.Proofs.Ytaombamfglljaaa.Cell
open Go.ChangeShapes Go.WideShapes Go.ChangeAt Go.RowKit Words

theorem bts_own {w : World} {base n : Nat} {A : Option Addr} {c : Nat} {row : List Bool} (h : w.ownsRow base 4 1 (.slice A n c) n (bools row)) : Bts w w.heap.size A n c row := Rd.of_own h
set_option maxHeartbeats 1000000 in
theorem cmay (B1 B2 : Nat) (A1 A2 : Option Addr) (n1 n2 c1 c2 : Nat) (a b : List UInt8) (w : World) (h1 : Txt w B1 A1 n1 c1 a) (h2 : Txt w B2 A2 n2 c2 b) (hB1 : B1 ≤ w.heap.size) (hB2 : B2 ≤ w.heap.size) (hn1 : n1 ≤ 1048576) (hn2 : n2 ≤ 1048576) :
    Calls Try.prog 17 #[.slice A1 n1 c1, .slice A2 n2 c2] w fun e w' => e = .returned (.bool (may a b)) ∧ Below w.heap.size w w' := by
  have HA := Lib.hid (cbits _ _ _ _ _ w h1 hB1 hn1)
  have T2 := Lib.hid h2
  have L1 : Hid ((bitsL a).length = 8 * n1) := Lib.hid (by rw [bitsL_length, h1.len])
  have L2 : Hid ((bitsL b).length = 8 * n2) := Lib.hid (by rw [bitsL_length, h2.len])
  have HM := Lib.hid (okTo_may a b)
  clear h1 h2
  go_enter Try.func17, Try.ntmps17
  go_wp2_with fail
  refine (HA.out).mono ?_; rintro e x1 ⟨P1, k1, rfl, hown1, hb1⟩
  have B1' := Lib.hid hb1
  have R1 := Lib.hid (bts_own hown1)
  have HB := Lib.hid (cbits _ _ _ _ _ x1 (Rd.below T2.out hb1 hB2) (Nat.le_trans hB2 hb1.size) hn2)
  clear hown1 hb1
  go_wp2_with fail
  refine (HB.out).mono ?_; rintro e x2 ⟨P2, k2, rfl, hown2, hb2⟩
  have B2' : Hid (Below w.heap.size w x2) := Lib.hid (B1'.out.trans (hb2.mono B1'.out.size))
  have R1' := Lib.hid (Rd.below R1.out hb2 (Nat.le_refl _))
  have R2 := Lib.hid (bts_own hown2)
  clear hown2 hb2 R1
  have H0 : Hid (okTo (bitsL a) (bitsL b) 0 = ((8 * (n1 : Int)) == (8 * (n2 : Int)))) := Lib.hid (by
    rw [okTo_zero, L1.out, L2.out, Bool.eq_iff_iff, beq_iff_eq, beq_iff_eq]; omega)
  generalize hX : bitsL a = X at *
  generalize hY : bitsL b = Y at *
  clear hX hY
  go_wp2_with fail
  go_loop [7, 8] (fun o i => ∃ k : Nat, k ≤ 8 * n1 ∧ i = .int .i64 k ∧ o = .bool (okTo X Y k)) (fun _ i => (8 * n1 - intOf i).toNat)
  case atStart => exact ⟨0, by omega, rfl, by rw [H0.out]⟩
  case round =>
    obtain ⟨k, hk, rfl, rfl⟩ := hrel
    cases hok : okTo X Y k with
    | false =>
      have HF : Hid (okTo X Y X.length = false) := Lib.hid (by
        have := okTo_false hok (8 * n1 - k)
        rwa [show k + (8 * n1 - k) = X.length by rw [L1.out]; omega] at this)
      clear hok
      go_wp2_with fail
      go_ret
      exact ⟨ret_bool (by rw [← HM.out, HF.out]), B2'.out⟩
    | true =>
      have HOk := Lib.hid hok
      have HLen : Hid (X.length = Y.length) := Lib.hid (okTo_iff.1 hok).1
      clear hok
      by_cases hlt : k < 8 * n1
      · have hn12 : 8 * n1 = 8 * n2 := by have := HLen.out; rw [L1.out, L2.out] at this; exact this
        obtain ⟨g1, o1, rfl, _, _⟩ := Rd.row R1'.out (by omega)
        obtain ⟨g2, o2, rfl, _, _⟩ := Rd.row R2.out (by omega)
        obtain ⟨p, hp⟩ : ∃ p, X[k]? = some p := ⟨_, List.getElem?_eq_getElem (by rw [L1.out]; omega)⟩
        obtain ⟨q, hq⟩ : ∃ q, Y[k]? = some q := ⟨_, List.getElem?_eq_getElem (by rw [L2.out]; omega)⟩
        have d1 := Bts.cellAt R1'.out rfl hp
        have d2 := Bts.cellAt R2.out rfl hq
        have HS : Hid (okTo X Y (k + 1) = (p || !q)) := Lib.hid (by
          rw [okTo_succ, HOk.out, List.getD, List.getD, hp, hq]; simp)
        have hlt2 : (k : Int) < 8 * (n2 : Int) := by omega
        clear hp hq
        cases p
        · go_wp2_with fail
          go_round
          case rel => exact ⟨k + 1, by omega, by go_num, by rw [HS.out]; rfl⟩
          case measure => simp [intOf]; omega
        · go_wp2_with fail
          go_round
          case rel => exact ⟨k + 1, by omega, by go_num, by rw [HS.out]; rfl⟩
          case measure => simp [intOf]; omega
      · obtain rfl : k = 8 * n1 := by omega
        have HT : Hid (may a b = true) := Lib.hid (by rw [← HM.out, L1.out]; exact HOk.out)
        go_wp2_with fail
        go_ret
        exact ⟨ret_bool (by rw [HT.out]), B2'.out⟩
theorem bools_set (l : List Bool) (j : Nat) (b : Bool) : (bools l).set j (.bool b) = bools (l.set j b) := by unfold bools; exact List.map_set.symm
/-- A bit of an own row stored. -/
theorem stored_bit {w : World} {base g c n D : Nat} {l : List Bool} (h : w.ownsRow base 4 1 (.slice (some ⟨g, 0, none⟩) n c) n (bools l)) (j : Nat) (b : Bool) (hg : D ≤ g) :
    (w.setCell ⟨g, j, none⟩ (.bool b)).ownsRow base 4 1 (.slice (some ⟨g, 0, none⟩) n c) n (bools (l.set j b)) ∧ Below D w (w.setCell ⟨g, j, none⟩ (.bool b)) := by
  refine ⟨?_, (Below.refl _ _).setCell hg _⟩
  have := (h.stored j (.bool b)).1
  rwa [bools_set] at this
theorem made_text {w w' : World} {l : List UInt8} {A : Option Addr} {c n : Nat} (hn : l.length = n) (hO : Txt w' w'.heap.size A n c l) (hb : Below w.heap.size w w') : TextErr w (l, 0) (.returned (.tuple #[.slice A n c, .int .i64 0])) w' := by
  subst hn
  exact ⟨A, c, rfl, hO, hb⟩
theorem own_other {w : World} {base : Nat} {e : TypeId} {sz : Nat} {v : Value} {n : Nat} {xs : List Value} (h : w.ownsRow base e sz v n xs) {p : Addr} (hp : p.block < base) (u : Value) : (w.setCell p u).ownsRow base e sz v n xs := by
  refine ⟨h.1, ?_⟩
  rcases h.2 with hn | ⟨g, cap, cur, rfl, h1, hgg, rest⟩
  · exact .inl hn
  · refine .inr ⟨g, cap, cur, rfl, h1, ?_, rest⟩
    rw [← hgg]
    simp only [World.setCell, Array.getElem?_modify]
    rw [if_neg (by omega)]
set_option maxHeartbeats 2000000 in
theorem ctorn (B1 B2 B3 : Nat) (A1 A2 A3 : Option Addr) (n1 n2 n3 c1 c2 c3 : Nat) (a b : List UInt8) (row : List Bool) (w : World) (h1 : Txt w B1 A1 n1 c1 a) (h2 : Txt w B2 A2 n2 c2 b) (h3 : Bts w B3 A3 n3 c3 row)
    (hB1 : B1 ≤ w.heap.size) (hB2 : B2 ≤ w.heap.size) (hB3 : B3 ≤ w.heap.size) (hn1 : n1 ≤ 1048576) (hn2 : n2 ≤ 1048576) (hn3 : n3 ≤ 8388608) :
    Calls Try.prog 13 #[.slice A1 n1 c1, .slice A2 n2 c2, .slice A3 n3 c3] w (TextErr w (tornR a b row)) := by
  have l1 := h1.len
  have l2 := h2.len
  have hcs := chk_cases a b
  unfold tornR
  by_cases hn : n1 = n2
  · subst hn
    have hab : a.length = b.length := l1.trans l2.symm
    have HK := Lib.hid (cmay _ _ _ _ _ _ _ _ _ _ w h1 h2 hB1 hB2 hn1 hn2)
    have T1 := Lib.hid h1
    have T2 := Lib.hid h2
    have T3 := Lib.hid h3
    have L3 := Lib.hid h3.len
    cases hm : may a b with
    | false =>
      have h0 : chk a b = 6 := by
        rcases hcs with ⟨_, h, _⟩ | ⟨h, _⟩ | ⟨_, _, h⟩
        · rw [hm] at h; cases h
        · exact h
        · exact absurd hab h
      rw [hm] at HK
      rw [h0, if_neg (by decide)]
      clear hcs h0 hm h1 h2 h3 hab
      go_enter Try.func13, Try.ntmps13
      go_wp2_with fail
      refine (HK.out).mono ?_; rintro e x0 ⟨rfl, hb0⟩
      have B0 := Lib.hid hb0
      clear hb0
      go_wp2_with fail
      go_ret2
      exact nil_text rfl B0.out
    | true =>
      have h0 : chk a b = 0 := (chk_iff a b).2 hm
      rw [hm] at HK
      rw [h0, if_pos rfl]
      have LA : Hid ((bitsL a).length = 8 * n1) := Lib.hid (by rw [bitsL_length, l1])
      have LB : Hid ((bitsL b).length = 8 * n1) := Lib.hid (by rw [bitsL_length, l2])
      have HE := Lib.hid (upto_torn hab row)
      have LZ : Hid ((torn a b row).length = n1) := Lib.hid (by rw [torn_length hab, l1])
      generalize hZ : torn a b row = Z at *
      have HZ0 : Hid (upto (tornF row (bitsL b)) (bitsL a) 0 = bitsL a) := Lib.hid (upto_zero _ _)
      clear hZ hcs h0 hm h1 h2 h3 hab l1 l2
      go_enter Try.func13, Try.ntmps13
      go_wp2_with fail
      refine (HK.out).mono ?_; rintro e x0 ⟨rfl, hb0⟩
      have B0 := Lib.hid hb0
      have HA := Lib.hid (cbits _ _ _ _ _ x0 (Rd.below T1.out hb0 hB1) (Nat.le_trans hB1 hb0.size) hn1)
      clear hb0
      go_wp2_with fail
      refine (HA.out).mono ?_; rintro e x1 ⟨P1, k1, rfl, hown1, hb1⟩
      have B1' : Below w.heap.size w x1 := B0.out.trans (hb1.mono B0.out.size)
      have BB1 := Lib.hid B1'
      have O1 := Lib.hid hown1
      have HB := Lib.hid (cbits _ _ _ _ _ x1 (Rd.below T2.out B1' hB2) (Nat.le_trans hB2 B1'.size) hn2)
      clear hown1 hb1 B1'
      go_wp2_with fail
      refine (HB.out).mono ?_; rintro e x2 ⟨P2, k2, rfl, hown2, hb2⟩
      have B2' : Hid (Below w.heap.size w x2) := Lib.hid (BB1.out.trans (hb2.mono BB1.out.size))
      have O1' := Lib.hid (own_below O1.out hb2 (Nat.le_refl _))
      have O2 := Lib.hid hown2
      have S0 : w.heap.size ≤ x0.heap.size := B0.out.size
      rw [← HZ0.out] at O1'
      generalize hX : bitsL a = X at *
      generalize hY : bitsL b = Y at *
      clear hX hY hown2 hb2
      go_wp2_with fail
      rw [show min (n3 : Int) (8 * (n1 : Int)) = ((min n3 (8 * n1) : Nat) : Int) by omega]
      obtain ⟨N, hN⟩ : ∃ N, N = min n3 (8 * n1) := ⟨_, rfl⟩
      rw [← hN]
      have HN : Hid (N = min row.length X.length) := Lib.hid (by rw [hN, L3.out, LA.out])
      have hN1 : N ≤ n3 := by omega
      have hN2 : N ≤ 8 * n1 := by omega
      clear hN
      go_loopw [29] (fun i wr => ∃ k : Nat, k ≤ N ∧ i = .int .i64 k ∧ wr.ownsRow x0.heap.size 4 1 (.slice P1 (8 * n1) k1) (8 * n1) (bools (upto (tornF row Y) X k)) ∧ wr.ownsRow x1.heap.size 4 1 (.slice P2 (8 * n1) k2) (8 * n1) (bools Y) ∧ Below w.heap.size w wr) (fun i _ => (N - intOf i).toNat)
      case atStart => exact ⟨0, by omega, rfl, O1'.out, O2.out, B2'.out⟩
      case round =>
        obtain ⟨k, hk, rfl, hownA, hownB, hbel⟩ := hrel
        have OA := Lib.hid hownA
        have OB := Lib.hid hownB
        have BW := Lib.hid hbel
        clear hownA hownB
        by_cases hlt : k < N
        · obtain ⟨b3, o3, rfl, _, _⟩ := Rd.row T3.out (by omega)
          obtain ⟨g1, c1', hv1, hg1, hg1'⟩ := own_form_pos O1.out (by omega)
          obtain ⟨g2, c2', hv2, hg2, _⟩ := own_form_pos OB.out (by omega)
          injection hv1 with hv1 _ hv1'
          injection hv2 with hv2 _ hv2'
          subst hv1 hv1' hv2 hv2'
          obtain ⟨p, hp⟩ : ∃ p, X[k]? = some p := ⟨_, List.getElem?_eq_getElem (by rw [LA.out]; omega)⟩
          obtain ⟨q, hq⟩ : ∃ q, Y[k]? = some q := ⟨_, List.getElem?_eq_getElem (by rw [LB.out]; omega)⟩
          obtain ⟨t, ht⟩ : ∃ t, row[k]? = some t := ⟨_, List.getElem?_eq_getElem (by rw [L3.out]; omega)⟩
          have d3 := Bts.cellAt (Rd.below T3.out hbel hB3) rfl ht
          have HP := Lib.hid hp
          have HT : Hid (row.getD k false = t) := Lib.hid (by rw [List.getD, ht]; rfl)
          have HQ : Hid (Y.getD k false = q) := Lib.hid (by rw [List.getD, hq]; rfl)
          have d2 := Bts.cellAt (bts_own OB.out) rfl hq
          rw [Nat.zero_add] at d2
          have f1 := OA.out.frozenAt k
          obtain ⟨m0, hm0⟩ : ∃ m0, wr.cell? ⟨g1, k, none⟩ = some m0 := by
            have := Bts.cellAt (bts_own OA.out) rfl (upto_here (f := tornF row Y) hp)
            rw [Nat.zero_add] at this
            exact ⟨_, this⟩
          clear hbel hp hq ht
          have i3 : (k : Int) < (n3 : Int) := by omega
          have i1 : (k : Int) < 8 * (n1 : Int) := by omega
          cases t with
          | false =>
            have HS : Hid (upto (tornF row Y) X k = upto (tornF row Y) X (k + 1)) := Lib.hid (upto_skip HP.out (by unfold tornF; rw [HT.out]; rfl))
            go_wp2_with fail
            go_roundw
            case rel => exact ⟨k + 1, by omega, by go_num, by rw [← HS.out]; exact OA.out, OB.out, BW.out⟩
            case measure => simp [intOf]; omega
          | true =>
            have HS : Hid ((upto (tornF row Y) X k).set k q = upto (tornF row Y) X (k + 1)) := Lib.hid (by
              rw [← upto_set HP.out]; unfold tornF; rw [HT.out, HQ.out]; rfl)
            go_wp2_with fail
            obtain ⟨O4, b4⟩ := stored_bit OA.out k q (D := w.heap.size) (by omega)
            rw [HS.out] at O4
            have O5 := own_other OB.out (p := ⟨g1, k, none⟩) hg1' (.bool q)
            have HO4 := Lib.hid O4
            have HO5 := Lib.hid O5
            have HB4 := Lib.hid b4
            clear O4 O5 b4 d2 d3 f1 hm0
            go_roundw
            case rel => exact ⟨k + 1, by omega, by go_num, HO4.out, HO5.out, BW.out.trans HB4.out⟩
            case measure => simp [intOf]; omega
        · obtain rfl : k = N := by omega
          have HF : Hid (wr.ownsRow x0.heap.size 4 1 (.slice P1 (8 * n1) k1) (8 * n1) (bools (bitsL Z))) := Lib.hid (by
            have := OA.out
            rwa [HN.out, HE.out] at this)
          have HC := Lib.hid (cbytes _ _ _ _ Z wr (bts_own HF.out) (Nat.le_refl _) (by rw [LZ.out]; exact hn1))
          clear hbel
          go_wp2_with fail
          refine (HC.out).mono ?_; rintro e x5 ⟨A5, c5, rfl, hown5, hb5⟩
          have O5 := Lib.hid hown5
          have B5 := Lib.hid (BW.out.trans (hb5.mono BW.out.size))
          clear hown5 hb5
          go_wp2_with fail
          go_ret2
          exact made_text rfl (Rd.of_own O5.out) B5.out
  · have hab : a.length ≠ b.length := by omega
    have h0 : chk a b = 1 := by
      rcases hcs with ⟨_, _, h⟩ | ⟨_, _, h⟩ | ⟨h, _⟩
      · exact absurd h hab
      · exact absurd h hab
      · exact h
    rw [h0, if_neg (by decide)]
    have hne : ((n1 : Int) != (n2 : Int)) = true := by rw [bne_iff_ne]; omega
    clear hcs h0 hab h1 h2 h3
    go_enter Try.func13, Try.ntmps13
    go_wp2_with fail
    go_ret2
    exact nil_text rfl (Below.refl _ _)
set_option maxHeartbeats 2000000 in
theorem cforce (B1 B2 : Nat) (A1 A2 : Option Addr) (n1 n2 c1 c2 : Nat) (a b : List UInt8) (w : World) (h1 : Txt w B1 A1 n1 c1 a) (h2 : Txt w B2 A2 n2 c2 b)
    (hB1 : B1 ≤ w.heap.size) (hB2 : B2 ≤ w.heap.size) (hn1 : n1 ≤ 1048576) (hn2 : n2 ≤ 1048576) :
    Calls Try.prog 15 #[.slice A1 n1 c1, .slice A2 n2 c2] w (TextErr w (forceR a b)) := by
  have l1 := h1.len
  have l2 := h2.len
  unfold forceR
  by_cases hn : n1 = n2
  · subst hn
    have hab : a.length = b.length := l1.trans l2.symm
    rw [if_pos hab]
    have T1 := Lib.hid h1
    have T2 := Lib.hid h2
    have LA : Hid ((bitsL a).length = 8 * n1) := Lib.hid (by rw [bitsL_length, l1])
    have LB : Hid ((bitsL b).length = 8 * n1) := Lib.hid (by rw [bitsL_length, l2])
    have HE := Lib.hid (upto_force hab)
    have LZ : Hid ((force a b).length = n1) := Lib.hid (by rw [force_length hab, l1])
    generalize hZ : force a b = Z at *
    have HZ0 : Hid (upto (forceF (bitsL b)) (bitsL a) 0 = bitsL a) := Lib.hid (upto_zero _ _)
    have HA := Lib.hid (cbits _ _ _ _ _ w h1 hB1 hn1)
    clear hZ h1 h2 hab l1 l2
    go_enter Try.func15, Try.ntmps15
    go_wp2_with fail
    refine (HA.out).mono ?_; rintro e x1 ⟨P1, k1, rfl, hown1, hb1⟩
    have BB1 := Lib.hid hb1
    have O1 := Lib.hid hown1
    have HB := Lib.hid (cbits _ _ _ _ _ x1 (Rd.below T2.out hb1 hB2) (Nat.le_trans hB2 hb1.size) hn2)
    clear hown1 hb1
    go_wp2_with fail
    refine (HB.out).mono ?_; rintro e x2 ⟨P2, k2, rfl, hown2, hb2⟩
    have B2' : Hid (Below w.heap.size w x2) := Lib.hid (BB1.out.trans (hb2.mono BB1.out.size))
    have O1' := Lib.hid (own_below O1.out hb2 (Nat.le_refl _))
    have O2 := Lib.hid hown2
    rw [← HZ0.out] at O1'
    generalize hX : bitsL a = X at *
    generalize hY : bitsL b = Y at *
    clear hX hY hown2 hb2
    go_wp2_with fail
    go_loopw [20] (fun i wr => ∃ k : Nat, k ≤ 8 * n1 ∧ i = .int .i64 k ∧ wr.ownsRow w.heap.size 4 1 (.slice P1 (8 * n1) k1) (8 * n1) (bools (upto (forceF Y) X k)) ∧ wr.ownsRow x1.heap.size 4 1 (.slice P2 (8 * n1) k2) (8 * n1) (bools Y) ∧ Below w.heap.size w wr) (fun i _ => (8 * n1 - intOf i).toNat)
    case atStart => exact ⟨0, by omega, rfl, O1'.out, O2.out, B2'.out⟩
    case round =>
      obtain ⟨k, hk, rfl, hownA, hownB, hbel⟩ := hrel
      have OA := Lib.hid hownA
      have OB := Lib.hid hownB
      have BW := Lib.hid hbel
      clear hownA hownB
      by_cases hlt : k < 8 * n1
      · obtain ⟨g1, c1', hv1, hg1, hg1'⟩ := own_form_pos O1.out (by omega)
        obtain ⟨g2, c2', hv2, hg2, _⟩ := own_form_pos OB.out (by omega)
        injection hv1 with hv1 _ hv1'
        injection hv2 with hv2 _ hv2'
        subst hv1 hv1' hv2 hv2'
        obtain ⟨p, hp⟩ : ∃ p, X[k]? = some p := ⟨_, List.getElem?_eq_getElem (by rw [LA.out]; omega)⟩
        obtain ⟨q, hq⟩ : ∃ q, Y[k]? = some q := ⟨_, List.getElem?_eq_getElem (by rw [LB.out]; omega)⟩
        have HP := Lib.hid hp
        have HQ : Hid (Y.getD k false = q) := Lib.hid (by rw [List.getD, hq]; rfl)
        have d2 := Bts.cellAt (bts_own OB.out) rfl hq
        rw [Nat.zero_add] at d2
        have f1 := OA.out.frozenAt k
        have d1 := Bts.cellAt (bts_own OA.out) rfl (upto_here (f := forceF Y) hp)
        rw [Nat.zero_add] at d1
        have HS : Hid ((upto (forceF Y) X k).set k (p && q) = upto (forceF Y) X (k + 1)) := Lib.hid (by
          rw [← upto_set HP.out]; unfold forceF; rw [HQ.out])
        clear hbel hp hq
        have i1 : (k : Int) < 8 * (n1 : Int) := by omega
        obtain ⟨O4, b4⟩ := stored_bit OA.out k (p && q) (D := w.heap.size) (by omega)
        rw [HS.out] at O4
        have O5 := own_other OB.out (p := ⟨g1, k, none⟩) hg1' (.bool (p && q))
        have HO4 := Lib.hid O4
        have HO5 := Lib.hid O5
        have HB4 := Lib.hid b4
        clear O4 O5 b4
        cases p with
        | false =>
          go_wp2_with fail
          go_roundw
          case rel => exact ⟨k + 1, by omega, by go_num, HO4.out, HO5.out, BW.out.trans HB4.out⟩
          case measure => simp [intOf]; omega
        | true =>
          go_wp2_with fail
          go_roundw
          case rel => exact ⟨k + 1, by omega, by go_num, HO4.out, HO5.out, BW.out.trans HB4.out⟩
          case measure => simp [intOf]; omega
      · obtain rfl : k = 8 * n1 := by omega
        have HF : Hid (wr.ownsRow w.heap.size 4 1 (.slice P1 (8 * n1) k1) (8 * n1) (bools (bitsL Z))) := Lib.hid (by
          have := OA.out
          rwa [← LA.out, HE.out, LA.out] at this)
        have HC := Lib.hid (cbytes _ _ _ _ Z wr (bts_own HF.out) (Nat.le_refl _) (by rw [LZ.out]; exact hn1))
        clear hbel
        go_wp2_with fail
        refine (HC.out).mono ?_; rintro e x5 ⟨A5, c5, rfl, hown5, hb5⟩
        have O5 := Lib.hid hown5
        have B5 := Lib.hid (BW.out.trans (hb5.mono BW.out.size))
        clear hown5 hb5
        go_wp2_with fail
        go_ret2
        exact made_text rfl (Rd.of_own O5.out) B5.out
  · have hab : a.length ≠ b.length := by omega
    rw [if_neg hab]
    have hne : ((n1 : Int) != (n2 : Int)) = true := by rw [bne_iff_ne]; omega
    clear hab h1 h2
    go_enter Try.func15, Try.ntmps15
    go_wp2_with fail
    go_ret2
    exact nil_text rfl (Below.refl _ _)
end Go.Proofs.Ytaombamfglljaaa.Cell
