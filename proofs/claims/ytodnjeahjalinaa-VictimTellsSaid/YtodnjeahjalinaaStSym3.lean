/-
  What the library's merge in place leaves.
-/
import Derived.Test.YtodnjeahjalinaaStSym2
namespace Go.Proofs.Ytodnjeahjalinaa.Stab
open Go.ChangeShapes Go.WideShapes Go.ChangeAt Go.RowKit Words Go.Sort
set_option linter.unusedVariables false

/-- The two halves behind the rotation: each is to be merged again. -/
theorem half1 {f : Nat} {cb : Array Value} {cf : Int → Int → Int} {V : Int → Prop} {lt : Int → Int → Bool} {d : List Int} {a m b base s e : Nat} {w w1 : World} (M : Mrg f cb cf V lt d a m b base w) (hb : Below base w w1)
    (has : a ≤ s) (hsm : s ≤ m) (hme : m ≤ e) (heb : e ≤ b) (hbl : b ≤ d.length) : Mrg f cb cf V lt (rotd d s m e) a s (s + (e - m)) base w1 := by
  have n := fun k hk => nti_rotd has hsm hme heb hbl (k := k) hk
  refine ⟨M.cmp.next hb, fun k h1 h2 => ?_, fun i j h1 h2 h3 h4 => ?_, fun i j h1 h2 h3 => ?_, fun i j h1 h2 h3 => ?_⟩
  · rw [n k (by omega)]
    by_cases c : k < s
    · rw [if_pos c]; exact M.val k h1 (by omega)
    · rw [if_neg c, if_pos h2]; exact M.val _ (by omega) (by omega)
  · rw [n i (by omega), n j (by omega), if_pos h2, if_neg (by omega), if_pos h4]
    exact M.agr i _ h1 (by omega) (by omega) (by omega)
  · rw [n i (by omega), n j (by omega), if_pos (show i < s by omega), if_pos h3]
    exact M.s1 i j h1 h2 (by omega)
  · rw [n i (by omega), n j (by omega), if_neg (show ¬ i < s by omega), if_pos (show i < s + (e - m) by omega), if_neg (show ¬ j < s by omega), if_pos h3]
    exact M.s2 _ _ (by omega) (by omega) (by omega)
theorem half2 {f : Nat} {cb : Array Value} {cf : Int → Int → Int} {V : Int → Prop} {lt : Int → Int → Bool} {d : List Int} {a m b base s e : Nat} {w w1 : World} (M : Mrg f cb cf V lt d a m b base w) (hb : Below base w w1)
    (has : a ≤ s) (hsm : s ≤ m) (hme : m ≤ e) (heb : e ≤ b) (hbl : b ≤ d.length) : Mrg f cb cf V lt (srtd lt (rotd d s m e) a (s + (e - m))) (s + (e - m)) e b base w1 := by
  have hl := rotd_length has hsm hme heb hbl
  have n := fun k (hk : k < d.length) (h : s + (e - m) ≤ k) => (srtd_out (lt := lt) (d := rotd d s m e) (a := a) (i := s + (e - m)) (by omega) (by omega) (k := k) (by omega) (.inr h)).trans (nti_rotd has hsm hme heb hbl (k := k) hk)
  refine ⟨M.cmp.next hb, fun k h1 h2 => ?_, fun i j h1 h2 h3 h4 => ?_, fun i j h1 h2 h3 => ?_, fun i j h1 h2 h3 => ?_⟩
  · rw [n k (by omega) h1, if_neg (by omega), if_neg (by omega)]
    split
    · exact M.val _ (by omega) (by omega)
    · exact M.val k (by omega) h2
  · rw [n i (by omega) h1, n j (by omega) (by omega), if_neg (show ¬ i < s by omega), if_neg (show ¬ i < s + (e - m) by omega), if_pos h2, if_neg (show ¬ j < s by omega), if_neg (show ¬ j < s + (e - m) by omega), if_neg (show ¬ j < e by omega)]
    exact M.agr _ j (by omega) (by omega) (by omega) h4
  · rw [n i (by omega) h1, n j (by omega) (by omega), if_neg (show ¬ i < s by omega), if_neg (show ¬ i < s + (e - m) by omega), if_pos (show i < e by omega), if_neg (show ¬ j < s by omega), if_neg (show ¬ j < s + (e - m) by omega), if_pos h3]
    exact M.s1 _ _ (by omega) (by omega) (by omega)
  · rw [n i (by omega) (by omega), n j (by omega) (by omega), if_neg (show ¬ i < s by omega), if_neg (show ¬ i < s + (e - m) by omega), if_neg (show ¬ i < e by omega), if_neg (show ¬ j < s by omega), if_neg (show ¬ j < s + (e - m) by omega), if_neg (show ¬ j < e by omega)]
    exact M.s2 i j (by omega) h2 h3
/-- The statement that is proved by induction on the length of the piece. -/
def SymAt (f : Nat) (cb : Array Value) (cf : Int → Int → Int) (V : Int → Prop) (lt : Int → Int → Bool) (base g n c N : Nat) : Prop :=
  ∀ (d : List Int) (a m b : Nat) (w : World), b - a ≤ N → OwnI w base (some ⟨g, 0, none⟩) n c d → base ≤ w.heap.size → Mrg f cb cf V lt d a m b base w → a < m → m < b → b ≤ n →
    Calls Try.prog 40 #[.slice (some ⟨g, 0, none⟩) n c, .int .i64 a, .int .i64 m, .int .i64 b, .func (.func f) #[] cb] w fun e w' => e = .returned (.tuple #[]) ∧ St w base g n c (srtd lt d a b) w'
set_option maxRecDepth 100000 in
set_option maxHeartbeats 8000000 in
theorem symGen (f : Nat) (cb : Array Value) (cf : Int → Int → Int) (V : Int → Prop) (lt : Int → Int → Bool) (T : Tot lt) (ef : ∀ args w, (callFunc f args).run Try.prog w = .ok (.enter f args) w)
    (base g n c N : Nat) (IH : SymAt f cb cf V lt base g n c N)
    (d : List Int) (a m b : Nat) (w : World) (hN : b - a ≤ N + 1) (h : OwnI w base (some ⟨g, 0, none⟩) n c d) (hbase : base ≤ w.heap.size) (M : Mrg f cb cf V lt d a m b base w) (hn : n ≤ 1000000) (ham : a + 2 ≤ m) (hmb : m + 2 ≤ b) (hb : b ≤ n) :
    Calls Try.prog 40 #[.slice (some ⟨g, 0, none⟩) n c, .int .i64 a, .int .i64 m, .int .i64 b, .func (.func f) #[] cb] w fun e w' => e = .returned (.tuple #[]) ∧ St w base g n c (srtd lt d a b) w' := by
  have mx := mixedO
  have T0 := Lib.hid (St.refl h)
  have hl := Lib.hid h.len
  have HM := Lib.hid M
  have HIH := Lib.hid IH
  clear h M IH
  have t1 : (((m : Int) - (a : Int)) == 1) = false := by rw [beq_eq_false_iff_ne]; omega
  have t2 : (((b : Int) - (m : Int)) == 1) = false := by rw [beq_eq_false_iff_ne]; omega
  obtain ⟨q1, q2, q3, q4, q5⟩ := lohi ham hmb
  have hsplit := fun s hs1 hs2 => split_ok T (d := d) (a := a) (m := m) (b := b) (s := s) ham hmb (by rw [hl.out]; exact hb) HM.out.s1 HM.out.s2 hs1 hs2
  obtain ⟨md, hmd⟩ : ∃ md, md = (a + b) / 2 := ⟨_, rfl⟩
  obtain ⟨L0, hL0⟩ : ∃ x, x = lo a m b := ⟨_, rfl⟩
  obtain ⟨H0, hH0⟩ : ∃ x, x = hi a m b := ⟨_, rfl⟩
  rw [← hmd, ← hH0] at q4
  rw [← hL0] at q1
  rw [← hL0, ← hH0] at q2
  rw [← hH0] at q3
  have hcase : (m > md ∧ L0 = md + m - b ∧ H0 = md) ∨ (¬ m > md ∧ L0 = a ∧ H0 = m) := by
    rw [hL0, hH0]
    unfold lo hi
    rw [← hmd]
    split
    · rename_i hc; exact .inl ⟨hc, rfl, rfl⟩
    · rename_i hc; exact .inr ⟨hc, rfl, rfl⟩
  simp only [← hmd, ← hL0, ← hH0] at q5 hsplit
  have hmd1 : a < md := by omega
  have hmd2 : md < b := by omega
  obtain ⟨nn, hnn⟩ : ∃ nn, nn = md + m := ⟨_, rfl⟩
  obtain ⟨pp, hpp⟩ : ∃ pp, pp = md + m - 1 := ⟨_, rfl⟩
  rw [← hpp] at hsplit
  rw [← hnn] at q4 q5 hsplit
  have en : (md : Int) + (m : Int) = (nn : Int) := by omega
  have ep : (nn : Int) - 1 = (pp : Int) := by omega
  have HQ5 := Lib.hid q5
  have HSP := Lib.hid hsplit
  have hn1 : nn ≤ 2000000 := by omega
  have hp1 : pp + 1 = nn := by omega
  have HP1 := Lib.hid hp1
  have HNN := Lib.hid hnn
  have hnb : nn ≤ b + m := by omega
  have emd : ((a : Int) + (b : Int)) / 2 = (md : Int) := by omega
  have HMD := Lib.hid hmd
  have HCA := Lib.hid hcase
  clear hmd hcase hL0 hH0 hnn hpp q5 hsplit
  go_enter Try.func40, Try.ntmps40
  go_upto_region 24 with fail
  go_cut [18] (fun u wx => u = .int .i64 md ∧ wx = w)
  case first => as_aux_lemma =>
    go_wp2_with fail
    go_meet
    exact ⟨i64_num rfl, rfl⟩
  case rest =>
    obtain ⟨rfl, hw⟩ := hcut
    obtain rfl := hw.symm
    clear emd
    go_upto_if 140 with fail
    go_cut [20, 21] (fun u v wx => u = .int .i64 L0 ∧ v = .int .i64 H0 ∧ wx = w)
    case first => as_aux_lemma =>
      rcases HCA.out with ⟨hc1, hc2, hc3⟩ | ⟨hc1, hc2, hc3⟩
      · have g1 : (md : Int) < (m : Int) := by omega
        have g2 : (nn : Int) - (b : Int) = (L0 : Int) := by have := HNN.out; have := HMD.out; omega
        have g3 : H0 = md := hc3
        clear HCA
        go_wp2_with fail
        go_meet
        exact ⟨by first | rfl | exact i64_num g2 | exact i64_num (by omega), by first | rfl | exact i64_num (by omega), rfl⟩
      · have g1 : ¬ (md : Int) < (m : Int) := by omega
        have g2 : L0 = a := hc2
        have g3 : H0 = m := hc3
        clear HCA
        go_wp2_with fail
        go_meet
        exact ⟨by first | rfl | exact i64_num (by omega), by first | rfl | exact i64_num (by omega), rfl⟩
    case rest =>
      obtain ⟨rfl, rfl, hw⟩ := hcut
      obtain rfl := hw.symm
      clear HCA
      go_wp2_with fail
      go_loopw [20, 21] (fun u v wr => ∃ s r : Nat, u = .int .i64 s ∧ v = .int .i64 r ∧ L0 ≤ s ∧ s ≤ r ∧ r ≤ H0 ∧ (∀ c, L0 ≤ c → c < s → lt (nti d (pp - c)) (nti d c) = false) ∧ (∀ c, r ≤ c → c < H0 → lt (nti d (pp - c)) (nti d c) = true) ∧ St w base g n c d wr) (fun u v _ => (intOf v - intOf u).toNat)
      case atStart => exact ⟨L0, H0, rfl, rfl, Nat.le_refl _, q2, Nat.le_refl _, fun k h1 h2 => absurd h2 (by omega), fun k h1 h2 => absurd h2 (by omega), T0.out⟩
      case round =>
        obtain ⟨s, r, rfl, rfl, hLs, hsr, hrH, h1, h2, ht⟩ := hrel
        have H1 := Lib.hid h1
        have H2 := Lib.hid h2
        have HT := Lib.hid ht
        clear h1 h2 ht
        by_cases hlt : s < r
        · obtain ⟨x, hx⟩ : ∃ x, x = (s + r) / 2 := ⟨_, rfl⟩
          have hsx : s ≤ x := by omega
          have hxr : x < r := by omega
          have hlt' : (s : Int) < (r : Int) := by omega
          have HXE := Lib.hid hx
          clear hx
          go_upto_region 34 with fail
          go_cut [23] (fun u wx => u = .int .i64 x ∧ wx = wr)
          case first => as_aux_lemma =>
            go_wp2_with fail
            go_meet
            exact ⟨i64_num (by have := HXE.out; omega), rfl⟩
          case rest =>
            obtain ⟨rfl, hw⟩ := hcut
            obtain rfl := hw.symm
            clear HXE
            obtain ⟨qq, hqq⟩ : ∃ qq, qq = pp - x := ⟨_, rfl⟩
            have u1 := HQ5.out x (by omega) (by omega)
            have u2 := HQ5.out (x + 1) (by omega) (by omega)
            have e1 : (pp : Int) - (x : Int) = (qq : Int) := by omega
            have hmq : m ≤ qq := by omega
            have hqb : qq < b := by omega
            have r1 := wrap_small (q := qq) (by omega)
            have c0 := HT.out.own.cellG (k := qq) (by omega)
            have c1 := HT.out.own.cellG (k := x) (by omega)
            have hag := HM.out.agr x qq (by omega) (by omega) hmq hqb
            have hcc := fun mm os => HM.out.cmp.at_ (HT.out.below hbase) (by have := HT.out.grown.size; omega) (HM.out.val qq (by omega) (by omega)) (HM.out.val x (by omega) (by omega)) mm os
            unfold lessOf at hag
            have HUP := Lib.hid (fun (hz : lt (nti d qq) (nti d x) = false) k (h1 : L0 ≤ k) (h2 : k < x + 1) => (T.le (T.le (on_le T HM.out.s1 (by omega : a ≤ k) (by omega : k ≤ x) (by omega)) hz) (on_le T HM.out.s2 (by omega : m ≤ qq) (by omega : qq ≤ pp - k) (by have := HQ5.out k (by omega) (by omega); omega)) : lt (nti d (pp - k)) (nti d k) = false))
            have HDN := Lib.hid (fun (hz : lt (nti d qq) (nti d x) = true) k (h1 : x ≤ k) (h2 : k < H0) => (T.le_lt (on_le T HM.out.s2 (by have := HQ5.out (k + 1) (by omega) (by omega); omega : m ≤ pp - k) (by omega : pp - k ≤ qq) hqb) (T.lt_le hz (on_le T HM.out.s1 (by omega) h1 (by omega))) : lt (nti d (pp - k)) (nti d k) = true))
            clear u1 u2 hqq
            obtain ⟨y, hy⟩ : ∃ y, y = nti d qq := ⟨_, rfl⟩
            obtain ⟨z, hz'⟩ : ∃ z, z = nti d x := ⟨_, rfl⟩
            rw [← hy] at c0 hag hcc
            rw [← hz'] at c1 hag hcc
            have HY := Lib.hid hy
            have HX := Lib.hid hz'
            clear hz' hy
            have HCC := Lib.hid hcc
            cases hz : lt y z with
            | false => as_aux_lemma =>
              rw [hz] at hag
              generalize cf y z = rr at *
              have HU := Lib.hid (HUP.out (by rw [← HY.out, ← HX.out]; exact hz))
              clear hz hcc HUP HDN
              go_wp2_with fail
              refine wp_region_quiet_grown (by assumption) (by kernel_rfl) ?_
              repeat (go_big_quiet_step (first | (go_at_fn f; refine Calls.grown_of (HCC.out _ _))))
              refine wpQuiet_nil ?_
              intro _ hw2
              obtain ⟨⟨nq, osq⟩, hw3⟩ := hw2
              subst hw3
              have HT3 := Lib.hid (HT.out.more nq osq)
              clear c0 c1 hag HCC
              go_wp2_with fail
              go_roundw
              case rel => exact ⟨x + 1, r, by go_num, rfl, by omega, by omega, hrH, HU.out, H2.out, HT3.out⟩
              case measure => simp [intOf]; omega
            | true => as_aux_lemma =>
              rw [hz] at hag
              generalize cf y z = rr at *
              have HD := Lib.hid (HDN.out (by rw [← HY.out, ← HX.out]; exact hz))
              clear hz hcc HUP HDN
              go_wp2_with fail
              refine wp_region_quiet_grown (by assumption) (by kernel_rfl) ?_
              repeat (go_big_quiet_step (first | (go_at_fn f; refine Calls.grown_of (HCC.out _ _))))
              refine wpQuiet_nil ?_
              intro _ hw2
              obtain ⟨⟨nq, osq⟩, hw3⟩ := hw2
              subst hw3
              have HT3 := Lib.hid (HT.out.more nq osq)
              clear c0 c1 hag HCC
              go_wp2_with fail
              go_roundw
              case rel => exact ⟨s, x, rfl, rfl, hLs, hsx, by omega, H1.out, HD.out, HT3.out⟩
              case measure => simp [intOf]; omega
        · obtain rfl : s = r := by omega
          have hlt' : ¬ (s : Int) < (s : Int) := by omega
          obtain ⟨k1, k2⟩ := HSP.out s hLs hrH H1.out H2.out
          obtain ⟨v1, v2, v3, v4⟩ := HQ5.out s hLs hrH
          obtain ⟨ee, hee⟩ : ∃ ee, ee = nn - s := ⟨_, rfl⟩
          rw [← hee] at k1 k2 v1 v2 v4
          have hse : s + (ee - m) = md := by have := HNN.out; omega
          have e1 : (nn : Int) - (s : Int) = (ee : Int) := by have := HNN.out; omega
          have has : a ≤ s := by omega
          have hsm : s ≤ m := by omega
          have hbl : b ≤ d.length := by rw [hl.out]; exact hb
          have hrl := rotd_length (d := d) has hsm v1 v2 hbl
          have hv := halves T has hsm v1 v2 hbl HM.out.s1 HM.out.s2 k1 k2
          rw [hse] at hv
          have HV := Lib.hid (by
            show put (srtd lt (rotd d s m ee) a md) md b (sortT lt (seg (srtd lt (rotd d s m ee) a md) md b)) = _
            rw [show seg (srtd lt (rotd d s m ee) a md) md b = seg (rotd d s m ee) md b from seg_put_hi (by omega) (by omega) (srtd_len (by omega) (by omega)) (Nat.le_refl _) (by omega)]
            exact hv : srtd lt (srtd lt (rotd d s m ee) a md) md b = srtd lt d a b)
          have HM1 := Lib.hid (fun w1 (hb' : Below base w w1) => (by
            have := half1 HM.out hb' has hsm v1 v2 hbl
            rw [hse] at this
            exact this : Mrg f cb cf V lt (rotd d s m ee) a s md base w1))
          have HM2 := Lib.hid (fun w1 (hb' : Below base w w1) => (by
            have := half2 HM.out hb' has hsm v1 v2 hbl
            rw [hse] at this
            exact this : Mrg f cb cf V lt (srtd lt (rotd d s m ee) a md) md ee b base w1))
          have HROT := Lib.hid (fun (h : s = m ∨ m = ee) => (rotd_same hsm v1 (by omega) h : rotd d s m ee = d))
          have HS1 := Lib.hid (fun (h : ¬ (a < s ∧ s < md)) => (half_same T (by omega) (by omega) (by
            have M1 := HM1.out w (Below.refl _ _)
            by_cases z : a = s
            · subst z; exact M1.s2
            · obtain rfl : s = md := by omega
              exact M1.s1) : srtd lt (rotd d s m ee) a md = rotd d s m ee))
          have HS2 := Lib.hid (fun (h : ¬ (md < ee ∧ ee < b)) => (half_same T (by omega) (by rw [srtd_length (by omega) (by omega)]; omega) (by
            have M1 := HM2.out w (Below.refl _ _)
            by_cases z : md = ee
            · subst z; exact M1.s2
            · obtain rfl : ee = b := by omega
              exact M1.s1) : srtd lt (srtd lt (rotd d s m ee) a md) md b = srtd lt (rotd d s m ee) a md))
          clear hee hv k1 k2 hse hrl
          go_upto_region 39 with fail
          obtain ⟨B1, hB1⟩ : ∃ x, x = decide (s < m ∧ m < ee) := ⟨_, rfl⟩
          have HB1 := Lib.hid hB1
          clear hB1
          go_cut [185] (fun u wx => u = .bool B1 ∧ wx = wr)
          case first => as_aux_lemma =>
            by_cases z1 : s < m
            · have z1' : (s : Int) < (m : Int) := by omega
              by_cases z2 : m < ee
              · have z2' : (m : Int) < (ee : Int) := by omega
                go_wp2_with fail
                go_meet
                exact ⟨congrArg Value.bool (by rw [HB1.out]; exact (decide_eq_true ⟨z1, z2⟩).symm), rfl⟩
              · have z2' : ¬ (m : Int) < (ee : Int) := by omega
                go_wp2_with fail
                go_meet
                exact ⟨congrArg Value.bool (by rw [HB1.out]; exact (decide_eq_false (fun h => z2 h.2)).symm), rfl⟩
            · have z1' : ¬ (s : Int) < (m : Int) := by omega
              go_wp2_with fail
              go_meet
              exact ⟨congrArg Value.bool (by rw [HB1.out]; exact (decide_eq_false (fun h => z1 h.1)).symm), rfl⟩
          case rest =>
            obtain ⟨rfl, hw⟩ := hcut
            obtain rfl := hw.symm
            go_upto_if 185 with fail
            go_cut [24] (fun u wx => u = .int .i64 ee ∧ St w base g n c (rotd d s m ee) wx)
            case first => as_aux_lemma =>
              cases hb1 : B1 with
              | true => as_aux_lemma =>
                obtain ⟨z1, z2⟩ := of_decide_eq_true (by rw [← HB1.out]; exact hb1 : decide (s < m ∧ m < ee) = true)
                have HS := Lib.hid (fun fv => rotate15 base g n c d s m ee fv wr HT.out.own hn z1 z2 (by omega))
                go_wp2_with fail
                refine (HS.out _).mono ?_; rintro e w1 ⟨rfl, t1⟩
                have T1 := Lib.hid (HT.out.trans t1)
                clear t1
                go_wp2_with fail
                go_meet
                exact ⟨rfl, T1.out⟩
              | false => as_aux_lemma =>
                have z := of_decide_eq_false (by rw [← HB1.out]; exact hb1 : decide (s < m ∧ m < ee) = false)
                have HR := HROT.out (by omega)
                have T1 := Lib.hid (by have := HT.out; rw [← HR] at this; exact this : St w base g n c (rotd d s m ee) wr)
                clear HR
                go_wp2_with fail
                go_meet
                exact ⟨rfl, T1.out⟩
            case rest =>
              obtain ⟨rfl, ht⟩ := hcut
              have HT4 := Lib.hid ht
              clear ht
              have HI1 := Lib.hid (fun (z : a < s ∧ s < md) w1 (t1 : St w base g n c (rotd d s m ee) w1) => HIH.out (rotd d s m ee) a s md w1 (by omega) t1.own (by have := t1.grown.size; omega) (HM1.out w1 (t1.below hbase)) z.1 z.2 (by omega))
              have HI2 := Lib.hid (fun (z : md < ee ∧ ee < b) w1 (t1 : St w base g n c (srtd lt (rotd d s m ee) a md) w1) => HIH.out (srtd lt (rotd d s m ee) a md) md ee b w1 (by omega) t1.own (by have := t1.grown.size; omega) (HM2.out w1 (t1.below hbase)) z.1 z.2 (by omega))
              clear HB1
              go_upto_region 41 with fail
              obtain ⟨B2, hB2⟩ : ∃ x, x = decide (a < s ∧ s < md) := ⟨_, rfl⟩
              have HB2 := Lib.hid hB2
              clear hB2
              go_cut [199] (fun u wx => u = .bool B2 ∧ St w base g n c (rotd d s m ee) wx)
              case first => as_aux_lemma =>
                by_cases z1 : a < s
                · have z1' : (a : Int) < (s : Int) := by omega
                  by_cases z2 : s < md
                  · have z2' : (s : Int) < (md : Int) := by omega
                    go_wp2_with fail
                    go_meet
                    exact ⟨congrArg Value.bool (by rw [HB2.out]; exact (decide_eq_true ⟨z1, z2⟩).symm), HT4.out⟩
                  · have z2' : ¬ (s : Int) < (md : Int) := by omega
                    go_wp2_with fail
                    go_meet
                    exact ⟨congrArg Value.bool (by rw [HB2.out]; exact (decide_eq_false (fun h => z2 h.2)).symm), HT4.out⟩
                · have z1' : ¬ (a : Int) < (s : Int) := by omega
                  go_wp2_with fail
                  go_meet
                  exact ⟨congrArg Value.bool (by rw [HB2.out]; exact (decide_eq_false (fun h => z1 h.1)).symm), HT4.out⟩
              case rest =>
                obtain ⟨rfl, ht⟩ := hcut
                clear HT4
                have HT5 := Lib.hid ht
                clear ht
                go_upto_if 199 with fail
                go_cut [24] (fun u wx => u = .int .i64 ee ∧ St w base g n c (srtd lt (rotd d s m ee) a md) wx)
                case first => as_aux_lemma =>
                  cases hb1 : B2 with
                  | true => as_aux_lemma =>
                    have z := of_decide_eq_true (by rw [← HB2.out]; exact hb1 : decide (a < s ∧ s < md) = true)
                    have HS := Lib.hid (HI1.out z _ HT5.out)
                    go_wp2_with fail
                    refine (HS.out).mono ?_; rintro e w1 ⟨rfl, t1⟩
                    have T1 := Lib.hid (HT5.out.trans t1)
                    clear t1
                    go_wp2_with fail
                    go_meet
                    exact ⟨rfl, T1.out⟩
                  | false => as_aux_lemma =>
                    have z := of_decide_eq_false (by rw [← HB2.out]; exact hb1 : decide (a < s ∧ s < md) = false)
                    have HR := HS1.out z
                    have T1 := Lib.hid (by have := HT5.out; rw [← HR] at this; exact this : St w base g n c (srtd lt (rotd d s m ee) a md) _)
                    clear HR
                    go_wp2_with fail
                    go_meet
                    exact ⟨rfl, T1.out⟩
                case rest =>
                  obtain ⟨rfl, ht⟩ := hcut
                  have HT6 := Lib.hid ht
                  clear ht HI1 HB2
                  go_upto_region 43 with fail
                  obtain ⟨B3, hB3⟩ : ∃ x, x = decide (md < ee ∧ ee < b) := ⟨_, rfl⟩
                  have HB3 := Lib.hid hB3
                  clear hB3
                  go_cut [213] (fun u wx => u = .bool B3 ∧ St w base g n c (srtd lt (rotd d s m ee) a md) wx)
                  case first => as_aux_lemma =>
                    by_cases z1 : md < ee
                    · have z1' : (md : Int) < (ee : Int) := by omega
                      by_cases z2 : ee < b
                      · have z2' : (ee : Int) < (b : Int) := by omega
                        go_wp2_with fail
                        go_meet
                        exact ⟨congrArg Value.bool (by rw [HB3.out]; exact (decide_eq_true ⟨z1, z2⟩).symm), HT6.out⟩
                      · have z2' : ¬ (ee : Int) < (b : Int) := by omega
                        go_wp2_with fail
                        go_meet
                        exact ⟨congrArg Value.bool (by rw [HB3.out]; exact (decide_eq_false (fun h => z2 h.2)).symm), HT6.out⟩
                    · have z1' : ¬ (md : Int) < (ee : Int) := by omega
                      go_wp2_with fail
                      go_meet
                      exact ⟨congrArg Value.bool (by rw [HB3.out]; exact (decide_eq_false (fun h => z1 h.1)).symm), HT6.out⟩
                  case rest =>
                    obtain ⟨rfl, ht⟩ := hcut
                    clear HT6
                    have HT7 := Lib.hid ht
                    clear ht
                    go_upto_if 213 with fail
                    cases hb1 : B3 with
                    | true => as_aux_lemma =>
                      have z := of_decide_eq_true (by rw [← HB3.out]; exact hb1 : decide (md < ee ∧ ee < b) = true)
                      have HS := Lib.hid (HI2.out z _ HT7.out)
                      go_wp2_with fail
                      refine (HS.out).mono ?_; rintro e w1 ⟨rfl, t1⟩
                      have T1 := Lib.hid (HT7.out.trans t1)
                      clear t1
                      go_wp2_with fail
                      go_end0
                      exact ⟨rfl, by
                        have := T1.out
                        rw [HV.out] at this
                        exact this⟩
                    | false => as_aux_lemma =>
                      have z := of_decide_eq_false (by rw [← HB3.out]; exact hb1 : decide (md < ee ∧ ee < b) = false)
                      have HR := HS2.out z
                      have T1 := Lib.hid (by have := HT7.out; rw [← HR] at this; exact this : St w base g n c (srtd lt (srtd lt (rotd d s m ee) a md) md b) _)
                      clear HR
                      go_wp2_with fail
                      go_end0
                      exact ⟨rfl, by
                        have := T1.out
                        rw [HV.out] at this
                        exact this⟩
end Go.Proofs.Ytodnjeahjalinaa.Stab
