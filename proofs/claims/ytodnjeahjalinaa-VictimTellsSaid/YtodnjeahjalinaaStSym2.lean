/-
  What the library's merge in place leaves, where the second piece alone has one element.
-/
import Derived.Test.YtodnjeahjalinaaStSym1
namespace Go.Proofs.Ytodnjeahjalinaa.Stab
open Go.ChangeShapes Go.WideShapes Go.ChangeAt Go.RowKit Words Go.Sort
set_option linter.unusedVariables false

set_option maxRecDepth 100000 in
set_option maxHeartbeats 4000000 in
theorem symLast (f : Nat) (cb : Array Value) (cf : Int → Int → Int) (V : Int → Prop) (lt : Int → Int → Bool) (T : Tot lt) (ef : ∀ args w, (callFunc f args).run Try.prog w = .ok (.enter f args) w)
    (base g n c : Nat) (d : List Int) (a m : Nat) (w : World) (h : OwnI w base (some ⟨g, 0, none⟩) n c d) (hbase : base ≤ w.heap.size) (M : Mrg f cb cf V lt d a m (m + 1) base w) (hn : n ≤ 1000000) (ham : a + 2 ≤ m) (hb : m + 1 ≤ n) :
    Calls Try.prog 40 #[.slice (some ⟨g, 0, none⟩) n c, .int .i64 a, .int .i64 m, .int .i64 (m + 1 : Nat), .func (.func f) #[] cb] w fun e w' => e = .returned (.tuple #[]) ∧ St w base g n c (srtd lt d a (m + 1)) w' := by
  have mx := mixedO
  have T0 := Lib.hid (St.refl h)
  have hl := Lib.hid h.len
  have HM := Lib.hid M
  clear h M
  obtain ⟨b, hbm⟩ : ∃ b, b = m + 1 := ⟨_, rfl⟩
  rw [← hbm]
  have em : (b : Int) - (m : Int) = 1 := by omega
  have t1 : (((m : Int) - (a : Int)) == 1) = false := by rw [beq_eq_false_iff_ne]; omega
  have t2 : (((b : Int) - (m : Int)) == 1) = true := by rw [beq_iff_eq]; exact em
  have hmb : m < b := by omega
  have hbm' : b ≤ m + 1 := by omega
  have HBM := Lib.hid hbm
  clear hbm
  go_enter Try.func40, Try.ntmps40
  go_wp2_with fail
  go_loopw [14, 15] (fun u v wr => ∃ i j : Nat, u = .int .i64 i ∧ v = .int .i64 j ∧ a ≤ i ∧ i ≤ j ∧ j ≤ m ∧ (∀ k, a ≤ k → k < i → lt (nti d m) (nti d k) = false) ∧ (∀ k, j ≤ k → k < m → lt (nti d m) (nti d k) = true) ∧ St w base g n c d wr) (fun u v _ => (intOf v - intOf u).toNat)
  case atStart => exact ⟨a, m, rfl, rfl, Nat.le_refl _, by omega, Nat.le_refl _, fun k h1 h2 => absurd h2 (by omega), fun k h1 h2 => absurd h2 (by omega), T0.out⟩
  case round =>
    obtain ⟨i, j, rfl, rfl, hai, hij, hjm, h1, h2, ht⟩ := hrel
    have H1 := Lib.hid h1
    have H2 := Lib.hid h2
    have HT := Lib.hid ht
    clear h1 h2 ht
    by_cases hlt : i < j
    · obtain ⟨q, hq⟩ : ∃ q, q = (i + j) / 2 := ⟨_, rfl⟩
      have hiq : i ≤ q := by omega
      have hqj : q < j := by omega
      have hlt' : (i : Int) < (j : Int) := by omega
      go_upto_region 16 with fail
      go_cut [16] (fun u wx => u = .int .i64 q ∧ wx = wr)
      case first =>
        go_wp2_with fail
        go_meet
        exact ⟨i64_num (by omega), rfl⟩
      case rest =>
        obtain ⟨rfl, rfl⟩ := hcut
        clear hq
        have c0 := HT.out.own.cellG (k := m) (by omega)
        have c1 := HT.out.own.cellG (k := q) (by omega)
        have hag := HM.out.agr q m (by omega) (by omega) (Nat.le_refl _) (by omega)
        have hcc := fun mm os => HM.out.cmp.at_ (HT.out.below hbase) (by have := HT.out.grown.size; omega) (HM.out.val m (by omega) (by omega)) (HM.out.val q (by omega) (by omega)) mm os
        unfold lessOf at hag
        have HUP := Lib.hid (fun (hz : lt (nti d m) (nti d q) = false) k (h1 : a ≤ k) (h2 : k < q + 1) => (T.le (on_le T HM.out.s1 h1 (by omega : k ≤ q) (by omega)) hz : lt (nti d m) (nti d k) = false))
        have HDN := Lib.hid (fun (hz : lt (nti d m) (nti d q) = true) k (h1 : q ≤ k) (h2 : k < m) => (T.lt_le hz (on_le T HM.out.s1 (by omega) h1 h2) : lt (nti d m) (nti d k) = true))
        obtain ⟨y, hy⟩ : ∃ y, y = nti d m := ⟨_, rfl⟩
        obtain ⟨x, hx⟩ : ∃ x, x = nti d q := ⟨_, rfl⟩
        rw [← hy] at c0 hag hcc
        rw [← hx] at c1 hag hcc
        have HY := Lib.hid hy
        have HX := Lib.hid hx
        clear hx hy
        have HCC := Lib.hid hcc
        cases hz : lt y x with
        | false =>
          rw [hz] at hag
          generalize cf y x = r at *
          have HU := Lib.hid (HUP.out (by rw [← HY.out, ← HX.out]; exact hz))
          clear hz hcc
          go_wp2_with fail
          refine wp_region_quiet_grown (by assumption) (by kernel_rfl) ?_
          repeat (go_big_quiet_step (first | (go_at_fn f; refine Calls.grown_of (HCC.out _ _))))
          refine wpQuiet_nil ?_
          intro _ hw2
          obtain ⟨⟨nq, osq⟩, hw3⟩ := hw2
          subst hw3
          have HT3 := Lib.hid (HT.out.more nq osq)
          clear c0 c1
          go_wp2_with fail
          go_roundw
          case rel => exact ⟨q + 1, j, by go_num, rfl, by omega, by omega, hjm, HU.out, H2.out, HT3.out⟩
          case measure => simp [intOf]; omega
        | true =>
          rw [hz] at hag
          generalize cf y x = r at *
          have HD := Lib.hid (HDN.out (by rw [← HY.out, ← HX.out]; exact hz))
          clear hz hcc
          go_wp2_with fail
          refine wp_region_quiet_grown (by assumption) (by kernel_rfl) ?_
          repeat (go_big_quiet_step (first | (go_at_fn f; refine Calls.grown_of (HCC.out _ _))))
          refine wpQuiet_nil ?_
          intro _ hw2
          obtain ⟨⟨nq, osq⟩, hw3⟩ := hw2
          subst hw3
          have HT3 := Lib.hid (HT.out.more nq osq)
          clear c0 c1
          go_wp2_with fail
          go_roundw
          case rel => exact ⟨i, q, rfl, rfl, hai, hiq, by omega, H1.out, HD.out, HT3.out⟩
          case measure => simp [intOf]; omega
    · obtain rfl : i = j := by omega
      have HR := Lib.hid (insL T (d := d) (a := a) (m := m) (i := i) hai hjm (by have := hl.out; omega) HM.out.s1 H1.out H2.out)
      have hlt' : ¬ (i : Int) < (i : Int) := by omega
      go_wp2_with fail
      go_loopw [17] (fun u wr => ∃ k : Nat, u = .int .i64 k ∧ i ≤ k ∧ k ≤ m ∧ St w base g n c (slideL d m (m - k)) wr) (fun u _ => (intOf u).toNat)
      case atStart => exact ⟨m, rfl, by omega, Nat.le_refl _, by rw [Nat.sub_self]; exact HT.out⟩
      case round =>
        obtain ⟨k, rfl, hik, hkm, ht⟩ := hrel
        by_cases hlt2 : i < k
        · obtain ⟨q, hq⟩ : ∃ q, q = k - 1 := ⟨_, rfl⟩
          have hlt3 : (i : Int) < (k : Int) := by omega
          have e1 : (k : Int) - 1 = (q : Int) := by omega
          have r1 := wrap_small (q := q) (by omega)
          obtain ⟨s0, s1, s2, s3, s4⟩ := OwnI.swF ht.own (i := k) (j := q) (by omega) (by omega) (by omega)
          have ts : St w base g n c (slideL d m (m - q)) _ := (by
            have := ht.swp k q
            have e : Go.Proofs.Ytodnjeahjalinaa.Stab.swp (slideL d m (m - k)) k q = slideL d m (m - q) := by
              rw [show m - q = (m - k) + 1 by omega]
              show _ = Go.Proofs.Ytodnjeahjalinaa.Stab.swp (slideL d m (m - k)) (m - (m - k)) (m - (m - k) - 1)
              rw [show m - (m - k) = k by omega, hq]
            rw [e] at this
            exact this)
          have TS := Lib.hid ts
          generalize nti (slideL d m (m - k)) k = x at *
          generalize nti (slideL d m (m - k)) q = y at *
          have hiq : i ≤ q := by omega
          have hqm : q ≤ m := by omega
          have hqk : q < k := by omega
          clear hq ht ts
          go_wp2_with fail
          go_region
          clear s0 s1 s2 s3 s4
          go_wp2_with fail
          go_roundw
          case rel => exact ⟨q, by first | rfl | go_num, hiq, hqm, TS.out.drew⟩
          case measure => simp [intOf]; omega
        · obtain rfl : k = i := by omega
          have hlt3 : ¬ (k : Int) < (k : Int) := by omega
          have HT2 := Lib.hid ht
          clear ht
          go_wp2_with fail
          refine bodyPost_ret (results_none rfl _ _ _) rfl ?_
          exact ⟨rfl, by
            have := HT2.out
            rw [HR.out, ← HBM.out] at this
            exact this⟩
end Go.Proofs.Ytodnjeahjalinaa.Stab
