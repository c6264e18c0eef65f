/-
  What the library's merge in place leaves, where one of the two pieces has one element.
-/
import Derived.Test.YtodnjeahjalinaaStIns
namespace Go.Proofs.Ytodnjeahjalinaa.Stab
open Go.ChangeShapes Go.WideShapes Go.ChangeAt Go.RowKit Words Go.Sort
set_option linter.unusedVariables false

/-- What the merge is told of the comparison, the row and the pieces. -/
structure Mrg (f : Nat) (cb : Array Value) (cf : Int → Int → Int) (V : Int → Prop) (lt : Int → Int → Bool) (d : List Int) (a m b base : Nat) (w : World) : Prop where
  cmp : Cmpr f cb cf V base w
  val : ∀ k, a ≤ k → k < b → V (nti d k)
  agr : ∀ i j, a ≤ i → i < m → m ≤ j → j < b → lessOf cf (nti d j) (nti d i) = lt (nti d j) (nti d i)
  s1 : SrtOn lt d a m
  s2 : SrtOn lt d m b
set_option maxRecDepth 100000 in
set_option maxHeartbeats 4000000 in
theorem symOne (f : Nat) (cb : Array Value) (cf : Int → Int → Int) (V : Int → Prop) (lt : Int → Int → Bool) (T : Tot lt) (ef : ∀ args w, (callFunc f args).run Try.prog w = .ok (.enter f args) w)
    (base g n c : Nat) (d : List Int) (a b : Nat) (w : World) (h : OwnI w base (some ⟨g, 0, none⟩) n c d) (hbase : base ≤ w.heap.size) (M : Mrg f cb cf V lt d a (a + 1) b base w) (hn : n ≤ 1000000) (hmb : a + 1 < b) (hb : b ≤ n) :
    Calls Try.prog 40 #[.slice (some ⟨g, 0, none⟩) n c, .int .i64 a, .int .i64 (a + 1 : Nat), .int .i64 b, .func (.func f) #[] cb] w fun e w' => e = .returned (.tuple #[]) ∧ St w base g n c (srtd lt d a b) w' := by
  have mx := mixedO
  have T0 := Lib.hid (St.refl h)
  have hl := Lib.hid h.len
  have HM := Lib.hid M
  clear h M
  obtain ⟨m, hm⟩ : ∃ m, m = a + 1 := ⟨_, rfl⟩
  rw [← hm]
  have em : (m : Int) - (a : Int) = 1 := by omega
  have t1 : (((m : Int) - (a : Int)) == 1) = true := by rw [beq_iff_eq]; exact em
  have ham : a < m := by omega
  have hma : m ≤ a + 1 := by omega
  have hmb' : m < b := by omega
  have HMA := Lib.hid hm
  clear hm hmb
  go_enter Try.func40, Try.ntmps40
  go_wp2_with fail
  go_loopw [10, 11] (fun u v wr => ∃ i j : Nat, u = .int .i64 i ∧ v = .int .i64 j ∧ m ≤ i ∧ i ≤ j ∧ j ≤ b ∧ (∀ k, m ≤ k → k < i → lt (nti d k) (nti d a) = true) ∧ (∀ k, j ≤ k → k < b → lt (nti d k) (nti d a) = false) ∧ St w base g n c d wr) (fun u v _ => (intOf v - intOf u).toNat)
  case atStart => exact ⟨m, b, rfl, rfl, Nat.le_refl _, by omega, Nat.le_refl _, fun k h1 h2 => absurd h2 (by omega), fun k h1 h2 => absurd h2 (by omega), T0.out⟩
  case round =>
    obtain ⟨i, j, rfl, rfl, hmi, hij, hjb, h1, h2, ht⟩ := hrel
    have H1 := Lib.hid h1
    have H2 := Lib.hid h2
    have HT := Lib.hid ht
    clear h1 h2 ht
    by_cases hlt : i < j
    · obtain ⟨q, hq⟩ : ∃ q, q = (i + j) / 2 := ⟨_, rfl⟩
      have hiq : i ≤ q := by omega
      have hqj : q < j := by omega
      obtain ⟨x1, hx1⟩ : ∃ x1, x1 = wr := ⟨_, rfl⟩
      have hlt' : (i : Int) < (j : Int) := by omega
      go_upto_region 4 with fail
      go_cut [12] (fun u wx => u = .int .i64 q ∧ wx = wr)
      case first =>
        go_wp2_with fail
        go_meet
        exact ⟨i64_num (by omega), rfl⟩
      case rest =>
        obtain ⟨rfl, rfl⟩ := hcut
        clear hq hx1 x1
        have c0 := HT.out.own.cellG (k := q) (by omega)
        have c1 := HT.out.own.cellG (k := a) (by omega)
        have hag := HM.out.agr a q (Nat.le_refl _) (by omega) (by omega) (by omega)
        have hcc := fun mm os => HM.out.cmp.at_ (HT.out.below hbase) (by have := HT.out.grown.size; omega) (HM.out.val q (by omega) (by omega)) (HM.out.val a (by omega) (by omega)) mm os
        unfold lessOf at hag
        have HUP := Lib.hid (fun (hz : lt (nti d q) (nti d a) = true) k (h1 : m ≤ k) (h2 : k < q + 1) => (T.le_lt (on_le T HM.out.s2 (by omega : a + 1 ≤ k) (by omega : k ≤ q) (by omega)) hz : lt (nti d k) (nti d a) = true))
        have HDN := Lib.hid (fun (hz : lt (nti d q) (nti d a) = false) k (h1 : q ≤ k) (h2 : k < b) => (T.le hz (on_le T HM.out.s2 (by omega) h1 h2) : lt (nti d k) (nti d a) = false))
        obtain ⟨y, hy⟩ : ∃ y, y = nti d q := ⟨_, rfl⟩
        obtain ⟨x, hx⟩ : ∃ x, x = nti d a := ⟨_, rfl⟩
        rw [← hy] at c0 hag hcc
        rw [← hx] at c1 hag hcc
        have HY := Lib.hid hy
        have HX := Lib.hid hx
        clear hx hy
        have HCC := Lib.hid hcc
        cases hz : lt y x with
        | true =>
          rw [hz] at hag
          generalize cf y x = r at *
          have HU := Lib.hid (HUP.out (by rw [← HY.out, ← HX.out]; exact hz))
          clear hz hcc
          go_wp2_with fail
          refine wp_region_quiet_grown (by assumption) (by kernel_rfl) ?_
          repeat (go_big_quiet_step (first | (go_at_fn f; refine Calls.grown_of (HCC.out _ _))))
          refine wpQuiet_nil ?_
          intro _ hw2
          obtain ⟨⟨nq, osq⟩, hw3⟩ := hw2
          subst hw3
          have HT3 := Lib.hid (HT.out.more nq osq)
          clear c0 c1
          go_wp2_with fail
          go_roundw
          case rel => exact ⟨q + 1, j, by go_num, rfl, by omega, by omega, hjb, HU.out, H2.out, HT3.out⟩
          case measure => simp [intOf]; omega
        | false =>
          rw [hz] at hag
          generalize cf y x = r at *
          have HD := Lib.hid (HDN.out (by rw [← HY.out, ← HX.out]; exact hz))
          clear hz hcc
          go_wp2_with fail
          refine wp_region_quiet_grown (by assumption) (by kernel_rfl) ?_
          repeat (go_big_quiet_step (first | (go_at_fn f; refine Calls.grown_of (HCC.out _ _))))
          refine wpQuiet_nil ?_
          intro _ hw2
          obtain ⟨⟨nq, osq⟩, hw3⟩ := hw2
          subst hw3
          have HT3 := Lib.hid (HT.out.more nq osq)
          clear c0 c1
          go_wp2_with fail
          go_roundw
          case rel => exact ⟨i, q, rfl, rfl, hmi, hiq, by omega, H1.out, HD.out, HT3.out⟩
          case measure => simp [intOf]; omega
    · obtain rfl : i = j := by omega
      have HR := Lib.hid (insR T (d := d) (a := a) (b := b) (i := i) (by omega) (by omega) (by have := hl.out; omega) HM.out.s2 (fun k q1 q2 => H1.out k (by omega) q2) H2.out)
      have hlt' : ¬ (i : Int) < (i : Int) := by omega
      go_wp2_with fail
      go_loopw [13] (fun u wr => ∃ t : Nat, u = .int .i64 (a + t : Nat) ∧ t ≤ i - (a + 1) ∧ St w base g n c (slideR d a t) wr) (fun u _ => (i - intOf u).toNat)
      case atStart => exact ⟨0, rfl, by omega, HT.out⟩
      case round =>
        obtain ⟨t, rfl, hti, ht⟩ := hrel
        obtain ⟨p, hp⟩ : ∃ p, p = a + t := ⟨_, rfl⟩
        rw [← hp]
        by_cases hlt2 : p + 1 < i
        · obtain ⟨q, hq⟩ : ∃ q, q = p + 1 := ⟨_, rfl⟩
          have hlt3 : (p : Int) < (i : Int) - 1 := by omega
          have hpn : p < n := by omega
          have hqn : q < n := by omega
          have e1 : (p : Int) + 1 = (q : Int) := by omega
          have r1 := wrap_small (q := q) (by omega)
          obtain ⟨s0, s1, s2, s3, s4⟩ := OwnI.swF ht.own hpn hqn (by omega)
          have ts : St w base g n c (slideR d a (t + 1)) _ := ht.swp (a + t) (a + t + 1)
          rw [← hp, ← hq] at ts
          have TS := Lib.hid ts
          have HQ : Hid (q = a + (t + 1)) := Lib.hid (by omega)
          generalize nti (slideR d a t) p = x at *
          generalize nti (slideR d a t) q = y at *
          have hti2 : t + 1 ≤ i - (a + 1) := by omega
          have hpq : p < q := by omega
          have hqi : q < i := by omega
          clear hp hq ht ts
          go_wp2_with fail
          go_region
          clear s0 s1 s2 s3 s4
          go_wp2_with fail
          go_roundw
          case rel => exact ⟨t + 1, by rw [HQ.out], hti2, TS.out.drew⟩
          case measure => simp [intOf]; omega
        · have hlt3 : ¬ (p : Int) < (i : Int) - 1 := by omega
          have HE : Hid (t = i - (a + 1)) := Lib.hid (by omega)
          have HT2 := Lib.hid ht
          clear ht hp
          go_wp2_with fail
          refine bodyPost_ret (results_none rfl _ _ _) rfl ?_
          exact ⟨rfl, by
            have := HT2.out
            rw [HE.out, HR.out] at this
            exact this⟩
end Go.Proofs.Ytodnjeahjalinaa.Stab
