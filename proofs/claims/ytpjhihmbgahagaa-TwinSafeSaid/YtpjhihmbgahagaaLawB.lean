/-
  TwinSafe, walked under what is asked of the program's three functions.
-/
import Derived.Test.YtpjhihmbgahagaaCon
import Derived.BigFrame
namespace Go.Proofs.Ytpjhihmbgahagaa.Twn
open Go.ChangeShapes Go.WideShapes Go.ChangeAt Go.RowKit Words
set_option linter.unusedVariables false
set_option linter.unusedSimpArgs false

/-- What holds of the box behind every round: it lies there whole, valid, and the data that was written is read of it. -/
structure SI (w : World) (g : Nat) (data : Int) (t : St) (wr : World) : Prop where
  bel : Below w.heap.size w wr
  whole : Whole wr g 24 (scs t)
  lt : g < wr.heap.size
  le : w.heap.size ≤ g
  ok : right t = true
  read : readR t = (data, 0)
theorem SI.below {w wr x : World} {g : Nat} {data : Int} {t : St} (h : SI w g data t wr) (b : Below wr.heap.size wr x) : SI w g data t x :=
  ⟨h.bel.trans (b.mono h.bel.size), whole_below h.whole b h.lt, Nat.lt_of_lt_of_le h.lt b.size, h.le, h.ok, h.read⟩
theorem SI.fill {w x : World} {g : Nat} {data : Int} {t u : St} {o : Obj} (h : SI w g data t x) (h1 : right u = true) (h2 : readR u = (data, 0)) : SI w g data u (fill (x.alloc o) g u) :=
  ⟨fill_below (h.bel.alloc h.bel.size _) h.le, fill_whole (h.whole.alloc o), by unfold Twn.fill; simp; exact Nat.lt_succ_of_lt h.lt, h.le, h1, h2⟩
theorem SI.next {w x : World} {g : Nat} {data : Int} {t u : St} (h : SI w g data t x) (o : Int) : (writeR t o true = (st0, 4)) ∨ ((writeR t o true).2 = 0 ∧ right (writeR t o true).1 = true ∧ readR (writeR t o true).1 = (data, 0)) := by
  rcases write_err t o true with ⟨h1, _⟩ | ⟨_, _, h3⟩ | ⟨_, _, h3⟩
  · rw [h.ok] at h1; cases h1
  · exact .inl h3
  · exact .inr ⟨h3, (write_broken h3).1, by rw [(write_broken h3).2]; exact h.read⟩
set_option maxHeartbeats 4000000 in
theorem safe_walk (HW : WriteC) (HR : ReadC) (HT : RightC) (s : St) (data : Int) (a2 : Int) (other : Int) (w : World) :
    Calls Try.prog 4 #[sv s, .int .i64 data, .int .i64 a2, .int .i64 other] w fun e w' => e = .returned (.bool true) ∧ Below w.heap.size w w' := by
  have HA := Lib.hid (alive13 HW HR HT (w.alloc (sbox s)))
  have HX := Lib.hid (fun x (b : Below (w.alloc (sbox s)).heap.size (w.alloc (sbox s)) x) =>
    (show Below w.heap.size w x ∧ Whole x w.heap.size 24 (scs s) ∧ w.heap.size < x.heap.size from
      ⟨((Below.refl w.heap.size w).alloc (Nat.le_refl _) _).trans (b.mono (by simp)), whole_below (Whole.new w 24 (scs s)) b (by simp), by have h9 := b.size; rw [World.size_alloc] at h9; omega⟩))
  have H2 := Lib.hid (HW s data false)
  have HWW := Lib.hid (fun t => HW t other true)
  have HRR := Lib.hid (fun t (h : readR t = (data, 0)) w => (show Calls Try.prog 9 #[sv t] w fun e w' => e = .returned (.tuple #[.int .i64 data, .int .i64 0]) ∧ Below w.heap.size w w' from by have := HR t w; rw [h] at this; exact this))
  have HTT := Lib.hid (fun t (h : right t = true) w => (show Calls Try.prog 12 #[sv t] w fun e w' => e = .returned (.bool true) ∧ Below w.heap.size w w' from by have := HT t w; rw [h] at this; exact this))
  have key : (writeR s data false).2 = 0 → right (writeR s data false).1 = true ∧ readR (writeR s data false).1 = (data, 0) := write_whole
  have HE := eq_st st0 st0 rfl
  have HZ : (writeR s data false).2 ≠ 0 → (writeR s data false).1 = st0 := by
    rcases write_err s data false with ⟨_, h⟩ | ⟨_, _, h⟩ | ⟨_, _, h⟩
    · rw [h]; exact fun _ => rfl
    · rw [h]; exact fun _ => rfl
    · exact fun h9 => absurd h h9
  clear HW HR HT
  obtain ⟨⟨wa, ca, da⟩, ⟨wb, cb, db⟩⟩ := s
  generalize writeR ⟨⟨wa, ca, da⟩, ⟨wb, cb, db⟩⟩ data false = t at H2 key HZ
  obtain ⟨t, er⟩ := t
  unfold Wrote at H2
  unfold sbox at HA HX
  unfold sv scs at H2
  unfold scs at HA HX
  unfold sv scs
  unfold sv scs st0 slo0 at HE
  simp only at H2 key HZ HE
  by_cases he : er = 0
  · subst he
    obtain ⟨k1, k2⟩ := key rfl
    clear key HZ
    obtain ⟨⟨ta, tc, td⟩, ⟨ua, uc, ud⟩⟩ := t
    obtain ⟨n, hn⟩ : ∃ n : Nat, max (min a2 50) 0 = n := ⟨(max (min a2 50) 0).toNat, by omega⟩
    simp only at H2
    go_enter Try.func4, Try.ntmps4
    go_wp2_with fail
    refine (HA.out).mono ?_; rintro e x0 ⟨rfl, b0⟩
    obtain ⟨B0, W0, hs⟩ := HX.out _ b0
    obtain ⟨p0, p1, p2, p3, p4, p5⟩ := six (s := ⟨⟨wa, ca, da⟩, ⟨wb, cb, db⟩⟩) W0
    simp only at p0 p1 p2 p3 p4 p5
    have B0' := Lib.hid B0
    clear b0 B0 W0 hs
    go_wp2_with fail
    refine (H2.out _).mono ?_; rintro e x1 ⟨rfl, b1⟩
    clear p0 p1 p2 p3 p4 p5
    have B1 := Lib.hid (B0'.out.trans (b1.mono B0'.out.size))
    clear b1
    have I1 : Hid (SI w x1.heap.size data ⟨⟨ta, tc, td⟩, ⟨ua, uc, ud⟩⟩ (x1.alloc (sbox ⟨⟨ta, tc, td⟩, ⟨ua, uc, ud⟩⟩))) := Lib.hid
      ⟨B1.out.alloc B1.out.size _, Whole.new x1 24 (scs ⟨⟨ta, tc, td⟩, ⟨ua, uc, ud⟩⟩), by simp, B1.out.size, k1, k2⟩
    clear k1 k2
    unfold sbox at I1
    unfold scs at I1
    have HN := Lib.hid hn
    clear hn
    go_wp2_with fail
    go_loopw [11, 12, 31] (fun _ _ i wr => ∃ (k : Nat) (t : St), i = .int .i64 k ∧ k ≤ n ∧ SI w x1.heap.size data t wr) (fun _ _ i _ => (n - intOf i).toNat)
    case atStart => exact ⟨0, _, rfl, by omega, I1.out⟩
    case round =>
      obtain ⟨k, t, rfl, hk, hI⟩ := hrel
      have HNX := hI.next (u := t) other
      have HRX := HRR.out t hI.read
      have HTX := HTT.out t hI.ok
      have HWX := HWW.out t
      obtain ⟨⟨ta, tc, td⟩, ⟨ua, uc, ud⟩⟩ := t
      have I7 := Lib.hid hI
      have HTX := Lib.hid HTX
      have HRX := Lib.hid HRX
      obtain ⟨p0, p1, p2, p3, p4, p5⟩ := six I7.out.whole
      simp only at p0 p1 p2 p3 p4 p5
      unfold sv scs at HRX HTX
      simp only at HRX HTX
      clear hI
      by_cases hlt : (k : Int) < max (min a2 50) 0
      · rcases HNX with h1 | ⟨h1, h2, h3⟩
        · rw [h1] at HWX
          have HWX := Lib.hid HWX
          unfold Wrote sv scs st0 slo0 at HWX
          clear h1
          go_wp2_with fail
          refine (HWX.out _).mono ?_; rintro e x2 ⟨rfl, b2⟩
          have I6 := Lib.hid (I7.out.below b2)
          have I7' := Lib.hid (show SI w x1.heap.size data ⟨⟨ta, tc, td⟩, ⟨ua, uc, ud⟩⟩ (x2.alloc (.cells #[.bool false, .int .i64 0, .int .i64 0, .bool false, .int .i64 0, .int .i64 0] 24)) from I6.out.below ((Below.refl _ _).alloc (Nat.le_refl _) _))
          clear p0 p1 p2 p3 p4 p5 b2
          obtain ⟨p0, p1, p2, p3, p4, p5⟩ := six I7'.out.whole
          simp only at p0 p1 p2 p3 p4 p5
          have I7 := I7'
          clear I6
          go_wp2_with fail
          refine (HRX.out _).mono ?_; rintro e y1 ⟨rfl, c1⟩
          have I8 := Lib.hid (I7.out.below c1)
          obtain ⟨p0, p1, p2, p3, p4, p5⟩ := six I8.out.whole
          simp only at p0 p1 p2 p3 p4 p5
          clear c1
          go_wp2_with fail
          refine (HTX.out _).mono ?_; rintro e y2 ⟨rfl, c2⟩
          have I9 := Lib.hid (I8.out.below c2)
          clear c2 p0 p1 p2 p3 p4 p5
          go_wp2_with fail
          go_ret
          exact ⟨rfl, I9.out.bel⟩
        · generalize hu : writeR ⟨⟨ta, tc, td⟩, ⟨ua, uc, ud⟩⟩ other true = u at HWX h1 h2 h3
          clear hu
          obtain ⟨⟨⟨va, vc, vd⟩, ⟨wa', wc, wd⟩⟩, eu⟩ := u
          simp only at h1 h2 h3 HWX
          subst h1
          unfold Wrote sv scs at HWX
          have HWX := Lib.hid HWX
          simp only at HWX
          go_wp2_with fail
          refine (HWX.out _).mono ?_; rintro e x2 ⟨rfl, b2⟩
          have I6 := Lib.hid (I7.out.below b2)
          have IF := Lib.hid (I6.out.fill (u := ⟨⟨va, vc, vd⟩, ⟨wa', wc, wd⟩⟩) (o := .cells #[.bool va, .int .i64 vc, .int .i64 vd, .bool wa', .int .i64 wc, .int .i64 wd] 24) h2 h3)
          obtain ⟨f0, f1, f2, f3, f4, f5⟩ := fro6 (I6.out.whole.alloc (.cells #[.bool va, .int .i64 vc, .int .i64 vd, .bool wa', .int .i64 wc, .int .i64 wd] 24))
          clear p0 p1 p2 p3 p4 p5 b2 h2 h3
          obtain ⟨p0, p1, p2, p3, p4, p5⟩ := six (I6.out.whole.alloc (.cells #[.bool va, .int .i64 vc, .int .i64 vd, .bool wa', .int .i64 wc, .int .i64 wd] 24))
          simp only at p0 p1 p2 p3 p4 p5
          have hne : x2.heap.size ≠ x1.heap.size := Nat.ne_of_gt I6.out.lt
          go_wp2_with fail
          go_roundw
          case rel => exact ⟨k + 1, _, by go_num, by have hN := HN.out; omega, IF.out⟩
          case measure => have hN := HN.out; simp [intOf]; omega
      · clear HNX HWX
        go_wp2_with fail
        refine (HRX.out _).mono ?_; rintro e y1 ⟨rfl, c1⟩
        have I8 := Lib.hid (I7.out.below c1)
        obtain ⟨p0, p1, p2, p3, p4, p5⟩ := six I8.out.whole
        simp only at p0 p1 p2 p3 p4 p5
        clear c1
        go_wp2_with fail
        refine (HTX.out _).mono ?_; rintro e y2 ⟨rfl, c2⟩
        have I9 := Lib.hid (I8.out.below c2)
        clear c2 p0 p1 p2 p3 p4 p5
        go_wp2_with fail
        go_ret
        exact ⟨rfl, I9.out.bel⟩
  · obtain rfl := HZ he
    clear key HZ
    have he' : (er == 0) = false := by rw [beq_eq_false_iff_ne]; exact he
    clear he
    unfold st0 slo0 at H2
    simp only at H2
    go_enter Try.func4, Try.ntmps4
    go_wp2_with fail
    refine (HA.out).mono ?_; rintro e x0 ⟨rfl, b0⟩
    obtain ⟨B0, W0, hs⟩ := HX.out _ b0
    obtain ⟨p0, p1, p2, p3, p4, p5⟩ := six (s := ⟨⟨wa, ca, da⟩, ⟨wb, cb, db⟩⟩) W0
    simp only at p0 p1 p2 p3 p4 p5
    have B0' := Lib.hid B0
    clear b0 B0 W0 hs
    go_wp2_with fail
    refine (H2.out _).mono ?_; rintro e x1 ⟨rfl, b1⟩
    clear p0 p1 p2 p3 p4 p5
    have B1 := Lib.hid (B0'.out.trans (b1.mono B0'.out.size))
    clear b1
    go_wp2_with fail
    go_ret
    exact ⟨rfl, B1.out.alloc B1.out.size _⟩
end Go.Proofs.Ytpjhihmbgahagaa.Twn
