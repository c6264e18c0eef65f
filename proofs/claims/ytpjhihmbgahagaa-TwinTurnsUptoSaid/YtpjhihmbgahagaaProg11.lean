/-
  The program's own inTime, Right, current, Read and Write.
-/
import Derived.Test.YtpjhihmbgahagaaCon
import Derived.BigFrame
namespace Go.Proofs.Ytpjhihmbgahagaa.Twn
open Go.ChangeShapes Go.WideShapes Go.ChangeAt Go.RowKit Words
set_option linter.unusedVariables false
set_option linter.unusedSimpArgs false
theorem okC_lo {c : Int} (h : ¬ 0 ≤ c) : okC c = false := by
  cases hr : okC c with
  | false => rfl
  | true => exact absurd (okC_iff.1 hr).1 h
theorem okC_hi {c : Int} (h : ¬ c ≤ 1099511627776) : okC c = false := by
  cases hr : okC c with
  | false => rfl
  | true => exact absurd (okC_iff.1 hr).2 h
theorem inTime15 (c : Int) (w : World) : Calls Try.prog 15 #[.int .i64 c] w fun e w' => e = .returned (.bool (okC c)) ∧ w' = w := by
  by_cases h0 : 0 ≤ c
  · by_cases h1 : c ≤ 1099511627776
    · have HO := Lib.hid (okC_iff.2 ⟨h0, h1⟩)
      go_enter Try.func15, Try.ntmps15
      go_wp2_with fail
      go_ret
      exact ⟨ret_bool HO.out.symm, rfl⟩
    · have HO := Lib.hid (okC_hi h1)
      go_enter Try.func15, Try.ntmps15
      go_wp2_with fail
      go_ret
      exact ⟨ret_bool HO.out.symm, rfl⟩
  · have HO := Lib.hid (okC_lo h0)
    go_enter Try.func15, Try.ntmps15
    go_wp2_with fail
    go_ret
    exact ⟨ret_bool HO.out.symm, rfl⟩
set_option maxHeartbeats 4000000 in
theorem right12 : RightC := by
  intro s w
  have HB : Hid (∀ a : Obj, Below w.heap.size w (w.alloc a)) := Lib.hid fun a => (Below.refl _ _).alloc (Nat.le_refl _) _
  have HA := Lib.hid (fun c => inTime15 c)
  obtain ⟨⟨wa, ca, da⟩, ⟨wb, cb, db⟩⟩ := s
  cases h1 : okC ca with
  | false =>
    have HO : Hid (right ⟨⟨wa, ca, da⟩, ⟨wb, cb, db⟩⟩ = false) := Lib.hid (by unfold right; simp only [h1, Bool.false_and])
    have HA := Lib.hid (fun w => (show Calls Try.prog 15 #[.int .i64 ca] w fun e w' => e = .returned (.bool false) ∧ w' = w from by have := inTime15 ca w; rw [h1] at this; exact this))
    unfold sv scs
    clear h1
    go_enter Try.func12, Try.ntmps12
    go_wp2_with fail
    refine (HA.out _).mono ?_; rintro e x1 ⟨rfl, rfl⟩
    go_wp2_with fail
    go_ret
    exact ⟨ret_bool HO.out.symm, HB.out _⟩
  | true =>
    have HA := Lib.hid (fun w => (show Calls Try.prog 15 #[.int .i64 ca] w fun e w' => e = .returned (.bool true) ∧ w' = w from by have := inTime15 ca w; rw [h1] at this; exact this))
    cases h2 : okC cb with
    | false =>
      have HO : Hid (right ⟨⟨wa, ca, da⟩, ⟨wb, cb, db⟩⟩ = false) := Lib.hid (by unfold right; simp only [h1, h2, Bool.and_false, Bool.false_and])
      have HA2 := Lib.hid (fun w => (show Calls Try.prog 15 #[.int .i64 cb] w fun e w' => e = .returned (.bool false) ∧ w' = w from by have := inTime15 cb w; rw [h2] at this; exact this))
      unfold sv scs
      clear h1 h2
      go_enter Try.func12, Try.ntmps12
      go_wp2_with fail
      refine (HA.out _).mono ?_; rintro e x1 ⟨rfl, rfl⟩
      go_wp2_with fail
      refine (HA2.out _).mono ?_; rintro e x1 ⟨rfl, rfl⟩
      go_wp2_with fail
      go_ret
      exact ⟨ret_bool HO.out.symm, HB.out _⟩
    | true =>
      have HO : Hid (right ⟨⟨wa, ca, da⟩, ⟨wb, cb, db⟩⟩ = !(wa && wb && ca == cb)) := Lib.hid (by unfold right; simp only [h1, h2, Bool.true_and])
      have HA2 := Lib.hid (fun w => (show Calls Try.prog 15 #[.int .i64 cb] w fun e w' => e = .returned (.bool true) ∧ w' = w from by have := inTime15 cb w; rw [h2] at this; exact this))
      unfold sv scs
      clear h1 h2
      cases wa with
      | false =>
        go_enter Try.func12, Try.ntmps12
        go_wp2_with fail
        refine (HA.out _).mono ?_; rintro e x1 ⟨rfl, rfl⟩
        go_wp2_with fail
        refine (HA2.out _).mono ?_; rintro e x1 ⟨rfl, rfl⟩
        go_wp2_with fail
        go_ret
        exact ⟨ret_bool (by rw [HO.out]; rfl), HB.out _⟩
      | true =>
        cases wb with
        | false =>
          go_enter Try.func12, Try.ntmps12
          go_wp2_with fail
          refine (HA.out _).mono ?_; rintro e x1 ⟨rfl, rfl⟩
          go_wp2_with fail
          refine (HA2.out _).mono ?_; rintro e x1 ⟨rfl, rfl⟩
          go_wp2_with fail
          go_ret
          exact ⟨ret_bool (by rw [HO.out]; rfl), HB.out _⟩
        | true =>
          by_cases h5 : ca = cb
          · subst h5
            go_enter Try.func12, Try.ntmps12
            go_wp2_with fail
            refine (HA.out _).mono ?_; rintro e x1 ⟨rfl, rfl⟩
            go_wp2_with fail
            refine (HA2.out _).mono ?_; rintro e x1 ⟨rfl, rfl⟩
            go_wp2_with fail
            go_ret
            exact ⟨ret_bool (by rw [HO.out]; simp), HB.out _⟩
          · have h6 : (ca == cb) = false := by rw [beq_eq_false_iff_ne]; exact h5
            clear h5
            go_enter Try.func12, Try.ntmps12
            go_wp2_with fail
            refine (HA.out _).mono ?_; rintro e x1 ⟨rfl, rfl⟩
            go_wp2_with fail
            refine (HA2.out _).mono ?_; rintro e x1 ⟨rfl, rfl⟩
            go_wp2_with fail
            go_ret
            exact ⟨ret_bool (by rw [HO.out]; simp [bne, h6]), HB.out _⟩
theorem current14 (s : St) (w : World) : Calls Try.prog 14 #[sv s] w fun e w' => e = .returned (.int .i64 (newer s)) ∧ w' = w.alloc (sbox s) := by
  obtain ⟨⟨wa, ca, da⟩, ⟨wb, cb, db⟩⟩ := s
  unfold sv sbox scs
  cases wa <;> cases wb
  · go_enter Try.func14, Try.ntmps14
    go_wp2_with fail
    go_ret
    exact ⟨rfl, rfl⟩
  · go_enter Try.func14, Try.ntmps14
    go_wp2_with fail
    go_ret
    exact ⟨rfl, rfl⟩
  · go_enter Try.func14, Try.ntmps14
    go_wp2_with fail
    go_ret
    exact ⟨rfl, rfl⟩
  · by_cases hab : cb < ca
    · have HE : Hid (newer ⟨⟨true, ca, da⟩, ⟨true, cb, db⟩⟩ = 0) := Lib.hid (by simp [newer, hab])
      go_enter Try.func14, Try.ntmps14
      go_wp2_with fail
      go_ret
      exact ⟨ret_int HE.out.symm, rfl⟩
    · have HE : Hid (newer ⟨⟨true, ca, da⟩, ⟨true, cb, db⟩⟩ = 1) := Lib.hid (by simp [newer, hab])
      go_enter Try.func14, Try.ntmps14
      go_wp2_with fail
      go_ret
      exact ⟨ret_int HE.out.symm, rfl⟩
set_option maxHeartbeats 4000000 in
theorem read9 : ReadC := by
  intro s w
  have HR := Lib.hid (right12 s (w.alloc (sbox s)))
  have HX := Lib.hid (fun x (b : Below (w.alloc (sbox s)).heap.size (w.alloc (sbox s)) x) =>
    (show Below w.heap.size w x ∧ Whole x w.heap.size 24 (scs s) ∧ w.heap.size < x.heap.size from
      ⟨((Below.refl w.heap.size w).alloc (Nat.le_refl _) _).trans (b.mono (by simp)), whole_below (Whole.new w 24 (scs s)) b (by simp), by have h9 := b.size; rw [World.size_alloc] at h9; omega⟩))
  have HC := Lib.hid (current14 s)
  cases h1 : right s with
  | false =>
    have hr : readR s = (0, 1) := by unfold readR; rw [h1]; rfl
    rw [hr]
    rw [h1] at HR
    unfold sv scs at HR ⊢
    unfold sbox scs at HR HX
    clear h1 hr
    go_enter Try.func9, Try.ntmps9
    go_wp2_with fail
    refine (HR.out).mono ?_; rintro e x1 ⟨rfl, b1⟩
    have B1 := Lib.hid (HX.out _ b1).1
    clear b1
    go_wp2_with fail
    refine bodyPost_ret (results_tmp2 rfl _ _ _) rfl ?_
    exact ⟨rfl, B1.out⟩
  | true =>
    rw [h1] at HR
    rcases newer_cases s with hn | hn | hn
    · have hr : readR s = (0, 3) := by unfold readR cur; rw [h1, hn]; rfl
      rw [hr]
      rw [hn] at HC
      obtain ⟨⟨wa, ca, da⟩, ⟨wb, cb, db⟩⟩ := s
      unfold sv scs at HR HC ⊢
      unfold sbox scs at HR HX HC
      clear h1 hr hn
      go_enter Try.func9, Try.ntmps9
      go_wp2_with fail
      refine (HR.out).mono ?_; rintro e x1 ⟨rfl, b1⟩
      obtain ⟨B1', W1', hs⟩ := HX.out _ b1
      have B1 := Lib.hid B1'
      have W1 : Whole x1 w.heap.size 24 (scs ⟨⟨wa, ca, da⟩, ⟨wb, cb, db⟩⟩) := W1'
      obtain ⟨p0, p1, p2, p3, p4, p5⟩ := six W1
      simp only at p0 p1 p2 p3 p4 p5
      clear b1 W1' B1'
      go_wp2_with fail
      refine (HC.out _).mono ?_; rintro e x2 ⟨rfl, rfl⟩
      have W2 := W1.alloc (.cells #[.bool wa, .int .i64 ca, .int .i64 da, .bool wb, .int .i64 cb, .int .i64 db] 24)
      obtain ⟨q0, q1, q2, q3, q4, q5⟩ := six W2
      simp only at q0 q1 q2 q3 q4 q5
      clear W2 W1 hs p0 p1 p2 p3 p4 p5
      go_wp2_with fail
      refine bodyPost_ret (results_tmp2 rfl _ _ _) rfl ?_
      exact ⟨rfl, B1.out.alloc B1.out.size _⟩
    · have hr : readR s = (s.a.d, 0) := by unfold readR cur; rw [h1, hn]; rfl
      rw [hr]
      rw [hn] at HC
      obtain ⟨⟨wa, ca, da⟩, ⟨wb, cb, db⟩⟩ := s
      unfold sv scs at HR HC ⊢
      unfold sbox scs at HR HX HC
      clear h1 hr hn
      go_enter Try.func9, Try.ntmps9
      go_wp2_with fail
      refine (HR.out).mono ?_; rintro e x1 ⟨rfl, b1⟩
      obtain ⟨B1', W1', hs⟩ := HX.out _ b1
      have B1 := Lib.hid B1'
      have W1 : Whole x1 w.heap.size 24 (scs ⟨⟨wa, ca, da⟩, ⟨wb, cb, db⟩⟩) := W1'
      obtain ⟨p0, p1, p2, p3, p4, p5⟩ := six W1
      simp only at p0 p1 p2 p3 p4 p5
      clear b1 W1' B1'
      go_wp2_with fail
      refine (HC.out _).mono ?_; rintro e x2 ⟨rfl, rfl⟩
      have W2 := W1.alloc (.cells #[.bool wa, .int .i64 ca, .int .i64 da, .bool wb, .int .i64 cb, .int .i64 db] 24)
      obtain ⟨q0, q1, q2, q3, q4, q5⟩ := six W2
      simp only at q0 q1 q2 q3 q4 q5
      clear W2 W1 hs p0 p1 p2 p3 p4 p5
      go_wp2_with fail
      refine bodyPost_ret (results_tmp2 rfl _ _ _) rfl ?_
      exact ⟨rfl, B1.out.alloc B1.out.size _⟩
    · have hr : readR s = (s.b.d, 0) := by unfold readR cur; rw [h1, hn]; rfl
      rw [hr]
      rw [hn] at HC
      obtain ⟨⟨wa, ca, da⟩, ⟨wb, cb, db⟩⟩ := s
      unfold sv scs at HR HC ⊢
      unfold sbox scs at HR HX HC
      clear h1 hr hn
      go_enter Try.func9, Try.ntmps9
      go_wp2_with fail
      refine (HR.out).mono ?_; rintro e x1 ⟨rfl, b1⟩
      obtain ⟨B1', W1', hs⟩ := HX.out _ b1
      have B1 := Lib.hid B1'
      have W1 : Whole x1 w.heap.size 24 (scs ⟨⟨wa, ca, da⟩, ⟨wb, cb, db⟩⟩) := W1'
      obtain ⟨p0, p1, p2, p3, p4, p5⟩ := six W1
      simp only at p0 p1 p2 p3 p4 p5
      clear b1 W1' B1'
      go_wp2_with fail
      refine (HC.out _).mono ?_; rintro e x2 ⟨rfl, rfl⟩
      have W2 := W1.alloc (.cells #[.bool wa, .int .i64 ca, .int .i64 da, .bool wb, .int .i64 cb, .int .i64 db] 24)
      obtain ⟨q0, q1, q2, q3, q4, q5⟩ := six W2
      simp only at q0 q1 q2 q3 q4 q5
      clear W2 W1 hs p0 p1 p2 p3 p4 p5
      go_wp2_with fail
      refine bodyPost_ret (results_tmp2 rfl _ _ _) rfl ?_
      exact ⟨rfl, B1.out.alloc B1.out.size _⟩
def fillB (y : World) (g : Nat) (x : Slo) : World := ((y.setCell ⟨g, 3, none⟩ (.bool x.w)).setCell ⟨g, 4, none⟩ (.int .i64 x.c)).setCell ⟨g, 5, none⟩ (.int .i64 x.d)
theorem fillB_other {y : World} {g b : Nat} {x : Slo} {t : TypeId} {cs : Array Value} (h : Whole y b t cs) (hne : g ≠ b) : Whole (fillB y g x) b t cs := whole_other (whole_other (whole_other h hne _) hne _) hne _
theorem fillB_below {B : Nat} {a y : World} {g : Nat} {x : Slo} (h : Below B a y) (hg : B ≤ g) : Below B a (fillB y g x) := ((h.setCell hg _).setCell hg _).setCell hg _
set_option maxHeartbeats 12000000 in
theorem write7 : WriteC := by
  intro s data br w
  have B0 : Below w.heap.size w ((w.alloc (sbox s)).alloc (sbox st0)) := two_blocks w _ _
  have HR := Lib.hid (right12 s ((w.alloc (sbox s)).alloc (sbox st0)))
  have HX := Lib.hid (fun x (b : Below ((w.alloc (sbox s)).alloc (sbox st0)).heap.size ((w.alloc (sbox s)).alloc (sbox st0)) x) =>
    (show Below w.heap.size w x ∧ Whole x w.heap.size 24 (scs s) ∧ Whole x (w.heap.size + 1) 24 (scs st0) ∧ w.heap.size + 2 ≤ x.heap.size from
      ⟨B0.trans (b.mono B0.size), whole_below ((Whole.new w 24 (scs s)).alloc _) b (by simp; omega), whole_below (by have := Whole.new (w.alloc (sbox s)) 24 (scs st0); rw [World.size_alloc] at this; exact this) b (by simp), by have := b.size; simpa using this⟩))
  have HC := Lib.hid (current14 s)
  clear B0
  unfold Wrote
  rcases write_err s data br with ⟨h1, h2⟩ | ⟨h1, h2, h3⟩ | ⟨h1, h2, h3⟩
  · rw [h2]
    rw [h1] at HR
    unfold sv scs at HR ⊢
    unfold sbox scs at HR HX
    clear h1 h2
    go_enter Try.func7, Try.ntmps7
    go_wp2_with fail
    refine (HR.out).mono ?_; rintro e x1 ⟨rfl, b1⟩
    obtain ⟨B1, _, W2, hs⟩ := HX.out _ b1
    obtain ⟨c0, c1, c2, c3, c4, c5⟩ := six W2
    obtain ⟨f0, f1, f2, f3, f4, f5⟩ := fro6 W2
    have WF := Lib.hid (fill_whole (s := st0) W2)
    have BF := Lib.hid (fill_below (s := st0) B1 (Nat.le_succ _) (g := w.heap.size + 1))
    clear b1 B1 W2
    go_wp2_with fail
    refine bodyPost_ret (results_st rfl _ _ (w.heap.size + 1) st0 rfl WF.out) rfl ?_
    exact ⟨rfl, BF.out⟩
  · rw [h1] at HR
    have hri := right_iff.1 h1
    rcases newer_cases s with hn | hn | hn
    · exfalso
      unfold nextC at h2
      rw [if_pos hn] at h2
      omega
    · have hc : s.a.c = 1099511627776 := by unfold nextC cur at h2; rw [hn] at h2; simp at h2; omega
      rw [h3]
      rw [hn] at HC
      obtain ⟨⟨wa, ca, da⟩, ⟨wb, cb, db⟩⟩ := s
      simp only at hc
      obtain rfl := hc
      clear h1 h2 h3 hn hri
      unfold sv scs at HR HC ⊢
      unfold sbox scs at HR HX HC
      go_enter Try.func7, Try.ntmps7
      go_wp2_with fail
      refine (HR.out).mono ?_; rintro e x1 ⟨rfl, b1⟩
      obtain ⟨B1, W1', W2', hs⟩ := HX.out _ b1
      have W1 : Whole x1 w.heap.size 24 (scs ⟨⟨wa, 1099511627776, da⟩, ⟨wb, cb, db⟩⟩) := W1'
      have W2 : Whole x1 (w.heap.size + 1) 24 (scs st0) := W2'
      obtain ⟨p0, p1, p2, p3, p4, p5⟩ := six W1
      simp only at p0 p1 p2 p3 p4 p5
      clear b1 W1' W2'
      go_wp2_with fail
      refine (HC.out _).mono ?_; rintro e x2 ⟨rfl, rfl⟩
      clear p0 p1 p2 p3 p4 p5
      have hw1 : w.heap.size ≤ w.heap.size + 1 := by omega
      have hw2 : w.heap.size ≠ w.heap.size + 1 := by omega
      have X1 := W1.alloc (.cells #[.bool wa, .int .i64 1099511627776, .int .i64 da, .bool wb, .int .i64 cb, .int .i64 db] 24)
      have X2 := W2.alloc (.cells #[.bool wa, .int .i64 1099511627776, .int .i64 da, .bool wb, .int .i64 cb, .int .i64 db] 24)
      have XB := B1.alloc B1.size (.cells #[.bool wa, .int .i64 1099511627776, .int .i64 da, .bool wb, .int .i64 cb, .int .i64 db] 24)
      obtain ⟨q0, q1, q2, q3, q4, q5⟩ := six X1
      simp only at q0 q1 q2 q3 q4 q5
      clear W1 W2 B1 hs
      obtain ⟨d0, d1, d2, d3, d4, d5⟩ := six X2
      obtain ⟨f0, f1, f2, f3, f4, f5⟩ := fro6 X2
      have WF := Lib.hid (whole_drew (fill_whole (s := st0) X2))
      have BF := Lib.hid (fill_below (s := st0) XB hw1)
      simp only [st0, slo0] at d0 d1 d2 d3 d4 d5
      clear X1 X2 XB
      go_wp2_with fail
      go_region
      go_wp2_with fail
      refine bodyPost_ret (results_st rfl _ _ (w.heap.size + 1) st0 rfl WF.out) rfl ?_
      exact ⟨rfl, BF.out.drew⟩
    · have hc : s.b.c = 1099511627776 := by unfold nextC cur at h2; rw [hn] at h2; simp at h2; omega
      rw [h3]
      rw [hn] at HC
      obtain ⟨⟨wa, ca, da⟩, ⟨wb, cb, db⟩⟩ := s
      simp only at hc
      obtain rfl := hc
      clear h1 h2 h3 hn hri
      unfold sv scs at HR HC ⊢
      unfold sbox scs at HR HX HC
      go_enter Try.func7, Try.ntmps7
      go_wp2_with fail
      refine (HR.out).mono ?_; rintro e x1 ⟨rfl, b1⟩
      obtain ⟨B1, W1', W2', hs⟩ := HX.out _ b1
      have W1 : Whole x1 w.heap.size 24 (scs ⟨⟨wa, ca, da⟩, ⟨wb, 1099511627776, db⟩⟩) := W1'
      have W2 : Whole x1 (w.heap.size + 1) 24 (scs st0) := W2'
      obtain ⟨p0, p1, p2, p3, p4, p5⟩ := six W1
      simp only at p0 p1 p2 p3 p4 p5
      clear b1 W1' W2'
      go_wp2_with fail
      refine (HC.out _).mono ?_; rintro e x2 ⟨rfl, rfl⟩
      clear p0 p1 p2 p3 p4 p5
      have hw1 : w.heap.size ≤ w.heap.size + 1 := by omega
      have hw2 : w.heap.size ≠ w.heap.size + 1 := by omega
      have X1 := W1.alloc (.cells #[.bool wa, .int .i64 ca, .int .i64 da, .bool wb, .int .i64 1099511627776, .int .i64 db] 24)
      have X2 := W2.alloc (.cells #[.bool wa, .int .i64 ca, .int .i64 da, .bool wb, .int .i64 1099511627776, .int .i64 db] 24)
      have XB := B1.alloc B1.size (.cells #[.bool wa, .int .i64 ca, .int .i64 da, .bool wb, .int .i64 1099511627776, .int .i64 db] 24)
      obtain ⟨q0, q1, q2, q3, q4, q5⟩ := six X1
      simp only at q0 q1 q2 q3 q4 q5
      clear W1 W2 B1 hs
      obtain ⟨d0, d1, d2, d3, d4, d5⟩ := six X2
      obtain ⟨f0, f1, f2, f3, f4, f5⟩ := fro6 X2
      have WF := Lib.hid (whole_drew (fill_whole (s := st0) X2))
      have BF := Lib.hid (fill_below (s := st0) XB hw1)
      simp only [st0, slo0] at d0 d1 d2 d3 d4 d5
      clear X1 X2 XB
      go_wp2_with fail
      go_region
      go_wp2_with fail
      refine bodyPost_ret (results_st rfl _ _ (w.heap.size + 1) st0 rfl WF.out) rfl ?_
      exact ⟨rfl, BF.out.drew⟩
  · rw [h1] at HR
    have hri := right_iff.1 h1
    rcases newer_cases s with hn | hn | hn
    · cases br with
      | false =>
        have hR : writeR s data false = (⟨⟨true, 1, data⟩, s.b⟩, 0) := Prod.ext (by rw [(write_ok h3).2.2]; simp [hn, newS, nextC, cur]) h3
        rw [hR]
        rw [hn] at HC
        obtain ⟨⟨wa, ca, da⟩, ⟨wb, cb, db⟩⟩ := s
        simp only at hri
        clear h1 h2 h3 hn hri hR
        unfold sv scs at HR HC ⊢
        unfold sbox scs at HR HX HC
        go_enter Try.func7, Try.ntmps7
        go_wp2_with fail
        refine (HR.out).mono ?_; rintro e x1 ⟨rfl, b1⟩
        obtain ⟨B1, W1', W2', hs⟩ := HX.out _ b1
        have W1 : Whole x1 w.heap.size 24 (scs ⟨⟨wa, ca, da⟩, ⟨wb, cb, db⟩⟩) := W1'
        have W2 : Whole x1 (w.heap.size + 1) 24 (scs st0) := W2'
        obtain ⟨p0, p1, p2, p3, p4, p5⟩ := six W1
        simp only at p0 p1 p2 p3 p4 p5
        clear b1 W1' W2'
        go_wp2_with fail
        refine (HC.out _).mono ?_; rintro e x2 ⟨rfl, rfl⟩
        clear p0 p1 p2 p3 p4 p5
        have hw1 : w.heap.size ≤ w.heap.size + 1 := by omega
        have hw2 : w.heap.size ≠ w.heap.size + 1 := by omega
        have X1 := W1.alloc (.cells #[.bool wa, .int .i64 ca, .int .i64 da, .bool wb, .int .i64 cb, .int .i64 db] 24)
        have X2 := W2.alloc (.cells #[.bool wa, .int .i64 ca, .int .i64 da, .bool wb, .int .i64 cb, .int .i64 db] 24)
        have XB := B1.alloc B1.size (.cells #[.bool wa, .int .i64 ca, .int .i64 da, .bool wb, .int .i64 cb, .int .i64 db] 24)
        obtain ⟨q0, q1, q2, q3, q4, q5⟩ := six X1
        simp only at q0 q1 q2 q3 q4 q5
        clear W1 W2 B1 hs
        obtain ⟨e0, e1, e2, e3, e4, e5⟩ := fro6 X1
        obtain ⟨d0, d1, d2, d3, d4, d5⟩ := six X2
        obtain ⟨f0, f1, f2, f3, f4, f5⟩ := fro6 X2
        have WF := Lib.hid ((fill_whole (s := ⟨⟨true, 1, data⟩, ⟨wb, cb, db⟩⟩) (fill3_other (x := ⟨true, 1, data⟩) X2 hw2)))
        have BF := Lib.hid (fill_below (s := ⟨⟨true, 1, data⟩, ⟨wb, cb, db⟩⟩) (fill3_below (x := ⟨true, 1, data⟩) XB (Nat.le_refl _)) hw1)
        simp only [st0, slo0] at d0 d1 d2 d3 d4 d5
        clear X1 X2 XB
        go_wp2_with fail
        refine bodyPost_ret (results_st rfl _ _ (w.heap.size + 1) ⟨⟨true, 1, data⟩, ⟨wb, cb, db⟩⟩ rfl WF.out) rfl ?_
        exact ⟨rfl, BF.out⟩
      | true =>
        have hR : writeR s data true = (⟨slo0, s.b⟩, 0) := Prod.ext (by rw [(write_ok h3).2.2]; simp [hn, newS, nextC, cur]) h3
        rw [hR]
        rw [hn] at HC
        obtain ⟨⟨wa, ca, da⟩, ⟨wb, cb, db⟩⟩ := s
        simp only at hri
        clear h1 h2 h3 hn hri hR
        unfold sv scs at HR HC ⊢
        unfold sbox scs at HR HX HC
        go_enter Try.func7, Try.ntmps7
        go_wp2_with fail
        refine (HR.out).mono ?_; rintro e x1 ⟨rfl, b1⟩
        obtain ⟨B1, W1', W2', hs⟩ := HX.out _ b1
        have W1 : Whole x1 w.heap.size 24 (scs ⟨⟨wa, ca, da⟩, ⟨wb, cb, db⟩⟩) := W1'
        have W2 : Whole x1 (w.heap.size + 1) 24 (scs st0) := W2'
        obtain ⟨p0, p1, p2, p3, p4, p5⟩ := six W1
        simp only at p0 p1 p2 p3 p4 p5
        clear b1 W1' W2'
        go_wp2_with fail
        refine (HC.out _).mono ?_; rintro e x2 ⟨rfl, rfl⟩
        clear p0 p1 p2 p3 p4 p5
        have hw1 : w.heap.size ≤ w.heap.size + 1 := by omega
        have hw2 : w.heap.size ≠ w.heap.size + 1 := by omega
        have X1 := W1.alloc (.cells #[.bool wa, .int .i64 ca, .int .i64 da, .bool wb, .int .i64 cb, .int .i64 db] 24)
        have X2 := W2.alloc (.cells #[.bool wa, .int .i64 ca, .int .i64 da, .bool wb, .int .i64 cb, .int .i64 db] 24)
        have XB := B1.alloc B1.size (.cells #[.bool wa, .int .i64 ca, .int .i64 da, .bool wb, .int .i64 cb, .int .i64 db] 24)
        obtain ⟨q0, q1, q2, q3, q4, q5⟩ := six X1
        simp only at q0 q1 q2 q3 q4 q5
        clear W1 W2 B1 hs
        obtain ⟨e0, e1, e2, e3, e4, e5⟩ := fro6 X1
        obtain ⟨d0, d1, d2, d3, d4, d5⟩ := six X2
        obtain ⟨f0, f1, f2, f3, f4, f5⟩ := fro6 X2
        have WF := Lib.hid ((fill_whole (s := ⟨slo0, ⟨wb, cb, db⟩⟩) (fill3_other (x := slo0) X2 hw2)))
        have BF := Lib.hid (fill_below (s := ⟨slo0, ⟨wb, cb, db⟩⟩) (fill3_below (x := slo0) XB (Nat.le_refl _)) hw1)
        simp only [st0, slo0] at d0 d1 d2 d3 d4 d5
        clear X1 X2 XB
        go_wp2_with fail
        refine bodyPost_ret (results_st rfl _ _ (w.heap.size + 1) ⟨slo0, ⟨wb, cb, db⟩⟩ rfl WF.out) rfl ?_
        exact ⟨rfl, BF.out⟩
    · cases br with
      | false =>
        have hR : writeR s data false = (⟨s.a, ⟨true, s.a.c + 1, data⟩⟩, 0) := Prod.ext (by rw [(write_ok h3).2.2]; simp [hn, newS, nextC, cur]) h3
        rw [hR]
        rw [hn] at HC
        have hc : s.a.c + 1 ≤ 1099511627776 := by unfold nextC cur at h2; rw [hn] at h2; simp at h2; omega
        obtain ⟨⟨wa, ca, da⟩, ⟨wb, cb, db⟩⟩ := s
        simp only at hri hc
        have hb0 := hri.1
        have hnc : (ca == 1099511627776) = false := by rw [beq_eq_false_iff_ne]; omega
        clear h1 h2 h3 hn hri hR
        unfold sv scs at HR HC ⊢
        unfold sbox scs at HR HX HC
        go_enter Try.func7, Try.ntmps7
        go_wp2_with fail
        refine (HR.out).mono ?_; rintro e x1 ⟨rfl, b1⟩
        obtain ⟨B1, W1', W2', hs⟩ := HX.out _ b1
        have W1 : Whole x1 w.heap.size 24 (scs ⟨⟨wa, ca, da⟩, ⟨wb, cb, db⟩⟩) := W1'
        have W2 : Whole x1 (w.heap.size + 1) 24 (scs st0) := W2'
        obtain ⟨p0, p1, p2, p3, p4, p5⟩ := six W1
        simp only at p0 p1 p2 p3 p4 p5
        clear b1 W1' W2'
        go_wp2_with fail
        refine (HC.out _).mono ?_; rintro e x2 ⟨rfl, rfl⟩
        clear p0 p1 p2 p3 p4 p5
        have hw1 : w.heap.size ≤ w.heap.size + 1 := by omega
        have hw2 : w.heap.size ≠ w.heap.size + 1 := by omega
        have X1 := W1.alloc (.cells #[.bool wa, .int .i64 ca, .int .i64 da, .bool wb, .int .i64 cb, .int .i64 db] 24)
        have X2 := W2.alloc (.cells #[.bool wa, .int .i64 ca, .int .i64 da, .bool wb, .int .i64 cb, .int .i64 db] 24)
        have XB := B1.alloc B1.size (.cells #[.bool wa, .int .i64 ca, .int .i64 da, .bool wb, .int .i64 cb, .int .i64 db] 24)
        obtain ⟨q0, q1, q2, q3, q4, q5⟩ := six X1
        simp only at q0 q1 q2 q3 q4 q5
        clear W1 W2 B1 hs
        obtain ⟨e0, e1, e2, e3, e4, e5⟩ := fro6 X1
        obtain ⟨d0, d1, d2, d3, d4, d5⟩ := six X2
        obtain ⟨f0, f1, f2, f3, f4, f5⟩ := fro6 X2
        have WF := Lib.hid (whole_drew (fill_whole (s := ⟨⟨wa, ca, da⟩, ⟨true, ca + 1, data⟩⟩) (fillB_other (x := ⟨true, ca + 1, data⟩) X2 hw2)))
        have BF := Lib.hid (fill_below (s := ⟨⟨wa, ca, da⟩, ⟨true, ca + 1, data⟩⟩) (fillB_below (x := ⟨true, ca + 1, data⟩) XB (Nat.le_refl _)) hw1)
        simp only [st0, slo0] at d0 d1 d2 d3 d4 d5
        clear X1 X2 XB
        go_wp2_with fail
        go_region
        go_wp2_with fail
        refine bodyPost_ret (results_st rfl _ _ (w.heap.size + 1) ⟨⟨wa, ca, da⟩, ⟨true, ca + 1, data⟩⟩ rfl WF.out) rfl ?_
        exact ⟨rfl, BF.out.drew⟩
      | true =>
        have hR : writeR s data true = (⟨s.a, slo0⟩, 0) := Prod.ext (by rw [(write_ok h3).2.2]; simp [hn, newS, nextC, cur]) h3
        rw [hR]
        rw [hn] at HC
        have hc : s.a.c + 1 ≤ 1099511627776 := by unfold nextC cur at h2; rw [hn] at h2; simp at h2; omega
        obtain ⟨⟨wa, ca, da⟩, ⟨wb, cb, db⟩⟩ := s
        simp only at hri hc
        have hb0 := hri.1
        have hnc : (ca == 1099511627776) = false := by rw [beq_eq_false_iff_ne]; omega
        clear h1 h2 h3 hn hri hR
        unfold sv scs at HR HC ⊢
        unfold sbox scs at HR HX HC
        go_enter Try.func7, Try.ntmps7
        go_wp2_with fail
        refine (HR.out).mono ?_; rintro e x1 ⟨rfl, b1⟩
        obtain ⟨B1, W1', W2', hs⟩ := HX.out _ b1
        have W1 : Whole x1 w.heap.size 24 (scs ⟨⟨wa, ca, da⟩, ⟨wb, cb, db⟩⟩) := W1'
        have W2 : Whole x1 (w.heap.size + 1) 24 (scs st0) := W2'
        obtain ⟨p0, p1, p2, p3, p4, p5⟩ := six W1
        simp only at p0 p1 p2 p3 p4 p5
        clear b1 W1' W2'
        go_wp2_with fail
        refine (HC.out _).mono ?_; rintro e x2 ⟨rfl, rfl⟩
        clear p0 p1 p2 p3 p4 p5
        have hw1 : w.heap.size ≤ w.heap.size + 1 := by omega
        have hw2 : w.heap.size ≠ w.heap.size + 1 := by omega
        have X1 := W1.alloc (.cells #[.bool wa, .int .i64 ca, .int .i64 da, .bool wb, .int .i64 cb, .int .i64 db] 24)
        have X2 := W2.alloc (.cells #[.bool wa, .int .i64 ca, .int .i64 da, .bool wb, .int .i64 cb, .int .i64 db] 24)
        have XB := B1.alloc B1.size (.cells #[.bool wa, .int .i64 ca, .int .i64 da, .bool wb, .int .i64 cb, .int .i64 db] 24)
        obtain ⟨q0, q1, q2, q3, q4, q5⟩ := six X1
        simp only at q0 q1 q2 q3 q4 q5
        clear W1 W2 B1 hs
        obtain ⟨e0, e1, e2, e3, e4, e5⟩ := fro6 X1
        obtain ⟨d0, d1, d2, d3, d4, d5⟩ := six X2
        obtain ⟨f0, f1, f2, f3, f4, f5⟩ := fro6 X2
        have WF := Lib.hid (whole_drew (fill_whole (s := ⟨⟨wa, ca, da⟩, slo0⟩) (fillB_other (x := slo0) X2 hw2)))
        have BF := Lib.hid (fill_below (s := ⟨⟨wa, ca, da⟩, slo0⟩) (fillB_below (x := slo0) XB (Nat.le_refl _)) hw1)
        simp only [st0, slo0] at d0 d1 d2 d3 d4 d5
        clear X1 X2 XB
        go_wp2_with fail
        go_region
        go_wp2_with fail
        refine bodyPost_ret (results_st rfl _ _ (w.heap.size + 1) ⟨⟨wa, ca, da⟩, slo0⟩ rfl WF.out) rfl ?_
        exact ⟨rfl, BF.out.drew⟩
    · cases br with
      | false =>
        have hR : writeR s data false = (⟨⟨true, s.b.c + 1, data⟩, s.b⟩, 0) := Prod.ext (by rw [(write_ok h3).2.2]; simp [hn, newS, nextC, cur]) h3
        rw [hR]
        rw [hn] at HC
        have hc : s.b.c + 1 ≤ 1099511627776 := by unfold nextC cur at h2; rw [hn] at h2; simp at h2; omega
        obtain ⟨⟨wa, ca, da⟩, ⟨wb, cb, db⟩⟩ := s
        simp only at hri hc
        have hb0 := hri.2.1
        have hnc : (cb == 1099511627776) = false := by rw [beq_eq_false_iff_ne]; omega
        clear h1 h2 h3 hn hri hR
        unfold sv scs at HR HC ⊢
        unfold sbox scs at HR HX HC
        go_enter Try.func7, Try.ntmps7
        go_wp2_with fail
        refine (HR.out).mono ?_; rintro e x1 ⟨rfl, b1⟩
        obtain ⟨B1, W1', W2', hs⟩ := HX.out _ b1
        have W1 : Whole x1 w.heap.size 24 (scs ⟨⟨wa, ca, da⟩, ⟨wb, cb, db⟩⟩) := W1'
        have W2 : Whole x1 (w.heap.size + 1) 24 (scs st0) := W2'
        obtain ⟨p0, p1, p2, p3, p4, p5⟩ := six W1
        simp only at p0 p1 p2 p3 p4 p5
        clear b1 W1' W2'
        go_wp2_with fail
        refine (HC.out _).mono ?_; rintro e x2 ⟨rfl, rfl⟩
        clear p0 p1 p2 p3 p4 p5
        have hw1 : w.heap.size ≤ w.heap.size + 1 := by omega
        have hw2 : w.heap.size ≠ w.heap.size + 1 := by omega
        have X1 := W1.alloc (.cells #[.bool wa, .int .i64 ca, .int .i64 da, .bool wb, .int .i64 cb, .int .i64 db] 24)
        have X2 := W2.alloc (.cells #[.bool wa, .int .i64 ca, .int .i64 da, .bool wb, .int .i64 cb, .int .i64 db] 24)
        have XB := B1.alloc B1.size (.cells #[.bool wa, .int .i64 ca, .int .i64 da, .bool wb, .int .i64 cb, .int .i64 db] 24)
        obtain ⟨q0, q1, q2, q3, q4, q5⟩ := six X1
        simp only at q0 q1 q2 q3 q4 q5
        clear W1 W2 B1 hs
        obtain ⟨e0, e1, e2, e3, e4, e5⟩ := fro6 X1
        obtain ⟨d0, d1, d2, d3, d4, d5⟩ := six X2
        obtain ⟨f0, f1, f2, f3, f4, f5⟩ := fro6 X2
        have WF := Lib.hid (whole_drew (fill_whole (s := ⟨⟨true, cb + 1, data⟩, ⟨wb, cb, db⟩⟩) (fill3_other (x := ⟨true, cb + 1, data⟩) X2 hw2)))
        have BF := Lib.hid (fill_below (s := ⟨⟨true, cb + 1, data⟩, ⟨wb, cb, db⟩⟩) (fill3_below (x := ⟨true, cb + 1, data⟩) XB (Nat.le_refl _)) hw1)
        simp only [st0, slo0] at d0 d1 d2 d3 d4 d5
        clear X1 X2 XB
        go_wp2_with fail
        go_region
        go_wp2_with fail
        refine bodyPost_ret (results_st rfl _ _ (w.heap.size + 1) ⟨⟨true, cb + 1, data⟩, ⟨wb, cb, db⟩⟩ rfl WF.out) rfl ?_
        exact ⟨rfl, BF.out.drew⟩
      | true =>
        have hR : writeR s data true = (⟨slo0, s.b⟩, 0) := Prod.ext (by rw [(write_ok h3).2.2]; simp [hn, newS, nextC, cur]) h3
        rw [hR]
        rw [hn] at HC
        have hc : s.b.c + 1 ≤ 1099511627776 := by unfold nextC cur at h2; rw [hn] at h2; simp at h2; omega
        obtain ⟨⟨wa, ca, da⟩, ⟨wb, cb, db⟩⟩ := s
        simp only at hri hc
        have hb0 := hri.2.1
        have hnc : (cb == 1099511627776) = false := by rw [beq_eq_false_iff_ne]; omega
        clear h1 h2 h3 hn hri hR
        unfold sv scs at HR HC ⊢
        unfold sbox scs at HR HX HC
        go_enter Try.func7, Try.ntmps7
        go_wp2_with fail
        refine (HR.out).mono ?_; rintro e x1 ⟨rfl, b1⟩
        obtain ⟨B1, W1', W2', hs⟩ := HX.out _ b1
        have W1 : Whole x1 w.heap.size 24 (scs ⟨⟨wa, ca, da⟩, ⟨wb, cb, db⟩⟩) := W1'
        have W2 : Whole x1 (w.heap.size + 1) 24 (scs st0) := W2'
        obtain ⟨p0, p1, p2, p3, p4, p5⟩ := six W1
        simp only at p0 p1 p2 p3 p4 p5
        clear b1 W1' W2'
        go_wp2_with fail
        refine (HC.out _).mono ?_; rintro e x2 ⟨rfl, rfl⟩
        clear p0 p1 p2 p3 p4 p5
        have hw1 : w.heap.size ≤ w.heap.size + 1 := by omega
        have hw2 : w.heap.size ≠ w.heap.size + 1 := by omega
        have X1 := W1.alloc (.cells #[.bool wa, .int .i64 ca, .int .i64 da, .bool wb, .int .i64 cb, .int .i64 db] 24)
        have X2 := W2.alloc (.cells #[.bool wa, .int .i64 ca, .int .i64 da, .bool wb, .int .i64 cb, .int .i64 db] 24)
        have XB := B1.alloc B1.size (.cells #[.bool wa, .int .i64 ca, .int .i64 da, .bool wb, .int .i64 cb, .int .i64 db] 24)
        obtain ⟨q0, q1, q2, q3, q4, q5⟩ := six X1
        simp only at q0 q1 q2 q3 q4 q5
        clear W1 W2 B1 hs
        obtain ⟨e0, e1, e2, e3, e4, e5⟩ := fro6 X1
        obtain ⟨d0, d1, d2, d3, d4, d5⟩ := six X2
        obtain ⟨f0, f1, f2, f3, f4, f5⟩ := fro6 X2
        have WF := Lib.hid (whole_drew (fill_whole (s := ⟨slo0, ⟨wb, cb, db⟩⟩) (fill3_other (x := slo0) X2 hw2)))
        have BF := Lib.hid (fill_below (s := ⟨slo0, ⟨wb, cb, db⟩⟩) (fill3_below (x := slo0) XB (Nat.le_refl _)) hw1)
        simp only [st0, slo0] at d0 d1 d2 d3 d4 d5
        clear X1 X2 XB
        go_wp2_with fail
        go_region
        go_wp2_with fail
        refine bodyPost_ret (results_st rfl _ _ (w.heap.size + 1) ⟨slo0, ⟨wb, cb, db⟩⟩ rfl WF.out) rfl ?_
        exact ⟨rfl, BF.out.drew⟩
end Go.Proofs.Ytpjhihmbgahagaa.Twn
