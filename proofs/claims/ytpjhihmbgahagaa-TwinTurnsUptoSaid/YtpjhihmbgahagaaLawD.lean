/-
  TwinTurns, walked under what is asked of the program's three functions, for a list of at most 2^20 numbers.
-/
import Derived.Test.YtpjhihmbgahagaaCon
import Derived.BigFrame
import Derived.BigQuiet
namespace Go.Proofs.Ytpjhihmbgahagaa.Twn
open Go.ChangeShapes Go.WideShapes Go.ChangeAt Go.RowKit Words
set_option linter.unusedVariables false
set_option linter.unusedSimpArgs false

/-- The k-th whole write goes through; it goes into slot k % 2, and the other slot is as it was. -/
theorem turn_step (l : List Int) (k : Nat) (hk : k < 1099511627776) : (writeR (turn l k) (nthI l k) false).2 = 0 := by
  rcases write_err (turn l k) (nthI l k) false with ⟨h, _⟩ | ⟨_, h, _⟩ | ⟨_, _, h⟩
  · exfalso
    have : right (turn l k) = true := by
      rcases turn_is l k (by omega) with ⟨_, e⟩ | ⟨_, e⟩ | ⟨_, _, e⟩ | ⟨_, _, e⟩ <;> rw [e]
      · rfl
      · exact right_iff.2 ⟨by simp, by simp [slo0], by simp [slo0]⟩
      · exact right_iff.2 ⟨by simp; omega, by simp; omega, by simp; omega⟩
      · exact right_iff.2 ⟨by simp; omega, by simp; omega, by simp; omega⟩
    rw [this] at h; cases h
  · exfalso
    rcases turn_is l k (by omega) with ⟨_, e⟩ | ⟨_, e⟩ | ⟨_, _, e⟩ | ⟨_, _, e⟩ <;> rw [e] at h
    · simp [nextC, newer, cur, st0, slo0] at h
    · simp [nextC, newer, cur, st0, slo0] at h
    · have hn : newer ⟨⟨true, (k : Int) - 1, nthI l (k - 2)⟩, ⟨true, k, nthI l (k - 1)⟩⟩ = 1 := by simp [newer]; omega
      unfold nextC cur at h
      rw [hn] at h
      simp at h
      omega
    · have hn : newer ⟨⟨true, k, nthI l (k - 1)⟩, ⟨true, (k : Int) - 1, nthI l (k - 2)⟩⟩ = 0 := by simp [newer]; omega
      unfold nextC cur at h
      rw [hn] at h
      simp at h
      omega
  · exact h
theorem turn_next (l : List Int) (k : Nat) (hk : k < 1099511627776) : writeR (turn l k) (nthI l k) false = (turn l (k + 1), 0) := Prod.ext rfl (turn_step l k hk)
theorem turn_even (l : List Int) (k : Nat) (hk : k < 1099511627776) (hm : k % 2 = 0) : turn l (k + 1) = ⟨⟨true, (k : Int) + 1, nthI l k⟩, (turn l k).b⟩ := by
  rcases turn_is l (k + 1) (by omega) with ⟨h, _⟩ | ⟨h, e⟩ | ⟨_, h, e⟩ | ⟨_, h, e⟩
  · omega
  · obtain rfl : k = 0 := by omega
    rw [e]; rfl
  · omega
  · rw [e]
    rcases turn_is l k (by omega) with ⟨h', _⟩ | ⟨h', _⟩ | ⟨_, h', e'⟩ | ⟨_, h', e'⟩
    · omega
    · omega
    · rw [e']
      simp
    · omega
theorem turn_odd (l : List Int) (k : Nat) (hk : k < 1099511627776) (hm : k % 2 = 1) : turn l (k + 1) = ⟨(turn l k).a, ⟨true, (k : Int) + 1, nthI l k⟩⟩ := by
  rcases turn_is l (k + 1) (by omega) with ⟨h, _⟩ | ⟨h, e⟩ | ⟨_, h, e⟩ | ⟨_, h, e⟩
  · omega
  · omega
  · rw [e]
    rcases turn_is l k (by omega) with ⟨h', _⟩ | ⟨h', e'⟩ | ⟨_, h', e'⟩ | ⟨_, h', e'⟩
    · omega
    · rw [e']
      subst h'
      simp
    · omega
    · rw [e']
      simp
  · omega
structure TI (w : World) (g : Nat) (t : St) (wr : World) : Prop where
  bel : Below w.heap.size w wr
  whole : Whole wr g 24 (scs t)
  lt : g < wr.heap.size
  le : w.heap.size ≤ g
theorem TI.below {w wr x : World} {g : Nat} {t : St} (h : TI w g t wr) (b : Below wr.heap.size wr x) : TI w g t x :=
  ⟨h.bel.trans (b.mono h.bel.size), whole_below h.whole b h.lt, Nat.lt_of_lt_of_le h.lt b.size, h.le⟩
theorem TI.fill {w x : World} {g : Nat} {t u : St} {o : Obj} (h : TI w g t x) (nq : Nat) : TI w g u (fill ((x.alloc o).drewN nq) g u) :=
  ⟨fill_below (Words.below_drewN (h.bel.alloc h.bel.size _) nq) h.le, fill_whole (Whole.drewN (h.whole.alloc o) nq), by unfold Twn.fill; simp; exact Nat.lt_succ_of_lt h.lt, h.le⟩
set_option maxHeartbeats 4000000 in
theorem turns_walk (HW : WriteC) (HR : ReadC) (HT : RightC) (A : Option Addr) (n c : Nat) (l : List Int) (w : World) (h : Ints w w.heap.size A n c l) (hc : c ≤ 1048576) :
    Calls Try.prog 6 #[.slice A n c] w fun e w' => e = .returned (.bool true) ∧ Below w.heap.size w w' := by
  have HA := Lib.hid (alive13 HW HR HT w)
  have L := Lib.hid h.len
  have hnc : n ≤ 1048576 := Nat.le_trans (Rd.le h) hc
  have H := Lib.hid h
  have HWW := Lib.hid (fun k (hk : k < 1099511627776) w => (show Calls Try.prog 7 #[sv (turn l k), .int .i64 (nthI l k), .bool false] w (Wrote w (turn l (k + 1), 0)) from by have := HW (turn l k) (nthI l k) false w; rw [turn_next l k hk] at this; exact this))
  clear HW HR HT h
  go_enter Try.func6, Try.ntmps6
  go_wp2_with fail
  refine (HA.out).mono ?_; rintro e x0 ⟨rfl, b0⟩
  have I0 : Hid (TI w x0.heap.size (turn l 0) (x0.alloc (sbox st0))) := Lib.hid ⟨b0.alloc b0.size _, Whole.new x0 24 (scs st0), by simp, b0.size⟩
  unfold sbox scs st0 slo0 at I0
  clear b0
  go_wp2_with fail
  go_loopw [4, 5, 6, 7, 12] (fun _ _ _ _ i wr => ∃ (k : Nat), i = .int .i64 k ∧ k ≤ n ∧ TI w x0.heap.size (turn l k) wr) (fun _ _ _ _ i _ => (n - intOf i).toNat)
  case atStart => exact ⟨0, rfl, by omega, I0.out⟩
  case round =>
    obtain ⟨k, rfl, hk, hI⟩ := hrel
    have I := Lib.hid hI
    clear hI I0
    by_cases hlt : k < n
    · obtain ⟨gl, ol, rfl, _, _⟩ := Words.Rd.row H.out (by omega)
      have hx : l[k]? = some (nthI l k) := by
        have hl := L.out
        unfold nthI
        rw [List.getD_eq_getElem?_getD, List.getElem?_eq_getElem (by omega)]
        rfl
      have c0 := Ints.cellAt (Words.Rd.below H.out I.out.bel (Nat.le_refl _)) rfl hx
      have HWX := HWW.out k (by omega)
      have hkk : k < 1099511627776 := by omega
      rcases Nat.mod_two_eq_zero_or_one k with hm | hm
      · have ht := turn_even l k hkk hm
        have IN := I.out
        generalize hu : turn l k = t at HWX ht IN
        obtain ⟨⟨pa, pc, pd⟩, ⟨qa, qc, qd⟩⟩ := t
        rw [ht] at HWX
        have HK := Lib.hid (fun wr (hh : TI w x0.heap.size ⟨⟨true, (k : Int) + 1, nthI l k⟩, ⟨qa, qc, qd⟩⟩ wr) => (show TI w x0.heap.size (turn l (k + 1)) wr from by rw [ht]; exact hh))
        have I7 := Lib.hid IN
        have hmm : Int.tmod (k : Int) 2 = 0 := by
          show ((k % 2 : Nat) : Int) = 0
          omega
        have E1 := neq_slot ⟨true, (k : Int) + 1, nthI l k⟩ _ rfl
        have E2 := neq_slot ⟨qa, qc, qd⟩ _ rfl
        unfold slv at E1 E2
        unfold Wrote sv scs at HWX
        simp only at E1 E2 HWX
        obtain ⟨p0, p1, p2, p3, p4, p5⟩ := six IN.whole
        simp only at p0 p1 p2 p3 p4 p5
        generalize nthI l k = x at *
        have HWX := Lib.hid HWX
        clear ht hu IN hx hm I
        go_wp2_with fail
        refine (HWX.out _).mono ?_; rintro e x2 ⟨rfl, b2⟩
        have I8 := Lib.hid (I7.out.below b2)
        have IF := Lib.hid (fun nq => I8.out.fill (nq := nq) (u := ⟨⟨true, (k : Int) + 1, x⟩, ⟨qa, qc, qd⟩⟩) (o := .cells #[.bool true, .int .i64 ((k : Int) + 1), .int .i64 x, .bool qa, .int .i64 qc, .int .i64 qd] 24))
        clear p0 p1 p2 p3 p4 p5 b2
        obtain ⟨f0, f1, f2, f3, f4, f5⟩ := fro6 (I8.out.whole.alloc (.cells #[.bool true, .int .i64 ((k : Int) + 1), .int .i64 x, .bool qa, .int .i64 qc, .int .i64 qd] 24))
        obtain ⟨p0, p1, p2, p3, p4, p5⟩ := six (I8.out.whole.alloc (.cells #[.bool true, .int .i64 ((k : Int) + 1), .int .i64 x, .bool qa, .int .i64 qc, .int .i64 qd] 24))
        simp only at p0 p1 p2 p3 p4 p5
        have hne : x2.heap.size ≠ x0.heap.size := Nat.ne_of_gt I8.out.lt
        go_wp2_with fail
        go_quiet (fail)
        go_wp2_with fail
        go_roundw
        case rel => exact ⟨k + 1, by go_num, by omega, HK.out _ (IF.out _)⟩
        case measure => simp [intOf]; omega
      · have ht := turn_odd l k hkk hm
        have IN := I.out
        generalize hu : turn l k = t at HWX ht IN
        obtain ⟨⟨pa, pc, pd⟩, ⟨qa, qc, qd⟩⟩ := t
        rw [ht] at HWX
        have HK := Lib.hid (fun wr (hh : TI w x0.heap.size ⟨⟨pa, pc, pd⟩, ⟨true, (k : Int) + 1, nthI l k⟩⟩ wr) => (show TI w x0.heap.size (turn l (k + 1)) wr from by rw [ht]; exact hh))
        have I7 := Lib.hid IN
        have hmm : Int.tmod (k : Int) 2 = 1 := by
          show ((k % 2 : Nat) : Int) = 1
          omega
        have E1 := neq_slot ⟨true, (k : Int) + 1, nthI l k⟩ _ rfl
        have E2 := neq_slot ⟨pa, pc, pd⟩ _ rfl
        unfold slv at E1 E2
        unfold Wrote sv scs at HWX
        simp only at E1 E2 HWX
        obtain ⟨p0, p1, p2, p3, p4, p5⟩ := six IN.whole
        simp only at p0 p1 p2 p3 p4 p5
        generalize nthI l k = x at *
        have HWX := Lib.hid HWX
        clear ht hu IN hx hm I
        go_wp2_with fail
        refine (HWX.out _).mono ?_; rintro e x2 ⟨rfl, b2⟩
        have I8 := Lib.hid (I7.out.below b2)
        have IF := Lib.hid (fun nq => I8.out.fill (nq := nq) (u := ⟨⟨pa, pc, pd⟩, ⟨true, (k : Int) + 1, x⟩⟩) (o := .cells #[.bool pa, .int .i64 pc, .int .i64 pd, .bool true, .int .i64 ((k : Int) + 1), .int .i64 x] 24))
        clear p0 p1 p2 p3 p4 p5 b2
        obtain ⟨f0, f1, f2, f3, f4, f5⟩ := fro6 (I8.out.whole.alloc (.cells #[.bool pa, .int .i64 pc, .int .i64 pd, .bool true, .int .i64 ((k : Int) + 1), .int .i64 x] 24))
        obtain ⟨p0, p1, p2, p3, p4, p5⟩ := six (I8.out.whole.alloc (.cells #[.bool pa, .int .i64 pc, .int .i64 pd, .bool true, .int .i64 ((k : Int) + 1), .int .i64 x] 24))
        simp only at p0 p1 p2 p3 p4 p5
        have hne : x2.heap.size ≠ x0.heap.size := Nat.ne_of_gt I8.out.lt
        go_wp2_with fail
        go_quiet (fail)
        go_wp2_with fail
        go_roundw
        case rel => exact ⟨k + 1, by go_num, by omega, HK.out _ (IF.out _)⟩
        case measure => simp [intOf]; omega
    · go_wp2_with fail
      go_ret
      exact ⟨rfl, I.out.bel⟩
end Go.Proofs.Ytpjhihmbgahagaa.Twn
