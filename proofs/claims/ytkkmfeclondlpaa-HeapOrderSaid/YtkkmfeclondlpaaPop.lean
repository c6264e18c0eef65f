/-
  What Pop returns.
-/
import Derived.Test.YtkkmfeclondlpaaPopT
import Derived.Test.YtkkmfeclondlpaaDown
namespace Go.Proofs.Ytkkmfeclondlpaa.Heap
open Go.ChangeShapes Go.WideShapes Go.ChangeAt Go.RowKit Words Go.Sort
set_option linter.unusedVariables false

theorem popped_one {l : List Wn} (h : l.length = 1) : popped l = [] := List.eq_nil_of_length_eq_zero (by rw [popped_length]; omega)
set_option maxRecDepth 100000 in
set_option maxHeartbeats 4000000 in
theorem pop11 (B : Nat) (A : Option Addr) (n c : Nat) (l : List Wn) (w : World) (h : Hp w B A n c l) (hB : B ≤ w.heap.size) (hs : Small n) :
    Calls Try.prog 11 #[.slice A n c] w (MadeP w (tlist l) (tval l) (terr l)) := by
  have B0 := Lib.hid ((Below.refl w.heap.size w).alloc (Nat.le_refl _) (.cells #[.int .i64 0, .int .i64 0] 24))
  have HR := right13 B A n c l (w.alloc (.cells #[.int .i64 0, .int .i64 0] 24)) (Words.Rd.below h B0.out hB) (Nat.le_trans hB B0.out.size) hs
  have hl := h.len
  have H := Lib.hid h
  clear h
  cases hr : right l with
  | false =>
    have HE := Lib.hid (terr_form hr)
    rw [hr] at HR
    have HR := Lib.hid HR
    clear hr hs
    go_enter Try.func11, Try.ntmps11
    go_wp2_with fail
    refine (HR.out).mono ?_; rintro e w1 ⟨rfl, hb⟩
    obtain ⟨z0, z1, z2, z3⟩ := zero_box hb
    have HW := Lib.hid (zero_whole hb)
    have hsz : w.heap.size < w1.heap.size := by have := hb.size; simp at this; omega
    have B1 := Lib.hid (B0.out.trans (hb.mono B0.out.size))
    clear hb
    have hn1 := fill_next (x := ⟨0, 0⟩) HW.out
    go_wp2_with fail
    refine bodyPost_ret (results_wn (x := ⟨0, 0⟩) rfl rfl (fill_cells (x := ⟨0, 0⟩) HW.out).1 (fill_cells (x := ⟨0, 0⟩) HW.out).2) rfl ?_
    exact madeP_nil HE.out (by omega) (fill_below ⟨0, 0⟩ B1.out (Nat.le_refl _))
  | true =>
    rw [hr] at HR
    by_cases h0 : n = 0
    · have HE := Lib.hid (terr_none hr (by omega))
      have HR := Lib.hid HR
      have h0' : ((n : Int) == 0) = true := by rw [beq_iff_eq]; omega
      clear hr hs h0 hl
      go_enter Try.func11, Try.ntmps11
      go_wp2_with fail
      refine (HR.out).mono ?_; rintro e w1 ⟨rfl, hb⟩
      obtain ⟨z0, z1, z2, z3⟩ := zero_box hb
      have HW := Lib.hid (zero_whole hb)
      have hsz : w.heap.size < w1.heap.size := by have := hb.size; simp at this; omega
      have B1 := Lib.hid (B0.out.trans (hb.mono B0.out.size))
      clear hb
      have hn1 := fill_next (x := ⟨0, 0⟩) HW.out
      go_wp2_with fail
      refine bodyPost_ret (results_wn (x := ⟨0, 0⟩) rfl rfl (fill_cells (x := ⟨0, 0⟩) HW.out).1 (fill_cells (x := ⟨0, 0⟩) HW.out).2) rfl ?_
      exact madeP_nil HE.out (by omega) (fill_below ⟨0, 0⟩ B1.out (Nat.le_refl _))
    · obtain ⟨i0, hi0, hz0, hz1, hz2⟩ := info_parts info24
      have HE := Lib.hid (terr_ok hr (by omega))
      have HR := Lib.hid HR
      have h0' : ((n : Int) == 0) = false := by rw [beq_eq_false_iff_ne]; omega
      have hm9 : n ≤ 8796093022207 := by unfold Small at hs; omega
      obtain ⟨g, o, rfl, hgB, _⟩ := Words.Rd.row H.out (by omega)
      have hcap := Words.Rd.le H.out
      clear hr hs
      go_enter Try.func11, Try.ntmps11
      go_wp2_with fail
      refine (HR.out).mono ?_; rintro e w1 ⟨rfl, hb⟩
      have HW := Lib.hid (zero_whole hb)
      have hsz : w.heap.size < w1.heap.size := by have := hb.size; simp at this; omega
      have B1 := Lib.hid (B0.out.trans (hb.mono B0.out.size))
      clear hb
      go_upto_region 5 with fail
      go_cut [5] (fun u wx => u = .int .i64 (n - 1 : Nat) ∧ wx = w1)
      case first =>
        go_wp2_with fail
        go_meet
        exact ⟨i64_num (by omega), rfl⟩
      case rest =>
        obtain ⟨rfl, rfl⟩ := hcut
        obtain ⟨m, hm⟩ : ∃ m, m = n - 1 := ⟨_, rfl⟩
        rw [← hm]
        have hmn : m < n := by omega
        have HC := Lib.hid (clone26 B (some ⟨g, o, none⟩) m c (l.take m) wc (Hp.head (Words.Rd.below H.out B1.out hB) (by omega)) (Nat.le_trans hB B1.out.size) (by omega))
        have hsl := fun w => run_head (P := Try.prog) w 22 24 i0 Try.underlying22 hi0 (some ⟨g, o, none⟩) n c m m rfl (by omega)
        have HV : Hid (tval l = nth l 0) := Lib.hid (tval_ok HE.out)
        have hgw : g < w.heap.size := by omega
        have hmn2 : n ≤ m + 1 := by omega
        have HM := Lib.hid hm
        clear hi0 hz0 hz1 hz2 hm
        by_cases hm0 : m = 0
        · have HL : Hid (tlist l = l.take m) := Lib.hid (by rw [tlist_ok HE.out, popped_one (by omega), hm0]; rfl)
          have hm0' : ¬ (0 : Int) < (m : Int) := by omega
          clear hm0
          go_wp2_with fail
          refine (HC.out).mono ?_; rintro e w2 ⟨A2, c2, rfl, o2, b2⟩
          have O2 := Lib.hid o2
          have B2 := Lib.hid (B1.out.trans (b2.mono B1.out.size))
          have HW2 := Lib.hid (whole_below HW.out b2 hsz)
          have z0 := HW2.out.cell 0
          have z1 := HW2.out.cell 1
          have z2 := HW2.out.frozen 0
          have z3 := HW2.out.frozen 1
          have hn1 := fill_next (x := nth l 0) HW2.out
          obtain ⟨d0, d1⟩ := Hp.cells (Words.Rd.below H.out B2.out hB) rfl (nth_get (l := l) (k := 0) (by omega))
          rw [Nat.zero_mul, Nat.add_zero] at d0 d1
          generalize nth l 0 = y at *
          clear o2 b2
          go_wp2_with fail
          go_region
          go_wp2_with fail
          refine bodyPost_ret (results_wn (x := y) rfl rfl (fill_cells (x := y) HW2.out).1 (fill_cells (x := y) HW2.out).2) rfl ?_
          exact madeP_ok HL.out HV.out HE.out (fill_own O2.out hsz y).drew B1.out.size (fill_below y B2.out (Nat.le_refl _)).drew
        · have HL : Hid (tlist l = down ((l.take m).set 0 (nth l m)) 0) := Lib.hid (by rw [tlist_ok HE.out]; unfold popped; rw [hl, ← HM.out])
          have hm0' : (0 : Int) < (m : Int) := by omega
          go_wp2_with fail
          refine (HC.out).mono ?_; rintro e w2 ⟨A2, c2, rfl, o2, b2⟩
          obtain ⟨g2, rfl, hg1, hg2⟩ := o2.addr (by omega)
          have O2 := Lib.hid o2
          have B2 := Lib.hid (B1.out.trans (b2.mono B1.out.size))
          have HW2 := Lib.hid (whole_below HW.out b2 hsz)
          obtain ⟨d0, d1⟩ := Hp.cells (Words.Rd.below H.out B2.out hB) rfl (nth_get (l := l) (k := m) (by omega))
          obtain ⟨y, hy⟩ : ∃ y, y = nth l m := ⟨_, rfl⟩
          rw [← hy] at d0 d1 HL
          have T3 := Lib.hid (Turned.put (Turned.refl o2) (i := 0) (by omega) y)
          obtain ⟨p0, p1⟩ := o2.cells (nth_get (l := l.take m) (k := 0) (by have := o2.len; omega))
          have f0 := o2.frozen 0
          have f1 := o2.frozen 1
          have p1' : (w2.setCell ⟨g2, 0, none⟩ (.int .i64 y.id)).cell? ⟨g2, 1, none⟩ = some (.int .i64 (nth (l.take m) 0).wear) := by
            rw [World.cell?_setCell_other _ _ _ _ (fun e => by injection e with _ e2; omega)]; exact p1
          rw [Nat.zero_mul] at p0 p1
          rw [Nat.zero_add] at p1
          have HD : Calls Try.prog 30 #[.slice (some ⟨g2, 0, none⟩) m c2, .int .i64 0] ((w2.setCell ⟨g2, 0, none⟩ (.int .i64 y.id)).setCell ⟨g2, 1, none⟩ (.int .i64 y.wear)) _ := moveDown30 wc.heap.size g2 m c2 ((l.take m).set 0 y) 0 _ T3.out.own (by omega) (by omega)
          have HD := Lib.hid HD
          generalize nth (l.take m) 0 = z at *
          clear o2 b2 hy
          go_wp2_with fail
          refine (HD.out).mono ?_; rintro e w4 ⟨rfl, t⟩
          have T4 : Hid (Turned w2 wc.heap.size g2 m c2 (down ((l.take m).set 0 y) 0) w4) := Lib.hid ⟨t.own, T3.out.grown.trans t.grown⟩
          have B4 := Lib.hid (below_grown B2.out O2.out T4.out.grown B2.out.size B1.out.size)
          have HW4 := Lib.hid (whole_grown HW2.out T4.out.grown (by omega))
          have z0 := HW4.out.cell 0
          have z1 := HW4.out.cell 1
          have z2 := HW4.out.frozen 0
          have z3 := HW4.out.frozen 1
          have hn1 := fill_next (x := nth l 0) HW4.out
          clear d0 d1 p0 p1 f0 f1 p1' t
          obtain ⟨d0, d1⟩ := Hp.cells (Words.Rd.below H.out B4.out hB) rfl (nth_get (l := l) (k := 0) (by omega))
          rw [Nat.zero_mul, Nat.add_zero] at d0 d1
          generalize nth l 0 = v at *
          go_wp2_with fail
          go_region
          go_wp2_with fail
          refine bodyPost_ret (results_wn (x := v) rfl rfl (fill_cells (x := v) HW4.out).1 (fill_cells (x := v) HW4.out).2) rfl ?_
          exact madeP_ok HL.out HV.out HE.out (fill_own T4.out.own hsz v).drew B1.out.size (fill_below v B4.out (Nat.le_refl _)).drew
end Go.Proofs.Ytkkmfeclondlpaa.Heap
