/-
  Blocks given back: the program's own.
-/
import Derived.Test.YtkhcaobmohppnaaDGv
namespace Go.Proofs.Ytkhcaobmohppnaa.Spc
open Go.ChangeShapes Go.WideShapes Go.ChangeAt Go.RowKit Words Go.Sort
set_option linter.unusedVariables false

set_option maxHeartbeats 8000000 in
set_option maxRecDepth 100000 in
theorem give_10 (base g i t n c : Nat) (s : Int) (A : Option Addr) (l : List Gp) (a m : Int) (w : World) (d : RD w base g s A n c l) (hcnt : Cnt l a i) (hti : i = t + 1) (hL : ¬ (gth l t).a + (gth l t).m = a) (hin : i = n) (hl : ∀ x ∈ l, 0 ≤ x.a ∧ 1 ≤ x.m ∧ x.a + x.m ≤ 4096) (ha : 0 ≤ a) (hm : 1 ≤ m) (ham : a + m ≤ 4096) (hb : base ≤ w.heap.size) (hn : n ≤ 5000) :
    Calls Try.prog 39 #[.pointer (some ⟨g, 0, none⟩), .agg #[.int .i64 a, .int .i64 m]] w fun e w' => e = .returned (aval 0 a) ∧ (∃ A' n' c', RD w' base g s A' n' c' (l.take i ++ (⟨a, m⟩ : Gp) :: l.drop i)) ∧ Fr base w w' := by
  have mx := mixedO
  have HLL := Lib.hid d.row.len
  have HLF := Lib.hid hl
  have HC := Lib.hid hcnt
  obtain ⟨r, rfl, _, _⟩ := d.row.addr (by omega)
  have G0 := Lib.hid (GV.start (a := a) (m := m) d hb)
  have HB41 := Lib.hid (fun (x : World) (h : GV base g s (some ⟨r, 0, none⟩) n c l w a m x) => before41 base g n c s _ l a x h.dev (fun y hy => by have := HLF.out y hy; rw [IntKind.wrap_i64]; omega))
  obtain ⟨wb, hwb⟩ : ∃ wb, (w.alloc (.cells #[.int .i64 a, .int .i64 m] 36)).alloc (.cells #[.int .i64 0, .int .i64 0] 27) = wb := ⟨_, rfl⟩
  rw [hwb] at G0
  have HREP := Lib.hid (fun (x : World) (vb : Nat) (p : Gp) (h : GV base g s (some ⟨r, 0, none⟩) n c l w a m x) (hv : Whole x vb 36 (gcells p).toArray) (hvb : w.heap.size ≤ vb) => by
    have u := repl42 base vb _ i i n c l p x h.dev.row (by omega) (by omega) (by omega) hn hv (fun k hk => by have := h.rlt k (by rw [hk]; rfl); omega) (Nat.le_trans hb h.fr.bel.size)
    exact u)
  have HG := Lib.hid (end31 ⟨a, m⟩)
  have hwam : IntKind.i64.wrap (a + m) = a + m := by rw [IntKind.wrap_i64]; omega
  have hla := hl (gth l t) (List.mem_of_getElem? (gth_get (by rw [d.row.len]; omega)))
  have HEL := Lib.hid (fun w => end31 (gth l t) w (by rw [IntKind.wrap_i64]; omega))
  have CL := Lib.hid (fun (x : World) (h : GV base g s (some ⟨r, 0, none⟩) n c l w a m x) => OwnGp.cellsG (i := t) h.dev.row (by omega))
  have CL0 := Lib.hid (fun (x : World) (h : GV base g s (some ⟨r, 0, none⟩) n c l w a m x) => h.dev.row.at_ (i := t) (by omega))
  have hwt : IntKind.i64.wrap ((i : Int) - 1) = (t : Int) := by have := d.row.gps.small; rw [IntKind.wrap_i64]; omega
  have hi0 : decide (0 < i) = true := by rw [decide_eq_true_iff]; omega
  have hip : 0 < i := by omega
  have htn : t < n := by omega
  have hn1 : decide (i < n) = false := by rw [decide_eq_false_iff_not]; omega
  have hin2 : ¬ i < n := by omega
  obtain ⟨⟨ya, ym⟩, hy⟩ : ∃ y, y = gth l t := ⟨_, rfl⟩
  rw [← hy] at hL hla HEL CL CL0
  simp only at hL hla HEL CL CL0
  unfold gval at HEL
  simp only at HEL
  have hjl : (ya + ym == a) = false := by rw [beq_eq_false_iff_ne]; exact hL
  have HG := Lib.hid (fun w => HG.out w hwam)
  unfold gval at HG
  simp only at HG
  clear d hb hl hcnt hti hla hL hy hin
  have q0 := G0.out.gap.cell 0
  have q1 := G0.out.gap.cell 1
  simp at q0 q1
  go_enter Try.func39, Try.ntmps39
  go_wp2_with fail
  refine (HB41.out wb G0.out).mono ?_; rintro e w2 ⟨v, rfl, cv, b2⟩
  obtain rfl := cnt_unique HC.out cv
  have G2 := Lib.hid (G0.out.next b2)
  clear q0 q1 b2 cv G0 hwb
  generalize wb = wz at *
  go_wp2_with fail
  have k0 := boxG G2.out.gap (j := 0) rfl
  have k1 := boxG G2.out.gap (j := 1) rfl
  have k2 := boxG G2.out.dev.blk (j := 1) rfl
  refine wp_region_quiet_grown (by assumption) (by kernel_rfl) ?_
  repeat (go_big_quiet_step (first | (go_at_call 31; exact Calls.grown_of (HG.out _)) | (go_at_call 31; exact Calls.grown_of (HEL.out _))))
  refine wpQuiet_nil ?_
  intro _ hw2
  obtain ⟨⟨nq, osq⟩, hw3⟩ := hw2
  subst hw3
  have BQ := Lib.hid (below_grow (Below.refl _ w2) (Nat.le_refl _) nq osq)
  generalize grow (World.drewN w2 nq) osq = w3 at *
  have G3 := Lib.hid (G2.out.next BQ.out)
  clear BQ G2 k0 k1 k2
  have q0 := G3.out.gap.cell 0
  have q1 := G3.out.gap.cell 1
  simp at q0 q1
  have G4 := Lib.hid (G3.out.next (boxed w3 (.cells #[.int .i64 a, .int .i64 m] 36)))
  have Z4 := Lib.hid (Whole.new w3 36 #[.int .i64 a, .int .i64 m])
  have LZ := Lib.hid G3.out.low
  obtain ⟨w4, hw4⟩ : ∃ w4, w3.alloc (.cells #[.int .i64 a, .int .i64 m] 36) = w4 := ⟨_, rfl⟩
  rw [hw4] at G4 Z4
  obtain ⟨z, hz⟩ : ∃ z, z = w3.heap.size := ⟨_, rfl⟩
  have HZ := Lib.hid hz
  rw [← hz] at Z4 LZ
  clear hz
  go_wp2_with fail
  have k0 := boxG G4.out.gap (j := 0) rfl
  have k1 := boxG G4.out.gap (j := 1) rfl
  have k2 := boxG G4.out.dev.blk (j := 1) rfl
  obtain ⟨k3, k4⟩ := CL.out _ G4.out
  refine wp_region_quiet_grown (by assumption) (by kernel_rfl) ?_
  repeat (go_big_quiet_step (first | (go_at_call 31; exact Calls.grown_of (HG.out _)) | (go_at_call 31; exact Calls.grown_of (HEL.out _))))
  refine wpQuiet_nil ?_
  intro _ hw2
  obtain ⟨⟨nq, osq⟩, hw3⟩ := hw2
  subst hw3
  have BQ := Lib.hid (below_grow (Below.refl _ w4) (Nat.le_refl _) nq osq)
  generalize grow (World.drewN w4 nq) osq = w5 at *
  have G5 := Lib.hid (G4.out.next BQ.out)
  have Z5 := Lib.hid (whole_below2 Z4.out BQ.out)
  clear BQ G4 Z4 hw4 G3 q0 q1 k0 k1 k2 k3 k4
  have hzz : w3.heap.size = z := HZ.out.symm
  go_wp2_with fail
  have k0 := boxG G5.out.gap (j := 0) rfl
  have k1 := boxG G5.out.gap (j := 1) rfl
  have k2 := boxG G5.out.dev.blk (j := 1) rfl
  refine wp_region_quiet_grown (by assumption) (by kernel_rfl) ?_
  repeat (go_big_quiet_step (first | (go_at_call 31; exact Calls.grown_of (HG.out _)) | (go_at_call 31; exact Calls.grown_of (HEL.out _))))
  refine wpQuiet_nil ?_
  intro _ hw2
  obtain ⟨⟨nq, osq⟩, hw3⟩ := hw2
  subst hw3
  have BQ := Lib.hid (below_grow (Below.refl _ w5) (Nat.le_refl _) nq osq)
  generalize grow (World.drewN w5 nq) osq = w8 at *
  have G8 := Lib.hid (G5.out.next BQ.out)
  have Z8 := Lib.hid (whole_below2 Z5.out BQ.out)
  clear BQ k0 k1 k2
  go_wp2_with fail
  have y0 := Z8.out.cell 0
  have y1 := Z8.out.cell 1
  have y2 := G8.out.dev.gaps
  simp at y0 y1
  have GA := Lib.hid (G8.out.next ((boxed w8 (.cells #[.int .i64 a, .int .i64 (m)] 36)).drew))
  have VA : Hid (Whole (w8.alloc (.cells #[.int .i64 a, .int .i64 (m)] 36)).drew w8.heap.size 36 (gcells ⟨a, m⟩).toArray) := Lib.hid (Whole.new w8 36 _)
  have HR := Lib.hid (HREP.out _ _ _ GA.out VA.out (by have := G8.out.low; omega))
  have y5 : (w8.alloc (.cells #[.int .i64 a, .int .i64 (m)] 36)).cell? ⟨g, 1, none⟩ = some (.slice (some ⟨r, 0, none⟩) n c) := GA.out.dev.gaps
  go_region_with (go_at_call 42; refine (HR.out).mono ?_; rintro e y ⟨A9, n9, c9, rfl, l9, o9, g9⟩
                  have m9 := (GA.out.dev.moved g9)
                  have m1 := m9.cell 1
                  have m2 := m9.frozen 1
                  simp at m1)
  all_goals
    have x3 := whole_grown GA.out.ans g9 (by intro e; have := GA.out.rlt _ e; omega)
    have x5 := whole_grown GA.out.gap g9 (by intro e; have := GA.out.rlt _ e; omega)
    have hgl := GA.out.glt
    have x4 := whole_other x3 (show w.heap.size + 1 ≠ g by omega) 1 (.slice A9 n9 c9)
    have x6 := whole_other x5 (show w.heap.size ≠ g by omega) 1 (.slice A9 n9 c9)
    obtain ⟨o5, x7, f5⟩ := GA.out.done o9 g9 0 a
    have O5 := Lib.hid o5
    have X7 := Lib.hid x7
    have F5 := Lib.hid f5
    have z0 := x6.cell 0
    have u0 := x4.cell 0
    have u1 := x4.cell 1
    have u2 := x4.frozen 0
    have u3 := x4.frozen 1
    simp at z0 u0 u1
    clear x3 x4 x5 x6 x7 o5 f5 m9 m1 m2 o9 g9
    obtain ⟨W4, hW4⟩ : ∃ W4, y.setCell ⟨g, 1, none⟩ (.slice A9 n9 c9) = W4 := ⟨_, rfl⟩
    rw [hW4] at O5 X7 F5 z0 u0 u1 u2 u3
    rw [hW4]
    go_wp2_with fail
    refine bodyPost_ret (results_an rfl rfl X7.out) rfl ?_
    exact ⟨rfl, ⟨A9, n9, c9, O5.out⟩, F5.out⟩
set_option maxHeartbeats 8000000 in
set_option maxRecDepth 100000 in
theorem give_11 (base g i t n c : Nat) (s : Int) (A : Option Addr) (l : List Gp) (a m : Int) (w : World) (d : RD w base g s A n c l) (hcnt : Cnt l a i) (hti : i = t + 1) (hL : ¬ (gth l t).a + (gth l t).m = a) (hin : i < n) (hR : a + m < (gth l i).a) (hl : ∀ x ∈ l, 0 ≤ x.a ∧ 1 ≤ x.m ∧ x.a + x.m ≤ 4096) (ha : 0 ≤ a) (hm : 1 ≤ m) (ham : a + m ≤ 4096) (hb : base ≤ w.heap.size) (hn : n ≤ 5000) :
    Calls Try.prog 39 #[.pointer (some ⟨g, 0, none⟩), .agg #[.int .i64 a, .int .i64 m]] w fun e w' => e = .returned (aval 0 a) ∧ (∃ A' n' c', RD w' base g s A' n' c' (l.take i ++ (⟨a, m⟩ : Gp) :: l.drop i)) ∧ Fr base w w' := by
  have mx := mixedO
  have HLL := Lib.hid d.row.len
  have HLF := Lib.hid hl
  have HC := Lib.hid hcnt
  obtain ⟨r, rfl, _, _⟩ := d.row.addr (by omega)
  have G0 := Lib.hid (GV.start (a := a) (m := m) d hb)
  have HB41 := Lib.hid (fun (x : World) (h : GV base g s (some ⟨r, 0, none⟩) n c l w a m x) => before41 base g n c s _ l a x h.dev (fun y hy => by have := HLF.out y hy; rw [IntKind.wrap_i64]; omega))
  obtain ⟨wb, hwb⟩ : ∃ wb, (w.alloc (.cells #[.int .i64 a, .int .i64 m] 36)).alloc (.cells #[.int .i64 0, .int .i64 0] 27) = wb := ⟨_, rfl⟩
  rw [hwb] at G0
  have HREP := Lib.hid (fun (x : World) (vb : Nat) (p : Gp) (h : GV base g s (some ⟨r, 0, none⟩) n c l w a m x) (hv : Whole x vb 36 (gcells p).toArray) (hvb : w.heap.size ≤ vb) => by
    have u := repl42 base vb _ i i n c l p x h.dev.row (by omega) (by omega) (by omega) hn hv (fun k hk => by have := h.rlt k (by rw [hk]; rfl); omega) (Nat.le_trans hb h.fr.bel.size)
    exact u)
  have HG := Lib.hid (end31 ⟨a, m⟩)
  have hwam : IntKind.i64.wrap (a + m) = a + m := by rw [IntKind.wrap_i64]; omega
  have hla := hl (gth l t) (List.mem_of_getElem? (gth_get (by rw [d.row.len]; omega)))
  have HEL := Lib.hid (fun w => end31 (gth l t) w (by rw [IntKind.wrap_i64]; omega))
  have CL := Lib.hid (fun (x : World) (h : GV base g s (some ⟨r, 0, none⟩) n c l w a m x) => OwnGp.cellsG (i := t) h.dev.row (by omega))
  have CL0 := Lib.hid (fun (x : World) (h : GV base g s (some ⟨r, 0, none⟩) n c l w a m x) => h.dev.row.at_ (i := t) (by omega))
  have hwt : IntKind.i64.wrap ((i : Int) - 1) = (t : Int) := by have := d.row.gps.small; rw [IntKind.wrap_i64]; omega
  have hi0 : decide (0 < i) = true := by rw [decide_eq_true_iff]; omega
  have hip : 0 < i := by omega
  have htn : t < n := by omega
  have hra := hl (gth l i) (List.mem_of_getElem? (gth_get (by rw [d.row.len]; omega)))
  have CR := Lib.hid (fun (x : World) (h : GV base g s (some ⟨r, 0, none⟩) n c l w a m x) => OwnGp.cellsG (i := i) h.dev.row (by omega))
  have CR0 := Lib.hid (fun (x : World) (h : GV base g s (some ⟨r, 0, none⟩) n c l w a m x) => h.dev.row.at_ (i := i) (by omega))
  have hn1 : decide (i < n) = true := by rw [decide_eq_true_iff]; omega
  have hin' : i < n := by omega
  have hwi : IntKind.i64.wrap ((i : Int) + 1) = ((i + 1 : Nat) : Int) := by have := d.row.gps.small; rw [IntKind.wrap_i64]; omega
  obtain ⟨⟨ya, ym⟩, hy⟩ : ∃ y, y = gth l t := ⟨_, rfl⟩
  rw [← hy] at hL hla HEL CL CL0
  simp only at hL hla HEL CL CL0
  unfold gval at HEL
  simp only at HEL
  have hjl : (ya + ym == a) = false := by rw [beq_eq_false_iff_ne]; exact hL
  obtain ⟨⟨xa, xm⟩, hx⟩ : ∃ x, x = gth l i := ⟨_, rfl⟩
  rw [← hx] at hR hra CR CR0
  simp only at hR hra CR CR0
  have hhl : decide (xa < a + m) = false := by rw [decide_eq_false_iff_not]; omega
  have hjr : (xa == a + m) = false := by rw [beq_eq_false_iff_ne]; omega
  have HG := Lib.hid (fun w => HG.out w hwam)
  unfold gval at HG
  simp only at HG
  clear d hb hl hcnt hti hla hL hy hin hra hR hx
  have q0 := G0.out.gap.cell 0
  have q1 := G0.out.gap.cell 1
  simp at q0 q1
  go_enter Try.func39, Try.ntmps39
  go_wp2_with fail
  refine (HB41.out wb G0.out).mono ?_; rintro e w2 ⟨v, rfl, cv, b2⟩
  obtain rfl := cnt_unique HC.out cv
  have G2 := Lib.hid (G0.out.next b2)
  clear q0 q1 b2 cv G0 hwb
  generalize wb = wz at *
  go_wp2_with fail
  have k0 := boxG G2.out.gap (j := 0) rfl
  have k1 := boxG G2.out.gap (j := 1) rfl
  have k2 := boxG G2.out.dev.blk (j := 1) rfl
  obtain ⟨k5, k6⟩ := CR.out _ G2.out
  refine wp_region_quiet_grown (by assumption) (by kernel_rfl) ?_
  repeat (go_big_quiet_step (first | (go_at_call 31; exact Calls.grown_of (HG.out _)) | (go_at_call 31; exact Calls.grown_of (HEL.out _))))
  refine wpQuiet_nil ?_
  intro _ hw2
  obtain ⟨⟨nq, osq⟩, hw3⟩ := hw2
  subst hw3
  have BQ := Lib.hid (below_grow (Below.refl _ w2) (Nat.le_refl _) nq osq)
  generalize grow (World.drewN w2 nq) osq = w3 at *
  have G3 := Lib.hid (G2.out.next BQ.out)
  clear BQ G2 k0 k1 k2 k5 k6
  have q0 := G3.out.gap.cell 0
  have q1 := G3.out.gap.cell 1
  simp at q0 q1
  have G4 := Lib.hid (G3.out.next (boxed w3 (.cells #[.int .i64 a, .int .i64 m] 36)))
  have Z4 := Lib.hid (Whole.new w3 36 #[.int .i64 a, .int .i64 m])
  have LZ := Lib.hid G3.out.low
  obtain ⟨w4, hw4⟩ : ∃ w4, w3.alloc (.cells #[.int .i64 a, .int .i64 m] 36) = w4 := ⟨_, rfl⟩
  rw [hw4] at G4 Z4
  obtain ⟨z, hz⟩ : ∃ z, z = w3.heap.size := ⟨_, rfl⟩
  have HZ := Lib.hid hz
  rw [← hz] at Z4 LZ
  clear hz
  go_wp2_with fail
  have k0 := boxG G4.out.gap (j := 0) rfl
  have k1 := boxG G4.out.gap (j := 1) rfl
  have k2 := boxG G4.out.dev.blk (j := 1) rfl
  obtain ⟨k3, k4⟩ := CL.out _ G4.out
  refine wp_region_quiet_grown (by assumption) (by kernel_rfl) ?_
  repeat (go_big_quiet_step (first | (go_at_call 31; exact Calls.grown_of (HG.out _)) | (go_at_call 31; exact Calls.grown_of (HEL.out _))))
  refine wpQuiet_nil ?_
  intro _ hw2
  obtain ⟨⟨nq, osq⟩, hw3⟩ := hw2
  subst hw3
  have BQ := Lib.hid (below_grow (Below.refl _ w4) (Nat.le_refl _) nq osq)
  generalize grow (World.drewN w4 nq) osq = w5 at *
  have G5 := Lib.hid (G4.out.next BQ.out)
  have Z5 := Lib.hid (whole_below2 Z4.out BQ.out)
  clear BQ G4 Z4 hw4 G3 q0 q1 k0 k1 k2 k3 k4
  have hzz : w3.heap.size = z := HZ.out.symm
  go_wp2_with fail
  have k0 := boxG G5.out.gap (j := 0) rfl
  have k1 := boxG G5.out.gap (j := 1) rfl
  have k2 := boxG G5.out.dev.blk (j := 1) rfl
  obtain ⟨k5, k6⟩ := CR.out _ G5.out
  refine wp_region_quiet_grown (by assumption) (by kernel_rfl) ?_
  repeat (go_big_quiet_step (first | (go_at_call 31; exact Calls.grown_of (HG.out _)) | (go_at_call 31; exact Calls.grown_of (HEL.out _))))
  refine wpQuiet_nil ?_
  intro _ hw2
  obtain ⟨⟨nq, osq⟩, hw3⟩ := hw2
  subst hw3
  have BQ := Lib.hid (below_grow (Below.refl _ w5) (Nat.le_refl _) nq osq)
  generalize grow (World.drewN w5 nq) osq = w8 at *
  have G8 := Lib.hid (G5.out.next BQ.out)
  have Z8 := Lib.hid (whole_below2 Z5.out BQ.out)
  clear BQ k0 k1 k2 k5 k6
  go_wp2_with fail
  have y0 := Z8.out.cell 0
  have y1 := Z8.out.cell 1
  have y2 := G8.out.dev.gaps
  simp at y0 y1
  have GA := Lib.hid (G8.out.next ((boxed w8 (.cells #[.int .i64 a, .int .i64 (m)] 36)).drew))
  have VA : Hid (Whole (w8.alloc (.cells #[.int .i64 a, .int .i64 (m)] 36)).drew w8.heap.size 36 (gcells ⟨a, m⟩).toArray) := Lib.hid (Whole.new w8 36 _)
  have HR := Lib.hid (HREP.out _ _ _ GA.out VA.out (by have := G8.out.low; omega))
  have y5 : (w8.alloc (.cells #[.int .i64 a, .int .i64 (m)] 36)).cell? ⟨g, 1, none⟩ = some (.slice (some ⟨r, 0, none⟩) n c) := GA.out.dev.gaps
  go_region_with (go_at_call 42; refine (HR.out).mono ?_; rintro e y ⟨A9, n9, c9, rfl, l9, o9, g9⟩
                  have m9 := (GA.out.dev.moved g9)
                  have m1 := m9.cell 1
                  have m2 := m9.frozen 1
                  simp at m1)
  all_goals
    have x3 := whole_grown GA.out.ans g9 (by intro e; have := GA.out.rlt _ e; omega)
    have x5 := whole_grown GA.out.gap g9 (by intro e; have := GA.out.rlt _ e; omega)
    have hgl := GA.out.glt
    have x4 := whole_other x3 (show w.heap.size + 1 ≠ g by omega) 1 (.slice A9 n9 c9)
    have x6 := whole_other x5 (show w.heap.size ≠ g by omega) 1 (.slice A9 n9 c9)
    obtain ⟨o5, x7, f5⟩ := GA.out.done o9 g9 0 a
    have O5 := Lib.hid o5
    have X7 := Lib.hid x7
    have F5 := Lib.hid f5
    have z0 := x6.cell 0
    have u0 := x4.cell 0
    have u1 := x4.cell 1
    have u2 := x4.frozen 0
    have u3 := x4.frozen 1
    simp at z0 u0 u1
    clear x3 x4 x5 x6 x7 o5 f5 m9 m1 m2 o9 g9
    obtain ⟨W4, hW4⟩ : ∃ W4, y.setCell ⟨g, 1, none⟩ (.slice A9 n9 c9) = W4 := ⟨_, rfl⟩
    rw [hW4] at O5 X7 F5 z0 u0 u1 u2 u3
    rw [hW4]
    go_wp2_with fail
    refine bodyPost_ret (results_an rfl rfl X7.out) rfl ?_
    exact ⟨rfl, ⟨A9, n9, c9, O5.out⟩, F5.out⟩
set_option maxHeartbeats 8000000 in
set_option maxRecDepth 100000 in
theorem give_12 (base g i t n c : Nat) (s : Int) (A : Option Addr) (l : List Gp) (a m : Int) (w : World) (d : RD w base g s A n c l) (hcnt : Cnt l a i) (hti : i = t + 1) (hL : ¬ (gth l t).a + (gth l t).m = a) (hin : i < n) (hR : (gth l i).a = a + m) (hl : ∀ x ∈ l, 0 ≤ x.a ∧ 1 ≤ x.m ∧ x.a + x.m ≤ 4096) (ha : 0 ≤ a) (hm : 1 ≤ m) (ham : a + m ≤ 4096) (hb : base ≤ w.heap.size) (hn : n ≤ 5000) :
    Calls Try.prog 39 #[.pointer (some ⟨g, 0, none⟩), .agg #[.int .i64 a, .int .i64 m]] w fun e w' => e = .returned (aval 0 a) ∧ (∃ A' n' c', RD w' base g s A' n' c' (l.take i ++ (⟨a, m + (gth l i).m⟩ : Gp) :: l.drop (i + 1))) ∧ Fr base w w' := by
  have mx := mixedO
  have HLL := Lib.hid d.row.len
  have HLF := Lib.hid hl
  have HC := Lib.hid hcnt
  obtain ⟨r, rfl, _, _⟩ := d.row.addr (by omega)
  have G0 := Lib.hid (GV.start (a := a) (m := m) d hb)
  have HB41 := Lib.hid (fun (x : World) (h : GV base g s (some ⟨r, 0, none⟩) n c l w a m x) => before41 base g n c s _ l a x h.dev (fun y hy => by have := HLF.out y hy; rw [IntKind.wrap_i64]; omega))
  obtain ⟨wb, hwb⟩ : ∃ wb, (w.alloc (.cells #[.int .i64 a, .int .i64 m] 36)).alloc (.cells #[.int .i64 0, .int .i64 0] 27) = wb := ⟨_, rfl⟩
  rw [hwb] at G0
  have HREP := Lib.hid (fun (x : World) (vb : Nat) (p : Gp) (h : GV base g s (some ⟨r, 0, none⟩) n c l w a m x) (hv : Whole x vb 36 (gcells p).toArray) (hvb : w.heap.size ≤ vb) => by
    have u := repl42 base vb _ i (i + 1) n c l p x h.dev.row (by omega) (by omega) (by omega) hn hv (fun k hk => by have := h.rlt k (by rw [hk]; rfl); omega) (Nat.le_trans hb h.fr.bel.size)
    rw [show ((i + 1 : Nat) : Int) = (i : Int) + 1 by omega] at u
    exact u)
  have HG := Lib.hid (end31 ⟨a, m⟩)
  have hwam : IntKind.i64.wrap (a + m) = a + m := by rw [IntKind.wrap_i64]; omega
  have hla := hl (gth l t) (List.mem_of_getElem? (gth_get (by rw [d.row.len]; omega)))
  have HEL := Lib.hid (fun w => end31 (gth l t) w (by rw [IntKind.wrap_i64]; omega))
  have CL := Lib.hid (fun (x : World) (h : GV base g s (some ⟨r, 0, none⟩) n c l w a m x) => OwnGp.cellsG (i := t) h.dev.row (by omega))
  have CL0 := Lib.hid (fun (x : World) (h : GV base g s (some ⟨r, 0, none⟩) n c l w a m x) => h.dev.row.at_ (i := t) (by omega))
  have hwt : IntKind.i64.wrap ((i : Int) - 1) = (t : Int) := by have := d.row.gps.small; rw [IntKind.wrap_i64]; omega
  have hi0 : decide (0 < i) = true := by rw [decide_eq_true_iff]; omega
  have hip : 0 < i := by omega
  have htn : t < n := by omega
  have hra := hl (gth l i) (List.mem_of_getElem? (gth_get (by rw [d.row.len]; omega)))
  have CR := Lib.hid (fun (x : World) (h : GV base g s (some ⟨r, 0, none⟩) n c l w a m x) => OwnGp.cellsG (i := i) h.dev.row (by omega))
  have CR0 := Lib.hid (fun (x : World) (h : GV base g s (some ⟨r, 0, none⟩) n c l w a m x) => h.dev.row.at_ (i := i) (by omega))
  have hn1 : decide (i < n) = true := by rw [decide_eq_true_iff]; omega
  have hin' : i < n := by omega
  have hwi : IntKind.i64.wrap ((i : Int) + 1) = ((i + 1 : Nat) : Int) := by have := d.row.gps.small; rw [IntKind.wrap_i64]; omega
  obtain ⟨⟨ya, ym⟩, hy⟩ : ∃ y, y = gth l t := ⟨_, rfl⟩
  rw [← hy] at hL hla HEL CL CL0
  simp only at hL hla HEL CL CL0
  unfold gval at HEL
  simp only at HEL
  have hjl : (ya + ym == a) = false := by rw [beq_eq_false_iff_ne]; exact hL
  obtain ⟨⟨xa, xm⟩, hx⟩ : ∃ x, x = gth l i := ⟨_, rfl⟩
  rw [← hx] at hR hra CR CR0 ⊢
  simp only at hR hra CR CR0 ⊢
  have hhl : decide (xa < a + m) = false := by rw [decide_eq_false_iff_not]; omega
  have hjr : (xa == a + m) = true := by rw [beq_iff_eq]; omega
  have hwm2 : IntKind.i64.wrap (m + xm) = m + xm := by rw [IntKind.wrap_i64]; omega
  have HG := Lib.hid (fun w => HG.out w hwam)
  unfold gval at HG
  simp only at HG
  clear d hb hl hcnt hti hla hL hy hin hra hR hx
  have q0 := G0.out.gap.cell 0
  have q1 := G0.out.gap.cell 1
  simp at q0 q1
  go_enter Try.func39, Try.ntmps39
  go_wp2_with fail
  refine (HB41.out wb G0.out).mono ?_; rintro e w2 ⟨v, rfl, cv, b2⟩
  obtain rfl := cnt_unique HC.out cv
  have G2 := Lib.hid (G0.out.next b2)
  clear q0 q1 b2 cv G0 hwb
  generalize wb = wz at *
  go_wp2_with fail
  have k0 := boxG G2.out.gap (j := 0) rfl
  have k1 := boxG G2.out.gap (j := 1) rfl
  have k2 := boxG G2.out.dev.blk (j := 1) rfl
  obtain ⟨k5, k6⟩ := CR.out _ G2.out
  refine wp_region_quiet_grown (by assumption) (by kernel_rfl) ?_
  repeat (go_big_quiet_step (first | (go_at_call 31; exact Calls.grown_of (HG.out _)) | (go_at_call 31; exact Calls.grown_of (HEL.out _))))
  refine wpQuiet_nil ?_
  intro _ hw2
  obtain ⟨⟨nq, osq⟩, hw3⟩ := hw2
  subst hw3
  have BQ := Lib.hid (below_grow (Below.refl _ w2) (Nat.le_refl _) nq osq)
  generalize grow (World.drewN w2 nq) osq = w3 at *
  have G3 := Lib.hid (G2.out.next BQ.out)
  clear BQ G2 k0 k1 k2 k5 k6
  have q0 := G3.out.gap.cell 0
  have q1 := G3.out.gap.cell 1
  simp at q0 q1
  have G4 := Lib.hid (G3.out.next (boxed w3 (.cells #[.int .i64 a, .int .i64 m] 36)))
  have Z4 := Lib.hid (Whole.new w3 36 #[.int .i64 a, .int .i64 m])
  have LZ := Lib.hid G3.out.low
  obtain ⟨w4, hw4⟩ : ∃ w4, w3.alloc (.cells #[.int .i64 a, .int .i64 m] 36) = w4 := ⟨_, rfl⟩
  rw [hw4] at G4 Z4
  obtain ⟨z, hz⟩ : ∃ z, z = w3.heap.size := ⟨_, rfl⟩
  have HZ := Lib.hid hz
  rw [← hz] at Z4 LZ
  clear hz
  go_wp2_with fail
  have k0 := boxG G4.out.gap (j := 0) rfl
  have k1 := boxG G4.out.gap (j := 1) rfl
  have k2 := boxG G4.out.dev.blk (j := 1) rfl
  obtain ⟨k3, k4⟩ := CL.out _ G4.out
  refine wp_region_quiet_grown (by assumption) (by kernel_rfl) ?_
  repeat (go_big_quiet_step (first | (go_at_call 31; exact Calls.grown_of (HG.out _)) | (go_at_call 31; exact Calls.grown_of (HEL.out _))))
  refine wpQuiet_nil ?_
  intro _ hw2
  obtain ⟨⟨nq, osq⟩, hw3⟩ := hw2
  subst hw3
  have BQ := Lib.hid (below_grow (Below.refl _ w4) (Nat.le_refl _) nq osq)
  generalize grow (World.drewN w4 nq) osq = w5 at *
  have G5 := Lib.hid (G4.out.next BQ.out)
  have Z5 := Lib.hid (whole_below2 Z4.out BQ.out)
  clear BQ G4 Z4 hw4 G3 q0 q1 k0 k1 k2 k3 k4
  have hzz : w3.heap.size = z := HZ.out.symm
  go_wp2_with fail
  have k0 := boxG G5.out.gap (j := 0) rfl
  have k1 := boxG G5.out.gap (j := 1) rfl
  have k2 := boxG G5.out.dev.blk (j := 1) rfl
  obtain ⟨k5, k6⟩ := CR.out _ G5.out
  refine wp_region_quiet_grown (by assumption) (by kernel_rfl) ?_
  repeat (go_big_quiet_step (first | (go_at_call 31; exact Calls.grown_of (HG.out _)) | (go_at_call 31; exact Calls.grown_of (HEL.out _))))
  refine wpQuiet_nil ?_
  intro _ hw2
  obtain ⟨⟨nq, osq⟩, hw3⟩ := hw2
  subst hw3
  have BQ := Lib.hid (below_grow (Below.refl _ w5) (Nat.le_refl _) nq osq)
  generalize grow (World.drewN w5 nq) osq = w8 at *
  have G8 := Lib.hid (G5.out.next BQ.out)
  have Z8 := Lib.hid (whole_below2 Z5.out BQ.out)
  clear BQ k0 k1 k2 k5 k6
  go_wp2_with fail
  have y5 := (CR0.out _ G8.out).c1
  have y2 := G8.out.dev.gaps
  have y3 := Z8.out.cell 1
  have y4 := Z8.out.frozen 1
  simp at y3
  go_region
  have G9 := Lib.hid ((G8.out.put LZ.out 1 (.int .i64 (m + xm))).next (Below.refl _ _).drew)
  have Z9 : Hid (Whole (w8.setCell ⟨z, 1, none⟩ (.int .i64 (m + xm))).drew z 36 #[.int .i64 a, .int .i64 (m + xm)]) := Lib.hid (Z8.out.set_ 1 (.int .i64 (m + xm)))
  clear y5 y2 y3 y4
  obtain ⟨w9, hw9⟩ : ∃ w9, (w8.setCell ⟨z, 1, none⟩ (.int .i64 (m + xm))).drew = w9 := ⟨_, rfl⟩
  rw [hw9] at G9 Z9
  try rw [hw9]
  clear hw9
  go_wp2_with fail
  have y0 := Z9.out.cell 0
  have y1 := Z9.out.cell 1
  have y2 := G9.out.dev.gaps
  simp at y0 y1
  have GA := Lib.hid (G9.out.next ((boxed w9 (.cells #[.int .i64 a, .int .i64 (m + xm)] 36)).drew))
  have VA : Hid (Whole (w9.alloc (.cells #[.int .i64 a, .int .i64 (m + xm)] 36)).drew w9.heap.size 36 (gcells ⟨a, m + xm⟩).toArray) := Lib.hid (Whole.new w9 36 _)
  have HR := Lib.hid (HREP.out _ _ _ GA.out VA.out (by have := G9.out.low; omega))
  have y5 : (w9.alloc (.cells #[.int .i64 a, .int .i64 (m + xm)] 36)).cell? ⟨g, 1, none⟩ = some (.slice (some ⟨r, 0, none⟩) n c) := GA.out.dev.gaps
  go_region_with (go_at_call 42; refine (HR.out).mono ?_; rintro e y ⟨A9, n9, c9, rfl, l9, o9, g9⟩
                  have m9 := (GA.out.dev.moved g9)
                  have m1 := m9.cell 1
                  have m2 := m9.frozen 1
                  simp at m1)
  all_goals
    have x3 := whole_grown GA.out.ans g9 (by intro e; have := GA.out.rlt _ e; omega)
    have x5 := whole_grown GA.out.gap g9 (by intro e; have := GA.out.rlt _ e; omega)
    have hgl := GA.out.glt
    have x4 := whole_other x3 (show w.heap.size + 1 ≠ g by omega) 1 (.slice A9 n9 c9)
    have x6 := whole_other x5 (show w.heap.size ≠ g by omega) 1 (.slice A9 n9 c9)
    obtain ⟨o5, x7, f5⟩ := GA.out.done o9 g9 0 a
    have O5 := Lib.hid o5
    have X7 := Lib.hid x7
    have F5 := Lib.hid f5
    have z0 := x6.cell 0
    have u0 := x4.cell 0
    have u1 := x4.cell 1
    have u2 := x4.frozen 0
    have u3 := x4.frozen 1
    simp at z0 u0 u1
    clear x3 x4 x5 x6 x7 o5 f5 m9 m1 m2 o9 g9
    obtain ⟨W4, hW4⟩ : ∃ W4, y.setCell ⟨g, 1, none⟩ (.slice A9 n9 c9) = W4 := ⟨_, rfl⟩
    rw [hW4] at O5 X7 F5 z0 u0 u1 u2 u3
    rw [hW4]
    go_wp2_with fail
    refine bodyPost_ret (results_an rfl rfl X7.out) rfl ?_
    exact ⟨rfl, ⟨A9, n9, c9, O5.out⟩, F5.out⟩
end Go.Proofs.Ytkhcaobmohppnaa.Spc
