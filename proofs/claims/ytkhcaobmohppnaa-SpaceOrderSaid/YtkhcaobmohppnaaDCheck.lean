/-
  What is wrong with an operation: the program's own.
-/
import Derived.Test.YtkhcaobmohppnaaDDev
namespace Go.Proofs.Ytkhcaobmohppnaa.Spc
open Go.ChangeShapes Go.WideShapes Go.ChangeAt Go.RowKit Words Go.Sort
set_option linter.unusedVariables false

set_option maxHeartbeats 4000000 in
theorem check35_no (base g n c : Nat) (s : Int) (A : Option Addr) (l : List Gp) (k a m : Int) (w : World) (d : RD w base g s A n c l) (hs : 0 ≤ s) (hs2 : s ≤ 4096) (hk : ¬ (k = 1 ∨ k = 2 ∨ k = 3)) :
    Calls Try.prog 35 #[.pointer (some ⟨g, 0, none⟩), .agg #[.int .i64 k, .int .i64 a, .int .i64 m]] w fun e w' => e = .returned (.int .i64 (cerr s ⟨k, a, m⟩)) ∧ Below w.heap.size w w' := by
  have mx := mixedO
  have c0 := d.gaps
  obtain ⟨wb, hwb⟩ : ∃ wb, w.alloc (.cells (scells ⟨k, a, m⟩).toArray 24) = wb := ⟨_, rfl⟩
  have BX : Hid (Below w.heap.size w wb) := Lib.hid (by rw [← hwb]; exact boxed w _)
  have gx : Whole wb w.heap.size 24 (scells ⟨k, a, m⟩).toArray := by rw [← hwb]; exact Whole.new w 24 _
  have HB : Hid (∀ x : World, Below wb.heap.size wb x → Whole x w.heap.size 24 #[.int .i64 k, .int .i64 a, .int .i64 m] ∧ Whole x g 60 #[.int .i64 s, .slice A n c] ∧ Below w.heap.size w x) := Lib.hid fun x b => ⟨whole_below2 gx b, (d.below (BX.out.trans (b.mono BX.out.size))).blk, BX.out.trans (b.mono BX.out.size)⟩
  have HWB : Hid (w.alloc (.cells #[.int .i64 k, .int .i64 a, .int .i64 m] 24) = wb) := Lib.hid hwb
  have B0 := Lib.hid (Below.refl wb.heap.size wb)
  have q0 := Whole.cell gx 0
  have q1 := Whole.cell gx 1
  have q2 := Whole.cell gx 2
  simp [scells] at q0 q1 q2
  clear hwb gx d
  have HV : Hid (cerr s ⟨k, a, m⟩ = 5) := Lib.hid (by unfold cerr; rw [if_pos hk])
  have h1 : (k == 1) = false := by rw [beq_eq_false_iff_ne]; exact fun h => hk (.inl h)
  have h2 : (k == 2) = false := by rw [beq_eq_false_iff_ne]; exact fun h => hk (.inr (.inl h))
  have h3 : (k == 3) = false := by rw [beq_eq_false_iff_ne]; exact fun h => hk (.inr (.inr h))
  have n1 : (k != 1) = true := by rw [bne, h1]; rfl
  have n2 : (k != 2) = true := by rw [bne, h2]; rfl
  have n3 : (k != 3) = true := by rw [bne, h3]; rfl
  have m1 : ¬ k = 1 := fun h => hk (.inl h)
  have m2 : ¬ k = 2 := fun h => hk (.inr (.inl h))
  have m3 : ¬ k = 3 := fun h => hk (.inr (.inr h))
  clear hk
  go_enter Try.func35, Try.ntmps35
  go_wp2_with fail
  rw [HWB.out]
  go_ret
  exact ⟨ret_int HV.out.symm, (HB.out _ B0.out).2.2⟩
set_option maxHeartbeats 4000000 in
theorem check35_1 (base g n c : Nat) (s : Int) (A : Option Addr) (l : List Gp) (a m : Int) (w : World) (d : RD w base g s A n c l) (hs : 0 ≤ s) (hs2 : s ≤ 4096) :
    Calls Try.prog 35 #[.pointer (some ⟨g, 0, none⟩), .agg #[.int .i64 1, .int .i64 a, .int .i64 m]] w fun e w' => e = .returned (.int .i64 (cerr s ⟨1, a, m⟩)) ∧ Below w.heap.size w w' := by
  have mx := mixedO
  have c0 := d.gaps
  obtain ⟨wb, hwb⟩ : ∃ wb, w.alloc (.cells (scells ⟨1, a, m⟩).toArray 24) = wb := ⟨_, rfl⟩
  have BX : Hid (Below w.heap.size w wb) := Lib.hid (by rw [← hwb]; exact boxed w _)
  have gx : Whole wb w.heap.size 24 (scells ⟨1, a, m⟩).toArray := by rw [← hwb]; exact Whole.new w 24 _
  have HB : Hid (∀ x : World, Below wb.heap.size wb x → Whole x w.heap.size 24 #[.int .i64 1, .int .i64 a, .int .i64 m] ∧ Whole x g 60 #[.int .i64 s, .slice A n c] ∧ Below w.heap.size w x) := Lib.hid fun x b => ⟨whole_below2 gx b, (d.below (BX.out.trans (b.mono BX.out.size))).blk, BX.out.trans (b.mono BX.out.size)⟩
  have HWB : Hid (w.alloc (.cells #[.int .i64 1, .int .i64 a, .int .i64 m] 24) = wb) := Lib.hid hwb
  have B0 := Lib.hid (Below.refl wb.heap.size wb)
  have q0 := Whole.cell gx 0
  have q1 := Whole.cell gx 1
  have q2 := Whole.cell gx 2
  simp [scells] at q0 q1 q2
  clear hwb gx d
  go_enter Try.func35, Try.ntmps35
  go_wp2_with fail
  rw [HWB.out]
  by_cases r1 : m < 1
  · skip
    have HV : Hid (cerr s ⟨1, a, m⟩ = 2) := Lib.hid (by unfold cerr; rw [if_neg (by simp), if_pos (.inl r1)])
    have t1 : decide (m < 1) = true := decide_eq_true r1
    clear r1
    go_wp2_with fail
    have b0 := boxG (HB.out _ B0.out).1 (j := 0) rfl
    have b1 := boxG (HB.out _ B0.out).1 (j := 1) rfl
    have b2 := boxG (HB.out _ B0.out).1 (j := 2) rfl
    have b3 := boxG (HB.out _ B0.out).2.1 (j := 0) rfl
    refine wp_region_quiet_grown (by assumption) (by kernel_rfl) ?_
    repeat (go_big_quiet_step (fail))
    refine wpQuiet_nil ?_
    intro _ hw2
    obtain ⟨⟨nq, osq⟩, hw3⟩ := hw2
    subst hw3
    have B1 := Lib.hid (below_grow B0.out B0.out.size nq osq)
    generalize grow (World.drewN wb nq) osq = wB1 at *
    clear b0 b1 b2 b3
    go_wp2_with fail
    go_ret
    exact ⟨ret_int HV.out.symm, (HB.out _ B1.out).2.2⟩
  have t1 : decide (m < 1) = false := decide_eq_false r1
  by_cases r2 : s < m
  · skip
    have HV : Hid (cerr s ⟨1, a, m⟩ = 2) := Lib.hid (by unfold cerr; rw [if_neg (by simp), if_pos (.inr (.inl r2))])
    have t2 : decide (s < m) = true := decide_eq_true r2
    clear r1 r2
    go_wp2_with fail
    have b0 := boxG (HB.out _ B0.out).1 (j := 0) rfl
    have b1 := boxG (HB.out _ B0.out).1 (j := 1) rfl
    have b2 := boxG (HB.out _ B0.out).1 (j := 2) rfl
    have b3 := boxG (HB.out _ B0.out).2.1 (j := 0) rfl
    refine wp_region_quiet_grown (by assumption) (by kernel_rfl) ?_
    repeat (go_big_quiet_step (fail))
    refine wpQuiet_nil ?_
    intro _ hw2
    obtain ⟨⟨nq, osq⟩, hw3⟩ := hw2
    subst hw3
    have B1 := Lib.hid (below_grow B0.out B0.out.size nq osq)
    generalize grow (World.drewN wb nq) osq = wB1 at *
    clear b0 b1 b2 b3
    go_wp2_with fail
    go_ret
    exact ⟨ret_int HV.out.symm, (HB.out _ B1.out).2.2⟩
  have t2 : decide (s < m) = false := decide_eq_false r2
  have HV : Hid (cerr s ⟨1, a, m⟩ = 0) := Lib.hid (by unfold cerr; rw [if_neg (by simp), if_neg (by simp; omega)])
  clear r1 r2
  go_wp2_with fail
  have b0 := boxG (HB.out _ B0.out).1 (j := 0) rfl
  have b1 := boxG (HB.out _ B0.out).1 (j := 1) rfl
  have b2 := boxG (HB.out _ B0.out).1 (j := 2) rfl
  have b3 := boxG (HB.out _ B0.out).2.1 (j := 0) rfl
  refine wp_region_quiet_grown (by assumption) (by kernel_rfl) ?_
  repeat (go_big_quiet_step (fail))
  refine wpQuiet_nil ?_
  intro _ hw2
  obtain ⟨⟨nq, osq⟩, hw3⟩ := hw2
  subst hw3
  have B1 := Lib.hid (below_grow B0.out B0.out.size nq osq)
  generalize grow (World.drewN wb nq) osq = wB1 at *
  clear b0 b1 b2 b3
  go_wp2_with fail
  have b0 := boxG (HB.out _ B1.out).1 (j := 0) rfl
  have b1 := boxG (HB.out _ B1.out).1 (j := 1) rfl
  have b2 := boxG (HB.out _ B1.out).1 (j := 2) rfl
  have b3 := boxG (HB.out _ B1.out).2.1 (j := 0) rfl
  refine wp_region_quiet_grown (by assumption) (by kernel_rfl) ?_
  repeat (go_big_quiet_step (fail))
  refine wpQuiet_nil ?_
  intro _ hw2
  obtain ⟨⟨nq, osq⟩, hw3⟩ := hw2
  subst hw3
  have B2 := Lib.hid (below_grow B1.out B1.out.size nq osq)
  generalize grow (World.drewN wB1 nq) osq = wB2 at *
  clear b0 b1 b2 b3
  go_wp2_with fail
  go_ret
  exact ⟨ret_int HV.out.symm, (HB.out _ B2.out).2.2⟩
set_option maxHeartbeats 4000000 in
theorem check35_2 (base g n c : Nat) (s : Int) (A : Option Addr) (l : List Gp) (a m : Int) (w : World) (d : RD w base g s A n c l) (hs : 0 ≤ s) (hs2 : s ≤ 4096) :
    Calls Try.prog 35 #[.pointer (some ⟨g, 0, none⟩), .agg #[.int .i64 2, .int .i64 a, .int .i64 m]] w fun e w' => e = .returned (.int .i64 (cerr s ⟨2, a, m⟩)) ∧ Below w.heap.size w w' := by
  have mx := mixedO
  have c0 := d.gaps
  obtain ⟨wb, hwb⟩ : ∃ wb, w.alloc (.cells (scells ⟨2, a, m⟩).toArray 24) = wb := ⟨_, rfl⟩
  have BX : Hid (Below w.heap.size w wb) := Lib.hid (by rw [← hwb]; exact boxed w _)
  have gx : Whole wb w.heap.size 24 (scells ⟨2, a, m⟩).toArray := by rw [← hwb]; exact Whole.new w 24 _
  have HB : Hid (∀ x : World, Below wb.heap.size wb x → Whole x w.heap.size 24 #[.int .i64 2, .int .i64 a, .int .i64 m] ∧ Whole x g 60 #[.int .i64 s, .slice A n c] ∧ Below w.heap.size w x) := Lib.hid fun x b => ⟨whole_below2 gx b, (d.below (BX.out.trans (b.mono BX.out.size))).blk, BX.out.trans (b.mono BX.out.size)⟩
  have HWB : Hid (w.alloc (.cells #[.int .i64 2, .int .i64 a, .int .i64 m] 24) = wb) := Lib.hid hwb
  have B0 := Lib.hid (Below.refl wb.heap.size wb)
  have q0 := Whole.cell gx 0
  have q1 := Whole.cell gx 1
  have q2 := Whole.cell gx 2
  simp [scells] at q0 q1 q2
  clear hwb gx d
  go_enter Try.func35, Try.ntmps35
  go_wp2_with fail
  rw [HWB.out]
  by_cases r1 : m < 1
  · skip
    have HV : Hid (cerr s ⟨2, a, m⟩ = 2) := Lib.hid (by unfold cerr; rw [if_neg (by simp), if_pos (.inl r1)])
    have t1 : decide (m < 1) = true := decide_eq_true r1
    clear r1
    go_wp2_with fail
    have b0 := boxG (HB.out _ B0.out).1 (j := 0) rfl
    have b1 := boxG (HB.out _ B0.out).1 (j := 1) rfl
    have b2 := boxG (HB.out _ B0.out).1 (j := 2) rfl
    have b3 := boxG (HB.out _ B0.out).2.1 (j := 0) rfl
    refine wp_region_quiet_grown (by assumption) (by kernel_rfl) ?_
    repeat (go_big_quiet_step (fail))
    refine wpQuiet_nil ?_
    intro _ hw2
    obtain ⟨⟨nq, osq⟩, hw3⟩ := hw2
    subst hw3
    have B1 := Lib.hid (below_grow B0.out B0.out.size nq osq)
    generalize grow (World.drewN wb nq) osq = wB1 at *
    clear b0 b1 b2 b3
    go_wp2_with fail
    go_ret
    exact ⟨ret_int HV.out.symm, (HB.out _ B1.out).2.2⟩
  have t1 : decide (m < 1) = false := decide_eq_false r1
  by_cases r2 : s < m
  · skip
    have HV : Hid (cerr s ⟨2, a, m⟩ = 2) := Lib.hid (by unfold cerr; rw [if_neg (by simp), if_pos (.inr (.inl r2))])
    have t2 : decide (s < m) = true := decide_eq_true r2
    clear r1 r2
    go_wp2_with fail
    have b0 := boxG (HB.out _ B0.out).1 (j := 0) rfl
    have b1 := boxG (HB.out _ B0.out).1 (j := 1) rfl
    have b2 := boxG (HB.out _ B0.out).1 (j := 2) rfl
    have b3 := boxG (HB.out _ B0.out).2.1 (j := 0) rfl
    refine wp_region_quiet_grown (by assumption) (by kernel_rfl) ?_
    repeat (go_big_quiet_step (fail))
    refine wpQuiet_nil ?_
    intro _ hw2
    obtain ⟨⟨nq, osq⟩, hw3⟩ := hw2
    subst hw3
    have B1 := Lib.hid (below_grow B0.out B0.out.size nq osq)
    generalize grow (World.drewN wb nq) osq = wB1 at *
    clear b0 b1 b2 b3
    go_wp2_with fail
    go_ret
    exact ⟨ret_int HV.out.symm, (HB.out _ B1.out).2.2⟩
  have t2 : decide (s < m) = false := decide_eq_false r2
  have HV : Hid (cerr s ⟨2, a, m⟩ = 0) := Lib.hid (by unfold cerr; rw [if_neg (by simp), if_neg (by simp; omega)])
  clear r1 r2
  go_wp2_with fail
  have b0 := boxG (HB.out _ B0.out).1 (j := 0) rfl
  have b1 := boxG (HB.out _ B0.out).1 (j := 1) rfl
  have b2 := boxG (HB.out _ B0.out).1 (j := 2) rfl
  have b3 := boxG (HB.out _ B0.out).2.1 (j := 0) rfl
  refine wp_region_quiet_grown (by assumption) (by kernel_rfl) ?_
  repeat (go_big_quiet_step (fail))
  refine wpQuiet_nil ?_
  intro _ hw2
  obtain ⟨⟨nq, osq⟩, hw3⟩ := hw2
  subst hw3
  have B1 := Lib.hid (below_grow B0.out B0.out.size nq osq)
  generalize grow (World.drewN wb nq) osq = wB1 at *
  clear b0 b1 b2 b3
  go_wp2_with fail
  have b0 := boxG (HB.out _ B1.out).1 (j := 0) rfl
  have b1 := boxG (HB.out _ B1.out).1 (j := 1) rfl
  have b2 := boxG (HB.out _ B1.out).1 (j := 2) rfl
  have b3 := boxG (HB.out _ B1.out).2.1 (j := 0) rfl
  refine wp_region_quiet_grown (by assumption) (by kernel_rfl) ?_
  repeat (go_big_quiet_step (fail))
  refine wpQuiet_nil ?_
  intro _ hw2
  obtain ⟨⟨nq, osq⟩, hw3⟩ := hw2
  subst hw3
  have B2 := Lib.hid (below_grow B1.out B1.out.size nq osq)
  generalize grow (World.drewN wB1 nq) osq = wB2 at *
  clear b0 b1 b2 b3
  go_wp2_with fail
  go_ret
  exact ⟨ret_int HV.out.symm, (HB.out _ B2.out).2.2⟩
set_option maxHeartbeats 4000000 in
theorem check35_3 (base g n c : Nat) (s : Int) (A : Option Addr) (l : List Gp) (a m : Int) (w : World) (d : RD w base g s A n c l) (hs : 0 ≤ s) (hs2 : s ≤ 4096) :
    Calls Try.prog 35 #[.pointer (some ⟨g, 0, none⟩), .agg #[.int .i64 3, .int .i64 a, .int .i64 m]] w fun e w' => e = .returned (.int .i64 (cerr s ⟨3, a, m⟩)) ∧ Below w.heap.size w w' := by
  have mx := mixedO
  have c0 := d.gaps
  obtain ⟨wb, hwb⟩ : ∃ wb, w.alloc (.cells (scells ⟨3, a, m⟩).toArray 24) = wb := ⟨_, rfl⟩
  have BX : Hid (Below w.heap.size w wb) := Lib.hid (by rw [← hwb]; exact boxed w _)
  have gx : Whole wb w.heap.size 24 (scells ⟨3, a, m⟩).toArray := by rw [← hwb]; exact Whole.new w 24 _
  have HB : Hid (∀ x : World, Below wb.heap.size wb x → Whole x w.heap.size 24 #[.int .i64 3, .int .i64 a, .int .i64 m] ∧ Whole x g 60 #[.int .i64 s, .slice A n c] ∧ Below w.heap.size w x) := Lib.hid fun x b => ⟨whole_below2 gx b, (d.below (BX.out.trans (b.mono BX.out.size))).blk, BX.out.trans (b.mono BX.out.size)⟩
  have HWB : Hid (w.alloc (.cells #[.int .i64 3, .int .i64 a, .int .i64 m] 24) = wb) := Lib.hid hwb
  have B0 := Lib.hid (Below.refl wb.heap.size wb)
  have q0 := Whole.cell gx 0
  have q1 := Whole.cell gx 1
  have q2 := Whole.cell gx 2
  simp [scells] at q0 q1 q2
  clear hwb gx d
  go_enter Try.func35, Try.ntmps35
  go_wp2_with fail
  rw [HWB.out]
  by_cases r1 : m < 1
  · skip
    have HV : Hid (cerr s ⟨3, a, m⟩ = 2) := Lib.hid (by unfold cerr; rw [if_neg (by simp), if_pos (.inl r1)])
    have t1 : decide (m < 1) = true := decide_eq_true r1
    clear r1
    go_wp2_with fail
    have b0 := boxG (HB.out _ B0.out).1 (j := 0) rfl
    have b1 := boxG (HB.out _ B0.out).1 (j := 1) rfl
    have b2 := boxG (HB.out _ B0.out).1 (j := 2) rfl
    have b3 := boxG (HB.out _ B0.out).2.1 (j := 0) rfl
    refine wp_region_quiet_grown (by assumption) (by kernel_rfl) ?_
    repeat (go_big_quiet_step (fail))
    refine wpQuiet_nil ?_
    intro _ hw2
    obtain ⟨⟨nq, osq⟩, hw3⟩ := hw2
    subst hw3
    have B1 := Lib.hid (below_grow B0.out B0.out.size nq osq)
    generalize grow (World.drewN wb nq) osq = wB1 at *
    clear b0 b1 b2 b3
    go_wp2_with fail
    go_ret
    exact ⟨ret_int HV.out.symm, (HB.out _ B1.out).2.2⟩
  have t1 : decide (m < 1) = false := decide_eq_false r1
  by_cases r2 : s < m
  · skip
    have HV : Hid (cerr s ⟨3, a, m⟩ = 2) := Lib.hid (by unfold cerr; rw [if_neg (by simp), if_pos (.inr (.inl r2))])
    have t2 : decide (s < m) = true := decide_eq_true r2
    clear r1 r2
    go_wp2_with fail
    have b0 := boxG (HB.out _ B0.out).1 (j := 0) rfl
    have b1 := boxG (HB.out _ B0.out).1 (j := 1) rfl
    have b2 := boxG (HB.out _ B0.out).1 (j := 2) rfl
    have b3 := boxG (HB.out _ B0.out).2.1 (j := 0) rfl
    refine wp_region_quiet_grown (by assumption) (by kernel_rfl) ?_
    repeat (go_big_quiet_step (fail))
    refine wpQuiet_nil ?_
    intro _ hw2
    obtain ⟨⟨nq, osq⟩, hw3⟩ := hw2
    subst hw3
    have B1 := Lib.hid (below_grow B0.out B0.out.size nq osq)
    generalize grow (World.drewN wb nq) osq = wB1 at *
    clear b0 b1 b2 b3
    go_wp2_with fail
    go_ret
    exact ⟨ret_int HV.out.symm, (HB.out _ B1.out).2.2⟩
  have t2 : decide (s < m) = false := decide_eq_false r2
  have hws : IntKind.i64.wrap (s - m) = s - m := by rw [IntKind.wrap_i64]; omega
  by_cases r3 : a < 0
  · skip
    have HV : Hid (cerr s ⟨3, a, m⟩ = 2) := Lib.hid (by unfold cerr; rw [if_neg (by simp), if_pos (.inr (.inr ⟨rfl, .inl r3⟩))])
    have t3 : decide (a < 0) = true := decide_eq_true r3
    clear r1 r2 r3
    go_wp2_with fail
    have b0 := boxG (HB.out _ B0.out).1 (j := 0) rfl
    have b1 := boxG (HB.out _ B0.out).1 (j := 1) rfl
    have b2 := boxG (HB.out _ B0.out).1 (j := 2) rfl
    have b3 := boxG (HB.out _ B0.out).2.1 (j := 0) rfl
    refine wp_region_quiet_grown (by assumption) (by kernel_rfl) ?_
    repeat (go_big_quiet_step (fail))
    refine wpQuiet_nil ?_
    intro _ hw2
    obtain ⟨⟨nq, osq⟩, hw3⟩ := hw2
    subst hw3
    have B1 := Lib.hid (below_grow B0.out B0.out.size nq osq)
    generalize grow (World.drewN wb nq) osq = wB1 at *
    clear b0 b1 b2 b3
    go_wp2_with fail
    have b0 := boxG (HB.out _ B1.out).1 (j := 0) rfl
    have b1 := boxG (HB.out _ B1.out).1 (j := 1) rfl
    have b2 := boxG (HB.out _ B1.out).1 (j := 2) rfl
    have b3 := boxG (HB.out _ B1.out).2.1 (j := 0) rfl
    refine wp_region_quiet_grown (by assumption) (by kernel_rfl) ?_
    repeat (go_big_quiet_step (fail))
    refine wpQuiet_nil ?_
    intro _ hw2
    obtain ⟨⟨nq, osq⟩, hw3⟩ := hw2
    subst hw3
    have B2 := Lib.hid (below_grow B1.out B1.out.size nq osq)
    generalize grow (World.drewN wB1 nq) osq = wB2 at *
    clear b0 b1 b2 b3
    go_wp2_with fail
    go_ret
    exact ⟨ret_int HV.out.symm, (HB.out _ B2.out).2.2⟩
  have t3 : decide (a < 0) = false := decide_eq_false r3
  by_cases r4 : s - m < a
  · skip
    have HV : Hid (cerr s ⟨3, a, m⟩ = 2) := Lib.hid (by unfold cerr; rw [if_neg (by simp), if_pos (.inr (.inr ⟨rfl, .inr r4⟩))])
    have t4 : decide (s - m < a) = true := decide_eq_true r4
    clear r1 r2 r3 r4
    go_wp2_with fail
    have b0 := boxG (HB.out _ B0.out).1 (j := 0) rfl
    have b1 := boxG (HB.out _ B0.out).1 (j := 1) rfl
    have b2 := boxG (HB.out _ B0.out).1 (j := 2) rfl
    have b3 := boxG (HB.out _ B0.out).2.1 (j := 0) rfl
    refine wp_region_quiet_grown (by assumption) (by kernel_rfl) ?_
    repeat (go_big_quiet_step (fail))
    refine wpQuiet_nil ?_
    intro _ hw2
    obtain ⟨⟨nq, osq⟩, hw3⟩ := hw2
    subst hw3
    have B1 := Lib.hid (below_grow B0.out B0.out.size nq osq)
    generalize grow (World.drewN wb nq) osq = wB1 at *
    clear b0 b1 b2 b3
    go_wp2_with fail
    have b0 := boxG (HB.out _ B1.out).1 (j := 0) rfl
    have b1 := boxG (HB.out _ B1.out).1 (j := 1) rfl
    have b2 := boxG (HB.out _ B1.out).1 (j := 2) rfl
    have b3 := boxG (HB.out _ B1.out).2.1 (j := 0) rfl
    refine wp_region_quiet_grown (by assumption) (by kernel_rfl) ?_
    repeat (go_big_quiet_step (fail))
    refine wpQuiet_nil ?_
    intro _ hw2
    obtain ⟨⟨nq, osq⟩, hw3⟩ := hw2
    subst hw3
    have B2 := Lib.hid (below_grow B1.out B1.out.size nq osq)
    generalize grow (World.drewN wB1 nq) osq = wB2 at *
    clear b0 b1 b2 b3
    go_wp2_with fail
    go_ret
    exact ⟨ret_int HV.out.symm, (HB.out _ B2.out).2.2⟩
  have t4 : decide (s - m < a) = false := decide_eq_false r4
  have HV : Hid (cerr s ⟨3, a, m⟩ = 0) := Lib.hid (by unfold cerr; rw [if_neg (by simp), if_neg (by simp; omega)])
  clear r1 r2 r3 r4
  go_wp2_with fail
  have b0 := boxG (HB.out _ B0.out).1 (j := 0) rfl
  have b1 := boxG (HB.out _ B0.out).1 (j := 1) rfl
  have b2 := boxG (HB.out _ B0.out).1 (j := 2) rfl
  have b3 := boxG (HB.out _ B0.out).2.1 (j := 0) rfl
  refine wp_region_quiet_grown (by assumption) (by kernel_rfl) ?_
  repeat (go_big_quiet_step (fail))
  refine wpQuiet_nil ?_
  intro _ hw2
  obtain ⟨⟨nq, osq⟩, hw3⟩ := hw2
  subst hw3
  have B1 := Lib.hid (below_grow B0.out B0.out.size nq osq)
  generalize grow (World.drewN wb nq) osq = wB1 at *
  clear b0 b1 b2 b3
  go_wp2_with fail
  have b0 := boxG (HB.out _ B1.out).1 (j := 0) rfl
  have b1 := boxG (HB.out _ B1.out).1 (j := 1) rfl
  have b2 := boxG (HB.out _ B1.out).1 (j := 2) rfl
  have b3 := boxG (HB.out _ B1.out).2.1 (j := 0) rfl
  refine wp_region_quiet_grown (by assumption) (by kernel_rfl) ?_
  repeat (go_big_quiet_step (fail))
  refine wpQuiet_nil ?_
  intro _ hw2
  obtain ⟨⟨nq, osq⟩, hw3⟩ := hw2
  subst hw3
  have B2 := Lib.hid (below_grow B1.out B1.out.size nq osq)
  generalize grow (World.drewN wB1 nq) osq = wB2 at *
  clear b0 b1 b2 b3
  go_wp2_with fail
  go_ret
  exact ⟨ret_int HV.out.symm, (HB.out _ B2.out).2.2⟩
theorem check35 (base g n c : Nat) (s : Int) (A : Option Addr) (l : List Gp) (o : Sp) (w : World) (d : RD w base g s A n c l) (hs : 0 ≤ s) (hs2 : s ≤ 4096) :
    Calls Try.prog 35 #[.pointer (some ⟨g, 0, none⟩), sval o] w fun e w' => e = .returned (.int .i64 (cerr s o)) ∧ Below w.heap.size w w' := by
  obtain ⟨k, a, m⟩ := o
  unfold sval
  by_cases hk : k = 1 ∨ k = 2 ∨ k = 3
  · rcases hk with rfl | rfl | rfl
    · exact check35_1 base g n c s A l a m w d hs hs2
    · exact check35_2 base g n c s A l a m w d hs hs2
    · exact check35_3 base g n c s A l a m w d hs hs2
  · exact check35_no base g n c s A l k a m w d hs hs2 hk
end Go.Proofs.Ytkhcaobmohppnaa.Spc
