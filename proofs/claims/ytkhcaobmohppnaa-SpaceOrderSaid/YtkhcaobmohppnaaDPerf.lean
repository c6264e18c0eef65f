/-
  An operation on the device: the program's own.
-/
import Derived.Test.YtkhcaobmohppnaaDPerf0
import Derived.Test.YtkhcaobmohppnaaDCheck
import Derived.Test.YtkhcaobmohppnaaDFind2
namespace Go.Proofs.Ytkhcaobmohppnaa.Spc
open Go.ChangeShapes Go.WideShapes Go.ChangeAt Go.RowKit Words Go.Sort
set_option linter.unusedVariables false

set_option maxHeartbeats 4000000 in
set_option maxRecDepth 100000 in
theorem perf_err (base g n c : Nat) (s : Int) (A : Option Addr) (l : List Gp) (k a m : Int) (w : World) (d : RD w base g s A n c l) (hok : okRow s l = true) (hb : base ≤ w.heap.size) (hc : cerr s ⟨k, a, m⟩ ≠ 0) :
    Calls Try.prog 28 #[.pointer (some ⟨g, 0, none⟩), .agg #[.int .i64 k, .int .i64 a, .int .i64 m]] w (PF base g s l ⟨k, a, m⟩ w) := by
  have mx := mixedO
  obtain ⟨wb, hwb⟩ : ∃ wb, (w.alloc (.cells #[.int .i64 k, .int .i64 a, .int .i64 m] 24)).alloc (.cells #[.int .i64 0, .int .i64 0] 27) = wb := ⟨_, rfl⟩
  have bx : Below w.heap.size w wb := by rw [← hwb]; exact two_blocks w _ _
  have gx : Whole wb w.heap.size 24 #[.int .i64 k, .int .i64 a, .int .i64 m] := by rw [← hwb]; exact (Whole.new w 24 _).alloc _
  have gy : Whole wb (w.heap.size + 1) 27 #[.int .i64 0, .int .i64 0] := by
    rw [← hwb]
    have := Whole.new (w.alloc (.cells #[.int .i64 k, .int .i64 a, .int .i64 m] 24)) 27 #[.int .i64 0, .int .i64 0]
    rwa [World.size_alloc] at this
  have HCK := Lib.hid (check35 base g n c s A l ⟨k, a, m⟩ wb (d.below bx) (ok_ch hok).1 (ok_ch hok).2.1)
  have q0 := gx.cell 0
  have q1 := gx.cell 1
  have q2 := gx.cell 2
  simp at q0 q1 q2
  have HE : Hid (∀ w' : World, Below w.heap.size w w' → PF base g s l ⟨k, a, m⟩ w (.returned (aval (cerr s ⟨k, a, m⟩) 0)) w') := Lib.hid fun w' b => pf_err d hb (ser_cerr hok hc) hc b
  have HB : Hid (∀ x : World, Below wb.heap.size wb x → Whole x (w.heap.size + 1) 27 #[.int .i64 0, .int .i64 0] ∧ Below w.heap.size w x) := Lib.hid fun x b => ⟨whole_below2 gy b, bx.trans (b.mono bx.size)⟩
  unfold sval at HCK
  simp only at HCK
  generalize cerr s ⟨k, a, m⟩ = en at *
  have h1 : (en != 0) = true := by rw [bne_iff_ne]; exact hc
  have h2 : (en == 0) = false := by rw [beq_eq_false_iff_ne]; exact hc
  clear d hok hb gx gy bx
  go_enter Try.func28, Try.ntmps28
  go_wp2_with fail
  refine (HCK.out).mono ?_; rintro e w2 ⟨rfl, b2⟩
  obtain ⟨g2, bb⟩ := HB.out w2 b2
  have u0 := g2.cell 0
  have u1 := g2.cell 1
  have u2 := g2.frozen 0
  have u3 := g2.frozen 1
  simp at u0 u1
  have X5 := Lib.hid (fill_an g2 rfl en 0)
  have P5 := Lib.hid (HE.out _ (fill_below bb (show w.heap.size ≤ w.heap.size + 1 by omega) en 0))
  clear g2 bb b2 q0 q1 q2
  go_wp2_with fail
  refine bodyPost_ret (results_an rfl rfl X5.out) rfl ?_
  exact P5.out
set_option maxHeartbeats 4000000 in
set_option maxRecDepth 100000 in
theorem perf_1 (base g n c : Nat) (s : Int) (A : Option Addr) (l : List Gp) (a m : Int) (w : World) (d : RD w base g s A n c l) (hok : okRow s l = true) (hb : base ≤ w.heap.size) (hc : cerr s ⟨1, a, m⟩ = 0) :
    Calls Try.prog 28 #[.pointer (some ⟨g, 0, none⟩), .agg #[.int .i64 1, .int .i64 a, .int .i64 m]] w (PF base g s l ⟨1, a, m⟩ w) := by
  have mx := mixedO
  obtain ⟨wb, hwb⟩ : ∃ wb, (w.alloc (.cells #[.int .i64 1, .int .i64 a, .int .i64 m] 24)).alloc (.cells #[.int .i64 0, .int .i64 0] 27) = wb := ⟨_, rfl⟩
  have bx : Below w.heap.size w wb := by rw [← hwb]; exact two_blocks w _ _
  have gx : Whole wb w.heap.size 24 #[.int .i64 1, .int .i64 a, .int .i64 m] := by rw [← hwb]; exact (Whole.new w 24 _).alloc _
  have gy : Whole wb (w.heap.size + 1) 27 #[.int .i64 0, .int .i64 0] := by
    rw [← hwb]
    have := Whole.new (w.alloc (.cells #[.int .i64 1, .int .i64 a, .int .i64 m] 24)) 27 #[.int .i64 0, .int .i64 0]
    rwa [World.size_alloc] at this
  have HCK := Lib.hid (check35 base g n c s A l ⟨1, a, m⟩ wb (d.below bx) (ok_ch hok).1 (ok_ch hok).2.1)
  have q0 := gx.cell 0
  have q1 := gx.cell 1
  have q2 := gx.cell 2
  simp at q0 q1 q2
  have hr := (cerr_ok hc).2
  have HB : Hid (∀ x : World, Below wb.heap.size wb x → Whole x w.heap.size 24 #[.int .i64 1, .int .i64 a, .int .i64 m] ∧ Whole x (w.heap.size + 1) 27 #[.int .i64 0, .int .i64 0] ∧ RD x base g s A n c l ∧ Fr base w x ∧ Below wb.heap.size wb x) := Lib.hid fun x b => ⟨whole_below2 gx b, whole_below2 gy b, d.below (bx.trans (b.mono bx.size)), Fr.of_below hb (bx.trans (b.mono bx.size)), b⟩
  have HF := Lib.hid (fun (x : World) (dx : RD x base g s A n c l) => first37 base g n c s A l ⟨1, a, m⟩ x dx rfl (fun y hy => (ok_sums hok y hy).1))
  have HT := Lib.hid (fun (x : World) (v : Int) (dx : RD x base g s A n c l) (hp : Pick ⟨1, a, m⟩ l v) (hx : base ≤ x.heap.size) => take36_pf base g n c s v A l ⟨1, a, m⟩ x dx hp hok (.inl rfl) hr hx)
  have HBS := Lib.hid (Nat.le_trans hb bx.size)
  have HB0 := Lib.hid hb
  rw [hc] at HCK
  unfold sval at HCK
  unfold PF at HT ⊢
  simp only at HCK HF HT
  generalize ser s l ⟨1, a, m⟩ = en at *
  generalize sat s l ⟨1, a, m⟩ = an at *
  generalize (if en = 0 then sgl s l ⟨1, a, m⟩ else l) = L at *
  unfold aval at HT
  clear d hok hb gx gy bx hr hc
  go_enter Try.func28, Try.ntmps28
  go_wp2_with fail
  refine (HCK.out).mono ?_; rintro e w2 ⟨rfl, b2⟩
  obtain ⟨gx2, gy2, d2, f2, bb2⟩ := HB.out w2 b2
  have q0 := gx2.cell 0
  have q1 := gx2.cell 1
  have q2 := gx2.cell 2
  simp at q0 q1 q2
  have H1 := Lib.hid (HF.out w2.drew (d2.below (Below.refl _ _).drew))
  have S2 := Lib.hid (show w.heap.size ≤ w2.heap.size from f2.bel.size)
  clear gx2 gy2 d2 f2
  go_wp2_with fail
  go_region_with (first | (go_at_call 37; refine (H1.out).mono ?_; rintro e w3 ⟨v, rfl, pk3, b3⟩
                           have bb3 : Below wb.heap.size wb w3 := bb2.drew.trans (b3.mono bb2.size)
                           obtain ⟨gx3, gy3, d3, f3, _⟩ := HB.out w3 bb3
                           have r2 := gx3.cell 2
                           simp at r2
                           have H3 := Lib.hid (HT.out w3 v d3 pk3 (Nat.le_trans HBS.out bb3.size))
                           have GY := Lib.hid gy3
                           have F3 := Lib.hid f3
                           clear gx3 gy3 d3 f3 pk3 b3 bb3) |
                          (go_at_call 36; refine (H3.out).mono ?_; rintro e w4 ⟨rfl, ⟨A4, n4, c4, d4⟩, f4⟩
                           have gy4 := whole_K f4.kp GY.out
                           have u0 := gy4.cell 0
                           have u1 := gy4.cell 1
                           have u2 := gy4.frozen 0
                           have u3 := gy4.frozen 1
                           simp at u0 u1))
  all_goals
    have X5 := Lib.hid (fill_an gy4 rfl en an)
    have D5 := Lib.hid ((d4.fill gy4 0 (.int .i64 en)).fill (gy4.set_ 0 (.int .i64 en)) 1 (.int .i64 an))
    have F5 := Lib.hid (((F3.out.trans f4).box HB0.out (show w.heap.size ≤ w.heap.size + 1 by omega) 0 (.int .i64 en)).box HB0.out (show w.heap.size ≤ w.heap.size + 1 by omega) 1 (.int .i64 an))
    clear d4 f4 gy4
    go_wp2_with fail
    refine bodyPost_ret (results_an rfl rfl X5.out) rfl ?_
    exact ⟨rfl, ⟨A4, n4, c4, D5.out⟩, F5.out⟩
set_option maxHeartbeats 4000000 in
set_option maxRecDepth 100000 in
theorem perf_2 (base g n c : Nat) (s : Int) (A : Option Addr) (l : List Gp) (a m : Int) (w : World) (d : RD w base g s A n c l) (hok : okRow s l = true) (hb : base ≤ w.heap.size) (hc : cerr s ⟨2, a, m⟩ = 0) :
    Calls Try.prog 28 #[.pointer (some ⟨g, 0, none⟩), .agg #[.int .i64 2, .int .i64 a, .int .i64 m]] w (PF base g s l ⟨2, a, m⟩ w) := by
  have mx := mixedO
  obtain ⟨wb, hwb⟩ : ∃ wb, (w.alloc (.cells #[.int .i64 2, .int .i64 a, .int .i64 m] 24)).alloc (.cells #[.int .i64 0, .int .i64 0] 27) = wb := ⟨_, rfl⟩
  have bx : Below w.heap.size w wb := by rw [← hwb]; exact two_blocks w _ _
  have gx : Whole wb w.heap.size 24 #[.int .i64 2, .int .i64 a, .int .i64 m] := by rw [← hwb]; exact (Whole.new w 24 _).alloc _
  have gy : Whole wb (w.heap.size + 1) 27 #[.int .i64 0, .int .i64 0] := by
    rw [← hwb]
    have := Whole.new (w.alloc (.cells #[.int .i64 2, .int .i64 a, .int .i64 m] 24)) 27 #[.int .i64 0, .int .i64 0]
    rwa [World.size_alloc] at this
  have HCK := Lib.hid (check35 base g n c s A l ⟨2, a, m⟩ wb (d.below bx) (ok_ch hok).1 (ok_ch hok).2.1)
  have q0 := gx.cell 0
  have q1 := gx.cell 1
  have q2 := gx.cell 2
  simp at q0 q1 q2
  have hr := (cerr_ok hc).2
  have HB : Hid (∀ x : World, Below wb.heap.size wb x → Whole x w.heap.size 24 #[.int .i64 2, .int .i64 a, .int .i64 m] ∧ Whole x (w.heap.size + 1) 27 #[.int .i64 0, .int .i64 0] ∧ RD x base g s A n c l ∧ Fr base w x ∧ Below wb.heap.size wb x) := Lib.hid fun x b => ⟨whole_below2 gx b, whole_below2 gy b, d.below (bx.trans (b.mono bx.size)), Fr.of_below hb (bx.trans (b.mono bx.size)), b⟩
  have HF := Lib.hid (fun (x : World) (dx : RD x base g s A n c l) => small38 base g n c s A l ⟨2, a, m⟩ x dx rfl (fun y hy => (ok_sums hok y hy).1))
  have HT := Lib.hid (fun (x : World) (v : Int) (dx : RD x base g s A n c l) (hp : Pick ⟨2, a, m⟩ l v) (hx : base ≤ x.heap.size) => take36_pf base g n c s v A l ⟨2, a, m⟩ x dx hp hok (.inr rfl) hr hx)
  have HBS := Lib.hid (Nat.le_trans hb bx.size)
  have HB0 := Lib.hid hb
  rw [hc] at HCK
  unfold sval at HCK
  unfold PF at HT ⊢
  simp only at HCK HF HT
  generalize ser s l ⟨2, a, m⟩ = en at *
  generalize sat s l ⟨2, a, m⟩ = an at *
  generalize (if en = 0 then sgl s l ⟨2, a, m⟩ else l) = L at *
  unfold aval at HT
  clear d hok hb gx gy bx hr hc
  go_enter Try.func28, Try.ntmps28
  go_wp2_with fail
  refine (HCK.out).mono ?_; rintro e w2 ⟨rfl, b2⟩
  obtain ⟨gx2, gy2, d2, f2, bb2⟩ := HB.out w2 b2
  have q0 := gx2.cell 0
  have q1 := gx2.cell 1
  have q2 := gx2.cell 2
  simp at q0 q1 q2
  have H1 := Lib.hid (HF.out w2.drew (d2.below (Below.refl _ _).drew))
  have S2 := Lib.hid (show w.heap.size ≤ w2.heap.size from f2.bel.size)
  clear gx2 gy2 d2 f2
  go_wp2_with fail
  go_region_with (first | (go_at_call 38; refine (H1.out).mono ?_; rintro e w3 ⟨v, rfl, pk3, b3⟩
                           have bb3 : Below wb.heap.size wb w3 := bb2.drew.trans (b3.mono bb2.size)
                           obtain ⟨gx3, gy3, d3, f3, _⟩ := HB.out w3 bb3
                           have r2 := gx3.cell 2
                           simp at r2
                           have H3 := Lib.hid (HT.out w3 v d3 pk3 (Nat.le_trans HBS.out bb3.size))
                           have GY := Lib.hid gy3
                           have F3 := Lib.hid f3
                           clear gx3 gy3 d3 f3 pk3 b3 bb3) |
                          (go_at_call 36; refine (H3.out).mono ?_; rintro e w4 ⟨rfl, ⟨A4, n4, c4, d4⟩, f4⟩
                           have gy4 := whole_K f4.kp GY.out
                           have u0 := gy4.cell 0
                           have u1 := gy4.cell 1
                           have u2 := gy4.frozen 0
                           have u3 := gy4.frozen 1
                           simp at u0 u1))
  all_goals
    have X5 := Lib.hid (fill_an gy4 rfl en an)
    have D5 := Lib.hid ((d4.fill gy4 0 (.int .i64 en)).fill (gy4.set_ 0 (.int .i64 en)) 1 (.int .i64 an))
    have F5 := Lib.hid (((F3.out.trans f4).box HB0.out (show w.heap.size ≤ w.heap.size + 1 by omega) 0 (.int .i64 en)).box HB0.out (show w.heap.size ≤ w.heap.size + 1 by omega) 1 (.int .i64 an))
    clear d4 f4 gy4
    go_wp2_with fail
    refine bodyPost_ret (results_an rfl rfl X5.out) rfl ?_
    exact ⟨rfl, ⟨A4, n4, c4, D5.out⟩, F5.out⟩
set_option maxHeartbeats 4000000 in
set_option maxRecDepth 100000 in
theorem perf_3 (base g n c : Nat) (s : Int) (A : Option Addr) (l : List Gp) (a m : Int) (w : World) (d : RD w base g s A n c l) (hok : okRow s l = true) (hb : base ≤ w.heap.size) (hc : cerr s ⟨3, a, m⟩ = 0) (HG39 : ∀ x : World, RD x base g s A n c l → base ≤ x.heap.size → Calls Try.prog 39 #[.pointer (some ⟨g, 0, none⟩), .agg #[.int .i64 a, .int .i64 m]] x (PF base g s l ⟨3, a, m⟩ x)) :
    Calls Try.prog 28 #[.pointer (some ⟨g, 0, none⟩), .agg #[.int .i64 3, .int .i64 a, .int .i64 m]] w (PF base g s l ⟨3, a, m⟩ w) := by
  have mx := mixedO
  obtain ⟨wb, hwb⟩ : ∃ wb, (w.alloc (.cells #[.int .i64 3, .int .i64 a, .int .i64 m] 24)).alloc (.cells #[.int .i64 0, .int .i64 0] 27) = wb := ⟨_, rfl⟩
  have bx : Below w.heap.size w wb := by rw [← hwb]; exact two_blocks w _ _
  have gx : Whole wb w.heap.size 24 #[.int .i64 3, .int .i64 a, .int .i64 m] := by rw [← hwb]; exact (Whole.new w 24 _).alloc _
  have gy : Whole wb (w.heap.size + 1) 27 #[.int .i64 0, .int .i64 0] := by
    rw [← hwb]
    have := Whole.new (w.alloc (.cells #[.int .i64 3, .int .i64 a, .int .i64 m] 24)) 27 #[.int .i64 0, .int .i64 0]
    rwa [World.size_alloc] at this
  have HCK := Lib.hid (check35 base g n c s A l ⟨3, a, m⟩ wb (d.below bx) (ok_ch hok).1 (ok_ch hok).2.1)
  have q0 := gx.cell 0
  have q1 := gx.cell 1
  have q2 := gx.cell 2
  simp at q0 q1 q2
  have HB : Hid (∀ x : World, Below wb.heap.size wb x → Whole x w.heap.size 24 #[.int .i64 3, .int .i64 a, .int .i64 m] ∧ Whole x (w.heap.size + 1) 27 #[.int .i64 0, .int .i64 0] ∧ RD x base g s A n c l ∧ Fr base w x ∧ Below wb.heap.size wb x) := Lib.hid fun x b => ⟨whole_below2 gx b, whole_below2 gy b, d.below (bx.trans (b.mono bx.size)), Fr.of_below hb (bx.trans (b.mono bx.size)), b⟩
  have HBS := Lib.hid (Nat.le_trans hb bx.size)
  have HB0 := Lib.hid hb
  have HT := Lib.hid HG39
  rw [hc] at HCK
  unfold sval at HCK
  unfold PF at HT ⊢
  simp only at HCK HT
  generalize ser s l ⟨3, a, m⟩ = en at *
  generalize sat s l ⟨3, a, m⟩ = an at *
  generalize (if en = 0 then sgl s l ⟨3, a, m⟩ else l) = L at *
  unfold aval at HT
  clear d hok hb gx gy bx hc HG39
  go_enter Try.func28, Try.ntmps28
  go_wp2_with fail
  refine (HCK.out).mono ?_; rintro e w2 ⟨rfl, b2⟩
  obtain ⟨gx2, gy2, d2, f2, bb2⟩ := HB.out w2 b2
  have q0 := gx2.cell 0
  have q1 := gx2.cell 1
  have q2 := gx2.cell 2
  simp at q0 q1 q2
  have H3 := Lib.hid (HT.out w2 d2 (Nat.le_trans HBS.out bb2.size))
  have GY := Lib.hid gy2
  have F3 := Lib.hid f2
  clear gx2 gy2 d2 f2
  go_wp2_with fail
  refine (H3.out).mono ?_; rintro e w4 ⟨rfl, ⟨A4, n4, c4, d4⟩, f4⟩
  have gy4 := whole_K f4.kp GY.out
  have u0 := gy4.cell 0
  have u1 := gy4.cell 1
  have u2 := gy4.frozen 0
  have u3 := gy4.frozen 1
  simp at u0 u1
  have X5 := Lib.hid (fill_an gy4 rfl en an)
  have D5 := Lib.hid ((d4.fill gy4 0 (.int .i64 en)).fill (gy4.set_ 0 (.int .i64 en)) 1 (.int .i64 an))
  have F5 := Lib.hid (((F3.out.trans f4).box HB0.out (show w.heap.size ≤ w.heap.size + 1 by omega) 0 (.int .i64 en)).box HB0.out (show w.heap.size ≤ w.heap.size + 1 by omega) 1 (.int .i64 an))
  clear d4 f4 gy4
  go_wp2_with fail
  refine bodyPost_ret (results_an rfl rfl X5.out) rfl ?_
  exact ⟨rfl, ⟨A4, n4, c4, D5.out⟩, F5.out⟩
end Go.Proofs.Ytkhcaobmohppnaa.Spc
