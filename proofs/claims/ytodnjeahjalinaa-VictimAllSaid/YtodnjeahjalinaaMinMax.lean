/-
  The least and the most worn block of a list: slices.MinFunc and MaxFunc with the program's comparison; the smallest wear; how far the wear spreads.
-/
import Derived.Test.YtodnjeahjalinaaRights
namespace Go.Proofs.Ytodnjeahjalinaa.Vic
open Go.ChangeShapes Go.WideShapes Go.ChangeAt Go.RowKit Words Go.Sort
open Go.Proofs.Ytodnjeahjalinaa.Stab (Laid below_grow mixedO)
set_option linter.unusedVariables false

theorem results_one {fn : Func} {p : Tmp} {ty : TypeId} (h : fn.results = #[.cell p ty]) (tmps : Array Value) (P : Program) (w : World) :
    (results fn tmps).run P w = ((asAddr (tmps.getD p undef)).run P w).andThen fun a w₁ => (loadVar ty a).run P w₁ := by
  simp only [results, h]
  simp [Sem.run_bind, Result.andThen]
def fseq (x : Fil) : Array Value := #[.int .i64 x.need, .int .i64 x.fill, .int .i64 x.wear]
theorem results_fil {fn : Func} {p : Tmp} (h : fn.results = #[.cell p 28]) {tmps : Array Value} {w : World} {b : Nat} {x : Fil} (hp : tmps.getD p undef = .pointer (some ⟨b, 0, none⟩)) (hw : Whole w b 28 (fseq x)) :
    (results fn tmps).run Try.prog w = .ok (fval x) w := by
  have c0 := hw.cell 0
  have c1 := hw.cell 1
  have c2 := hw.cell 2
  rw [results_one h, hp]
  simp [fseq] at c0 c1 c2
  simp [go_sem, loadVar, c0, c1, c2, fval]
/-- A box filled anew. -/
def fillF (w : World) (b : Nat) (x : Fil) : World := ((w.setCell ⟨b, 0, none⟩ (.int .i64 x.need)).setCell ⟨b, 1, none⟩ (.int .i64 x.fill)).setCell ⟨b, 2, none⟩ (.int .i64 x.wear)
theorem fillF_whole {w : World} {b : Nat} {x y : Fil} (h : Whole w b 28 (fseq y)) : Whole (fillF w b x) b 28 (fseq x) := ((h.set_ 0 (.int .i64 x.need)).set_ 1 (.int .i64 x.fill)).set_ 2 (.int .i64 x.wear)
theorem fillF_n1 {w : World} {b : Nat} {x y : Fil} (h : Whole w b 28 (fseq y)) : (w.setCell ⟨b, 0, none⟩ (.int .i64 x.need)).cell? ⟨b, 1, none⟩ = some (.int .i64 y.fill) := (h.set_ 0 (.int .i64 x.need)).cell 1
theorem fillF_n2 {w : World} {b : Nat} {x y : Fil} (h : Whole w b 28 (fseq y)) : ((w.setCell ⟨b, 0, none⟩ (.int .i64 x.need)).setCell ⟨b, 1, none⟩ (.int .i64 x.fill)).cell? ⟨b, 2, none⟩ = some (.int .i64 y.wear) := ((h.set_ 0 (.int .i64 x.need)).set_ 1 (.int .i64 x.fill)).cell 2
theorem fillF_other {w : World} {b g : Nat} {t : TypeId} {cs : Array Value} (x : Fil) (h : Whole w g t cs) (hne : g ≠ b) : Whole (fillF w b x) g t cs := by
  unfold Whole fillF at *
  rw [heap_setCell_other _ ⟨b, 2, none⟩ g _ hne, heap_setCell_other _ ⟨b, 1, none⟩ g _ hne, heap_setCell_other _ ⟨b, 0, none⟩ g _ hne]
  exact h
theorem fillF_below {B : Nat} {a w : World} {b : Nat} (x : Fil) (h : Below B a w) (hb : B ≤ b) : Below B a (fillF w b x) := ((h.setCell hb _).setCell hb _).setCell hb _
theorem fillF_size (w : World) (b : Nat) (x : Fil) : (fillF w b x).heap.size = w.heap.size := by simp [fillF, World.setCell]
theorem whole_below {D : Nat} {a b : World} {g : Nat} {t : TypeId} {cs : Array Value} (h : Whole a g t cs) (hb : Below D a b) (hg : g < D) : Whole b g t cs := by
  unfold Whole at *
  rw [hb.block _ hg]
  exact h
/-- What the walk keeps: the box of the result, the box of the best so far; nothing that was there has changed. -/
structure MM (w : World) (mv : Fil) (W : World) : Prop where
  bel : Below w.heap.size w W
  res : Whole W w.heap.size 28 (fseq ⟨0, 0, 0⟩)
  best : Whole W (w.heap.size + 1) 28 (fseq mv)
theorem MM.start (w : World) (x : Fil) : MM w x ((w.alloc (.cells (fseq ⟨0, 0, 0⟩) 28)).alloc (.cells (fseq x) 28)) :=
  ⟨two_blocks w _ _, (Whole.new w 28 _).alloc _, by have := Whole.new (w.alloc (.cells (fseq ⟨0, 0, 0⟩) 28)) 28 (fseq x); simpa using this⟩
theorem MM.size {w W : World} {mv : Fil} (h : MM w mv W) : w.heap.size + 1 < W.heap.size := h.best.lt
theorem MM.more {w W : World} {mv : Fil} (h : MM w mv W) (m : Nat) (os : Array Obj) : MM w mv (grow (W.drewN m) os) :=
  have hs := h.size
  have hb : Below W.heap.size W (grow (W.drewN m) os) := below_grow (Below.refl _ _) (Nat.le_refl _) m os
  ⟨below_grow h.bel h.bel.size m os, whole_below h.res hb (by omega), whole_below h.best hb (by omega)⟩
theorem MM.put {w W : World} {mv : Fil} (h : MM w mv W) (x : Fil) : MM w x (fillF W (w.heap.size + 1) x) :=
  ⟨fillF_below x h.bel (by omega), fillF_other x h.res (by omega), fillF_whole h.best⟩
theorem cells_of {W : World} {b : Nat} {x : Fil} (h : Whole W b 28 (fseq x)) : (∀ m os, (grow (W.drewN m) os).cell? ⟨b, 0, none⟩ = some (.int .i64 x.need)) ∧ (∀ m os, (grow (W.drewN m) os).cell? ⟨b, 1, none⟩ = some (.int .i64 x.fill)) ∧ (∀ m os, (grow (W.drewN m) os).cell? ⟨b, 2, none⟩ = some (.int .i64 x.wear)) :=
  ⟨fun m os => cell_grown (by exact h.lt) (h.cell 0) m os, fun m os => cell_grown (by exact h.lt) (h.cell 1) m os, fun m os => cell_grown (by exact h.lt) (h.cell 2) m os⟩
def LeastU (l : List Fil) (k : Nat) (mv : Fil) : Prop := mv ∈ l ∧ ∀ j, j < k → mv.wear ≤ (nth l j).wear
def MostU (l : List Fil) (k : Nat) (mv : Fil) : Prop := mv ∈ l ∧ ∀ j, j < k → (nth l j).wear ≤ mv.wear
theorem leastU_start {l : List Fil} (h : 0 < l.length) : LeastU l 1 (nth l 0) := ⟨nth_mem h, fun j hj => by rw [show j = 0 by omega]; exact Int.le_refl _⟩
theorem mostU_start {l : List Fil} (h : 0 < l.length) : MostU l 1 (nth l 0) := ⟨nth_mem h, fun j hj => by rw [show j = 0 by omega]; exact Int.le_refl _⟩
theorem leastU_go {l : List Fil} {k : Nat} {mv x : Fil} (h : LeastU l k mv) (hk : k < l.length) (hx : x = nth l k) (hz : cfW x mv < 0) : LeastU l (k + 1) x := by
  unfold cfW at hz
  rw [cmpI_neg] at hz
  subst hx
  refine ⟨nth_mem hk, fun j hj => ?_⟩
  by_cases e : j < k
  · have := h.2 j e; omega
  · obtain rfl : j = k := by omega
    exact Int.le_refl _
theorem leastU_no {l : List Fil} {k : Nat} {mv x : Fil} (h : LeastU l k mv) (hk : k < l.length) (hx : x = nth l k) (hz : ¬ cfW x mv < 0) : LeastU l (k + 1) mv := by
  unfold cfW at hz
  rw [cmpI_neg] at hz
  subst hx
  refine ⟨h.1, fun j hj => ?_⟩
  by_cases e : j < k
  · exact h.2 j e
  · obtain rfl : j = k := by omega
    omega
theorem mostU_go {l : List Fil} {k : Nat} {mv x : Fil} (h : MostU l k mv) (hk : k < l.length) (hx : x = nth l k) (hz : cfW x mv > 0) : MostU l (k + 1) x := by
  unfold cfW at hz
  rw [gt_iff_lt, cmpI_pos] at hz
  subst hx
  refine ⟨nth_mem hk, fun j hj => ?_⟩
  by_cases e : j < k
  · have := h.2 j e; omega
  · obtain rfl : j = k := by omega
    exact Int.le_refl _
theorem mostU_no {l : List Fil} {k : Nat} {mv x : Fil} (h : MostU l k mv) (hk : k < l.length) (hx : x = nth l k) (hz : ¬ cfW x mv > 0) : MostU l (k + 1) mv := by
  unfold cfW at hz
  rw [gt_iff_lt, cmpI_pos] at hz
  subst hx
  refine ⟨h.1, fun j hj => ?_⟩
  by_cases e : j < k
  · exact h.2 j e
  · obtain rfl : j = k := by omega
    omega
theorem leastU_end {l : List Fil} {mv : Fil} (h : LeastU l l.length mv) : IsLw l mv.wear := ⟨⟨mv, h.1, rfl⟩, fun x hx => by
  obtain ⟨k, hk, rfl⟩ := mem_nth hx
  exact h.2 k hk⟩
theorem mostU_end {l : List Fil} {mv : Fil} (h : MostU l l.length mv) : IsMw l mv.wear := ⟨⟨mv, h.1, rfl⟩, fun x hx => by
  obtain ⟨k, hk, rfl⟩ := mem_nth hx
  exact h.2 k hk⟩
set_option maxHeartbeats 2000000 in
theorem minFunc36 (B : Nat) (A : Option Addr) (n c : Nat) (l : List Fil) (w : World) (h : Fl w B A n c l) (hB : B ≤ w.heap.size) (hn : 0 < n) :
    Calls Try.prog 36 #[.slice A n c, .func (.func 29) #[] #[]] w fun e w' => (∃ mv, e = .returned (fval mv) ∧ LeastU l n mv) ∧ Below w.heap.size w w' := by
  have mx := mixedO
  have H := Lib.hid h
  have L := Lib.hid h.len
  have hm := Words.Rd.small h
  obtain ⟨g, o, rfl, hg, _⟩ := Words.Rd.row h hn
  obtain ⟨p0, p1, p2⟩ := Fl.cells (Words.Rd.alloc h hB (.cells (fseq ⟨0, 0, 0⟩) 28)) rfl (nth_get (l := l) (k := 0) (by rw [L.out]; exact hn))
  rw [Nat.zero_mul, Nat.add_zero] at p0 p1 p2
  clear h
  have hn1 : ¬ (n : Int) < 1 := by omega
  have HS := Lib.hid (leastU_start (l := l) (by rw [L.out]; exact hn))
  have HM := Lib.hid (MM.start w (nth l 0))
  obtain ⟨x0, hx0⟩ : ∃ x, x = nth l 0 := ⟨_, rfl⟩
  rw [← hx0] at p0 p1 p2 HS HM
  clear hx0
  unfold fseq at p0 p1 p2
  go_enter Try.func36, Try.ntmps36
  go_wp2_with fail
  go_loopw [6] (fun i wr => ∃ (k : Nat) (mv : Fil), i = .int .i64 k ∧ 1 ≤ k ∧ k ≤ n ∧ LeastU l k mv ∧ MM w mv wr) (fun i _ => (n - intOf i).toNat)
  case atStart => exact ⟨1, x0, rfl, by omega, by omega, HS.out, HM.out⟩
  case round =>
    obtain ⟨k, mv, rfl, hk1, hkn, hinv, hmm⟩ := hrel
    have HI := Lib.hid hinv
    have HQ := Lib.hid hmm
    clear hinv hmm p0 p1 p2 HS HM
    by_cases hlt : k < n
    · obtain ⟨c0, c1, c2⟩ := Fl.cellsG (Words.Rd.below H.out HQ.out.bel hB) (Nat.le_trans hB HQ.out.bel.size) rfl (nth_get (l := l) (k := k) (by rw [L.out]; exact hlt))
      obtain ⟨d0, d1, d2⟩ := cells_of HQ.out.best
      have HC := compareWear29 (nth l k) mv
      have HT := Lib.hid (fun hz => leastU_go HI.out (k := k) (by rw [L.out]; exact hlt) rfl hz)
      have HF := Lib.hid (fun hz => leastU_no HI.out (k := k) (by rw [L.out]; exact hlt) rfl hz)
      have HP := Lib.hid (fun (m : Nat) (os : Array Obj) => (HQ.out.more m os).put (nth l k))
      obtain ⟨x, hx⟩ : ∃ x, x = nth l k := ⟨_, rfl⟩
      rw [← hx] at c0 c1 c2 HC HT HF HP
      clear hx
      unfold fval at HC
      obtain ⟨r, hr⟩ : ∃ r, r = cfW x mv := ⟨_, rfl⟩
      rw [← hr] at HC HT HF
      clear hr
      have HC := Lib.hid HC
      by_cases hz : r < 0
      · have hd : decide (r < 0) = true := decide_eq_true hz
        have HE := Lib.hid (HT.out hz)
        go_wp2_with fail
        refine wp_region_quiet_grown (by assumption) (by kernel_rfl) ?_
        repeat (go_big_quiet_step (first | (go_at_call 29; exact Calls.grown_of (HC.out _))))
        refine wpQuiet_nil ?_
        intro _ hw2
        obtain ⟨⟨nq, osq⟩, hw3⟩ := hw2
        subst hw3
        have HP2 := Lib.hid (HP.out nq osq)
        have b0 := c0 nq osq
        have b1 := c1 nq osq
        have b2 := c2 nq osq
        have e0 := d0 nq osq
        have e1 := d1 nq osq
        have e2 := d2 nq osq
        have HW := Lib.hid (HQ.out.more nq osq).best
        have e3 := fillF_n1 (x := x) HW.out
        have e4 := fillF_n2 (x := x) HW.out
        have f0 := HW.out.frozen 0
        have f1 := HW.out.frozen 1
        have f2 := HW.out.frozen 2
        clear c0 c1 c2 d0 d1 d2 HP
        go_wp2_with fail
        go_roundw
        case rel => exact ⟨k + 1, x, by go_num, by omega, by omega, HE.out, HP2.out⟩
        case measure => simp [intOf]; omega
      · have hd : decide (r < 0) = false := decide_eq_false hz
        have HE := Lib.hid (HF.out hz)
        go_wp2_with fail
        refine wp_region_quiet_grown (by assumption) (by kernel_rfl) ?_
        repeat (go_big_quiet_step (first | (go_at_call 29; exact Calls.grown_of (HC.out _))))
        refine wpQuiet_nil ?_
        intro _ hw2
        obtain ⟨⟨nq, osq⟩, hw3⟩ := hw2
        subst hw3
        have HP2 := Lib.hid (HQ.out.more nq osq)
        clear c0 c1 c2 d0 d1 d2 HP
        go_wp2_with fail
        go_roundw
        case rel => exact ⟨k + 1, mv, by go_num, by omega, by omega, HE.out, HP2.out⟩
        case measure => simp [intOf]; omega
    · obtain rfl : k = n := by omega
      have e0 := HQ.out.best.cell 0
      have e1 := HQ.out.best.cell 1
      have e2 := HQ.out.best.cell 2
      simp only [fseq] at e0 e1 e2
      have e0 : wr.cell? ⟨w.heap.size + 1, 0, none⟩ = some (.int .i64 mv.need) := e0
      have e1 : wr.cell? ⟨w.heap.size + 1, 1, none⟩ = some (.int .i64 mv.fill) := e1
      have e2 : wr.cell? ⟨w.heap.size + 1, 2, none⟩ = some (.int .i64 mv.wear) := e2
      have z0 : wr.cell? ⟨w.heap.size, 0, none⟩ = some (.int .i64 0) := HQ.out.res.cell 0
      have z1 : wr.cell? ⟨w.heap.size, 1, none⟩ = some (.int .i64 0) := HQ.out.res.cell 1
      have z2 : wr.cell? ⟨w.heap.size, 2, none⟩ = some (.int .i64 0) := HQ.out.res.cell 2
      have z3 := fillF_n1 (x := mv) HQ.out.res
      have z4 := fillF_n2 (x := mv) HQ.out.res
      have f0 := HQ.out.res.frozen 0
      have f1 := HQ.out.res.frozen 1
      have f2 := HQ.out.res.frozen 2
      have HW := Lib.hid (fillF_whole (x := mv) HQ.out.res)
      have HB := Lib.hid (fillF_below mv HQ.out.bel (Nat.le_refl _))
      go_wp2_with fail
      refine bodyPost_ret (results_fil rfl rfl HW.out) rfl ?_
      exact ⟨⟨mv, rfl, HI.out⟩, HB.out⟩
set_option maxHeartbeats 2000000 in
theorem maxFunc28 (B : Nat) (A : Option Addr) (n c : Nat) (l : List Fil) (w : World) (h : Fl w B A n c l) (hB : B ≤ w.heap.size) (hn : 0 < n) :
    Calls Try.prog 28 #[.slice A n c, .func (.func 29) #[] #[]] w fun e w' => (∃ mv, e = .returned (fval mv) ∧ MostU l n mv) ∧ Below w.heap.size w w' := by
  have mx := mixedO
  have H := Lib.hid h
  have L := Lib.hid h.len
  have hm := Words.Rd.small h
  obtain ⟨g, o, rfl, hg, _⟩ := Words.Rd.row h hn
  obtain ⟨p0, p1, p2⟩ := Fl.cells (Words.Rd.alloc h hB (.cells (fseq ⟨0, 0, 0⟩) 28)) rfl (nth_get (l := l) (k := 0) (by rw [L.out]; exact hn))
  rw [Nat.zero_mul, Nat.add_zero] at p0 p1 p2
  clear h
  have hn1 : ¬ (n : Int) < 1 := by omega
  have HS := Lib.hid (mostU_start (l := l) (by rw [L.out]; exact hn))
  have HM := Lib.hid (MM.start w (nth l 0))
  obtain ⟨x0, hx0⟩ : ∃ x, x = nth l 0 := ⟨_, rfl⟩
  rw [← hx0] at p0 p1 p2 HS HM
  clear hx0
  unfold fseq at p0 p1 p2
  go_enter Try.func28, Try.ntmps28
  go_wp2_with fail
  go_loopw [6] (fun i wr => ∃ (k : Nat) (mv : Fil), i = .int .i64 k ∧ 1 ≤ k ∧ k ≤ n ∧ MostU l k mv ∧ MM w mv wr) (fun i _ => (n - intOf i).toNat)
  case atStart => exact ⟨1, x0, rfl, by omega, by omega, HS.out, HM.out⟩
  case round =>
    obtain ⟨k, mv, rfl, hk1, hkn, hinv, hmm⟩ := hrel
    have HI := Lib.hid hinv
    have HQ := Lib.hid hmm
    clear hinv hmm p0 p1 p2 HS HM
    by_cases hlt : k < n
    · obtain ⟨c0, c1, c2⟩ := Fl.cellsG (Words.Rd.below H.out HQ.out.bel hB) (Nat.le_trans hB HQ.out.bel.size) rfl (nth_get (l := l) (k := k) (by rw [L.out]; exact hlt))
      obtain ⟨d0, d1, d2⟩ := cells_of HQ.out.best
      have HC := compareWear29 (nth l k) mv
      have HT := Lib.hid (fun hz => mostU_go HI.out (k := k) (by rw [L.out]; exact hlt) rfl hz)
      have HF := Lib.hid (fun hz => mostU_no HI.out (k := k) (by rw [L.out]; exact hlt) rfl hz)
      have HP := Lib.hid (fun (m : Nat) (os : Array Obj) => (HQ.out.more m os).put (nth l k))
      obtain ⟨x, hx⟩ : ∃ x, x = nth l k := ⟨_, rfl⟩
      rw [← hx] at c0 c1 c2 HC HT HF HP
      clear hx
      unfold fval at HC
      obtain ⟨r, hr⟩ : ∃ r, r = cfW x mv := ⟨_, rfl⟩
      rw [← hr] at HC HT HF
      clear hr
      have HC := Lib.hid HC
      by_cases hz : r > 0
      · have hd : decide (r > 0) = true := decide_eq_true hz
        have HE := Lib.hid (HT.out hz)
        go_wp2_with fail
        refine wp_region_quiet_grown (by assumption) (by kernel_rfl) ?_
        repeat (go_big_quiet_step (first | (go_at_call 29; exact Calls.grown_of (HC.out _))))
        refine wpQuiet_nil ?_
        intro _ hw2
        obtain ⟨⟨nq, osq⟩, hw3⟩ := hw2
        subst hw3
        have HP2 := Lib.hid (HP.out nq osq)
        have b0 := c0 nq osq
        have b1 := c1 nq osq
        have b2 := c2 nq osq
        have e0 := d0 nq osq
        have e1 := d1 nq osq
        have e2 := d2 nq osq
        have HW := Lib.hid (HQ.out.more nq osq).best
        have e3 := fillF_n1 (x := x) HW.out
        have e4 := fillF_n2 (x := x) HW.out
        have f0 := HW.out.frozen 0
        have f1 := HW.out.frozen 1
        have f2 := HW.out.frozen 2
        clear c0 c1 c2 d0 d1 d2 HP
        go_wp2_with fail
        go_roundw
        case rel => exact ⟨k + 1, x, by go_num, by omega, by omega, HE.out, HP2.out⟩
        case measure => simp [intOf]; omega
      · have hd : decide (r > 0) = false := decide_eq_false hz
        have HE := Lib.hid (HF.out hz)
        go_wp2_with fail
        refine wp_region_quiet_grown (by assumption) (by kernel_rfl) ?_
        repeat (go_big_quiet_step (first | (go_at_call 29; exact Calls.grown_of (HC.out _))))
        refine wpQuiet_nil ?_
        intro _ hw2
        obtain ⟨⟨nq, osq⟩, hw3⟩ := hw2
        subst hw3
        have HP2 := Lib.hid (HQ.out.more nq osq)
        clear c0 c1 c2 d0 d1 d2 HP
        go_wp2_with fail
        go_roundw
        case rel => exact ⟨k + 1, mv, by go_num, by omega, by omega, HE.out, HP2.out⟩
        case measure => simp [intOf]; omega
    · obtain rfl : k = n := by omega
      have e0 := HQ.out.best.cell 0
      have e1 := HQ.out.best.cell 1
      have e2 := HQ.out.best.cell 2
      simp only [fseq] at e0 e1 e2
      have e0 : wr.cell? ⟨w.heap.size + 1, 0, none⟩ = some (.int .i64 mv.need) := e0
      have e1 : wr.cell? ⟨w.heap.size + 1, 1, none⟩ = some (.int .i64 mv.fill) := e1
      have e2 : wr.cell? ⟨w.heap.size + 1, 2, none⟩ = some (.int .i64 mv.wear) := e2
      have z0 : wr.cell? ⟨w.heap.size, 0, none⟩ = some (.int .i64 0) := HQ.out.res.cell 0
      have z1 : wr.cell? ⟨w.heap.size, 1, none⟩ = some (.int .i64 0) := HQ.out.res.cell 1
      have z2 : wr.cell? ⟨w.heap.size, 2, none⟩ = some (.int .i64 0) := HQ.out.res.cell 2
      have z3 := fillF_n1 (x := mv) HQ.out.res
      have z4 := fillF_n2 (x := mv) HQ.out.res
      have f0 := HQ.out.res.frozen 0
      have f1 := HQ.out.res.frozen 1
      have f2 := HQ.out.res.frozen 2
      have HW := Lib.hid (fillF_whole (x := mv) HQ.out.res)
      have HB := Lib.hid (fillF_below mv HQ.out.bel (Nat.le_refl _))
      go_wp2_with fail
      refine bodyPost_ret (results_fil rfl rfl HW.out) rfl ?_
      exact ⟨⟨mv, rfl, HI.out⟩, HB.out⟩
theorem field_wear (a b c : Int) (w : World) : (Instr.field 28 (.agg #[.int .i64 a, .int .i64 b, .int .i64 c]) 2).run Try.prog w = .ok (.int .i64 c) w := by
  first
    | kernel_rfl
    | simp [go_sem]
theorem leastWear30 (B : Nat) (A : Option Addr) (n c : Nat) (l : List Fil) (w : World) (h : Fl w B A n c l) (hB : B ≤ w.heap.size) (hn : 0 < n) :
    Calls Try.prog 30 #[.slice A n c] w fun e w' => e = .returned (.int .i64 (lw l)) ∧ Below w.heap.size w w' := by
  have HC := Lib.hid (minFunc36 B A n c l w h hB hn)
  have L := Lib.hid h.len
  clear h
  go_enter Try.func30, Try.ntmps30
  go_wp2_with fail
  refine (HC.out).mono ?_; rintro e w1 ⟨⟨mv, rfl, hmv⟩, hb⟩
  have HE : Hid (mv.wear = lw l) := Lib.hid (leastU_end (by rw [L.out]; exact hmv)).eq
  have HB := Lib.hid hb
  clear hmv hb
  obtain ⟨mn, mf, mwe⟩ := mv
  have hfw := field_wear mn mf mwe
  unfold fval
  go_wp2_with fail
  go_ret
  exact ⟨ret_int HE.out, HB.out⟩
theorem spread13 (B : Nat) (A : Option Addr) (n c : Nat) (l : List Fil) (w : World) (h : Fl w B A n c l) (hB : B ≤ w.heap.size) (hr : right l = true) :
    Calls Try.prog 13 #[.slice A n c] w fun e w' => e = .returned (.int .i64 (spr l)) ∧ Below w.heap.size w w' := by
  have L := Lib.hid h.len
  by_cases hn : n = 0
  · have h0 : ((n : Int) == 0) = true := by rw [beq_iff_eq]; omega
    have HE : Hid (spr l = 0) := Lib.hid (by unfold spr; rw [if_pos (by rw [L.out]; exact hn)])
    clear h hr hn
    go_enter Try.func13, Try.ntmps13
    go_wp2_with fail
    go_ret
    exact ⟨ret_int HE.out.symm, Below.refl _ _⟩
  · have h0 : ((n : Int) == 0) = false := by rw [beq_eq_false_iff_ne]; omega
    have HM := Lib.hid (maxFunc28 B A n c l w h hB (by omega))
    have HL := Lib.hid (fun (W : World) (b : Below w.heap.size w W) => leastWear30 B A n c l W (Words.Rd.below h b hB) (Nat.le_trans hB b.size) (by omega))
    have HE := Lib.hid (spr_pos (l := l) (by rw [L.out]; omega))
    obtain ⟨r1, r2⟩ := lw_range hr (by rw [L.out]; omega)
    obtain ⟨r3, r4⟩ := mw_range hr (by rw [L.out]; omega)
    clear h hr hn
    go_enter Try.func13, Try.ntmps13
    go_wp2_with fail
    refine (HM.out).mono ?_; rintro e w1 ⟨⟨mv, rfl, hmv⟩, hb⟩
    have HV : Hid (mv.wear = mw l) := Lib.hid (mostU_end (by rw [L.out]; exact hmv)).eq
    have HB := Lib.hid hb
    clear hmv hb
    obtain ⟨mn, mf, mwe⟩ := mv
    obtain rfl : mwe = mw l := HV.out
    have hfw := field_wear mn mf (mw l)
    unfold fval
    go_wp2_with fail
    refine (HL.out _ HB.out).mono ?_; rintro e w2 ⟨rfl, hb⟩
    have HB2 := Lib.hid (HB.out.trans (hb.mono HB.out.size))
    clear hb
    go_wp2_with fail
    go_ret
    exact ⟨ret_int HE.out.symm, HB2.out⟩
end Go.Proofs.Ytodnjeahjalinaa.Vic
