/-
  The document's own KWrite.
-/
import Derived.Test.YtpjhihmbgahagaaRefs
namespace Go.Proofs.Ytpjhihmbgahagaa.Twn
open Go.ChangeShapes Go.WideShapes Go.ChangeAt Go.RowKit Words
set_option linter.unusedVariables false
set_option linter.unusedSimpArgs false

theorem results_st {fn : Func} {p q : Tmp} (h : fn.results = #[.cell p 24, .tmp q]) (tmps : Array Value) (w : World) (g : Nat) (s : St)
    (hp : tmps.getD p undef = .pointer (some ⟨g, 0, none⟩)) (hg : Whole w g 24 (scs s)) :
    (results fn tmps).run Try.prog w = .ok (.tuple #[sv s, tmps.getD q undef]) w := by
  have hp' : tmps[p]?.getD undef = .pointer (some ⟨g, 0, none⟩) := by simpa using hp
  have hi : (Try.prog.info? 24).map (·.size) = some (scs s).size := by
    have : (Try.prog.info? 24).map (·.size) = some 6 := by kernel_rfl
    rw [this]; rfl
  simp [results, h, hp', asAddr, run_loadVar_row w g 24 24 (scs s) (0, 0) _ hg Try.underlying24 rfl hi]
  rfl
def Wrote (w : World) (r : St × Int) (e : Ending) (w' : World) : Prop := e = .returned (.tuple #[sv r.1, .int .i64 r.2]) ∧ Below w.heap.size w w'
theorem six {w : World} {g : Nat} {s : St} (h : Whole w g 24 (scs s)) : w.cell? ⟨g, 0, none⟩ = some (.bool s.a.w) ∧ w.cell? ⟨g, 1, none⟩ = some (.int .i64 s.a.c) ∧ w.cell? ⟨g, 2, none⟩ = some (.int .i64 s.a.d) ∧
    w.cell? ⟨g, 3, none⟩ = some (.bool s.b.w) ∧ w.cell? ⟨g, 4, none⟩ = some (.int .i64 s.b.c) ∧ w.cell? ⟨g, 5, none⟩ = some (.int .i64 s.b.d) := ⟨h.cell 0, h.cell 1, h.cell 2, h.cell 3, h.cell 4, h.cell 5⟩
theorem whole_below {w w' : World} {g D : Nat} {t : TypeId} {cs : Array Value} (h : Whole w g t cs) (hb : Below D w w') (hg : g < D) : Whole w' g t cs := by
  unfold Whole at *
  rw [hb.block _ hg]
  exact h
def fill (x : World) (g : Nat) (s : St) : World := (((((x.setCell ⟨g, 0, none⟩ (.bool s.a.w)).setCell ⟨g, 1, none⟩ (.int .i64 s.a.c)).setCell ⟨g, 2, none⟩ (.int .i64 s.a.d)).setCell ⟨g, 3, none⟩ (.bool s.b.w)).setCell ⟨g, 4, none⟩ (.int .i64 s.b.c)).setCell ⟨g, 5, none⟩ (.int .i64 s.b.d)
theorem fill_whole {x : World} {g : Nat} {s t : St} (h : Whole x g 24 (scs t)) : Whole (fill x g s) g 24 (scs s) :=
  (((((h.set_ 0 (.bool s.a.w)).set_ 1 (.int .i64 s.a.c)).set_ 2 (.int .i64 s.a.d)).set_ 3 (.bool s.b.w)).set_ 4 (.int .i64 s.b.c)).set_ 5 (.int .i64 s.b.d)
theorem fill_below {B : Nat} {a x : World} {g : Nat} {s : St} (h : Below B a x) (hg : B ≤ g) : Below B a (fill x g s) := (((((h.setCell hg _).setCell hg _).setCell hg _).setCell hg _).setCell hg _).setCell hg _
theorem fro6 {w : World} {g : Nat} {cs : Array Value} (h : Whole w g 24 cs) : w.frozen? ⟨g, 0, none⟩ = false ∧ w.frozen? ⟨g, 1, none⟩ = false ∧ w.frozen? ⟨g, 2, none⟩ = false ∧ w.frozen? ⟨g, 3, none⟩ = false ∧ w.frozen? ⟨g, 4, none⟩ = false ∧ w.frozen? ⟨g, 5, none⟩ = false := ⟨h.frozen 0, h.frozen 1, h.frozen 2, h.frozen 3, h.frozen 4, h.frozen 5⟩
/-- A slot's box. -/
def xcs (x : Slo) : Array Value := #[.bool x.w, .int .i64 x.c, .int .i64 x.d]
def fill3 (y : World) (g : Nat) (x : Slo) : World := ((y.setCell ⟨g, 0, none⟩ (.bool x.w)).setCell ⟨g, 1, none⟩ (.int .i64 x.c)).setCell ⟨g, 2, none⟩ (.int .i64 x.d)
theorem fill3_whole {y : World} {g : Nat} {x z : Slo} (h : Whole y g 23 (xcs z)) : Whole (fill3 y g x) g 23 (xcs x) := ((h.set_ 0 (.bool x.w)).set_ 1 (.int .i64 x.c)).set_ 2 (.int .i64 x.d)
theorem whole_other {w : World} {g : Nat} {t : TypeId} {cs : Array Value} (h : Whole w g t cs) {p : Addr} (hp : p.block ≠ g) (u : Value) : Whole (w.setCell p u) g t cs := by
  unfold Whole at *
  rw [heap_setCell_other _ _ _ _ (Ne.symm hp)]
  exact h
theorem whole_drew {w : World} {g : Nat} {t : TypeId} {cs : Array Value} (h : Whole w g t cs) : Whole w.drew g t cs := h
theorem fill3_other {y : World} {g b : Nat} {x : Slo} {t : TypeId} {cs : Array Value} (h : Whole y b t cs) (hne : g ≠ b) : Whole (fill3 y g x) b t cs := whole_other (whole_other (whole_other h hne _) hne _) hne _
theorem fill3_below {B : Nat} {a y : World} {g : Nat} {x : Slo} (h : Below B a y) (hg : B ≤ g) : Below B a (fill3 y g x) := ((h.setCell hg _).setCell hg _).setCell hg _
theorem three {w : World} {g : Nat} {x : Slo} (h : Whole w g 23 (xcs x)) : w.cell? ⟨g, 0, none⟩ = some (.bool x.w) ∧ w.cell? ⟨g, 1, none⟩ = some (.int .i64 x.c) ∧ w.cell? ⟨g, 2, none⟩ = some (.int .i64 x.d) := ⟨h.cell 0, h.cell 1, h.cell 2⟩
theorem fro3 {w : World} {g : Nat} {cs : Array Value} {t : TypeId} (h : Whole w g t cs) : w.frozen? ⟨g, 0, none⟩ = false ∧ w.frozen? ⟨g, 1, none⟩ = false ∧ w.frozen? ⟨g, 2, none⟩ = false := ⟨h.frozen 0, h.frozen 1, h.frozen 2⟩
set_option maxHeartbeats 12000000 in
theorem kwrite8 (s : St) (data : Int) (br : Bool) (w : World) : Calls Try.prog 8 #[sv s, .int .i64 data, .bool br] w (Wrote w (writeR s data br)) := by
  have B0 : Below w.heap.size w ((w.alloc (sbox s)).alloc (sbox st0)) := two_blocks w _ _
  have HR := Lib.hid (right11 s ((w.alloc (sbox s)).alloc (sbox st0)))
  have HX := Lib.hid (fun x (b : Below ((w.alloc (sbox s)).alloc (sbox st0)).heap.size ((w.alloc (sbox s)).alloc (sbox st0)) x) =>
    (show Below w.heap.size w x ∧ Whole x w.heap.size 24 (scs s) ∧ Whole x (w.heap.size + 1) 24 (scs st0) ∧ w.heap.size + 2 ≤ x.heap.size from
      ⟨B0.trans (b.mono B0.size), whole_below ((Whole.new w 24 (scs s)).alloc _) b (by simp; omega), whole_below (by have := Whole.new (w.alloc (sbox s)) 24 (scs st0); rw [World.size_alloc] at this; exact this) b (by simp), by have := b.size; simpa using this⟩))
  have HNW := Lib.hid (newer10 s)
  clear B0
  unfold Wrote
  rcases write_err s data br with ⟨h1, h2⟩ | ⟨h1, h2, h3⟩ | ⟨h1, h2, h3⟩
  · rw [h2]
    rw [h1] at HR
    unfold sv scs at HR ⊢
    unfold sbox scs at HR HX
    clear h1 h2
    go_enter Try.func8, Try.ntmps8
    go_wp2_with fail
    refine (HR.out).mono ?_; rintro e x1 ⟨rfl, b1⟩
    obtain ⟨B1, _, W2, hs⟩ := HX.out _ b1
    obtain ⟨c0, c1, c2, c3, c4, c5⟩ := six W2
    obtain ⟨f0, f1, f2, f3, f4, f5⟩ := fro6 W2
    have WF := Lib.hid (fill_whole (s := st0) W2)
    have BF := Lib.hid (fill_below (s := st0) B1 (Nat.le_succ _) (g := w.heap.size + 1))
    clear b1 B1 W2
    go_wp2_with fail
    refine bodyPost_ret (results_st rfl _ _ (w.heap.size + 1) st0 rfl WF.out) rfl ?_
    exact ⟨rfl, BF.out⟩
  · rw [h1] at HR
    have hri := right_iff.1 h1
    rcases newer_cases s with hn | hn | hn
    · exfalso
      unfold nextC at h2
      rw [if_pos hn] at h2
      omega
    · rw [hn] at HNW
      have hc : 1099511627776 < 1 + s.a.c := by unfold nextC cur at h2; rw [hn] at h2; simp at h2; omega
      rw [h3]
      obtain ⟨⟨wa, ca, da⟩, ⟨wb, cb, db⟩⟩ := s
      simp only at hc hri
      unfold sv at HR HNW ⊢
      have hb0 := hri.1
      clear h1 h2 h3 hn hri
      unfold scs at HR HNW ⊢
      unfold sbox scs at HR HX HNW
      go_enter Try.func8, Try.ntmps8
      go_wp2_with fail
      refine (HR.out).mono ?_; rintro e x1 ⟨rfl, b1⟩
      obtain ⟨B1, W1', W2', hs⟩ := HX.out _ b1
      have W1 : Whole x1 w.heap.size 24 (scs ⟨⟨wa, ca, da⟩, ⟨wb, cb, db⟩⟩) := W1'
      have W2 : Whole x1 (w.heap.size + 1) 24 (scs st0) := W2'
      obtain ⟨p0, p1, p2, p3, p4, p5⟩ := six (W1.alloc (.cells #[.bool true, .int .i64 1, .int .i64 data] 23))
      simp only at p0 p1 p2 p3 p4 p5
      clear b1 W1' W2'
      go_wp2_with fail
      refine (HNW.out _).mono ?_; rintro e x2 ⟨rfl, rfl⟩
      clear p0 p1 p2 p3 p4 p5
      have n1 : x1.heap.size ≠ w.heap.size := by omega
      have n2 : x1.heap.size ≠ w.heap.size + 1 := by omega
      have hx1 : w.heap.size ≤ x1.heap.size := by omega
      have hw1 : w.heap.size ≤ w.heap.size + 1 := by omega
      have HZ1 := Lib.hid (fun xb : Array Value => (W1.alloc (.cells xb 23)).alloc (.cells #[.bool wa, .int .i64 ca, .int .i64 da, .bool wb, .int .i64 cb, .int .i64 db] 24))
      have HZ2 := Lib.hid (fun xb : Array Value => (W2.alloc (.cells xb 23)).alloc (.cells #[.bool wa, .int .i64 ca, .int .i64 da, .bool wb, .int .i64 cb, .int .i64 db] 24))
      have HZB := Lib.hid (fun xb : Array Value => (B1.alloc B1.size (.cells xb 23)).alloc (Nat.le_trans B1.size (by simp)) (.cells #[.bool wa, .int .i64 ca, .int .i64 da, .bool wb, .int .i64 cb, .int .i64 db] 24))
      have X1 := (W1.alloc (.cells #[.bool true, .int .i64 1, .int .i64 data] 23)).alloc (.cells #[.bool wa, .int .i64 ca, .int .i64 da, .bool wb, .int .i64 cb, .int .i64 db] 24)
      have X3 : Whole _ x1.heap.size 23 (xcs ⟨true, 1, data⟩) := (Whole.new x1 23 #[.bool true, .int .i64 1, .int .i64 data]).alloc (.cells #[.bool wa, .int .i64 ca, .int .i64 da, .bool wb, .int .i64 cb, .int .i64 db] 24)
      have c1 : ((x1.alloc (.cells #[.bool true, .int .i64 1, .int .i64 data] 23)).alloc (.cells #[.bool wa, .int .i64 ca, .int .i64 da, .bool wb, .int .i64 cb, .int .i64 db] 24)).cell? ⟨w.heap.size, 1, none⟩ = some (.int .i64 ca) := X1.cell 1
      have k1 : ((x1.alloc (.cells #[.bool true, .int .i64 1, .int .i64 data] 23)).alloc (.cells #[.bool wa, .int .i64 ca, .int .i64 da, .bool wb, .int .i64 cb, .int .i64 db] 24)).cell? ⟨x1.heap.size, 1, none⟩ = some (.int .i64 1) := X3.cell 1
      have g1 : ((x1.alloc (.cells #[.bool true, .int .i64 1, .int .i64 data] 23)).alloc (.cells #[.bool wa, .int .i64 ca, .int .i64 da, .bool wb, .int .i64 cb, .int .i64 db] 24)).frozen? ⟨x1.heap.size, 1, none⟩ = false := X3.frozen 1
      have HY1 := Lib.hid ((W1.alloc (.cells #[.bool true, .int .i64 (1 + ca), .int .i64 data] 23)).alloc (.cells #[.bool wa, .int .i64 ca, .int .i64 da, .bool wb, .int .i64 cb, .int .i64 db] 24))
      have HY2 := Lib.hid ((W2.alloc (.cells #[.bool true, .int .i64 (1 + ca), .int .i64 data] 23)).alloc (.cells #[.bool wa, .int .i64 ca, .int .i64 da, .bool wb, .int .i64 cb, .int .i64 db] 24))
      have HYB := Lib.hid ((B1.alloc B1.size (.cells #[.bool true, .int .i64 (1 + ca), .int .i64 data] 23)).alloc (Nat.le_trans B1.size (by simp)) (.cells #[.bool wa, .int .i64 ca, .int .i64 da, .bool wb, .int .i64 cb, .int .i64 db] 24))
      clear X1 X3 B1 W1 W2 n1 n2 hs
      go_wp2_with fail
      go_region
      obtain ⟨d0, d1, d2, d3, d4, d5⟩ := six HY2.out
      obtain ⟨f0, f1, f2, f3, f4, f5⟩ := fro6 HY2.out
      have WF := Lib.hid (whole_drew (fill_whole (s := st0) HY2.out))
      have BF := Lib.hid (fill_below (s := st0) HYB.out hw1)
      simp only [st0, slo0] at d0 d1 d2 d3 d4 d5
      go_wp2_with fail
      refine bodyPost_ret (results_st rfl _ _ (w.heap.size + 1) st0 rfl WF.out) rfl ?_
      exact ⟨rfl, BF.out.drew⟩
    · rw [hn] at HNW
      have hc : 1099511627776 < 1 + s.b.c := by unfold nextC cur at h2; rw [hn] at h2; simp at h2; omega
      rw [h3]
      obtain ⟨⟨wa, ca, da⟩, ⟨wb, cb, db⟩⟩ := s
      simp only at hc hri
      unfold sv at HR HNW ⊢
      have hb0 := hri.2.1
      clear h1 h2 h3 hn hri
      unfold scs at HR HNW ⊢
      unfold sbox scs at HR HX HNW
      go_enter Try.func8, Try.ntmps8
      go_wp2_with fail
      refine (HR.out).mono ?_; rintro e x1 ⟨rfl, b1⟩
      obtain ⟨B1, W1', W2', hs⟩ := HX.out _ b1
      have W1 : Whole x1 w.heap.size 24 (scs ⟨⟨wa, ca, da⟩, ⟨wb, cb, db⟩⟩) := W1'
      have W2 : Whole x1 (w.heap.size + 1) 24 (scs st0) := W2'
      obtain ⟨p0, p1, p2, p3, p4, p5⟩ := six (W1.alloc (.cells #[.bool true, .int .i64 1, .int .i64 data] 23))
      simp only at p0 p1 p2 p3 p4 p5
      clear b1 W1' W2'
      go_wp2_with fail
      refine (HNW.out _).mono ?_; rintro e x2 ⟨rfl, rfl⟩
      clear p0 p1 p2 p3 p4 p5
      have n1 : x1.heap.size ≠ w.heap.size := by omega
      have n2 : x1.heap.size ≠ w.heap.size + 1 := by omega
      have hx1 : w.heap.size ≤ x1.heap.size := by omega
      have hw1 : w.heap.size ≤ w.heap.size + 1 := by omega
      have HZ1 := Lib.hid (fun xb : Array Value => (W1.alloc (.cells xb 23)).alloc (.cells #[.bool wa, .int .i64 ca, .int .i64 da, .bool wb, .int .i64 cb, .int .i64 db] 24))
      have HZ2 := Lib.hid (fun xb : Array Value => (W2.alloc (.cells xb 23)).alloc (.cells #[.bool wa, .int .i64 ca, .int .i64 da, .bool wb, .int .i64 cb, .int .i64 db] 24))
      have HZB := Lib.hid (fun xb : Array Value => (B1.alloc B1.size (.cells xb 23)).alloc (Nat.le_trans B1.size (by simp)) (.cells #[.bool wa, .int .i64 ca, .int .i64 da, .bool wb, .int .i64 cb, .int .i64 db] 24))
      have X1 := (W1.alloc (.cells #[.bool true, .int .i64 1, .int .i64 data] 23)).alloc (.cells #[.bool wa, .int .i64 ca, .int .i64 da, .bool wb, .int .i64 cb, .int .i64 db] 24)
      have X3 : Whole _ x1.heap.size 23 (xcs ⟨true, 1, data⟩) := (Whole.new x1 23 #[.bool true, .int .i64 1, .int .i64 data]).alloc (.cells #[.bool wa, .int .i64 ca, .int .i64 da, .bool wb, .int .i64 cb, .int .i64 db] 24)
      have c1 : ((x1.alloc (.cells #[.bool true, .int .i64 1, .int .i64 data] 23)).alloc (.cells #[.bool wa, .int .i64 ca, .int .i64 da, .bool wb, .int .i64 cb, .int .i64 db] 24)).cell? ⟨w.heap.size, 4, none⟩ = some (.int .i64 cb) := X1.cell 4
      have k1 : ((x1.alloc (.cells #[.bool true, .int .i64 1, .int .i64 data] 23)).alloc (.cells #[.bool wa, .int .i64 ca, .int .i64 da, .bool wb, .int .i64 cb, .int .i64 db] 24)).cell? ⟨x1.heap.size, 1, none⟩ = some (.int .i64 1) := X3.cell 1
      have g1 : ((x1.alloc (.cells #[.bool true, .int .i64 1, .int .i64 data] 23)).alloc (.cells #[.bool wa, .int .i64 ca, .int .i64 da, .bool wb, .int .i64 cb, .int .i64 db] 24)).frozen? ⟨x1.heap.size, 1, none⟩ = false := X3.frozen 1
      have HY1 := Lib.hid ((W1.alloc (.cells #[.bool true, .int .i64 (1 + cb), .int .i64 data] 23)).alloc (.cells #[.bool wa, .int .i64 ca, .int .i64 da, .bool wb, .int .i64 cb, .int .i64 db] 24))
      have HY2 := Lib.hid ((W2.alloc (.cells #[.bool true, .int .i64 (1 + cb), .int .i64 data] 23)).alloc (.cells #[.bool wa, .int .i64 ca, .int .i64 da, .bool wb, .int .i64 cb, .int .i64 db] 24))
      have HYB := Lib.hid ((B1.alloc B1.size (.cells #[.bool true, .int .i64 (1 + cb), .int .i64 data] 23)).alloc (Nat.le_trans B1.size (by simp)) (.cells #[.bool wa, .int .i64 ca, .int .i64 da, .bool wb, .int .i64 cb, .int .i64 db] 24))
      clear X1 X3 B1 W1 W2 n1 n2 hs
      go_wp2_with fail
      go_region
      obtain ⟨d0, d1, d2, d3, d4, d5⟩ := six HY2.out
      obtain ⟨f0, f1, f2, f3, f4, f5⟩ := fro6 HY2.out
      have WF := Lib.hid (whole_drew (fill_whole (s := st0) HY2.out))
      have BF := Lib.hid (fill_below (s := st0) HYB.out hw1)
      simp only [st0, slo0] at d0 d1 d2 d3 d4 d5
      go_wp2_with fail
      refine bodyPost_ret (results_st rfl _ _ (w.heap.size + 1) st0 rfl WF.out) rfl ?_
      exact ⟨rfl, BF.out.drew⟩
  · rw [h1] at HR
    have hri := right_iff.1 h1
    rcases newer_cases s with hn | hn | hn
    · cases br with
      | false =>
        rw [hn] at HNW
        have hR : writeR s data false = (⟨⟨true, 1, data⟩, s.b⟩, 0) := Prod.ext (by rw [(write_ok h3).2.2]; simp [hn, newS, nextC, cur, Int.add_comm]) h3
        rw [hR]
        obtain ⟨⟨wa, ca, da⟩, ⟨wb, cb, db⟩⟩ := s
        simp only at hri
        unfold sv at HR HNW ⊢
        clear h1 h2 h3 hn hri hR
        unfold scs at HR HNW ⊢
        unfold sbox scs at HR HX HNW
        go_enter Try.func8, Try.ntmps8
        go_wp2_with fail
        refine (HR.out).mono ?_; rintro e x1 ⟨rfl, b1⟩
        obtain ⟨B1, W1', W2', hs⟩ := HX.out _ b1
        have W1 : Whole x1 w.heap.size 24 (scs ⟨⟨wa, ca, da⟩, ⟨wb, cb, db⟩⟩) := W1'
        have W2 : Whole x1 (w.heap.size + 1) 24 (scs st0) := W2'
        obtain ⟨p0, p1, p2, p3, p4, p5⟩ := six (W1.alloc (.cells #[.bool true, .int .i64 1, .int .i64 data] 23))
        simp only at p0 p1 p2 p3 p4 p5
        clear b1 W1' W2'
        go_wp2_with fail
        refine (HNW.out _).mono ?_; rintro e x2 ⟨rfl, rfl⟩
        clear p0 p1 p2 p3 p4 p5
        have n1 : x1.heap.size ≠ w.heap.size := by omega
        have n2 : x1.heap.size ≠ w.heap.size + 1 := by omega
        have hx1 : w.heap.size ≤ x1.heap.size := by omega
        have hw1 : w.heap.size ≤ w.heap.size + 1 := by omega
        have HZ1 := Lib.hid (fun xb : Array Value => (W1.alloc (.cells xb 23)).alloc (.cells #[.bool wa, .int .i64 ca, .int .i64 da, .bool wb, .int .i64 cb, .int .i64 db] 24))
        have HZ2 := Lib.hid (fun xb : Array Value => (W2.alloc (.cells xb 23)).alloc (.cells #[.bool wa, .int .i64 ca, .int .i64 da, .bool wb, .int .i64 cb, .int .i64 db] 24))
        have HZB := Lib.hid (fun xb : Array Value => (B1.alloc B1.size (.cells xb 23)).alloc (Nat.le_trans B1.size (by simp)) (.cells #[.bool wa, .int .i64 ca, .int .i64 da, .bool wb, .int .i64 cb, .int .i64 db] 24))
        have HY1 := Lib.hid ((W1.alloc (.cells #[.bool true, .int .i64 1, .int .i64 data] 23)).alloc (.cells #[.bool wa, .int .i64 ca, .int .i64 da, .bool wb, .int .i64 cb, .int .i64 db] 24))
        have HY2 := Lib.hid ((W2.alloc (.cells #[.bool true, .int .i64 1, .int .i64 data] 23)).alloc (.cells #[.bool wa, .int .i64 ca, .int .i64 da, .bool wb, .int .i64 cb, .int .i64 db] 24))
        have HYB := Lib.hid ((B1.alloc B1.size (.cells #[.bool true, .int .i64 1, .int .i64 data] 23)).alloc (Nat.le_trans B1.size (by simp)) (.cells #[.bool wa, .int .i64 ca, .int .i64 da, .bool wb, .int .i64 cb, .int .i64 db] 24))
        skip
        skip
        have G1 : Whole ((x1.alloc (.cells #[.bool true, .int .i64 1, .int .i64 data] 23)).alloc (.cells #[.bool wa, .int .i64 ca, .int .i64 da, .bool wb, .int .i64 cb, .int .i64 db] 24)) w.heap.size 24 (scs ⟨⟨wa, ca, da⟩, ⟨wb, cb, db⟩⟩) := HZ1.out _
        have G2 : Whole ((x1.alloc (.cells #[.bool true, .int .i64 1, .int .i64 data] 23)).alloc (.cells #[.bool wa, .int .i64 ca, .int .i64 da, .bool wb, .int .i64 cb, .int .i64 db] 24)) (w.heap.size + 1) 24 (scs st0) := HZ2.out _
        have GB : Below w.heap.size w ((x1.alloc (.cells #[.bool true, .int .i64 1, .int .i64 data] 23)).alloc (.cells #[.bool wa, .int .i64 ca, .int .i64 da, .bool wb, .int .i64 cb, .int .i64 db] 24)) := HZB.out _
        have G3 : Whole ((x1.alloc (.cells #[.bool true, .int .i64 1, .int .i64 data] 23)).alloc (.cells #[.bool wa, .int .i64 ca, .int .i64 da, .bool wb, .int .i64 cb, .int .i64 db] 24)) x1.heap.size 23 #[.bool true, .int .i64 1, .int .i64 data] := (Whole.new x1 23 #[.bool true, .int .i64 1, .int .i64 data]).alloc _
        have g0 : ((x1.alloc (.cells #[.bool true, .int .i64 1, .int .i64 data] 23)).alloc (.cells #[.bool wa, .int .i64 ca, .int .i64 da, .bool wb, .int .i64 cb, .int .i64 db] 24)).frozen? ⟨x1.heap.size, 0, none⟩ = false := ((Whole.new x1 23 #[.bool true, .int .i64 1, .int .i64 data]).alloc _).frozen 0
        have g1' : ((x1.alloc (.cells #[.bool true, .int .i64 1, .int .i64 data] 23)).alloc (.cells #[.bool wa, .int .i64 ca, .int .i64 da, .bool wb, .int .i64 cb, .int .i64 db] 24)).frozen? ⟨x1.heap.size, 1, none⟩ = false := ((Whole.new x1 23 #[.bool true, .int .i64 1, .int .i64 data]).alloc _).frozen 1
        have g2 : ((x1.alloc (.cells #[.bool true, .int .i64 1, .int .i64 data] 23)).alloc (.cells #[.bool wa, .int .i64 ca, .int .i64 da, .bool wb, .int .i64 cb, .int .i64 db] 24)).frozen? ⟨x1.heap.size, 2, none⟩ = false := ((Whole.new x1 23 #[.bool true, .int .i64 1, .int .i64 data]).alloc _).frozen 2
        obtain ⟨d0, d1, d2, d3, d4, d5⟩ := six G2
        obtain ⟨f0, f1, f2, f3, f4, f5⟩ := fro6 G2
        obtain ⟨q0, q1, q2, q3, q4, q5⟩ := six G1
        have r0 := G3.cell 0
        have r1 := G3.cell 1
        have r2 := G3.cell 2
        have WF := Lib.hid ((fill_whole (s := ⟨⟨true, 1, data⟩, ⟨wb, cb, db⟩⟩) G2))
        have BF := Lib.hid (fill_below (s := ⟨⟨true, 1, data⟩, ⟨wb, cb, db⟩⟩) GB hw1)
        simp only [st0, slo0] at d0 d1 d2 d3 d4 d5
        simp at r0 r1 r2
        simp only at q0 q1 q2 q3 q4 q5
        clear G1 G2 G3 GB
        go_wp2_with fail
        refine bodyPost_ret (results_st rfl _ _ (w.heap.size + 1) ⟨⟨true, 1, data⟩, ⟨wb, cb, db⟩⟩ rfl WF.out) rfl ?_
        exact ⟨rfl, BF.out⟩
      | true =>
        rw [hn] at HNW
        have hR : writeR s data true = (⟨slo0, s.b⟩, 0) := Prod.ext (by rw [(write_ok h3).2.2]; simp [hn, newS, nextC, cur, Int.add_comm]) h3
        rw [hR]
        obtain ⟨⟨wa, ca, da⟩, ⟨wb, cb, db⟩⟩ := s
        simp only at hri
        unfold sv at HR HNW ⊢
        clear h1 h2 h3 hn hri hR
        unfold scs at HR HNW ⊢
        unfold sbox scs at HR HX HNW
        go_enter Try.func8, Try.ntmps8
        go_wp2_with fail
        refine (HR.out).mono ?_; rintro e x1 ⟨rfl, b1⟩
        obtain ⟨B1, W1', W2', hs⟩ := HX.out _ b1
        have W1 : Whole x1 w.heap.size 24 (scs ⟨⟨wa, ca, da⟩, ⟨wb, cb, db⟩⟩) := W1'
        have W2 : Whole x1 (w.heap.size + 1) 24 (scs st0) := W2'
        obtain ⟨p0, p1, p2, p3, p4, p5⟩ := six (W1.alloc (.cells #[.bool true, .int .i64 1, .int .i64 data] 23))
        simp only at p0 p1 p2 p3 p4 p5
        clear b1 W1' W2'
        go_wp2_with fail
        refine (HNW.out _).mono ?_; rintro e x2 ⟨rfl, rfl⟩
        clear p0 p1 p2 p3 p4 p5
        have n1 : x1.heap.size ≠ w.heap.size := by omega
        have n2 : x1.heap.size ≠ w.heap.size + 1 := by omega
        have hx1 : w.heap.size ≤ x1.heap.size := by omega
        have hw1 : w.heap.size ≤ w.heap.size + 1 := by omega
        have HZ1 := Lib.hid (fun xb : Array Value => (W1.alloc (.cells xb 23)).alloc (.cells #[.bool wa, .int .i64 ca, .int .i64 da, .bool wb, .int .i64 cb, .int .i64 db] 24))
        have HZ2 := Lib.hid (fun xb : Array Value => (W2.alloc (.cells xb 23)).alloc (.cells #[.bool wa, .int .i64 ca, .int .i64 da, .bool wb, .int .i64 cb, .int .i64 db] 24))
        have HZB := Lib.hid (fun xb : Array Value => (B1.alloc B1.size (.cells xb 23)).alloc (Nat.le_trans B1.size (by simp)) (.cells #[.bool wa, .int .i64 ca, .int .i64 da, .bool wb, .int .i64 cb, .int .i64 db] 24))
        have HY1 := Lib.hid ((W1.alloc (.cells #[.bool true, .int .i64 1, .int .i64 data] 23)).alloc (.cells #[.bool wa, .int .i64 ca, .int .i64 da, .bool wb, .int .i64 cb, .int .i64 db] 24))
        have HY2 := Lib.hid ((W2.alloc (.cells #[.bool true, .int .i64 1, .int .i64 data] 23)).alloc (.cells #[.bool wa, .int .i64 ca, .int .i64 da, .bool wb, .int .i64 cb, .int .i64 db] 24))
        have HYB := Lib.hid ((B1.alloc B1.size (.cells #[.bool true, .int .i64 1, .int .i64 data] 23)).alloc (Nat.le_trans B1.size (by simp)) (.cells #[.bool wa, .int .i64 ca, .int .i64 da, .bool wb, .int .i64 cb, .int .i64 db] 24))
        skip
        skip
        have G1 : Whole ((x1.alloc (.cells #[.bool false, .int .i64 0, .int .i64 0] 23)).alloc (.cells #[.bool wa, .int .i64 ca, .int .i64 da, .bool wb, .int .i64 cb, .int .i64 db] 24)) w.heap.size 24 (scs ⟨⟨wa, ca, da⟩, ⟨wb, cb, db⟩⟩) := HZ1.out _
        have G2 : Whole ((x1.alloc (.cells #[.bool false, .int .i64 0, .int .i64 0] 23)).alloc (.cells #[.bool wa, .int .i64 ca, .int .i64 da, .bool wb, .int .i64 cb, .int .i64 db] 24)) (w.heap.size + 1) 24 (scs st0) := HZ2.out _
        have GB : Below w.heap.size w ((x1.alloc (.cells #[.bool false, .int .i64 0, .int .i64 0] 23)).alloc (.cells #[.bool wa, .int .i64 ca, .int .i64 da, .bool wb, .int .i64 cb, .int .i64 db] 24)) := HZB.out _
        have G3 : Whole ((x1.alloc (.cells #[.bool false, .int .i64 0, .int .i64 0] 23)).alloc (.cells #[.bool wa, .int .i64 ca, .int .i64 da, .bool wb, .int .i64 cb, .int .i64 db] 24)) x1.heap.size 23 #[.bool false, .int .i64 0, .int .i64 0] := (Whole.new x1 23 #[.bool false, .int .i64 0, .int .i64 0]).alloc _
        have g0 : ((x1.alloc (.cells #[.bool true, .int .i64 1, .int .i64 data] 23)).alloc (.cells #[.bool wa, .int .i64 ca, .int .i64 da, .bool wb, .int .i64 cb, .int .i64 db] 24)).frozen? ⟨x1.heap.size, 0, none⟩ = false := ((Whole.new x1 23 #[.bool true, .int .i64 1, .int .i64 data]).alloc _).frozen 0
        have g1' : ((x1.alloc (.cells #[.bool true, .int .i64 1, .int .i64 data] 23)).alloc (.cells #[.bool wa, .int .i64 ca, .int .i64 da, .bool wb, .int .i64 cb, .int .i64 db] 24)).frozen? ⟨x1.heap.size, 1, none⟩ = false := ((Whole.new x1 23 #[.bool true, .int .i64 1, .int .i64 data]).alloc _).frozen 1
        have g2 : ((x1.alloc (.cells #[.bool true, .int .i64 1, .int .i64 data] 23)).alloc (.cells #[.bool wa, .int .i64 ca, .int .i64 da, .bool wb, .int .i64 cb, .int .i64 db] 24)).frozen? ⟨x1.heap.size, 2, none⟩ = false := ((Whole.new x1 23 #[.bool true, .int .i64 1, .int .i64 data]).alloc _).frozen 2
        obtain ⟨d0, d1, d2, d3, d4, d5⟩ := six G2
        obtain ⟨f0, f1, f2, f3, f4, f5⟩ := fro6 G2
        obtain ⟨q0, q1, q2, q3, q4, q5⟩ := six G1
        have r0 := G3.cell 0
        have r1 := G3.cell 1
        have r2 := G3.cell 2
        have WF := Lib.hid ((fill_whole (s := ⟨slo0, ⟨wb, cb, db⟩⟩) G2))
        have BF := Lib.hid (fill_below (s := ⟨slo0, ⟨wb, cb, db⟩⟩) GB hw1)
        simp only [st0, slo0] at d0 d1 d2 d3 d4 d5
        simp at r0 r1 r2
        simp only at q0 q1 q2 q3 q4 q5
        clear G1 G2 G3 GB
        go_wp2_with fail
        refine bodyPost_ret (results_st rfl _ _ (w.heap.size + 1) ⟨slo0, ⟨wb, cb, db⟩⟩ rfl WF.out) rfl ?_
        exact ⟨rfl, BF.out⟩
    · cases br with
      | false =>
        rw [hn] at HNW
        have hR : writeR s data false = (⟨s.a, ⟨true, 1 + s.a.c, data⟩⟩, 0) := Prod.ext (by rw [(write_ok h3).2.2]; simp [hn, newS, nextC, cur, Int.add_comm]) h3
        rw [hR]
        have hc : 1 + s.a.c ≤ 1099511627776 := by unfold nextC cur at h2; rw [hn] at h2; simp at h2; omega
        obtain ⟨⟨wa, ca, da⟩, ⟨wb, cb, db⟩⟩ := s
        simp only at hri hc
        unfold sv at HR HNW ⊢
        have hb0 := hri.1
        have hnc : decide (1099511627776 < 1 + ca) = false := decide_eq_false (by omega)
        clear h1 h2 h3 hn hri hR
        unfold scs at HR HNW ⊢
        unfold sbox scs at HR HX HNW
        go_enter Try.func8, Try.ntmps8
        go_wp2_with fail
        refine (HR.out).mono ?_; rintro e x1 ⟨rfl, b1⟩
        obtain ⟨B1, W1', W2', hs⟩ := HX.out _ b1
        have W1 : Whole x1 w.heap.size 24 (scs ⟨⟨wa, ca, da⟩, ⟨wb, cb, db⟩⟩) := W1'
        have W2 : Whole x1 (w.heap.size + 1) 24 (scs st0) := W2'
        obtain ⟨p0, p1, p2, p3, p4, p5⟩ := six (W1.alloc (.cells #[.bool true, .int .i64 1, .int .i64 data] 23))
        simp only at p0 p1 p2 p3 p4 p5
        clear b1 W1' W2'
        go_wp2_with fail
        refine (HNW.out _).mono ?_; rintro e x2 ⟨rfl, rfl⟩
        clear p0 p1 p2 p3 p4 p5
        have n1 : x1.heap.size ≠ w.heap.size := by omega
        have n2 : x1.heap.size ≠ w.heap.size + 1 := by omega
        have hx1 : w.heap.size ≤ x1.heap.size := by omega
        have hw1 : w.heap.size ≤ w.heap.size + 1 := by omega
        have HZ1 := Lib.hid (fun xb : Array Value => (W1.alloc (.cells xb 23)).alloc (.cells #[.bool wa, .int .i64 ca, .int .i64 da, .bool wb, .int .i64 cb, .int .i64 db] 24))
        have HZ2 := Lib.hid (fun xb : Array Value => (W2.alloc (.cells xb 23)).alloc (.cells #[.bool wa, .int .i64 ca, .int .i64 da, .bool wb, .int .i64 cb, .int .i64 db] 24))
        have HZB := Lib.hid (fun xb : Array Value => (B1.alloc B1.size (.cells xb 23)).alloc (Nat.le_trans B1.size (by simp)) (.cells #[.bool wa, .int .i64 ca, .int .i64 da, .bool wb, .int .i64 cb, .int .i64 db] 24))
        have X1 := (W1.alloc (.cells #[.bool true, .int .i64 1, .int .i64 data] 23)).alloc (.cells #[.bool wa, .int .i64 ca, .int .i64 da, .bool wb, .int .i64 cb, .int .i64 db] 24)
        have X3 : Whole _ x1.heap.size 23 (xcs ⟨true, 1, data⟩) := (Whole.new x1 23 #[.bool true, .int .i64 1, .int .i64 data]).alloc (.cells #[.bool wa, .int .i64 ca, .int .i64 da, .bool wb, .int .i64 cb, .int .i64 db] 24)
        have c1 : ((x1.alloc (.cells #[.bool true, .int .i64 1, .int .i64 data] 23)).alloc (.cells #[.bool wa, .int .i64 ca, .int .i64 da, .bool wb, .int .i64 cb, .int .i64 db] 24)).cell? ⟨w.heap.size, 1, none⟩ = some (.int .i64 ca) := X1.cell 1
        have k1 : ((x1.alloc (.cells #[.bool true, .int .i64 1, .int .i64 data] 23)).alloc (.cells #[.bool wa, .int .i64 ca, .int .i64 da, .bool wb, .int .i64 cb, .int .i64 db] 24)).cell? ⟨x1.heap.size, 1, none⟩ = some (.int .i64 1) := X3.cell 1
        have g1 : ((x1.alloc (.cells #[.bool true, .int .i64 1, .int .i64 data] 23)).alloc (.cells #[.bool wa, .int .i64 ca, .int .i64 da, .bool wb, .int .i64 cb, .int .i64 db] 24)).frozen? ⟨x1.heap.size, 1, none⟩ = false := X3.frozen 1
        have HY1 := Lib.hid ((W1.alloc (.cells #[.bool true, .int .i64 (1 + ca), .int .i64 data] 23)).alloc (.cells #[.bool wa, .int .i64 ca, .int .i64 da, .bool wb, .int .i64 cb, .int .i64 db] 24))
        have HY2 := Lib.hid ((W2.alloc (.cells #[.bool true, .int .i64 (1 + ca), .int .i64 data] 23)).alloc (.cells #[.bool wa, .int .i64 ca, .int .i64 da, .bool wb, .int .i64 cb, .int .i64 db] 24))
        have HYB := Lib.hid ((B1.alloc B1.size (.cells #[.bool true, .int .i64 (1 + ca), .int .i64 data] 23)).alloc (Nat.le_trans B1.size (by simp)) (.cells #[.bool wa, .int .i64 ca, .int .i64 da, .bool wb, .int .i64 cb, .int .i64 db] 24))
        clear X1 X3 B1 W1 W2
        go_wp2_with fail
        go_region
        clear c1 k1 g1
        have G1 : Whole ((x1.alloc (.cells #[.bool true, .int .i64 (1 + ca), .int .i64 data] 23)).alloc (.cells #[.bool wa, .int .i64 ca, .int .i64 da, .bool wb, .int .i64 cb, .int .i64 db] 24)) w.heap.size 24 (scs ⟨⟨wa, ca, da⟩, ⟨wb, cb, db⟩⟩) := HZ1.out _
        have G2 : Whole ((x1.alloc (.cells #[.bool true, .int .i64 (1 + ca), .int .i64 data] 23)).alloc (.cells #[.bool wa, .int .i64 ca, .int .i64 da, .bool wb, .int .i64 cb, .int .i64 db] 24)) (w.heap.size + 1) 24 (scs st0) := HZ2.out _
        have GB : Below w.heap.size w ((x1.alloc (.cells #[.bool true, .int .i64 (1 + ca), .int .i64 data] 23)).alloc (.cells #[.bool wa, .int .i64 ca, .int .i64 da, .bool wb, .int .i64 cb, .int .i64 db] 24)) := HZB.out _
        have G3 : Whole ((x1.alloc (.cells #[.bool true, .int .i64 (1 + ca), .int .i64 data] 23)).alloc (.cells #[.bool wa, .int .i64 ca, .int .i64 da, .bool wb, .int .i64 cb, .int .i64 db] 24)) x1.heap.size 23 #[.bool true, .int .i64 (1 + ca), .int .i64 data] := (Whole.new x1 23 #[.bool true, .int .i64 (1 + ca), .int .i64 data]).alloc _
        have g0 : ((x1.alloc (.cells #[.bool true, .int .i64 (1 + ca), .int .i64 data] 23)).alloc (.cells #[.bool wa, .int .i64 ca, .int .i64 da, .bool wb, .int .i64 cb, .int .i64 db] 24)).frozen? ⟨x1.heap.size, 0, none⟩ = false := ((Whole.new x1 23 #[.bool true, .int .i64 (1 + ca), .int .i64 data]).alloc _).frozen 0
        have g1' : ((x1.alloc (.cells #[.bool true, .int .i64 (1 + ca), .int .i64 data] 23)).alloc (.cells #[.bool wa, .int .i64 ca, .int .i64 da, .bool wb, .int .i64 cb, .int .i64 db] 24)).frozen? ⟨x1.heap.size, 1, none⟩ = false := ((Whole.new x1 23 #[.bool true, .int .i64 (1 + ca), .int .i64 data]).alloc _).frozen 1
        have g2 : ((x1.alloc (.cells #[.bool true, .int .i64 (1 + ca), .int .i64 data] 23)).alloc (.cells #[.bool wa, .int .i64 ca, .int .i64 da, .bool wb, .int .i64 cb, .int .i64 db] 24)).frozen? ⟨x1.heap.size, 2, none⟩ = false := ((Whole.new x1 23 #[.bool true, .int .i64 (1 + ca), .int .i64 data]).alloc _).frozen 2
        obtain ⟨d0, d1, d2, d3, d4, d5⟩ := six G2
        obtain ⟨f0, f1, f2, f3, f4, f5⟩ := fro6 G2
        obtain ⟨q0, q1, q2, q3, q4, q5⟩ := six G1
        have r0 := G3.cell 0
        have r1 := G3.cell 1
        have r2 := G3.cell 2
        have WF := Lib.hid (whole_drew (fill_whole (s := ⟨⟨wa, ca, da⟩, ⟨true, 1 + ca, data⟩⟩) G2))
        have BF := Lib.hid (fill_below (s := ⟨⟨wa, ca, da⟩, ⟨true, 1 + ca, data⟩⟩) GB hw1)
        simp only [st0, slo0] at d0 d1 d2 d3 d4 d5
        simp at r0 r1 r2
        simp only at q0 q1 q2 q3 q4 q5
        clear G1 G2 G3 GB
        go_wp2_with fail
        refine bodyPost_ret (results_st rfl _ _ (w.heap.size + 1) ⟨⟨wa, ca, da⟩, ⟨true, 1 + ca, data⟩⟩ rfl WF.out) rfl ?_
        exact ⟨rfl, BF.out.drew⟩
      | true =>
        rw [hn] at HNW
        have hR : writeR s data true = (⟨s.a, slo0⟩, 0) := Prod.ext (by rw [(write_ok h3).2.2]; simp [hn, newS, nextC, cur, Int.add_comm]) h3
        rw [hR]
        have hc : 1 + s.a.c ≤ 1099511627776 := by unfold nextC cur at h2; rw [hn] at h2; simp at h2; omega
        obtain ⟨⟨wa, ca, da⟩, ⟨wb, cb, db⟩⟩ := s
        simp only at hri hc
        unfold sv at HR HNW ⊢
        have hb0 := hri.1
        have hnc : decide (1099511627776 < 1 + ca) = false := decide_eq_false (by omega)
        clear h1 h2 h3 hn hri hR
        unfold scs at HR HNW ⊢
        unfold sbox scs at HR HX HNW
        go_enter Try.func8, Try.ntmps8
        go_wp2_with fail
        refine (HR.out).mono ?_; rintro e x1 ⟨rfl, b1⟩
        obtain ⟨B1, W1', W2', hs⟩ := HX.out _ b1
        have W1 : Whole x1 w.heap.size 24 (scs ⟨⟨wa, ca, da⟩, ⟨wb, cb, db⟩⟩) := W1'
        have W2 : Whole x1 (w.heap.size + 1) 24 (scs st0) := W2'
        obtain ⟨p0, p1, p2, p3, p4, p5⟩ := six (W1.alloc (.cells #[.bool true, .int .i64 1, .int .i64 data] 23))
        simp only at p0 p1 p2 p3 p4 p5
        clear b1 W1' W2'
        go_wp2_with fail
        refine (HNW.out _).mono ?_; rintro e x2 ⟨rfl, rfl⟩
        clear p0 p1 p2 p3 p4 p5
        have n1 : x1.heap.size ≠ w.heap.size := by omega
        have n2 : x1.heap.size ≠ w.heap.size + 1 := by omega
        have hx1 : w.heap.size ≤ x1.heap.size := by omega
        have hw1 : w.heap.size ≤ w.heap.size + 1 := by omega
        have HZ1 := Lib.hid (fun xb : Array Value => (W1.alloc (.cells xb 23)).alloc (.cells #[.bool wa, .int .i64 ca, .int .i64 da, .bool wb, .int .i64 cb, .int .i64 db] 24))
        have HZ2 := Lib.hid (fun xb : Array Value => (W2.alloc (.cells xb 23)).alloc (.cells #[.bool wa, .int .i64 ca, .int .i64 da, .bool wb, .int .i64 cb, .int .i64 db] 24))
        have HZB := Lib.hid (fun xb : Array Value => (B1.alloc B1.size (.cells xb 23)).alloc (Nat.le_trans B1.size (by simp)) (.cells #[.bool wa, .int .i64 ca, .int .i64 da, .bool wb, .int .i64 cb, .int .i64 db] 24))
        have X1 := (W1.alloc (.cells #[.bool true, .int .i64 1, .int .i64 data] 23)).alloc (.cells #[.bool wa, .int .i64 ca, .int .i64 da, .bool wb, .int .i64 cb, .int .i64 db] 24)
        have X3 : Whole _ x1.heap.size 23 (xcs ⟨true, 1, data⟩) := (Whole.new x1 23 #[.bool true, .int .i64 1, .int .i64 data]).alloc (.cells #[.bool wa, .int .i64 ca, .int .i64 da, .bool wb, .int .i64 cb, .int .i64 db] 24)
        have c1 : ((x1.alloc (.cells #[.bool true, .int .i64 1, .int .i64 data] 23)).alloc (.cells #[.bool wa, .int .i64 ca, .int .i64 da, .bool wb, .int .i64 cb, .int .i64 db] 24)).cell? ⟨w.heap.size, 1, none⟩ = some (.int .i64 ca) := X1.cell 1
        have k1 : ((x1.alloc (.cells #[.bool true, .int .i64 1, .int .i64 data] 23)).alloc (.cells #[.bool wa, .int .i64 ca, .int .i64 da, .bool wb, .int .i64 cb, .int .i64 db] 24)).cell? ⟨x1.heap.size, 1, none⟩ = some (.int .i64 1) := X3.cell 1
        have g1 : ((x1.alloc (.cells #[.bool true, .int .i64 1, .int .i64 data] 23)).alloc (.cells #[.bool wa, .int .i64 ca, .int .i64 da, .bool wb, .int .i64 cb, .int .i64 db] 24)).frozen? ⟨x1.heap.size, 1, none⟩ = false := X3.frozen 1
        have HY1 := Lib.hid ((W1.alloc (.cells #[.bool true, .int .i64 (1 + ca), .int .i64 data] 23)).alloc (.cells #[.bool wa, .int .i64 ca, .int .i64 da, .bool wb, .int .i64 cb, .int .i64 db] 24))
        have HY2 := Lib.hid ((W2.alloc (.cells #[.bool true, .int .i64 (1 + ca), .int .i64 data] 23)).alloc (.cells #[.bool wa, .int .i64 ca, .int .i64 da, .bool wb, .int .i64 cb, .int .i64 db] 24))
        have HYB := Lib.hid ((B1.alloc B1.size (.cells #[.bool true, .int .i64 (1 + ca), .int .i64 data] 23)).alloc (Nat.le_trans B1.size (by simp)) (.cells #[.bool wa, .int .i64 ca, .int .i64 da, .bool wb, .int .i64 cb, .int .i64 db] 24))
        clear X1 X3 B1 W1 W2
        go_wp2_with fail
        go_region
        clear c1 k1 g1
        have G1 : Whole ((x1.alloc (.cells #[.bool false, .int .i64 0, .int .i64 0] 23)).alloc (.cells #[.bool wa, .int .i64 ca, .int .i64 da, .bool wb, .int .i64 cb, .int .i64 db] 24)) w.heap.size 24 (scs ⟨⟨wa, ca, da⟩, ⟨wb, cb, db⟩⟩) := HZ1.out _
        have G2 : Whole ((x1.alloc (.cells #[.bool false, .int .i64 0, .int .i64 0] 23)).alloc (.cells #[.bool wa, .int .i64 ca, .int .i64 da, .bool wb, .int .i64 cb, .int .i64 db] 24)) (w.heap.size + 1) 24 (scs st0) := HZ2.out _
        have GB : Below w.heap.size w ((x1.alloc (.cells #[.bool false, .int .i64 0, .int .i64 0] 23)).alloc (.cells #[.bool wa, .int .i64 ca, .int .i64 da, .bool wb, .int .i64 cb, .int .i64 db] 24)) := HZB.out _
        have G3 : Whole ((x1.alloc (.cells #[.bool false, .int .i64 0, .int .i64 0] 23)).alloc (.cells #[.bool wa, .int .i64 ca, .int .i64 da, .bool wb, .int .i64 cb, .int .i64 db] 24)) x1.heap.size 23 #[.bool false, .int .i64 0, .int .i64 0] := (Whole.new x1 23 #[.bool false, .int .i64 0, .int .i64 0]).alloc _
        have g0 : ((x1.alloc (.cells #[.bool true, .int .i64 (1 + ca), .int .i64 data] 23)).alloc (.cells #[.bool wa, .int .i64 ca, .int .i64 da, .bool wb, .int .i64 cb, .int .i64 db] 24)).frozen? ⟨x1.heap.size, 0, none⟩ = false := ((Whole.new x1 23 #[.bool true, .int .i64 (1 + ca), .int .i64 data]).alloc _).frozen 0
        have g1' : ((x1.alloc (.cells #[.bool true, .int .i64 (1 + ca), .int .i64 data] 23)).alloc (.cells #[.bool wa, .int .i64 ca, .int .i64 da, .bool wb, .int .i64 cb, .int .i64 db] 24)).frozen? ⟨x1.heap.size, 1, none⟩ = false := ((Whole.new x1 23 #[.bool true, .int .i64 (1 + ca), .int .i64 data]).alloc _).frozen 1
        have g2 : ((x1.alloc (.cells #[.bool true, .int .i64 (1 + ca), .int .i64 data] 23)).alloc (.cells #[.bool wa, .int .i64 ca, .int .i64 da, .bool wb, .int .i64 cb, .int .i64 db] 24)).frozen? ⟨x1.heap.size, 2, none⟩ = false := ((Whole.new x1 23 #[.bool true, .int .i64 (1 + ca), .int .i64 data]).alloc _).frozen 2
        obtain ⟨d0, d1, d2, d3, d4, d5⟩ := six G2
        obtain ⟨f0, f1, f2, f3, f4, f5⟩ := fro6 G2
        obtain ⟨q0, q1, q2, q3, q4, q5⟩ := six G1
        have r0 := G3.cell 0
        have r1 := G3.cell 1
        have r2 := G3.cell 2
        have WF := Lib.hid (whole_drew (fill_whole (s := ⟨⟨wa, ca, da⟩, slo0⟩) G2))
        have BF := Lib.hid (fill_below (s := ⟨⟨wa, ca, da⟩, slo0⟩) GB hw1)
        simp only [st0, slo0] at d0 d1 d2 d3 d4 d5
        simp at r0 r1 r2
        simp only at q0 q1 q2 q3 q4 q5
        clear G1 G2 G3 GB
        go_wp2_with fail
        refine bodyPost_ret (results_st rfl _ _ (w.heap.size + 1) ⟨⟨wa, ca, da⟩, slo0⟩ rfl WF.out) rfl ?_
        exact ⟨rfl, BF.out.drew⟩
    · cases br with
      | false =>
        rw [hn] at HNW
        have hR : writeR s data false = (⟨⟨true, 1 + s.b.c, data⟩, s.b⟩, 0) := Prod.ext (by rw [(write_ok h3).2.2]; simp [hn, newS, nextC, cur, Int.add_comm]) h3
        rw [hR]
        have hc : 1 + s.b.c ≤ 1099511627776 := by unfold nextC cur at h2; rw [hn] at h2; simp at h2; omega
        obtain ⟨⟨wa, ca, da⟩, ⟨wb, cb, db⟩⟩ := s
        simp only at hri hc
        unfold sv at HR HNW ⊢
        have hb0 := hri.2.1
        have hnc : decide (1099511627776 < 1 + cb) = false := decide_eq_false (by omega)
        clear h1 h2 h3 hn hri hR
        unfold scs at HR HNW ⊢
        unfold sbox scs at HR HX HNW
        go_enter Try.func8, Try.ntmps8
        go_wp2_with fail
        refine (HR.out).mono ?_; rintro e x1 ⟨rfl, b1⟩
        obtain ⟨B1, W1', W2', hs⟩ := HX.out _ b1
        have W1 : Whole x1 w.heap.size 24 (scs ⟨⟨wa, ca, da⟩, ⟨wb, cb, db⟩⟩) := W1'
        have W2 : Whole x1 (w.heap.size + 1) 24 (scs st0) := W2'
        obtain ⟨p0, p1, p2, p3, p4, p5⟩ := six (W1.alloc (.cells #[.bool true, .int .i64 1, .int .i64 data] 23))
        simp only at p0 p1 p2 p3 p4 p5
        clear b1 W1' W2'
        go_wp2_with fail
        refine (HNW.out _).mono ?_; rintro e x2 ⟨rfl, rfl⟩
        clear p0 p1 p2 p3 p4 p5
        have n1 : x1.heap.size ≠ w.heap.size := by omega
        have n2 : x1.heap.size ≠ w.heap.size + 1 := by omega
        have hx1 : w.heap.size ≤ x1.heap.size := by omega
        have hw1 : w.heap.size ≤ w.heap.size + 1 := by omega
        have HZ1 := Lib.hid (fun xb : Array Value => (W1.alloc (.cells xb 23)).alloc (.cells #[.bool wa, .int .i64 ca, .int .i64 da, .bool wb, .int .i64 cb, .int .i64 db] 24))
        have HZ2 := Lib.hid (fun xb : Array Value => (W2.alloc (.cells xb 23)).alloc (.cells #[.bool wa, .int .i64 ca, .int .i64 da, .bool wb, .int .i64 cb, .int .i64 db] 24))
        have HZB := Lib.hid (fun xb : Array Value => (B1.alloc B1.size (.cells xb 23)).alloc (Nat.le_trans B1.size (by simp)) (.cells #[.bool wa, .int .i64 ca, .int .i64 da, .bool wb, .int .i64 cb, .int .i64 db] 24))
        have X1 := (W1.alloc (.cells #[.bool true, .int .i64 1, .int .i64 data] 23)).alloc (.cells #[.bool wa, .int .i64 ca, .int .i64 da, .bool wb, .int .i64 cb, .int .i64 db] 24)
        have X3 : Whole _ x1.heap.size 23 (xcs ⟨true, 1, data⟩) := (Whole.new x1 23 #[.bool true, .int .i64 1, .int .i64 data]).alloc (.cells #[.bool wa, .int .i64 ca, .int .i64 da, .bool wb, .int .i64 cb, .int .i64 db] 24)
        have c1 : ((x1.alloc (.cells #[.bool true, .int .i64 1, .int .i64 data] 23)).alloc (.cells #[.bool wa, .int .i64 ca, .int .i64 da, .bool wb, .int .i64 cb, .int .i64 db] 24)).cell? ⟨w.heap.size, 4, none⟩ = some (.int .i64 cb) := X1.cell 4
        have k1 : ((x1.alloc (.cells #[.bool true, .int .i64 1, .int .i64 data] 23)).alloc (.cells #[.bool wa, .int .i64 ca, .int .i64 da, .bool wb, .int .i64 cb, .int .i64 db] 24)).cell? ⟨x1.heap.size, 1, none⟩ = some (.int .i64 1) := X3.cell 1
        have g1 : ((x1.alloc (.cells #[.bool true, .int .i64 1, .int .i64 data] 23)).alloc (.cells #[.bool wa, .int .i64 ca, .int .i64 da, .bool wb, .int .i64 cb, .int .i64 db] 24)).frozen? ⟨x1.heap.size, 1, none⟩ = false := X3.frozen 1
        have HY1 := Lib.hid ((W1.alloc (.cells #[.bool true, .int .i64 (1 + cb), .int .i64 data] 23)).alloc (.cells #[.bool wa, .int .i64 ca, .int .i64 da, .bool wb, .int .i64 cb, .int .i64 db] 24))
        have HY2 := Lib.hid ((W2.alloc (.cells #[.bool true, .int .i64 (1 + cb), .int .i64 data] 23)).alloc (.cells #[.bool wa, .int .i64 ca, .int .i64 da, .bool wb, .int .i64 cb, .int .i64 db] 24))
        have HYB := Lib.hid ((B1.alloc B1.size (.cells #[.bool true, .int .i64 (1 + cb), .int .i64 data] 23)).alloc (Nat.le_trans B1.size (by simp)) (.cells #[.bool wa, .int .i64 ca, .int .i64 da, .bool wb, .int .i64 cb, .int .i64 db] 24))
        clear X1 X3 B1 W1 W2
        go_wp2_with fail
        go_region
        clear c1 k1 g1
        have G1 : Whole ((x1.alloc (.cells #[.bool true, .int .i64 (1 + cb), .int .i64 data] 23)).alloc (.cells #[.bool wa, .int .i64 ca, .int .i64 da, .bool wb, .int .i64 cb, .int .i64 db] 24)) w.heap.size 24 (scs ⟨⟨wa, ca, da⟩, ⟨wb, cb, db⟩⟩) := HZ1.out _
        have G2 : Whole ((x1.alloc (.cells #[.bool true, .int .i64 (1 + cb), .int .i64 data] 23)).alloc (.cells #[.bool wa, .int .i64 ca, .int .i64 da, .bool wb, .int .i64 cb, .int .i64 db] 24)) (w.heap.size + 1) 24 (scs st0) := HZ2.out _
        have GB : Below w.heap.size w ((x1.alloc (.cells #[.bool true, .int .i64 (1 + cb), .int .i64 data] 23)).alloc (.cells #[.bool wa, .int .i64 ca, .int .i64 da, .bool wb, .int .i64 cb, .int .i64 db] 24)) := HZB.out _
        have G3 : Whole ((x1.alloc (.cells #[.bool true, .int .i64 (1 + cb), .int .i64 data] 23)).alloc (.cells #[.bool wa, .int .i64 ca, .int .i64 da, .bool wb, .int .i64 cb, .int .i64 db] 24)) x1.heap.size 23 #[.bool true, .int .i64 (1 + cb), .int .i64 data] := (Whole.new x1 23 #[.bool true, .int .i64 (1 + cb), .int .i64 data]).alloc _
        have g0 : ((x1.alloc (.cells #[.bool true, .int .i64 (1 + cb), .int .i64 data] 23)).alloc (.cells #[.bool wa, .int .i64 ca, .int .i64 da, .bool wb, .int .i64 cb, .int .i64 db] 24)).frozen? ⟨x1.heap.size, 0, none⟩ = false := ((Whole.new x1 23 #[.bool true, .int .i64 (1 + cb), .int .i64 data]).alloc _).frozen 0
        have g1' : ((x1.alloc (.cells #[.bool true, .int .i64 (1 + cb), .int .i64 data] 23)).alloc (.cells #[.bool wa, .int .i64 ca, .int .i64 da, .bool wb, .int .i64 cb, .int .i64 db] 24)).frozen? ⟨x1.heap.size, 1, none⟩ = false := ((Whole.new x1 23 #[.bool true, .int .i64 (1 + cb), .int .i64 data]).alloc _).frozen 1
        have g2 : ((x1.alloc (.cells #[.bool true, .int .i64 (1 + cb), .int .i64 data] 23)).alloc (.cells #[.bool wa, .int .i64 ca, .int .i64 da, .bool wb, .int .i64 cb, .int .i64 db] 24)).frozen? ⟨x1.heap.size, 2, none⟩ = false := ((Whole.new x1 23 #[.bool true, .int .i64 (1 + cb), .int .i64 data]).alloc _).frozen 2
        obtain ⟨d0, d1, d2, d3, d4, d5⟩ := six G2
        obtain ⟨f0, f1, f2, f3, f4, f5⟩ := fro6 G2
        obtain ⟨q0, q1, q2, q3, q4, q5⟩ := six G1
        have r0 := G3.cell 0
        have r1 := G3.cell 1
        have r2 := G3.cell 2
        have WF := Lib.hid (whole_drew (fill_whole (s := ⟨⟨true, 1 + cb, data⟩, ⟨wb, cb, db⟩⟩) G2))
        have BF := Lib.hid (fill_below (s := ⟨⟨true, 1 + cb, data⟩, ⟨wb, cb, db⟩⟩) GB hw1)
        simp only [st0, slo0] at d0 d1 d2 d3 d4 d5
        simp at r0 r1 r2
        simp only at q0 q1 q2 q3 q4 q5
        clear G1 G2 G3 GB
        go_wp2_with fail
        refine bodyPost_ret (results_st rfl _ _ (w.heap.size + 1) ⟨⟨true, 1 + cb, data⟩, ⟨wb, cb, db⟩⟩ rfl WF.out) rfl ?_
        exact ⟨rfl, BF.out.drew⟩
      | true =>
        rw [hn] at HNW
        have hR : writeR s data true = (⟨slo0, s.b⟩, 0) := Prod.ext (by rw [(write_ok h3).2.2]; simp [hn, newS, nextC, cur, Int.add_comm]) h3
        rw [hR]
        have hc : 1 + s.b.c ≤ 1099511627776 := by unfold nextC cur at h2; rw [hn] at h2; simp at h2; omega
        obtain ⟨⟨wa, ca, da⟩, ⟨wb, cb, db⟩⟩ := s
        simp only at hri hc
        unfold sv at HR HNW ⊢
        have hb0 := hri.2.1
        have hnc : decide (1099511627776 < 1 + cb) = false := decide_eq_false (by omega)
        clear h1 h2 h3 hn hri hR
        unfold scs at HR HNW ⊢
        unfold sbox scs at HR HX HNW
        go_enter Try.func8, Try.ntmps8
        go_wp2_with fail
        refine (HR.out).mono ?_; rintro e x1 ⟨rfl, b1⟩
        obtain ⟨B1, W1', W2', hs⟩ := HX.out _ b1
        have W1 : Whole x1 w.heap.size 24 (scs ⟨⟨wa, ca, da⟩, ⟨wb, cb, db⟩⟩) := W1'
        have W2 : Whole x1 (w.heap.size + 1) 24 (scs st0) := W2'
        obtain ⟨p0, p1, p2, p3, p4, p5⟩ := six (W1.alloc (.cells #[.bool true, .int .i64 1, .int .i64 data] 23))
        simp only at p0 p1 p2 p3 p4 p5
        clear b1 W1' W2'
        go_wp2_with fail
        refine (HNW.out _).mono ?_; rintro e x2 ⟨rfl, rfl⟩
        clear p0 p1 p2 p3 p4 p5
        have n1 : x1.heap.size ≠ w.heap.size := by omega
        have n2 : x1.heap.size ≠ w.heap.size + 1 := by omega
        have hx1 : w.heap.size ≤ x1.heap.size := by omega
        have hw1 : w.heap.size ≤ w.heap.size + 1 := by omega
        have HZ1 := Lib.hid (fun xb : Array Value => (W1.alloc (.cells xb 23)).alloc (.cells #[.bool wa, .int .i64 ca, .int .i64 da, .bool wb, .int .i64 cb, .int .i64 db] 24))
        have HZ2 := Lib.hid (fun xb : Array Value => (W2.alloc (.cells xb 23)).alloc (.cells #[.bool wa, .int .i64 ca, .int .i64 da, .bool wb, .int .i64 cb, .int .i64 db] 24))
        have HZB := Lib.hid (fun xb : Array Value => (B1.alloc B1.size (.cells xb 23)).alloc (Nat.le_trans B1.size (by simp)) (.cells #[.bool wa, .int .i64 ca, .int .i64 da, .bool wb, .int .i64 cb, .int .i64 db] 24))
        have X1 := (W1.alloc (.cells #[.bool true, .int .i64 1, .int .i64 data] 23)).alloc (.cells #[.bool wa, .int .i64 ca, .int .i64 da, .bool wb, .int .i64 cb, .int .i64 db] 24)
        have X3 : Whole _ x1.heap.size 23 (xcs ⟨true, 1, data⟩) := (Whole.new x1 23 #[.bool true, .int .i64 1, .int .i64 data]).alloc (.cells #[.bool wa, .int .i64 ca, .int .i64 da, .bool wb, .int .i64 cb, .int .i64 db] 24)
        have c1 : ((x1.alloc (.cells #[.bool true, .int .i64 1, .int .i64 data] 23)).alloc (.cells #[.bool wa, .int .i64 ca, .int .i64 da, .bool wb, .int .i64 cb, .int .i64 db] 24)).cell? ⟨w.heap.size, 4, none⟩ = some (.int .i64 cb) := X1.cell 4
        have k1 : ((x1.alloc (.cells #[.bool true, .int .i64 1, .int .i64 data] 23)).alloc (.cells #[.bool wa, .int .i64 ca, .int .i64 da, .bool wb, .int .i64 cb, .int .i64 db] 24)).cell? ⟨x1.heap.size, 1, none⟩ = some (.int .i64 1) := X3.cell 1
        have g1 : ((x1.alloc (.cells #[.bool true, .int .i64 1, .int .i64 data] 23)).alloc (.cells #[.bool wa, .int .i64 ca, .int .i64 da, .bool wb, .int .i64 cb, .int .i64 db] 24)).frozen? ⟨x1.heap.size, 1, none⟩ = false := X3.frozen 1
        have HY1 := Lib.hid ((W1.alloc (.cells #[.bool true, .int .i64 (1 + cb), .int .i64 data] 23)).alloc (.cells #[.bool wa, .int .i64 ca, .int .i64 da, .bool wb, .int .i64 cb, .int .i64 db] 24))
        have HY2 := Lib.hid ((W2.alloc (.cells #[.bool true, .int .i64 (1 + cb), .int .i64 data] 23)).alloc (.cells #[.bool wa, .int .i64 ca, .int .i64 da, .bool wb, .int .i64 cb, .int .i64 db] 24))
        have HYB := Lib.hid ((B1.alloc B1.size (.cells #[.bool true, .int .i64 (1 + cb), .int .i64 data] 23)).alloc (Nat.le_trans B1.size (by simp)) (.cells #[.bool wa, .int .i64 ca, .int .i64 da, .bool wb, .int .i64 cb, .int .i64 db] 24))
        clear X1 X3 B1 W1 W2
        go_wp2_with fail
        go_region
        clear c1 k1 g1
        have G1 : Whole ((x1.alloc (.cells #[.bool false, .int .i64 0, .int .i64 0] 23)).alloc (.cells #[.bool wa, .int .i64 ca, .int .i64 da, .bool wb, .int .i64 cb, .int .i64 db] 24)) w.heap.size 24 (scs ⟨⟨wa, ca, da⟩, ⟨wb, cb, db⟩⟩) := HZ1.out _
        have G2 : Whole ((x1.alloc (.cells #[.bool false, .int .i64 0, .int .i64 0] 23)).alloc (.cells #[.bool wa, .int .i64 ca, .int .i64 da, .bool wb, .int .i64 cb, .int .i64 db] 24)) (w.heap.size + 1) 24 (scs st0) := HZ2.out _
        have GB : Below w.heap.size w ((x1.alloc (.cells #[.bool false, .int .i64 0, .int .i64 0] 23)).alloc (.cells #[.bool wa, .int .i64 ca, .int .i64 da, .bool wb, .int .i64 cb, .int .i64 db] 24)) := HZB.out _
        have G3 : Whole ((x1.alloc (.cells #[.bool false, .int .i64 0, .int .i64 0] 23)).alloc (.cells #[.bool wa, .int .i64 ca, .int .i64 da, .bool wb, .int .i64 cb, .int .i64 db] 24)) x1.heap.size 23 #[.bool false, .int .i64 0, .int .i64 0] := (Whole.new x1 23 #[.bool false, .int .i64 0, .int .i64 0]).alloc _
        have g0 : ((x1.alloc (.cells #[.bool true, .int .i64 (1 + cb), .int .i64 data] 23)).alloc (.cells #[.bool wa, .int .i64 ca, .int .i64 da, .bool wb, .int .i64 cb, .int .i64 db] 24)).frozen? ⟨x1.heap.size, 0, none⟩ = false := ((Whole.new x1 23 #[.bool true, .int .i64 (1 + cb), .int .i64 data]).alloc _).frozen 0
        have g1' : ((x1.alloc (.cells #[.bool true, .int .i64 (1 + cb), .int .i64 data] 23)).alloc (.cells #[.bool wa, .int .i64 ca, .int .i64 da, .bool wb, .int .i64 cb, .int .i64 db] 24)).frozen? ⟨x1.heap.size, 1, none⟩ = false := ((Whole.new x1 23 #[.bool true, .int .i64 (1 + cb), .int .i64 data]).alloc _).frozen 1
        have g2 : ((x1.alloc (.cells #[.bool true, .int .i64 (1 + cb), .int .i64 data] 23)).alloc (.cells #[.bool wa, .int .i64 ca, .int .i64 da, .bool wb, .int .i64 cb, .int .i64 db] 24)).frozen? ⟨x1.heap.size, 2, none⟩ = false := ((Whole.new x1 23 #[.bool true, .int .i64 (1 + cb), .int .i64 data]).alloc _).frozen 2
        obtain ⟨d0, d1, d2, d3, d4, d5⟩ := six G2
        obtain ⟨f0, f1, f2, f3, f4, f5⟩ := fro6 G2
        obtain ⟨q0, q1, q2, q3, q4, q5⟩ := six G1
        have r0 := G3.cell 0
        have r1 := G3.cell 1
        have r2 := G3.cell 2
        have WF := Lib.hid (whole_drew (fill_whole (s := ⟨slo0, ⟨wb, cb, db⟩⟩) G2))
        have BF := Lib.hid (fill_below (s := ⟨slo0, ⟨wb, cb, db⟩⟩) GB hw1)
        simp only [st0, slo0] at d0 d1 d2 d3 d4 d5
        simp at r0 r1 r2
        simp only at q0 q1 q2 q3 q4 q5
        clear G1 G2 G3 GB
        go_wp2_with fail
        refine bodyPost_ret (results_st rfl _ _ (w.heap.size + 1) ⟨slo0, ⟨wb, cb, db⟩⟩ rfl WF.out) rfl ?_
        exact ⟨rfl, BF.out.drew⟩
end Go.Proofs.Ytpjhihmbgahagaa.Twn
