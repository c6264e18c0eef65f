/-
  Blocks taken off a gap: the program's own.
-/
import Derived.Test.YtkhcaobmohppnaaDDev
namespace Go.Proofs.Ytkhcaobmohppnaa.Spc
open Go.ChangeShapes Go.WideShapes Go.ChangeAt Go.RowKit Words Go.Sort
set_option linter.unusedVariables false

theorem results_an {fn : Func} {p : Tmp} (h : fn.results = #[.cell p 27]) {tmps : Array Value} {w : World} {b : Nat} {e a : Int} (hp : tmps.getD p undef = .pointer (some ⟨b, 0, none⟩)) (hw : Whole w b 27 #[.int .i64 e, .int .i64 a]) :
    (results fn tmps).run Try.prog w = .ok (aval e a) w := by
  have c0 := hw.cell 0
  have c1 := hw.cell 1
  simp at c0 c1
  have hp' : tmps[p]?.getD undef = .pointer (some ⟨b, 0, none⟩) := by simpa using hp
  simp [results, h, hp', asAddr, go_sem, loadVar, c0, c1, aval]
/-- The answer's box is filled. -/
theorem fill_an {w : World} {b : Nat} {cs : Array Value} (h : Whole w b 27 cs) (hc : cs.size = 2) (e a : Int) : Whole ((w.setCell ⟨b, 0, none⟩ (.int .i64 e)).setCell ⟨b, 1, none⟩ (.int .i64 a)) b 27 #[.int .i64 e, .int .i64 a] := by
  have := (h.set_ 0 (.int .i64 e)).set_ 1 (.int .i64 a)
  match cs, hc with
  | ⟨[x, y]⟩, _ => exact this
theorem fill_below {w w' : World} {B b : Nat} (h : Below B w w') (hb : B ≤ b) (e a : Int) : Below B w ((w'.setCell ⟨b, 0, none⟩ (.int .i64 e)).setCell ⟨b, 1, none⟩ (.int .i64 a)) := (h.setCell hb _).setCell hb _
theorem take36_none (g : Nat) (m : Int) (w : World) : Calls Try.prog 36 #[.pointer (some ⟨g, 0, none⟩), .int .i64 (-1), .int .i64 m] w fun e w' => e = .returned (aval 4 0) ∧ Below w.heap.size w w' := by
  have F := Lib.hid (Whole.new w 27 #[.int .i64 4, .int .i64 0])
  have B := Lib.hid (boxed w (.cells #[.int .i64 4, .int .i64 0] 27))
  go_enter Try.func36, Try.ntmps36
  go_wp2_with fail
  refine bodyPost_ret (results_an rfl rfl F.out) rfl ?_
  exact ⟨rfl, B.out⟩
theorem own_lt {w : World} {base e sz n k : Nat} {v : Value} {xs : List Value} (h : w.ownsRow base e sz v n xs) (hk : v.ownBlock = some k) : k < w.heap.size := by
  rcases h.2 with ⟨hn, _⟩ | ⟨g', cap, cur, rfl, h1, hgg, _⟩
  · subst hn; simp [Value.ownBlock] at hk
  · have : g' = k := by simpa [Value.ownBlock] using hk
    subst this
    exact (Array.getElem?_eq_some_iff.1 hgg).1
/-- A store into a block that was not there. -/
theorem Fr.box {base b : Nat} {w w' : World} (h : Fr base w w') (hb : base ≤ w.heap.size) (hx : w.heap.size ≤ b) (j : Nat) (u : Value) : Fr base w (w'.setCell ⟨b, j, none⟩ u) :=
  ⟨h.bel.setCell (by show base ≤ b; omega) _, fun bs A n c xs ho => own_heap (h.kp bs A n c xs ho) fun k hk => heap_setCell_other w' ⟨b, j, none⟩ k u (by have := own_lt ho hk; show k ≠ b; omega)⟩
theorem whole_grown {w w' : World} {k t : Nat} {cs : Array Value} {r : Option Nat} (h : Whole w k t cs) (hg : w.grownBy w' r) (hne : r ≠ some k) : Whole w' k t cs := by
  have hlt := h.lt
  obtain ⟨_, _, _, _, hk⟩ := hg
  unfold Whole at *
  rw [hk k hlt (fun e => hne e.symm)]
  exact h
theorem whole_other {w : World} {k t b : Nat} {cs : Array Value} (h : Whole w k t cs) (hne : k ≠ b) (j : Nat) (u : Value) : Whole (w.setCell ⟨b, j, none⟩ u) k t cs := by
  unfold Whole at *
  rw [heap_setCell_other w ⟨b, j, none⟩ k u hne]
  exact h
/-- A store into another block than the device's two. -/
theorem RD.over {w : World} {base g n c b j : Nat} {s : Int} {A : Option Addr} {l : List Gp} {u : Value} (d : RD w base g s A n c l) (h1 : g ≠ b) (h2 : ∀ k, (Value.slice A n c).ownBlock = some k → k ≠ b) : RD (w.setCell ⟨b, j, none⟩ u) base g s A n c l :=
  ⟨whole_other d.blk h1 j u, own_heap d.row fun k hk => heap_setCell_other w ⟨b, j, none⟩ k u (h2 k hk), d.bg⟩
theorem own_is {r n c k : Nat} (h : (Value.slice (some ⟨r, 0, none⟩) n c).ownBlock = some k) : k = r := by simpa [Value.ownBlock] using h.symm
theorem set_parts {l : List Gp} {i : Nat} (h : i < l.length) (p : Gp) : l.set i p = l.take i ++ p :: l.drop (i + 1) := by
  rw [List.set_eq_take_append_cons_drop, if_pos h]
theorem erase_set (l : List Gp) (i : Nat) (p : Gp) : (l.set i p).eraseIdx i = l.take i ++ l.drop (i + 1) := by
  rw [List.eraseIdx_eq_take_drop_succ, List.take_set_of_le (Nat.le_refl _), List.drop_set_of_lt (by omega)]
/-- The row's two stores. -/
theorem put_two {w : World} {base g n c i : Nat} {l : List Gp} (h : OwnGp w base (some ⟨g, 0, none⟩) n c l) (hi : i < n) (p : Gp) :
    OwnGp ((w.setCell ⟨g, i * 2, none⟩ (.int .i64 p.a)).setCell ⟨g, i * 2 + 1, none⟩ (.int .i64 p.m)) base (some ⟨g, 0, none⟩) n c (l.set i p) ∧ w.grownBy ((w.setCell ⟨g, i * 2, none⟩ (.int .i64 p.a)).setCell ⟨g, i * 2 + 1, none⟩ (.int .i64 p.m)) (some g) := put_one h hi p
set_option maxHeartbeats 4000000 in
theorem take36 (base g i n c : Nat) (s : Int) (A : Option Addr) (l : List Gp) (m : Int) (w : World) (d : RD w base g s A n c l) (hi : i < n) (h1 : 1 ≤ m) (h2 : m ≤ (gth l i).m) (h3 : 0 ≤ (gth l i).a) (h4 : (gth l i).a + (gth l i).m ≤ 4096) (hb : base ≤ w.heap.size) :
    Calls Try.prog 36 #[.pointer (some ⟨g, 0, none⟩), .int .i64 i, .int .i64 m] w fun e w' => e = .returned (aval 0 (gth l i).a) ∧ (∃ A' n' c', RD w' base g s A' n' c' (l.take i ++ (if (gth l i).m = m then l.drop (i + 1) else ⟨(gth l i).a + m, (gth l i).m - m⟩ :: l.drop (i + 1)))) ∧ Fr base w w' := by
  obtain ⟨r, rfl, _, _⟩ := d.row.addr (by omega)
  obtain ⟨wb, hwb⟩ : ∃ wb, w.alloc (.cells #[.int .i64 0, .int .i64 0] 27) = wb := ⟨_, rfl⟩
  have bx : Below w.heap.size w wb := by rw [← hwb]; exact boxed w _
  have gx : Whole wb w.heap.size 27 #[.int .i64 0, .int .i64 0] := by rw [← hwb]; exact Whole.new w 27 _
  have d1 := d.below bx
  have hll := d1.row.len
  have hne : r ≠ g := d1.apart r rfl
  obtain ⟨k0, k1⟩ := d1.row.at_ hi
  have kg := d1.gaps
  have f0 := d1.row.frozen (i * 2)
  have f1 := d1.row.frozen (i * 2 + 1)
  have hlen := d1.row.len
  obtain ⟨p0, g0⟩ := put_two d1.row hi ⟨(gth l i).a + m, (gth l i).m - m⟩
  obtain ⟨⟨xa, xm⟩, hx⟩ : ∃ x, x = gth l i := ⟨_, rfl⟩
  rw [← hx] at k0 k1 h2 h3 h4 p0 g0 ⊢
  simp only at k0 k1 h2 h3 h4 p0 g0 ⊢
  have hw1 : IntKind.i64.wrap (xa + m) = xa + m := by rw [IntKind.wrap_i64]; omega
  have hw2 : IntKind.i64.wrap (xm - m) = xm - m := by rw [IntKind.wrap_i64]; omega
  have hw3 : IntKind.i64.wrap ((i : Int) + 1) = (i : Int) + 1 := by rw [IntKind.wrap_i64]; have := d1.row.gps.small; omega
  have hin0 : ((i : Int) == -1) = false := by rw [beq_eq_false_iff_ne]; omega
  have hin1 : (0 : Int) ≤ (i : Int) := by omega
  have hin2 : (i : Int) < (n : Int) := by omega
  obtain ⟨q, hq⟩ : ∃ q, n = i + 1 + q := ⟨n - (i + 1), by omega⟩
  obtain ⟨W2, hW2⟩ : ∃ W2, (wb.setCell ⟨r, i * 2, none⟩ (.int .i64 (xa + m))).setCell ⟨r, i * 2 + 1, none⟩ (.int .i64 (xm - m)) = W2 := ⟨_, rfl⟩
  rw [hW2] at p0 g0
  have d2 := d1.row_ g0 p0
  have x2 : Whole W2 w.heap.size 27 #[.int .i64 0, .int .i64 0] := whole_grown gx g0 (by intro e; injection e with e; omega)
  have fr2 : Fr base w W2 := (Fr.of_below hb bx).trans (Fr.row (Nat.le_trans hb bx.size) d1.row g0)
  have kg2 := d2.gaps
  have k2 := (p0.at_ hi).c1
  rw [show gth (l.set i ⟨xa + m, xm - m⟩) i = ⟨xa + m, xm - m⟩ from gth_of (List.getElem?_set_self (by omega))] at k2
  simp only at k2
  have HSP := Lib.hid (set_parts (l := l) (i := i) (by omega) ⟨xa + m, xm - m⟩)
  have HES := Lib.hid (erase_set l i ⟨xa + m, xm - m⟩)
  have hrs : r ≠ w.heap.size := by omega
  have hgs : g ≠ w.heap.size := by have := d.lt; omega
  by_cases hm0 : xm = m
  · have ht : (xm - m == 0) = true := by rw [beq_iff_eq]; omega
    have HD := delete40 base r i q c (l.set i ⟨xa + m, xm - m⟩) W2 (by rw [← hq]; exact p0)
    rw [← hq] at HD
    have HD := Lib.hid HD
    have HM := Lib.hid hm0
    have D2 := Lib.hid d2
    have X2 := Lib.hid x2
    have F2 := Lib.hid fr2
    have D1 := Lib.hid d1
    have HB := Lib.hid hb
    have HR := Lib.hid hrs
    have HG := Lib.hid hgs
    clear hm0 d2 x2 fr2 d1 d hb p0 g0 gx bx hrs hgs hq hlen hll
    go_enter Try.func36, Try.ntmps36
    go_wp2_with fail
    refine (HD.out).mono ?_; rintro e w3 ⟨rfl, o3, g3⟩
    have m3 := D2.out.moved g3
    have x3 := whole_grown X2.out g3 (by intro e; injection e with e; exact HR.out e)
    have x4 := whole_other x3 (Ne.symm HG.out) 1 (.slice (some ⟨r, 0, none⟩) (i + q) c)
    have O3 := Lib.hid (RD.put m3 D2.out.bg o3)
    have X5 := Lib.hid (fill_an x4 rfl 0 xa)
    have f3 := (F2.out.trans (Fr.row (Nat.le_trans HB.out F2.out.bel.size) D2.out.row g3)).dev m3 D2.out.bg (.slice (some ⟨r, 0, none⟩) (i + q) c)
    have F5 := Lib.hid ((f3.box HB.out (Nat.le_refl _) 0 (.int .i64 0)).box HB.out (Nat.le_refl _) 1 (.int .i64 xa))
    have z1 := m3.cell 1
    have z2 := m3.frozen 1
    have y0 := x4.cell 0
    have y1 := x4.cell 1
    have y2 := x4.frozen 0
    have y3 := x4.frozen 1
    obtain ⟨W4, hW4⟩ : ∃ W4, w3.setCell ⟨g, 1, none⟩ (.slice (some ⟨r, 0, none⟩) (i + q) c) = W4 := ⟨_, rfl⟩
    rw [hW4] at y0 y1 y2 y3 O3 X5 F5
    simp at z1 y0 y1
    clear m3 x3 x4 f3 o3 g3
    go_wp2_with fail
    refine bodyPost_ret (results_an rfl rfl X5.out) rfl ?_
    refine ⟨rfl, ⟨some ⟨r, 0, none⟩, i + q, c, ?_⟩, F5.out⟩
    rw [← HES.out]
    exact (O3.out.over HG.out (fun k hk => by rw [own_is hk]; exact HR.out)).over HG.out (fun k hk => by rw [own_is hk]; exact HR.out)
  · have ht : (xm - m == 0) = false := by rw [beq_eq_false_iff_ne]; omega
    have X5 := Lib.hid (fill_an x2 rfl 0 xa)
    have F5 := Lib.hid ((fr2.box hb (Nat.le_refl _) 0 (.int .i64 0)).box hb (Nat.le_refl _) 1 (.int .i64 xa))
    have O5 := Lib.hid (RD.over (RD.over d2 hgs (j := 0) (u := .int .i64 0) (b := w.heap.size) (fun k hk => by rw [own_is hk]; exact hrs)) hgs (j := 1) (u := .int .i64 xa) (fun k hk => by rw [own_is hk]; exact hrs))
    have y0 := x2.cell 0
    have y1 := x2.cell 1
    have y2 := x2.frozen 0
    have y3 := x2.frozen 1
    simp at y0 y1
    have HM := Lib.hid hm0
    clear hm0 d2 x2 fr2 d1 d hb p0 g0 gx bx hrs hgs hq hlen hll
    go_enter Try.func36, Try.ntmps36
    go_wp2_with fail
    refine bodyPost_ret (results_an rfl rfl X5.out) rfl ?_
    refine ⟨rfl, ⟨some ⟨r, 0, none⟩, n, c, ?_⟩, F5.out⟩
    rw [← HSP.out]
    exact O5.out
end Go.Proofs.Ytkhcaobmohppnaa.Spc
