/-
  The program's device in memory; at, blockAhead, step.
-/
import Derived.Test.YtfohihdpohjmcaaNPerf
import Derived.Test.YtfohihdpohjmcaaRows1
import Derived.Test.YtfohihdpohjmcaaRing
import Derived.RegionTactic
import Derived.Deep.DeepCutAuto
namespace Go.Proofs.Ytfohihdpohjmcaa.Ftl
open Go.ChangeShapes Go.WideShapes Go.ChangeAt Go.RowKit Words
open Nand (Blk Nop OwnFl errOf nextOf dataOf oval)
set_option linter.unusedVariables false

/-! ### a row, when another block changes -/
theorem own_heap {w w' : World} {base : Nat} {e : TypeId} {sz : Nat} {v : Value} {n : Nat} {xs : List Value} (h : w.ownsRow base e sz v n xs) (hk : ∀ k, v.ownBlock = some k → w'.heap[k]? = w.heap[k]?) : w'.ownsRow base e sz v n xs := by
  refine ⟨h.1, ?_⟩
  rcases h.2 with hn | ⟨g, cap, cur, rfl, h1, hgg, rest⟩
  · exact .inl hn
  · exact .inr ⟨g, cap, cur, rfl, h1, (hk g rfl).trans hgg, rest⟩
/-- Nothing has changed below base, and nothing of what was there but one block. -/
structure Fr (base g : Nat) (w w' : World) : Prop where
  bel : Below base w w'
  oth : ∀ k, k < w.heap.size → k ≠ g → w'.heap[k]? = w.heap[k]?
section
variable {base g : Nat} {w w' x : World}
theorem Fr.refl (base g : Nat) (w : World) : Fr base g w w := ⟨Below.refl _ _, fun k _ _ => rfl⟩
theorem Fr.size (h : Fr base g w w') : w.heap.size ≤ w'.heap.size := h.bel.size
theorem Fr.trans (h : Fr base g w w') (h2 : Fr base g w' x) : Fr base g w x :=
  ⟨h.bel.trans h2.bel, fun k hk h1 => (h2.oth k (Nat.lt_of_lt_of_le hk h.bel.size) h1).trans (h.oth k hk h1)⟩
theorem Fr.setG (h : Fr base g w w') (hg : base ≤ g) (n : Nat) (u : Value) : Fr base g w (w'.setCell ⟨g, n, none⟩ u) :=
  ⟨h.bel.setCell hg _, fun k hk h1 => (heap_setCell_other w' ⟨g, n, none⟩ k u h1).trans (h.oth k hk h1)⟩
theorem Fr.setN (h : Fr base g w w') {r : Nat} (hr : base ≤ r) (hw : w.heap.size ≤ r) (n : Nat) (u : Value) : Fr base g w (w'.setCell ⟨r, n, none⟩ u) :=
  ⟨h.bel.setCell hr _, fun k hk h1 => (heap_setCell_other w' ⟨r, n, none⟩ k u (by show k ≠ r; omega)).trans (h.oth k hk h1)⟩
theorem Fr.drew (h : Fr base g w w') : Fr base g w w'.drew := ⟨h.bel.drew, h.oth⟩
theorem Fr.drewN (h : Fr base g w w') (n : Nat) : Fr base g w (w'.drewN n) := ⟨below_drewN h.bel n, h.oth⟩
theorem Fr.alloc (h : Fr base g w w') (hs : base ≤ w.heap.size) (o : Obj) : Fr base g w (w'.alloc o) :=
  ⟨h.bel.alloc (Nat.le_trans hs h.bel.size) o, fun k hk h1 => (heap_alloc_old w' o (Nat.lt_of_lt_of_le hk h.bel.size)).trans (h.oth k hk h1)⟩
theorem Fr.below (h : Fr base g w w') (hs : base ≤ w.heap.size) (hb : Below w'.heap.size w' x) : Fr base g w x :=
  ⟨h.bel.trans (hb.mono (Nat.le_trans hs h.bel.size)), fun k hk h1 => (hb.block k (Nat.lt_of_lt_of_le hk h.bel.size)).trans (h.oth k hk h1)⟩
theorem Fr.whole {t : TypeId} {cs : Array Value} {e : Nat} (h : Fr base g w w') (hw : Whole w e t cs) (h1 : e ≠ g) : Whole w' e t cs := by
  have hl := hw.lt
  unfold Whole at *
  rw [h.oth e hl h1]
  exact hw
theorem Fr.cell (h : Fr base g w w') {p : Addr} (hp : p.block < w.heap.size) (h1 : p.block ≠ g) : w'.cell? p = w.cell? p :=
  World.cell?_of_block (h.oth p.block hp h1)
end
/-! ### the device -/
def dcells (r c : Nat) (pl : List Int) (h : Int) : List Value := .slice (some ⟨r, 0, none⟩) 8 c :: (icells pl ++ [.int .i64 h])
structure RDev (w : World) (base g r c : Nat) (l : List Blk) (pl : List Int) (h : Int) : Prop where
  tab : Whole w g 52 (dcells r c pl h).toArray
  row : OwnFl w base (some ⟨r, 0, none⟩) 8 c l
  ne : g ≠ r
  bg : base ≤ g
  len : pl.length = 16
/-- .. wherever its flash lies. -/
def DV (w : World) (base g : Nat) (l : List Blk) (pl : List Int) (h : Int) : Prop := ∃ r c, RDev w base g r c l pl h
section
variable {w w' : World} {base g r c : Nat} {l : List Blk} {pl : List Int} {h : Int}
theorem dcells_at {n : Nat} {x : Int} (hx : pl[n]? = some x) : (dcells r c pl h)[1 + n]? = some (.int .i64 x) := by
  have hn := (List.getElem?_eq_some_iff.1 hx).1
  unfold dcells
  rw [Nat.add_comm, List.getElem?_cons_succ, List.getElem?_append_left (by rw [icells_length]; exact hn), icells_get, hx]; rfl
theorem dcells_head (hl : pl.length = 16) : (dcells r c pl h)[17]? = some (.int .i64 h) := by
  unfold dcells
  rw [List.getElem?_cons_succ, List.getElem?_append_right (by rw [icells_length, hl]; exact Nat.le_refl _), icells_length, hl]; rfl
theorem dcells_setAt {n : Nat} (hl : pl.length = 16) (hn : n < 16) (x : Int) : (dcells r c pl h).set (1 + n) (.int .i64 x) = dcells r c (pl.set n x) h := by
  unfold dcells
  rw [Nat.add_comm, List.set_cons_succ, List.set_append_left _ _ (by rw [icells_length, hl]; exact hn), icells_set]
theorem dcells_setHead (hl : pl.length = 16) (x : Int) : (dcells r c pl h).set 17 (.int .i64 x) = dcells r c pl x := by
  unfold dcells
  rw [List.set_cons_succ, List.set_append_right _ _ (by rw [icells_length, hl]; exact Nat.le_refl _), icells_length, hl]; rfl
theorem dcells_setFlash (r' c' : Nat) : (dcells r c pl h).set 0 (.slice (some ⟨r', 0, none⟩) 8 c') = dcells r' c' pl h := rfl
theorem RDev.flash (d : RDev w base g r c l pl h) : w.cell? ⟨g, 0, none⟩ = some (.slice (some ⟨r, 0, none⟩) 8 c) := by
  rw [Whole.cell d.tab 0, List.getElem?_toArray]; rfl
theorem RDev.at_ (d : RDev w base g r c l pl h) {n : Nat} {x : Int} (hx : pl[n]? = some x) : w.cell? ⟨g, 1 + n, none⟩ = some (.int .i64 x) := by
  rw [Whole.cell d.tab (1 + n), List.getElem?_toArray, dcells_at hx]
theorem RDev.head (d : RDev w base g r c l pl h) : w.cell? ⟨g, 17, none⟩ = some (.int .i64 h) := by
  rw [Whole.cell d.tab 17, List.getElem?_toArray, dcells_head d.len]
theorem RDev.fro (d : RDev w base g r c l pl h) (n : Nat) : w.frozen? ⟨g, n, none⟩ = false := d.tab.frozen n
theorem RDev.lt (d : RDev w base g r c l pl h) : g < w.heap.size := d.tab.lt
theorem row_other (hr : OwnFl w base (some ⟨r, 0, none⟩) 8 c l) (hne : g ≠ r) (n : Nat) (u : Value) : OwnFl (w.setCell ⟨g, n, none⟩ u) base (some ⟨r, 0, none⟩) 8 c l :=
  own_heap hr fun k hk => by
    have : k = r := by simpa [Value.ownBlock] using hk.symm
    subst this
    exact heap_setCell_other w ⟨g, n, none⟩ k u (fun e => hne e.symm)
theorem RDev.setAt (d : RDev w base g r c l pl h) {n : Nat} (hn : n < 16) (x : Int) : RDev (w.setCell ⟨g, 1 + n, none⟩ (.int .i64 x)) base g r c l (pl.set n x) h := by
  refine ⟨?_, row_other d.row d.ne _ _, d.ne, d.bg, by rw [List.length_set]; exact d.len⟩
  have := Whole.set_ d.tab (1 + n) (.int .i64 x)
  rw [toArray_setI, dcells_setAt d.len hn] at this
  exact this
theorem RDev.setHead (d : RDev w base g r c l pl h) (x : Int) : RDev (w.setCell ⟨g, 17, none⟩ (.int .i64 x)) base g r c l pl x := by
  refine ⟨?_, row_other d.row d.ne _ _, d.ne, d.bg, d.len⟩
  have := Whole.set_ d.tab 17 (.int .i64 x)
  rw [toArray_setI, dcells_setHead d.len] at this
  exact this
theorem RDev.setFlash (d : RDev w base g r c l pl h) {r' c' : Nat} {l' : List Blk} (ho : OwnFl w base (some ⟨r', 0, none⟩) 8 c' l') (hne : g ≠ r') : RDev (w.setCell ⟨g, 0, none⟩ (.slice (some ⟨r', 0, none⟩) 8 c')) base g r' c' l' pl h := by
  refine ⟨?_, row_other ho hne _ _, hne, d.bg, d.len⟩
  have := Whole.set_ d.tab 0 (.slice (some ⟨r', 0, none⟩) 8 c')
  rw [toArray_setI, dcells_setFlash] at this
  exact this
theorem RDev.below (d : RDev w base g r c l pl h) (hb : Below w.heap.size w w') : RDev w' base g r c l pl h :=
  ⟨whole_below d.tab hb d.tab.lt, own_below d.row hb (Nat.le_refl _), d.ne, d.bg, d.len⟩
theorem RDev.range (d : RDev w base g r c l pl h) : w.rangeAt g 1 (icells pl) := fun j v hv => by
  have hj := (List.getElem?_eq_some_iff.1 hv).1
  rw [Whole.cell d.tab (1 + j), List.getElem?_toArray]
  unfold dcells
  rw [Nat.add_comm, List.getElem?_cons_succ, List.getElem?_append_left hj, hv]
theorem RDev.drew (d : RDev w base g r c l pl h) : RDev w.drew base g r c l pl h := ⟨d.tab, d.row, d.ne, d.bg, d.len⟩
theorem RDev.drewN (d : RDev w base g r c l pl h) (n : Nat) : RDev (w.drewN n) base g r c l pl h := ⟨d.tab, d.row, d.ne, d.bg, d.len⟩
theorem RDev.alloc (d : RDev w base g r c l pl h) (o : Obj) : RDev (w.alloc o) base g r c l pl h := d.below ((Below.refl _ _).alloc (Nat.le_refl _) _)
theorem DV.below (d : DV w base g l pl h) (hb : Below w.heap.size w w') : DV w' base g l pl h := by
  obtain ⟨r, c, d⟩ := d
  exact ⟨r, c, d.below hb⟩
theorem DV.as {l' : List Blk} {pl' : List Int} {h' : Int} (d : DV w base g l pl h) (e1 : l' = l) (e2 : pl' = pl) (e3 : h' = h) : DV w base g l' pl' h' := by subst e1 e2 e3; exact d
theorem DV.drewN (d : DV w base g l pl h) (n : Nat) : DV (w.drewN n) base g l pl h := by
  obtain ⟨r, c, d⟩ := d
  exact ⟨r, c, d.drewN n⟩
theorem DV.drew (d : DV w base g l pl h) : DV w.drew base g l pl h := by
  obtain ⟨r, c, d⟩ := d
  exact ⟨r, c, d.drew⟩
theorem DV.lt (d : DV w base g l pl h) : g < w.heap.size := by
  obtain ⟨r, c, d⟩ := d
  exact d.lt
end
/-! ### results that are boxes -/
theorem results_one {fn : Func} {p : Tmp} {ty : TypeId} (h : fn.results = #[.cell p ty]) (tmps : Array Value) (P : Program) (w : World) :
    (results fn tmps).run P w = ((asAddr (tmps.getD p undef)).run P w).andThen fun a w₁ => (loadVar ty a).run P w₁ := by
  simp only [results, h]
  simp [Sem.run_bind, Result.andThen]
theorem results_op {fn : Func} {p : Tmp} (h : fn.results = #[.cell p 62]) {tmps : Array Value} {w : World} {b : Nat} {o : Nop} (hp : tmps.getD p undef = .pointer (some ⟨b, 0, none⟩)) (hw : Whole w b 62 #[.int .i64 o.kind, .int .i64 o.block, .int .i64 o.page, .int .i64 o.data]) :
    (results fn tmps).run Try.prog w = .ok (oval o) w := by
  have c0 := hw.cell 0
  have c1 := hw.cell 1
  have c2 := hw.cell 2
  have c3 := hw.cell 3
  rw [results_one h, hp]
  simp at c0 c1 c2 c3
  simp [go_sem, loadVar, c0, c1, c2, c3, oval]
def obj (w : World) (o : Nop) : World := w.alloc (.cells #[.int .i64 o.kind, .int .i64 o.block, .int .i64 o.page, .int .i64 o.data] 62)
theorem at26 (p : Nat) (w : World) (hp : p < 32) : Calls Try.prog 26 #[.int .i64 p] w fun e w' => e = .returned (oval ⟨0, (p / 4 : Nat), (p % 4 : Nat), 0⟩) ∧ Below w.heap.size w w' := by
  go_enter Try.func26, Try.ntmps26
  go_wp2_with fail
  refine bodyPost_ret (results_op (o := ⟨0, (p : Int) / 4, (p : Int) % 4, 0⟩) rfl rfl (Whole.new w 62 _)) rfl ?_
  exact ⟨rfl, (Below.refl _ _).alloc (Nat.le_refl _) _⟩
theorem ahead23 (base g : Nat) (l : List Blk) (pl : List Int) (p : Nat) (w : World) (d : DV w base g l pl p) (hp : p < 32) :
    Calls Try.prog 23 #[.pointer (some ⟨g, 0, none⟩)] w fun e w' => e = .returned (.int .i64 ((p / 4 + 1) % 8 : Nat)) ∧ w' = w := by
  obtain ⟨r, c, d⟩ := d
  have c0 := d.head
  clear d
  go_enter Try.func23, Try.ntmps23
  go_wp2_with fail
  go_ret
  exact ⟨ret_int (by omega), rfl⟩
set_option maxHeartbeats 2000000 in
theorem step27 (base g : Nat) (l : List Blk) (pl : List Int) (h : Int) (o : Nop) (w : World) (d : DV w base g l pl h) (hs : base ≤ w.heap.size) (he : errOf l o = 0) :
    Calls Try.prog 27 #[.pointer (some ⟨g, 0, none⟩), oval o] w fun e w' => e = .returned (.int .i64 (dataOf l o)) ∧ DV w' base g (nextOf l o) pl h ∧ Fr base g w w' := by
  obtain ⟨r, c, d⟩ := d
  have hl8 := Nand.right_len (Nand.next_right he)
  have d0 := d.alloc (Nand.bx o)
  have HS := Lib.hid (Nand.step28 _ _ 8 c l o (w.alloc (Nand.bx o)).drew d0.drew.row.fl (Nat.le_refl _))
  rw [he] at HS
  have HL := Lib.hid hl8
  have q0 := d0.flash
  have D0 := Lib.hid d0
  have F0 : Hid (Fr base g w (w.alloc (Nand.bx o))) := Lib.hid ((Fr.refl base g w).alloc hs _)
  generalize nextOf l o = l' at *
  generalize dataOf l o = v at *
  clear d d0 he hl8
  obtain ⟨kd, bl, pg, dt⟩ := o
  unfold oval at HS ⊢
  unfold Nand.bx at HS q0 D0 F0
  go_enter Try.func27, Try.ntmps27
  go_wp2_with fail
  go_region_with (go_at_call 28; refine (HS.out).mono ?_; rintro e w' he; obtain ⟨A8, c8, rfl, o8, b8⟩ := Nand.Made3.get (n := 8) he HL.out; obtain ⟨r', rfl, hr1, hr2⟩ := o8.addr (by omega))
  all_goals
    have D1 := D0.out.drew.below b8
    have F1 := F0.out.drew.below hs b8
    have hne : g ≠ r' := fun e => by have := D0.out.drew.lt; omega
    have o9 := Words.own_base o8 (Nat.le_trans hs F0.out.size)
    have q1 := D1.flash
    have q2 := D1.fro 0
    have D2 := Lib.hid (D1.setFlash o9 hne)
    have F2 := Lib.hid (F1.setG D1.bg 0 (.slice (some ⟨r', 0, none⟩) 8 c8))
    clear b8 o8 D1 F1 o9
    go_wp2_with fail
    go_ret
    exact ⟨rfl, ⟨_, _, D2.out⟩, F2.out⟩
end Go.Proofs.Ytfohihdpohjmcaa.Ftl
