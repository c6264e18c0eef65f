/-
  The program's table in memory; forget, trim, write, perform.
-/
import Derived.Test.YtegllglfnngijaaWalks
namespace Go.Proofs.Ytegllglfnngijaa.Rem
open Go.ChangeShapes Go.WideShapes Go.ChangeAt Go.RowKit Words
set_option linter.unusedVariables false

def tcells (l : List Int) (r P : Nat) (u : Int) : List Value := icells l ++ [.slice (some ⟨r, 0, none⟩) P P, .int .i64 u]
/-- The table's block and its row. -/
structure RTab (w : World) (g r P : Nat) (l no : List Int) (u : Int) : Prop where
  tab : Whole w g 42 (tcells l r P u).toArray
  row : WI w r 3 no
  ne : g ≠ r
  len : l.length = 16
section
variable {w w' : World} {g r P : Nat} {l no : List Int} {u : Int}
theorem tcells_at {n : Nat} {x : Int} (hl : l.length = 16) (h : l[n]? = some x) : (tcells l r P u)[n]? = some (.int .i64 x) := by
  have hn := (List.getElem?_eq_some_iff.1 h).1
  unfold tcells
  rw [List.getElem?_append_left (by rw [icells_length]; exact hn), icells_get, h]; rfl
theorem tcells_num (hl : l.length = 16) : (tcells l r P u)[16]? = some (.slice (some ⟨r, 0, none⟩) P P) := by
  unfold tcells
  rw [List.getElem?_append_right (by rw [icells_length, hl]; exact Nat.le_refl _), icells_length, hl]; rfl
theorem tcells_used (hl : l.length = 16) : (tcells l r P u)[17]? = some (.int .i64 u) := by
  unfold tcells
  rw [List.getElem?_append_right (by rw [icells_length, hl]; omega), icells_length, hl]; rfl
theorem tcells_setAt {n : Nat} (hl : l.length = 16) (hn : n < 16) (x : Int) : (tcells l r P u).set n (.int .i64 x) = tcells (l.set n x) r P u := by
  unfold tcells
  rw [List.set_append_left _ _ (by rw [icells_length, hl]; exact hn), icells_set]
theorem tcells_setUsed (hl : l.length = 16) (x : Int) : (tcells l r P u).set 17 (.int .i64 x) = tcells l r P x := by
  unfold tcells
  rw [List.set_append_right _ _ (by rw [icells_length, hl]; omega), icells_length, hl]; rfl
theorem RTab.at_ (h : RTab w g r P l no u) {n : Nat} {x : Int} (hx : l[n]? = some x) : w.cell? ⟨g, n, none⟩ = some (.int .i64 x) := by
  rw [Whole.cell h.tab n, List.getElem?_toArray, tcells_at h.len hx]
theorem RTab.num (h : RTab w g r P l no u) : w.cell? ⟨g, 16, none⟩ = some (.slice (some ⟨r, 0, none⟩) P P) := by
  rw [Whole.cell h.tab 16, List.getElem?_toArray, tcells_num h.len]
theorem RTab.used (h : RTab w g r P l no u) : w.cell? ⟨g, 17, none⟩ = some (.int .i64 u) := by
  rw [Whole.cell h.tab 17, List.getElem?_toArray, tcells_used h.len]
theorem RTab.fro (h : RTab w g r P l no u) (n : Nat) : w.frozen? ⟨g, n, none⟩ = false := h.tab.frozen n
theorem RTab.setNo (h : RTab w g r P l no u) (j : Nat) (x : Int) : RTab (w.setCell ⟨r, j, none⟩ (.int .i64 x)) g r P l (no.set j x) u :=
  ⟨whole_other h.tab (fun e => h.ne e.symm) _, h.row.set_ j x, h.ne, h.len⟩
theorem RTab.setAt (h : RTab w g r P l no u) {n : Nat} (hn : n < 16) (x : Int) : RTab (w.setCell ⟨g, n, none⟩ (.int .i64 x)) g r P (l.set n x) no u := by
  refine ⟨?_, h.row.other h.ne _, h.ne, by rw [List.length_set]; exact h.len⟩
  have := Whole.set_ h.tab n (.int .i64 x)
  rw [toArray_setI, tcells_setAt h.len hn] at this
  exact this
theorem RTab.setUsed (h : RTab w g r P l no u) (x : Int) : RTab (w.setCell ⟨g, 17, none⟩ (.int .i64 x)) g r P l no x := by
  refine ⟨?_, h.row.other h.ne _, h.ne, h.len⟩
  have := Whole.set_ h.tab 17 (.int .i64 x)
  rw [toArray_setI, tcells_setUsed h.len] at this
  exact this
theorem RTab.below (h : RTab w g r P l no u) (hb : Below w.heap.size w w') : RTab w' g r P l no u :=
  ⟨whole_below h.tab hb h.tab.lt, h.row.below hb, h.ne, h.len⟩
theorem RTab.range (h : RTab w g r P l no u) : w.rangeAt g 0 (icells l) := fun j v hv => by
  have hj := (List.getElem?_eq_some_iff.1 hv).1
  rw [Nat.zero_add, Whole.cell h.tab j, List.getElem?_toArray]
  unfold tcells
  rw [List.getElem?_append_left hj, hv]
theorem RTab.setCells (h : RTab w g r P l no u) {b : Nat} (h1 : g ≠ b) (h2 : r ≠ b) (o : Nat) (vs : List Value) : RTab (w.setCells b o vs) g r P l no u :=
  ⟨whole_setCells_other h.tab h1 o vs, whole_setCells_other h.row h2 o vs, h.ne, h.len⟩
theorem RTab.drew (h : RTab w g r P l no u) : RTab w.drew g r P l no u := ⟨h.tab, h.row, h.ne, h.len⟩
theorem RTab.drewN (h : RTab w g r P l no u) (n : Nat) : RTab (w.drewN n) g r P l no u := ⟨h.tab, h.row, h.ne, h.len⟩
theorem RTab.as {l' no' : List Int} {u' : Int} (h : RTab w g r P l no u) (e1 : l' = l) (e2 : no' = no) (e3 : u' = u) : RTab w g r P l' no' u' := by subst e1 e2 e3; exact h
end
/-- The table holds what the list says. -/
structure Tab (w : World) (g r P : Nat) (wr : List Int) : Prop where
  raw : RTab w g r P (ats wr) (nos P wr) wr.length
  ok : Ok wr
  le : wr.length ≤ P
/-- Nothing has changed below base, and nothing of what was there but the table's two blocks. -/
structure Fr (base g r : Nat) (w w' : World) : Prop where
  bel : Below base w w'
  oth : ∀ k, k < w.heap.size → k ≠ g → k ≠ r → w'.heap[k]? = w.heap[k]?
section
variable {base g r : Nat} {w w' x : World}
theorem Fr.refl (base g r : Nat) (w : World) : Fr base g r w w := ⟨Below.refl _ _, fun k _ _ _ => rfl⟩
theorem Fr.trans (h : Fr base g r w w') (h2 : Fr base g r w' x) : Fr base g r w x :=
  ⟨h.bel.trans h2.bel, fun k hk h1 h3 => (h2.oth k (Nat.lt_of_lt_of_le hk h.bel.size) h1 h3).trans (h.oth k hk h1 h3)⟩
theorem Fr.setG (h : Fr base g r w w') (hg : base ≤ g) (n : Nat) (u : Value) : Fr base g r w (w'.setCell ⟨g, n, none⟩ u) :=
  ⟨h.bel.setCell hg _, fun k hk h1 h3 => (heap_setCell_other w' ⟨g, n, none⟩ k u h1).trans (h.oth k hk h1 h3)⟩
theorem Fr.setR (h : Fr base g r w w') (hr : base ≤ r) (n : Nat) (u : Value) : Fr base g r w (w'.setCell ⟨r, n, none⟩ u) :=
  ⟨h.bel.setCell hr _, fun k hk h1 h3 => (heap_setCell_other w' ⟨r, n, none⟩ k u h3).trans (h.oth k hk h1 h3)⟩
theorem Fr.drew (h : Fr base g r w w') : Fr base g r w w'.drew := ⟨h.bel.drew, h.oth⟩
theorem Fr.drewN (h : Fr base g r w w') (n : Nat) : Fr base g r w (w'.drewN n) := ⟨below_drewN h.bel n, h.oth⟩
theorem Fr.alloc (h : Fr base g r w w') (hs : base ≤ w'.heap.size) (o : Obj) : Fr base g r w (w'.alloc o) :=
  ⟨h.bel.alloc hs o, fun k hk h1 h3 => (heap_alloc_old w' o (Nat.lt_of_lt_of_le hk h.bel.size)).trans (h.oth k hk h1 h3)⟩
theorem Fr.whole {t : TypeId} {cs : Array Value} {e : Nat} (h : Fr base g r w w') (hw : Whole w e t cs) (h1 : e ≠ g) (h2 : e ≠ r) : Whole w' e t cs := by
  have hl := hw.lt
  unfold Whole at *
  rw [h.oth e hl h1 h2]
  exact hw
end
def Held (base g r P : Nat) (wr : List Int) (v : Value) (w : World) (e : Ending) (w' : World) : Prop := e = .returned v ∧ Tab w' g r P wr ∧ Fr base g r w w'
set_option maxHeartbeats 1000000 in
theorem forget25 (base g r P : Nat) (wr : List Int) (n : Nat) (w : World) (h : Tab w g r P wr) (hn : n < 16) (hg : base ≤ g) (hr : base ≤ r) (hs : base ≤ w.heap.size) :
    Calls Try.prog 25 #[.pointer (some ⟨g, 0, none⟩), .int .i64 n] w (fun e w' => e = .returned (.tuple #[]) ∧ RTab w' g r P (ats (fg wr n)) (nos P (fg wr n)) wr.length ∧ Fr base g r w w') := by
  have c0 := h.raw.at_ (ats_get wr hn)
  by_cases hz : idx wr n = -1
  · have HT := Lib.hid h.raw
    have hf := fg_none hz
    rw [hf]
    rw [hz] at c0
    clear h hz hf
    go_enter Try.func25, Try.ntmps25
    go_wp2_with fail
    go_end0
    exact ⟨rfl, HT.out, Fr.refl _ _ _ _⟩
  · obtain ⟨p, hp, hpl, _, _⟩ := idx_is hz
    rw [hp] at c0
    have hne : ((p : Int) != -1) = true := by rw [bne_iff_ne]; omega
    have n0 := h.raw.num
    have hpP : p < P := Nat.lt_of_lt_of_le hpl h.le
    have hnos : ∃ x, (nos P wr)[p]? = some x := ⟨_, List.getElem?_eq_getElem (by rw [nos_length h.le]; exact hpP)⟩
    obtain ⟨x, hx⟩ := hnos
    have c1 := h.raw.row.cell hx
    have f1 := h.raw.row.frozen p
    have T1 := h.raw.setNo p (-1)
    have c2 := T1.at_ (ats_get wr hn)
    rw [hp] at c2
    have f2 := T1.fro n
    have T2 := Lib.hid ((T1.setAt hn (-1)).as (ats_fg h.ok hn) (nos_fg hp) rfl)
    have HB : Hid (Fr base g r w ((w.setCell ⟨r, p, none⟩ (.int .i64 (-1))).setCell ⟨g, n, none⟩ (.int .i64 (-1)))) := Lib.hid (((Fr.refl base g r w).setR hr _ _).setG hg _ _)
    clear h T1 hx hz hp
    go_enter Try.func25, Try.ntmps25
    go_wp2_with fail
    go_end0
    exact ⟨rfl, T2.out, HB.out⟩
set_option maxHeartbeats 1000000 in
theorem trim23 (base g r P : Nat) (wr : List Int) (n : Nat) (w : World) (h : Tab w g r P wr) (hn : n < 16) (hg : base ≤ g) (hr : base ≤ r) (hs : base ≤ w.heap.size) :
    Calls Try.prog 23 #[.pointer (some ⟨g, 0, none⟩), .int .i64 n] w (Held base g r P (mnx P wr ⟨2, n⟩) (.int .i64 (merr P wr ⟨2, n⟩)) w) := by
  have c0 := h.raw.at_ (ats_get wr hn)
  have HF := Lib.hid (forget25 base g r P wr n w h hn hg hr hs)
  have hm : merr P wr ⟨2, n⟩ = if idx wr n = -1 then 3 else 0 := merr_trim rfl ⟨by show (0 : Int) ≤ n; omega, by show (n : Int) < 16; omega⟩
  by_cases hz : idx wr n = -1
  · rw [if_pos hz] at hm
    have hx := mnx_ne (P := P) (wr := wr) (o := ⟨2, n⟩) (by omega)
    rw [hx, hm]
    rw [hz] at c0
    have HT := Lib.hid h
    clear h hx hm hz HF
    go_enter Try.func23, Try.ntmps23
    go_wp2_with fail
    go_ret
    exact ⟨rfl, HT.out, Fr.refl _ _ _ _⟩
  · rw [if_neg hz] at hm
    have hx : mnx P wr ⟨2, n⟩ = fg wr n := by
      obtain ⟨_, ⟨h1, _⟩ | ⟨_, _, h2⟩⟩ := merr_zero hm
      · cases h1
      · exact h2
    rw [hx, hm]
    have hne : (idx wr n == -1) = false := by rw [beq_eq_false_iff_ne]; exact hz
    have HK := Lib.hid (fg_ok h.ok n)
    have HL := Lib.hid h.le
    obtain ⟨d, hd⟩ : ∃ d, d = idx wr n := ⟨_, rfl⟩
    rw [← hd] at c0 hne
    clear h hx hm hz hd
    go_enter Try.func23, Try.ntmps23
    go_wp2_with fail
    refine (HF.out).mono ?_; rintro e w1 ⟨rfl, t1, b1⟩
    have T1 := Lib.hid t1
    have B1 := Lib.hid b1
    clear t1 b1
    go_wp2_with fail
    go_ret
    exact ⟨rfl, ⟨T1.out.as rfl rfl (by rw [fg_length]), HK.out, by rw [fg_length]; exact HL.out⟩, B1.out⟩
set_option maxHeartbeats 2000000 in
theorem write22 (base g r P : Nat) (wr : List Int) (n : Nat) (w : World) (h : Tab w g r P wr) (hn : n < 16) (hg : base ≤ g) (hr : base ≤ r) (hs : base ≤ w.heap.size) (hP : P ≤ 4096) :
    Calls Try.prog 22 #[.pointer (some ⟨g, 0, none⟩), .int .i64 n] w (Held base g r P (mnx P wr ⟨1, n⟩) (.int .i64 (merr P wr ⟨1, n⟩)) w) := by
  have n0 := h.raw.num
  have u0 := h.raw.used
  have hm : merr P wr ⟨1, n⟩ = if wr.length = P then 4 else 0 := merr_write rfl ⟨by show (0 : Int) ≤ n; omega, by show (n : Int) < 16; omega⟩
  obtain ⟨u, hu⟩ : ∃ u, u = wr.length := ⟨_, rfl⟩
  by_cases hz : wr.length = P
  · rw [if_pos hz] at hm
    have hx := mnx_ne (P := P) (wr := wr) (o := ⟨1, n⟩) (by omega)
    rw [hx, hm]
    have HT := Lib.hid h
    have heq : ((u : Int) == (P : Int)) = true := by rw [beq_iff_eq]; omega
    rw [← hu] at u0
    clear h hx hm hz hu
    go_enter Try.func22, Try.ntmps22
    go_wp2_with fail
    go_quiet (fail)
    go_wp2_with fail
    go_ret
    refine ⟨rfl, ⟨?_, HT.out.ok, HT.out.le⟩, ?_⟩
    · first | exact HT.out.raw.drewN _ | exact HT.out.raw.drew | exact HT.out.raw
    · exact (Fr.refl _ _ _ _).drewN _
  · rw [if_neg hz] at hm
    have hx : mnx P wr ⟨1, n⟩ = put wr n := by
      obtain ⟨_, ⟨_, _, h2⟩ | ⟨h1, _⟩⟩ := merr_zero hm
      · exact h2
      · cases h1
    rw [hx, hm]
    have hl := h.le
    have heq : ((u : Int) == (P : Int)) = false := by rw [beq_eq_false_iff_ne]; omega
    have HF := Lib.hid (fun x (t : Tab x g r P wr) (s : base ≤ x.heap.size) => forget25 base g r P wr n x t hn hg hr s)
    have HA := Lib.hid (ats_put h.ok hn)
    have HN := Lib.hid (nos_put (P := P) (wr := wr) (n := n) (by omega))
    have HK := Lib.hid (put_ok h.ok (n := n) (by omega) (by omega))
    have HT := Lib.hid h
    have HFL := Lib.hid (nos_length (P := P) (wr := fg wr n) (by rw [fg_length]; omega))
    have hput : (put wr n).length = u + 1 := by rw [put_length, hu]
    have HPL := Lib.hid hput
    have HAL := Lib.hid (ats_length (fg wr n))
    rw [← hu] at u0 HN HA
    have huP : u < P := by omega
    have HU := Lib.hid hu
    clear h hx hm hz hl hu hput
    go_enter Try.func22, Try.ntmps22
    go_wp2_with fail
    go_quiet (fail)
    go_wp2_with fail
    refine (HF.out _ ⟨HT.out.raw.drewN _, HT.out.ok, HT.out.le⟩ hs).mono ?_; rintro e w1 ⟨rfl, t1, b1⟩
    have t1 : RTab w1 g r P (ats (fg wr n)) (nos P (fg wr n)) u := t1.as rfl rfl (by rw [HU.out])
    have B1 := Lib.hid (((Fr.refl base g r w).drewN _).trans b1)
    have a1 := t1.num
    have a2 := t1.used
    obtain ⟨x0, hx0⟩ : ∃ x, (ats (fg wr n))[n]? = some x := ⟨_, ats_get _ hn⟩
    have a3 := t1.at_ hx0
    have a4 := t1.fro n
    have t2 := t1.setAt hn u
    have e1 := t2.num
    have e2 := t2.used
    obtain ⟨x1, hx1⟩ : ∃ x, (nos P (fg wr n))[u]? = some x := ⟨_, List.getElem?_eq_getElem (by rw [HFL.out]; exact huP)⟩
    have e3 := t2.row.cell hx1
    have e4 := t2.row.frozen u
    have t3 := t2.setNo u n
    have i2 := t3.used
    have i4 := t3.fro 17
    have T4 := Lib.hid ((t3.setUsed ((u : Int) + 1)).as HA.out HN.out (u' := ((put wr n).length : Int)) (by rw [HPL.out]; omega))
    have HB : Hid (Fr base g r w (((w1.setCell ⟨g, n, none⟩ (.int .i64 u)).setCell ⟨r, u, none⟩ (.int .i64 n)).setCell ⟨g, 17, none⟩ (.int .i64 ((u : Int) + 1)))) := Lib.hid (((B1.out.setG hg _ _).setR hr _ _).setG hg _ _)
    clear t1 b1 t2 t3 hx0 hx1
    go_wp2_with fail
    go_region
    go_wp2_with fail
    go_region
    go_wp2_with fail
    go_ret
    exact ⟨rfl, ⟨by first | exact T4.out.drew.drew | exact T4.out.drew | exact T4.out.drewN _, HK.out, by rw [HPL.out]; exact huP⟩, by first | exact HB.out.drew.drew | exact HB.out.drew | exact HB.out.drewN _⟩
/-- An operation, by value; and boxed. -/
def oval (o : Mop) : Value := .agg #[.int .i64 o.kind, .int .i64 o.n]
def obox (o : Mop) : Obj := .cells #[.int .i64 o.kind, .int .i64 o.n] 37
theorem Tab.below {w w' : World} {g r P : Nat} {wr : List Int} (h : Tab w g r P wr) (hb : Below w.heap.size w w') : Tab w' g r P wr := ⟨h.raw.below hb, h.ok, h.le⟩
set_option maxHeartbeats 2000000 in
theorem perform17 (base g r P : Nat) (wr : List Int) (o : Mop) (w : World) (h : Tab w g r P wr) (hg : base ≤ g) (hr : base ≤ r) (hs : base ≤ w.heap.size) (hP : P ≤ 4096) :
    Calls Try.prog 17 #[.pointer (some ⟨g, 0, none⟩), oval o] w (Held base g r P (mnx P wr o) (.int .i64 (merr P wr o)) w) := by
  have HB0 : Hid (Fr base g r w (w.alloc (obox o))) := Lib.hid ((Fr.refl base g r w).alloc hs _)
  have HT0 : Hid (Tab (w.alloc (obox o)) g r P wr) := Lib.hid (h.below ((Below.refl _ _).alloc (Nat.le_refl _) _))
  have hs0 : base ≤ (w.alloc (obox o)).heap.size := Nat.le_trans hs HB0.out.bel.size
  by_cases hk : o.kind = 1 ∨ o.kind = 2
  · by_cases hr2 : 0 ≤ o.n ∧ o.n < 16
    · obtain ⟨kd, nn⟩ := o
      simp only at hk hr2
      obtain ⟨n, rfl⟩ : ∃ n : Nat, nn = n := ⟨nn.toNat, by omega⟩
      have hn : n < 16 := by omega
      have H20 := number20 n (w.alloc (obox ⟨kd, n⟩))
      rw [isN_yes.2 hr2] at H20
      have H20 := Lib.hid H20
      have HW := Lib.hid (write22 base g r P wr n _ HT0.out hn hg hr hs0 hP)
      have HT := Lib.hid (trim23 base g r P wr n _ HT0.out hn hg hr hs0)
      clear h hr2
      unfold oval
      unfold obox at *
      rcases hk with rfl | rfl
      · generalize mnx P wr ⟨1, n⟩ = wr2 at *
        generalize merr P wr ⟨1, n⟩ = er at *
        go_enter Try.func17, Try.ntmps17
        go_wp2_with fail
        refine (H20.out).mono ?_; rintro e w1 ⟨rfl, rfl⟩
        go_wp2_with fail
        refine (HW.out).mono ?_; rintro e w1 ⟨rfl, t1, b1⟩
        have T1 := Lib.hid t1
        have B1 := Lib.hid (HB0.out.trans b1)
        clear t1 b1
        go_wp2_with fail
        go_ret
        exact ⟨rfl, T1.out, B1.out⟩
      · generalize mnx P wr ⟨2, n⟩ = wr2 at *
        generalize merr P wr ⟨2, n⟩ = er at *
        go_enter Try.func17, Try.ntmps17
        go_wp2_with fail
        refine (H20.out).mono ?_; rintro e w1 ⟨rfl, rfl⟩
        go_wp2_with fail
        refine (HT.out).mono ?_; rintro e w1 ⟨rfl, t1, b1⟩
        have T1 := Lib.hid t1
        have B1 := Lib.hid (HB0.out.trans b1)
        clear t1 b1
        go_wp2_with fail
        go_ret
        exact ⟨rfl, T1.out, B1.out⟩
    · have hm := merr_range (P := P) (wr := wr) hk hr2
      rw [mnx_ne (by omega), hm]
      have H20 := number20 o.n (w.alloc (obox o))
      rw [isN_no.2 hr2] at H20
      have H20 := Lib.hid H20
      clear h hm hr2
      obtain ⟨kd, nn⟩ := o
      unfold oval
      unfold obox at *
      simp only at hk
      rcases hk with rfl | rfl
      · go_enter Try.func17, Try.ntmps17
        go_wp2_with fail
        refine (H20.out).mono ?_; rintro e w1 ⟨rfl, rfl⟩
        go_wp2_with fail
        go_ret
        exact ⟨rfl, HT0.out, HB0.out⟩
      · go_enter Try.func17, Try.ntmps17
        go_wp2_with fail
        refine (H20.out).mono ?_; rintro e w1 ⟨rfl, rfl⟩
        go_wp2_with fail
        go_ret
        exact ⟨rfl, HT0.out, HB0.out⟩
  · have hm := merr_kind (P := P) (wr := wr) hk
    rw [mnx_ne (by omega), hm]
    clear h hm
    obtain ⟨kd, nn⟩ := o
    unfold oval
    unfold obox at *
    simp only at hk
    have h1 : (kd != 1) = true := by rw [bne_iff_ne]; omega
    have h2 : (kd != 2) = true := by rw [bne_iff_ne]; omega
    clear hk
    go_enter Try.func17, Try.ntmps17
    go_wp2_with fail
    go_ret
    exact ⟨rfl, HT0.out, HB0.out⟩
end Go.Proofs.Ytegllglfnngijaa.Rem
