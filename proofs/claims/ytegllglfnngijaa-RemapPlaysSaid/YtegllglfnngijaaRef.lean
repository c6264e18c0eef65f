/-
  The document's own mapping: what finds a number; what its walk keeps in memory.
-/
import Derived.Test.YtegllglfnngijaaPlay8
namespace Go.Proofs.Ytegllglfnngijaa.Rem
open Go.ChangeShapes Go.WideShapes Go.ChangeAt Go.RowKit Words
set_option linter.unusedVariables false

set_option maxHeartbeats 1000000 in
theorem find18 (x : Int) (b : Nat) (B : Nat) (A : Option Addr) (m c : Nat) (l : List Int) (w : World) (hb : w.cell? ⟨b, 0, none⟩ = some (.slice A m c)) (h : Ints w B A m c l) :
    Calls Try.prog 18 #[.int .i64 x, .pointer (some ⟨b, 0, none⟩)] w fun e w' => e = .returned (.int .i64 (idx l x)) ∧ w' = w := by
  have L := Lib.hid h.len
  have hm := Words.Rd.small h
  have H := Lib.hid h
  clear h
  go_enter Try.func18, Try.ntmps18
  go_wp2_with fail
  go_loopw [8] (fun i wr => ∃ (k : Nat), i = .int .i64 k ∧ k ≤ m ∧ wr = w ∧ ∀ j, j < k → l[j]? ≠ some x) (fun i _ => (m - intOf i).toNat)
  case atStart => exact ⟨0, rfl, by omega, rfl, fun j hj => by omega⟩
  case round =>
    obtain ⟨k, rfl, hk, rfl, hn⟩ := hrel
    have HN := Lib.hid hn
    clear hn
    by_cases hlt : k < m
    · obtain ⟨g, o, rfl, _, _⟩ := Words.Rd.row H.out (by omega)
      obtain ⟨y, hy⟩ : ∃ y, l[k]? = some y := ⟨_, List.getElem?_eq_getElem (by rw [L.out]; exact hlt)⟩
      have c0 := Ints.cellAt H.out rfl hy
      have HY := Lib.hid hy
      clear hy
      by_cases hxy : y = x
      · have hbq : (y == x) = true := by rw [beq_iff_eq]; exact hxy
        have HI : Hid (idx l x = k) := Lib.hid (idx_at (by rw [HY.out, hxy]) HN.out)
        clear hxy
        go_wp2_with fail
        go_ret
        exact ⟨ret_int HI.out.symm, rfl⟩
      · have hbq : (y == x) = false := by rw [beq_eq_false_iff_ne]; exact hxy
        have HN2 : Hid (∀ j, j < k + 1 → l[j]? ≠ some x) := Lib.hid (fun j hj => by
          by_cases e : j = k
          · subst e
            rw [HY.out]
            intro h
            injection h with h
            exact hxy h
          · exact HN.out j (by omega))
        clear hxy
        go_wp2_with fail
        go_roundw
        case rel => exact ⟨k + 1, by go_num, by omega, by first | rfl | trivial, HN2.out⟩
        case measure => simp [intOf]; omega
    · have HI : Hid (idx l x = -1) := Lib.hid (idx_not.2 (fun hx => by
        obtain ⟨j, hj⟩ := List.mem_iff_getElem?.1 hx
        have hjl := (List.getElem?_eq_some_iff.1 hj).1
        rw [L.out] at hjl
        exact HN.out j (by omega) hj))
      go_wp2_with fail
      go_ret
      exact ⟨ret_int HI.out.symm, rfl⟩
/-! ### what the walk keeps -/
theorem size_setCell (w : World) (p : Addr) (u : Value) : (w.setCell p u).heap.size = w.heap.size := by simp [World.setCell]
theorem own_other {w : World} {base : Nat} {e : TypeId} {sz : Nat} {v : Value} {n : Nat} {xs : List Value} (h : w.ownsRow base e sz v n xs) {p : Addr} (hp : p.block < base) (u : Value) : (w.setCell p u).ownsRow base e sz v n xs := by
  refine ⟨h.1, ?_⟩
  rcases h.2 with hn | ⟨g, cap, cur, rfl, h1, hgg, rest⟩
  · exact .inl hn
  · exact .inr ⟨g, cap, cur, rfl, h1, (heap_setCell_other w p g u (by omega)).trans hgg, rest⟩
theorem whole_grown {a b : World} {g : Nat} {t : TypeId} {cs : Array Value} {v : Value} (h : Whole a g t cs) (hg : a.grownBy b v.ownBlock) (hne : ∀ k, v.ownBlock = some k → g < k) : Whole b g t cs := by
  have hl := h.lt
  unfold Whole at *
  rw [hg.block g hl (fun e => Nat.lt_irrefl _ (hne g e.symm))]
  exact h
/-- The result's block, the block of the numbers' pages, the box of what was written with its row, the error codes. -/
structure GS (w wr : World) (al : List Int) (A : Option Addr) (m c : Nat) (l : List Int) (A2 : Option Addr) (k c2 : Nat) (es : List Int) : Prop where
  bel : Below w.heap.size w wr
  res : WI wr w.heap.size 25 zero16
  at_ : WI wr (w.heap.size + 1) 25 al
  box : Whole wr (w.heap.size + 2) 23 #[.slice A m c]
  row : wr.ownsRow (w.heap.size + 3) 3 1 (.slice A m c) m (icells l)
  err : wr.ownsRow (w.heap.size + 3) 26 1 (.slice A2 k c2) k (icells es)
section
variable {w wr x : World} {al : List Int} {A A2 : Option Addr} {m c k c2 : Nat} {l es : List Int}
theorem GS.size (h : GS w wr al A m c l A2 k c2 es) : w.heap.size + 3 ≤ wr.heap.size := h.box.lt
theorem GS.below (h : GS w wr al A m c l A2 k c2 es) (hb : Below wr.heap.size wr x) : GS w x al A m c l A2 k c2 es :=
  ⟨h.bel.trans (hb.mono h.bel.size), h.res.below hb, h.at_.below hb, whole_below h.box hb h.box.lt, own_below h.row hb (Nat.le_refl _), own_below h.err hb (Nat.le_refl _)⟩
theorem GS.alloc (h : GS w wr al A m c l A2 k c2 es) (o : Obj) : GS w (wr.alloc o) al A m c l A2 k c2 es := h.below ((Below.refl _ _).alloc (Nat.le_refl _) _)
theorem GS.drew (h : GS w wr al A m c l A2 k c2 es) : GS w wr.drew al A m c l A2 k c2 es := ⟨h.bel.drew, h.res, h.at_, h.box, h.row, h.err⟩
theorem GS.len (h : GS w wr al A m c l A2 k c2 es) : l.length = m := by have := h.row.1; rw [icells_length] at this; omega
theorem GS.elen (h : GS w wr al A m c l A2 k c2 es) : es.length = k := by have := h.err.1; rw [icells_length] at this; omega
theorem GS.cell (h : GS w wr al A m c l A2 k c2 es) : wr.cell? ⟨w.heap.size + 2, 0, none⟩ = some (.slice A m c) := h.box.cell 0
theorem GS.ints (h : GS w wr al A m c l A2 k c2 es) : Ints wr wr.heap.size A m c l := Words.Rd.of_own h.row
theorem GS.eints (h : GS w wr al A m c l A2 k c2 es) : Ints wr wr.heap.size A2 k c2 es := Words.Rd.of_own h.err
theorem GS.as {al' l' es' : List Int} (h : GS w wr al A m c l A2 k c2 es) (e1 : al' = al) (e2 : l' = l) (e3 : es' = es) : GS w wr al' A m c l' A2 k c2 es' := by subst e1 e2 e3; exact h
theorem GS.addr (h : GS w wr al A m c l A2 k c2 es) (hm : 0 < m) : ∃ g, A = some ⟨g, 0, none⟩ ∧ w.heap.size + 3 ≤ g ∧ g < wr.heap.size := by
  obtain ⟨g, c', hv, h1, h2⟩ := own_form_pos h.row hm
  injection hv with hv
  exact ⟨g, hv, h1, h2⟩
/-- A page forgotten. -/
theorem GS.setp {g : Nat} (h : GS w wr al (some ⟨g, 0, none⟩) m c l A2 k c2 es) (hg : w.heap.size + 3 ≤ g) (p : Nat) (v : Int) : GS w (wr.setCell ⟨g, p, none⟩ (.int .i64 v)) al (some ⟨g, 0, none⟩) m c (l.set p v) A2 k c2 es := by
  have hs := Go.World.ownsRow.stored h.row p (.int .i64 v)
  rw [icells_set] at hs
  have hg2 : wr.grownBy (wr.setCell ⟨g, p, none⟩ (.int .i64 v)) (Value.slice (some ⟨g, 0, none⟩) m c).ownBlock := hs.2
  exact ⟨h.bel.setCell (by show w.heap.size ≤ g; omega) _, h.res.other (by show g ≠ w.heap.size; omega) _, h.at_.other (by show g ≠ w.heap.size + 1; omega) _, whole_other h.box (by show g ≠ w.heap.size + 2; omega) _, hs.1,
    Go.World.ownsRow.kept h.err hg2 (own_apart h.err h.row (by decide))⟩
theorem GS.cellp {g : Nat} (h : GS w wr al (some ⟨g, 0, none⟩) m c l A2 k c2 es) {p : Nat} {v : Int} (hv : l[p]? = some v) : wr.cell? ⟨g, p, none⟩ = some (.int .i64 v) := by
  have := Ints.cellAt h.ints rfl hv
  rwa [Nat.zero_add] at this
theorem GS.frop {g : Nat} (h : GS w wr al (some ⟨g, 0, none⟩) m c l A2 k c2 es) (p : Nat) : wr.frozen? ⟨g, p, none⟩ = false := Go.World.ownsRow.frozenAt h.row p
/-- A number written: the row grown, its box told. -/
theorem GS.app {A' c'} (h : GS w wr al A m c l A2 k c2 es) {v : Int} (ho : x.ownsRow (w.heap.size + 3) 3 1 (.slice A' (m + 1) c') (m + 1) (icells l ++ icells [v])) (hg : wr.grownBy x (Value.slice A m c).ownBlock) :
    Whole x (w.heap.size + 2) 23 #[.slice A m c] ∧ GS w (x.setCell ⟨w.heap.size + 2, 0, none⟩ (.slice A' (m + 1) c')) al A' (m + 1) c' (l ++ [v]) A2 k c2 es := by
  have hlt : ∀ g, (Value.slice A m c).ownBlock = some g → w.heap.size + 3 ≤ g := fun g e => (h.row.lt g e).1
  have hb := whole_grown h.box hg (fun g e => by have := hlt g e; omega)
  have hr := whole_grown h.res hg (fun g e => by have := hlt g e; omega)
  have ha := whole_grown h.at_ hg (fun g e => by have := hlt g e; omega)
  refine ⟨hb, ⟨(below_grown h.bel h.row hg h.bel.size (by omega)).setCell (by show w.heap.size ≤ w.heap.size + 2; omega) _, whole_other hr (by show w.heap.size + 2 ≠ w.heap.size; omega) _, whole_other ha (by show w.heap.size + 2 ≠ w.heap.size + 1; omega) _, ?_, ?_, ?_⟩⟩
  · exact hb.set_ 0 _
  · rw [icells_append]
    exact own_other ho (Nat.lt_succ_self _) _
  · exact own_other (Go.World.ownsRow.kept h.err hg (own_apart h.err h.row (by decide))) (Nat.lt_succ_self _) _
/-- An error code told. -/
theorem GS.eapp {A' c'} (h : GS w wr al A m c l A2 k c2 es) {v : Int} (ho : x.ownsRow (w.heap.size + 3) 26 1 (.slice A' (k + 1) c') (k + 1) (icells es ++ icells [v])) (hg : wr.grownBy x (Value.slice A2 k c2).ownBlock) :
    GS w x al A m c l A' (k + 1) c' (es ++ [v]) := by
  have hlt : ∀ g, (Value.slice A2 k c2).ownBlock = some g → w.heap.size + 3 ≤ g := fun g e => (h.err.lt g e).1
  exact ⟨below_grown h.bel h.err hg h.bel.size (by omega), whole_grown h.res hg (fun g e => by have := hlt g e; omega), whole_grown h.at_ hg (fun g e => by have := hlt g e; omega), whole_grown h.box hg (fun g e => by have := hlt g e; omega),
    Go.World.ownsRow.kept h.row hg (own_apart h.row h.err (by decide)), by rw [icells_append]; exact ho⟩
/-- A number's page told. -/
theorem GS.seta (h : GS w wr al A m c l A2 k c2 es) (n : Nat) (v : Int) : GS w (wr.setCell ⟨w.heap.size + 1, n, none⟩ (.int .i64 v)) (al.set n v) A m c l A2 k c2 es :=
  ⟨h.bel.setCell (Nat.le_succ _) _, h.res.other (by show w.heap.size + 1 ≠ w.heap.size; omega) _, h.at_.set_ n v, whole_other h.box (by show w.heap.size + 1 ≠ w.heap.size + 2; omega) _,
    own_other h.row (by show w.heap.size + 1 < w.heap.size + 3; omega) _, own_other h.err (by show w.heap.size + 1 < w.heap.size + 3; omega) _⟩
end
theorem own_setCells {w : World} {base : Nat} {e : TypeId} {sz : Nat} {v : Value} {n : Nat} {xs : List Value} (h : w.ownsRow base e sz v n xs) {b : Nat} (hb : b < base) (o : Nat) (vs : List Value) : (w.setCells b o vs).ownsRow base e sz v n xs := by
  refine ⟨h.1, ?_⟩
  rcases h.2 with hn | ⟨g, cap, cur, rfl, h1, hgg, rest⟩
  · exact .inl hn
  · exact .inr ⟨g, cap, cur, rfl, h1, (heap_setCells_other b (by omega) vs o w).trans hgg, rest⟩
theorem ints_setCells {w : World} {base : Nat} {e : TypeId} {A : Option Addr} {n c : Nat} {l : List Int} (h : w.ownsRow base e 1 (.slice A n c) n (icells l)) {b : Nat} (hb : b < base) (o : Nat) (vs : List Value) : Ints (w.setCells b o vs) w.heap.size A n c l := by
  have := Words.Rd.of_own (own_setCells h hb o vs)
  rw [size_setCells] at this
  exact this
/-- The boxed operation behind a store into the row. -/
theorem box_set {wr : World} {g q : Nat} (hg : g < wr.heap.size) (kd nn : Int) (v : Value) :
    ((wr.alloc (.cells #[.int .i64 kd, .int .i64 nn] 37)).setCell ⟨g, q, none⟩ v).cell? ⟨wr.heap.size, 0, none⟩ = some (.int .i64 kd) ∧
    ((wr.alloc (.cells #[.int .i64 kd, .int .i64 nn] 37)).setCell ⟨g, q, none⟩ v).cell? ⟨wr.heap.size, 1, none⟩ = some (.int .i64 nn) := by
  constructor
  · rw [World.cell?_setCell_other _ _ _ _ (fun e => by injection e with e _ _; omega)]
    exact cell_of_row _ _ 0 _ 37 (0, 0) (heap_alloc_new wr _)
  · rw [World.cell?_setCell_other _ _ _ _ (fun e => by injection e with e _ _; omega)]
    exact cell_of_row _ _ 1 _ 37 (0, 0) (heap_alloc_new wr _)
/-- Behind m rounds. -/
def up (L : List Int) (m : Nat) : List Int := L.take m ++ List.replicate (16 - m) 0
theorem up_zero (L : List Int) : up L 0 = zero16 := by unfold up; simp; rfl
theorem up_all {L : List Int} (h : L.length = 16) : up L 16 = L := by unfold up; rw [List.take_of_length_le (by omega)]; simp
theorem up_length {L : List Int} (h : L.length = 16) {m : Nat} (hm : m ≤ 16) : (up L m).length = 16 := by
  unfold up; rw [List.length_append, List.length_take, h, List.length_replicate]; omega
theorem up_set {L : List Int} (h : L.length = 16) {m : Nat} (hm : m < 16) {v : Int} (hv : L[m]? = some v) : (up L m).set m v = up L (m + 1) := by
  have hl : (L.take m).length = m := by rw [List.length_take, h]; omega
  unfold up
  rw [List.set_append_right _ _ (by rw [hl]; exact Nat.le_refl _), hl, Nat.sub_self, show 16 - m = (16 - (m + 1)) + 1 by omega, List.replicate_succ, List.set_cons_zero, List.take_add_one, hv, List.append_assoc]
  rfl
def cellLen (w : World) (a : Addr) : Nat := match w.cell? a with | some (.slice _ n _) => n | _ => 0
theorem cellLen_is {w : World} {a : Addr} {A : Option Addr} {n c : Nat} (h : w.cell? a = some (.slice A n c)) : cellLen w a = n := by unfold cellLen; rw [h]
end Go.Proofs.Ytegllglfnngijaa.Rem
