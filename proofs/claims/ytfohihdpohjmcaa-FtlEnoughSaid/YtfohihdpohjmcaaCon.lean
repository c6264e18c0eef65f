/-
  What is asked of the program's Play, as a hypothesis; the small test that package ftl is not empty, under it.
-/
import Derived.Test.YtfohihdpohjmcaaEqs
namespace Go.Proofs.Ytfohihdpohjmcaa.Ftl
open Go.ChangeShapes Go.WideShapes Go.ChangeAt Go.RowKit Words
set_option linter.unusedVariables false

/-- How many writes were carried out. -/
def isFw (o : Fop) : Bool := (o.kind == 1) && decide (0 ≤ o.n) && decide (o.n < 16)
theorem isFw_iff {o : Fop} : isFw o = true ↔ o.kind = 1 ∧ frange o := by
  unfold isFw frange
  rw [Bool.and_eq_true, Bool.and_eq_true, beq_iff_eq, decide_eq_true_eq, decide_eq_true_eq, and_assoc]
def nw (l : List Fop) (k : Nat) : Nat := ((l.take k).filter isFw).length
theorem nw_zero (l : List Fop) : nw l 0 = 0 := by unfold nw; simp
theorem nw_le (l : List Fop) (k : Nat) : nw l k ≤ k := by
  unfold nw
  refine Nat.le_trans (List.length_filter_le _ _) ?_
  rw [List.length_take]; omega
theorem nw_yes {l : List Fop} {k : Nat} {o : Fop} (h : l[k]? = some o) (hw : isFw o = true) : nw l (k + 1) = nw l k + 1 := by
  unfold nw
  rw [take_next h, List.filter_append, List.length_append]
  simp [hw]
theorem nw_no {l : List Fop} {k : Nat} {o : Fop} (h : l[k]? = some o) (hw : isFw o = false) : nw l (k + 1) = nw l k := by
  unfold nw
  rw [take_next h, List.filter_append, List.length_append]
  simp [hw]
def wsum (l : List Int) : Nat → Int
  | 0 => 0
  | k + 1 => wsum l k + l.getD k 0
/-- What the erase counts must keep. -/
structure WearOk (l : List Fop) (wl : List Int) : Prop where
  len : wl.length = 8
  pos : ∀ x ∈ wl, 0 ≤ x ∧ x ≤ 1000000
  near : ∀ x ∈ wl, ∀ y ∈ wl, x - y ≤ 3
  room : (nw l l.length : Int) ≤ 4 * (8 + wsum wl 8)
def FPlayed (w : World) (l : List Fop) (e : Ending) (w' : World) : Prop :=
  ∃ A1 c1 A2 wl c2, e = .returned (.tuple #[.slice A1 (iAns l).length c1, .slice A2 wl.length c2, .int .i64 (iErr l)]) ∧ Fans w' w'.heap.size A1 (iAns l).length c1 (iAns l) ∧ Ints w' w'.heap.size A2 wl.length c2 wl ∧
    (if l.length ≤ 400 then WearOk l wl else wl = []) ∧ Below w.heap.size w w'
/-- What is asked of Play. -/
def PlayC : Prop := ∀ (B : Nat) (A : Option Addr) (n c : Nat) (l : List Fop) (w : World), Ops w B A n c l → B ≤ w.heap.size → (∀ o ∈ l, Wf o) → Calls Try.prog 9 #[.slice A n c] w (FPlayed w l)
theorem fplayed_ok {w w' : World} {l : List Fop} {e : Ending} (h : l.length ≤ 400) (p : FPlayed w l e w') : ∃ A1 c1 A2 wl c2, e = .returned (.tuple #[.slice A1 l.length c1, .slice A2 8 c2, .int .i64 0]) ∧ Fans w' w'.heap.size A1 l.length c1 (anss sto0 l) ∧ Ints w' w'.heap.size A2 8 c2 wl ∧ WearOk l wl ∧ Below w.heap.size w w' := by
  obtain ⟨A1, c1, A2, wl, c2, he, h1, h2, h3, hb⟩ := p
  rw [if_pos h] at h3
  have e1 : iAns l = anss sto0 l := by unfold iAns; rw [if_pos h]
  have e2 : iErr l = 0 := by unfold iErr; rw [if_pos h]
  rw [e1, anss_length, e2, h3.len] at he
  rw [e1, anss_length] at h1
  rw [h3.len] at h2
  exact ⟨A1, c1, A2, wl, c2, he, h1, h2, h3, hb⟩
theorem fplayed_bad {w w' : World} {l : List Fop} {e : Ending} (h : ¬ l.length ≤ 400) (p : FPlayed w l e w') : ∃ A1 c1 A2 c2, e = .returned (.tuple #[.slice A1 0 c1, .slice A2 0 c2, .int .i64 2]) ∧ Fans w' w'.heap.size A1 0 c1 [] ∧ Below w.heap.size w w' := by
  obtain ⟨A1, c1, A2, wl, c2, he, h1, h2, h3, hb⟩ := p
  rw [if_neg h] at h3
  have e1 : iAns l = [] := by unfold iAns; rw [if_neg h]
  have e2 : iErr l = 2 := by unfold iErr; rw [if_neg h]
  rw [e1, e2, h3] at he
  rw [e1] at h1
  exact ⟨A1, c1, A2, c2, he, h1, hb⟩
/-- What is kept from call to call. -/
theorem fans_next {x y : World} {A : Option Addr} {n c : Nat} {l : List Fan} (h : Fans x x.heap.size A n c l) (hb : Below x.heap.size x y) : Fans y y.heap.size A n c l := Words.Rd.more (Words.Rd.below h hb (Nat.le_refl _)) hb.size
theorem ints_next {x y : World} {A : Option Addr} {n c : Nat} {l : List Int} (h : Ints x x.heap.size A n c l) (hb : Below x.heap.size x y) : Ints y y.heap.size A n c l := Words.Rd.more (Words.Rd.below h hb (Nat.le_refl _)) hb.size
theorem next_below {w x y : World} {B : Nat} (h : Below B w x) (hb : Below x.heap.size x y) (hB : B ≤ x.heap.size) : Below B w y := h.trans (hb.mono hB)
/-! ### the small test -/
def five : List Fop := [⟨1, 3, 7⟩, ⟨1, 3, 8⟩, ⟨2, 3, 0⟩, ⟨3, 3, 0⟩, ⟨2, 3, 0⟩]
def fiveCells : Array Value := #[.int .i64 1, .int .i64 3, .int .i64 7, .int .i64 1, .int .i64 3, .int .i64 8, .int .i64 2, .int .i64 3, .int .i64 0, .int .i64 3, .int .i64 3, .int .i64 0, .int .i64 2, .int .i64 3, .int .i64 0]
def fiveA : List Fan := [⟨0, 0⟩, ⟨0, 0⟩, ⟨0, 8⟩, ⟨0, 0⟩, ⟨3, 0⟩]
theorem five_a : anss sto0 five = fiveA := by rfl
theorem five_wf : ∀ o ∈ five, Wf o := by
  intro o ho
  simp [five] at ho
  rcases ho with rfl | rfl | rfl | rfl | rfl <;> exact ⟨by decide, by decide, by decide⟩
theorem lit_ops (w : World) (xs : List Fop) (cs : Array Value) (n : Nat) (hc : cs.toList = pcells xs) (hn : xs.length = n) (hm : n ≤ 100) : Ops (w.alloc (.cells cs 37)) (w.heap.size + 1) (some ⟨w.heap.size, 0, none⟩) n n xs :=
  Words.Rd.new w 37 cs (0, 0) (pcells xs) n hc (by rw [pcells_length]; omega) (by simp only [maxLen]; omega)
theorem lit_fans (w : World) (xs : List Fan) (cs : Array Value) (n : Nat) (hc : cs.toList = acells xs) (hn : xs.length = n) (hm : n ≤ 100) : Fans (w.alloc (.cells cs 32)) (w.heap.size + 1) (some ⟨w.heap.size, 0, none⟩) n n xs :=
  Words.Rd.new w 32 cs (0, 0) (acells xs) n hc (by rw [acells_length]; omega) (by simp only [maxLen]; omega)
set_option maxHeartbeats 4000000 in
theorem alive12 (HPC : PlayC) (w : World) : Calls Try.prog 12 #[] w fun e w' => e = .returned (.bool true) ∧ Below w.heap.size w w' := by
  have B0 : Hid (Below w.heap.size w (w.alloc (.cells fiveCells 37))) := Lib.hid ((Below.refl _ _).alloc (Nat.le_refl _) _)
  have F0 : Ops (w.alloc (.cells fiveCells 37)) (w.heap.size + 1) (some ⟨w.heap.size, 0, none⟩) 5 5 five := lit_ops w five fiveCells 5 rfl rfl (by omega)
  have HP := Lib.hid (HPC _ _ 5 5 five _ F0 (by simp) five_wf)
  have HX := Lib.hid (fun e x h => fplayed_ok (w := w.alloc (.cells fiveCells 37)) (w' := x) (l := five) (e := e) (by decide) h)
  have E11 := Lib.hid (fun B1 B2 A1 A2 n1 n2 c1 c2 a b w h1 h2 => equal11 B1 B2 A1 A2 n1 n2 c1 c2 a b w h1 h2)
  rw [five_a] at HX
  clear F0
  unfold fiveCells at HP HX B0
  go_enter Try.func12, Try.ntmps12
  go_wp2_with fail
  refine (HP.out).mono ?_; rintro e x1 hx
  obtain ⟨A1, c1, A2, wl, c2, rfl, hi1, hi2, _, hb1⟩ := HX.out _ _ hx
  have X1 := Lib.hid hi1
  have B1 := Lib.hid (B0.out.trans (hb1.mono B0.out.size))
  have hfl : five.length = 5 := rfl
  rw [hfl] at X1
  clear hx hi1 hi2 hb1
  go_wp2_with fail
  have Y1 : Hid (Below x1.heap.size x1 (x1.alloc (.cells #[.int .i64 0, .int .i64 0, .int .i64 0, .int .i64 0, .int .i64 0, .int .i64 8, .int .i64 0, .int .i64 0, .int .i64 3, .int .i64 0] 32))) := Lib.hid ((Below.refl _ _).alloc (Nat.le_refl _) _)
  have BF := Lib.hid (B1.out.trans (Y1.out.mono B1.out.size))
  have hl1 := lit_fans x1 fiveA #[.int .i64 0, .int .i64 0, .int .i64 0, .int .i64 0, .int .i64 0, .int .i64 8, .int .i64 0, .int .i64 0, .int .i64 3, .int .i64 0] 5 rfl rfl (by omega)
  refine (E11.out _ _ _ _ _ _ _ _ _ _ _ (Words.Rd.below X1.out Y1.out (Nat.le_refl _)) hl1).mono ?_; rintro e w2 he
  obtain ⟨rfl, q, rfl⟩ := he.yes rfl
  clear he hl1
  go_wp2_with fail
  go_ret
  exact ⟨rfl, below_drewN BF.out _⟩
end Go.Proofs.Ytfohihdpohjmcaa.Ftl
