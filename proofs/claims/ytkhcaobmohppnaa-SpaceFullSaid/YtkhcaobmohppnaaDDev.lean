/-
  The program's device in memory: its size and its gaps; what a call leaves of the rest; a gap's end.
-/
import Derived.Test.YtkhcaobmohppnaaDDel
import Derived.Test.YtkhcaobmohppnaaDRep0
import Derived.Test.YtkhcaobmohppnaaDRep2
import Derived.Test.YtkhcaobmohppnaaSLists
import Derived.Test.YtkhcaobmohppnaaSPlay
namespace Go.Proofs.Ytkhcaobmohppnaa.Spc
open Go.ChangeShapes Go.WideShapes Go.ChangeAt Go.RowKit Words Go.Sort
set_option linter.unusedVariables false

/-! ### what is kept -/
/-- Every list of answers that the call owns is kept. -/
def K (w w' : World) : Prop := ∀ (base : Nat) (A : Option Addr) (n c : Nat) (xs : List An), OwnAn w base A n c xs → OwnAn w' base A n c xs
structure Fr (base : Nat) (w w' : World) : Prop where
  bel : Below base w w'
  kp : K w w'
section
variable {base : Nat} {w w' x : World}
theorem Fr.refl (base : Nat) (w : World) : Fr base w w := ⟨Below.refl _ _, fun _ _ _ _ _ h => h⟩
theorem Fr.trans (h : Fr base w w') (h2 : Fr base w' x) : Fr base w x := ⟨h.bel.trans h2.bel, fun b A n c xs ho => h2.kp b A n c xs (h.kp b A n c xs ho)⟩
theorem Fr.of_below (hb : base ≤ w.heap.size) (h : Below w.heap.size w w') : Fr base w w' := ⟨h.mono hb, fun b A n c xs ho => OwnAn.below ho h (Nat.le_refl _)⟩
theorem Fr.below (h : Fr base w w') (hb : base ≤ w.heap.size) (h2 : Below w'.heap.size w' x) : Fr base w x := h.trans (Fr.of_below (Nat.le_trans hb h.bel.size) h2)
theorem Fr.row {A : Option Addr} {n c : Nat} {l : List Gp} (hb : base ≤ w.heap.size) (ho : OwnGp w base A n c l) (hg : w.grownBy w' (Value.slice A n c).ownBlock) : Fr base w w' :=
  ⟨below_grown (Below.refl _ _) ho hg hb (Nat.le_refl _), fun b A n c xs ho2 => Go.World.ownsRow.kept ho2 hg (own_apart ho2 ho (by decide))⟩
theorem own_heap {base e sz n : Nat} {v : Value} {xs : List Value} (h : w.ownsRow base e sz v n xs) (hk : ∀ k, v.ownBlock = some k → w'.heap[k]? = w.heap[k]?) : w'.ownsRow base e sz v n xs := by
  refine ⟨h.1, ?_⟩
  rcases h.2 with hn | ⟨g, cap, cur, rfl, h1, hgg, rest⟩
  · exact .inl hn
  · exact .inr ⟨g, cap, cur, rfl, h1, (hk g rfl).trans hgg, rest⟩
/-- A row is kept when a block of another type changes. -/
theorem own_other {base e sz n g t j : Nat} {v : Value} {xs : List Value} {cs : Array Value} (h : w.ownsRow base e sz v n xs) (hw : Whole w g t cs) (hne : t ≠ e) (u : Value) : (w.setCell ⟨g, j, none⟩ u).ownsRow base e sz v n xs := by
  refine own_heap h fun k hk => heap_setCell_other w ⟨g, j, none⟩ k u ?_
  show k ≠ g
  rintro rfl
  rcases h.2 with ⟨hn, _⟩ | ⟨g', cap, cur, rfl, h1, hgg, _⟩
  · subst hn; simp [Value.ownBlock] at hk
  · have : g' = k := by simpa [Value.ownBlock] using hk
    subst this
    unfold Whole at hw
    rw [hw] at hgg
    injection hgg with hgg
    injection hgg with _ h2 _
    exact hne h2
end
/-! ### the device -/
structure RD (w : World) (base g : Nat) (s : Int) (A : Option Addr) (n c : Nat) (l : List Gp) : Prop where
  blk : Whole w g 60 #[.int .i64 s, .slice A n c]
  row : OwnGp w base A n c l
  bg : base ≤ g
section
variable {w w' : World} {base g n c n' c' : Nat} {s : Int} {A A' : Option Addr} {l l' : List Gp}
theorem RD.lt (d : RD w base g s A n c l) : g < w.heap.size := d.blk.lt
theorem RD.size (d : RD w base g s A n c l) : w.cell? ⟨g, 0, none⟩ = some (.int .i64 s) := by rw [d.blk.cell]; rfl
theorem RD.gaps (d : RD w base g s A n c l) : w.cell? ⟨g, 1, none⟩ = some (.slice A n c) := by rw [d.blk.cell]; rfl
theorem RD.fro (d : RD w base g s A n c l) : w.frozen? ⟨g, 1, none⟩ = false := d.blk.frozen 1
theorem RD.below (d : RD w base g s A n c l) (hb : Below w.heap.size w w') : RD w' base g s A n c l := ⟨whole_below2 d.blk hb, d.row.below hb (Nat.le_refl _), d.bg⟩
theorem RD.apart (d : RD w base g s A n c l) (b : Nat) (h : (Value.slice A n c).ownBlock = some b) : b ≠ g := by
  rintro rfl
  have hw := d.blk
  rcases d.row.2 with ⟨hn, _⟩ | ⟨g', cap, cur, hv, h1, hgg, _⟩
  · injection hn with hn _ _; subst hn; simp [Value.ownBlock] at h
  · rw [hv] at h
    have : g' = b := by simpa [Value.ownBlock] using h
    subst this
    unfold Whole at hw
    rw [hw] at hgg
    injection hgg with hgg
    injection hgg with _ h2 _
    cases h2
/-- The row has changed. -/
theorem RD.moved (d : RD w base g s A n c l) (hg : w.grownBy w' (Value.slice A n c).ownBlock) : Whole w' g 60 #[.int .i64 s, .slice A n c] := by
  have hlt := d.lt
  have hb := d.blk
  unfold Whole at *
  obtain ⟨_, _, _, _, hk⟩ := hg
  rw [hk g hlt (fun e => d.apart g e.symm rfl)]
  exact hb
theorem RD.row_ (d : RD w base g s A n c l) (hg : w.grownBy w' (Value.slice A n c).ownBlock) (ho : OwnGp w' base A n c l') : RD w' base g s A n c l' := ⟨d.moved hg, ho, d.bg⟩
theorem RD.put (hw : Whole w' g 60 #[.int .i64 s, .slice A n c]) (hb : base ≤ g) (ho : OwnGp w' base A' n' c' l') : RD (w'.setCell ⟨g, 1, none⟩ (.slice A' n' c')) base g s A' n' c' l' :=
  ⟨by have := hw.set_ 1 (.slice A' n' c'); exact this, own_other ho hw (by decide) _, hb⟩
theorem Fr.dev {x : World} (h : Fr base x w') (hw : Whole w' g 60 #[.int .i64 s, .slice A n c]) (hb : base ≤ g) (u : Value) : Fr base x (w'.setCell ⟨g, 1, none⟩ u) :=
  h.trans ⟨(Below.refl _ _).setCell hb _, fun b A n c xs ho => own_other ho hw (by decide) _⟩
end
/-! ### a gap's end -/
theorem mixedO : Try.prog.follows .mixedOrders = true := by kernel_rfl
theorem below_grow {B : Nat} {a w : World} (h : Below B a w) (hB : B ≤ w.heap.size) (m : Nat) (os : Array Obj) : Below B a (grow (w.drewN m) os) :=
  ⟨h.os, h.tape, h.output, by rw [size_grow]; exact Nat.le_trans h.size (Nat.le_add_right _ _), fun k hk => by
    rw [heap_grow_old _ _ (by show k < w.heap.size; omega)]
    exact h.block k hk⟩
/-- Behind the call: some draws, and some blocks more. -/
def Laid (W w' : World) : Prop := ∃ q os', w' = grow (W.drewN q) os'
theorem Laid.below {W w' : World} (h : Laid W w') : Below W.heap.size W w' := by
  obtain ⟨q, os, rfl⟩ := h
  exact below_grow (Below.refl _ _) (Nat.le_refl _) q os
theorem laid_one (W : World) (a : Obj) : Laid W (W.alloc a) := ⟨0, #[a], by rw [alloc_eq_grow]; rfl⟩
theorem end31 (x : Gp) (w : World) (h : IntKind.i64.wrap (x.a + x.m) = x.a + x.m) : Calls Try.prog 31 #[gval x] w fun e w' => e = .returned (.int .i64 (x.a + x.m)) ∧ Laid w w' := by
  obtain ⟨a, m⟩ := x
  unfold gval
  simp only at h ⊢
  go_enter Try.func31, Try.ntmps31
  go_wp2_with fail
  go_ret
  exact ⟨rfl, laid_one _ _⟩
/-- A box, or a block, behind some draws and some blocks more. -/
theorem boxG {w : World} {g : Nat} {t : TypeId} {cs : Array Value} (h : Whole w g t cs) {j : Nat} {u : Value} (hj : cs[j]? = some u) : ∀ m os, (grow (w.drewN m) os).cell? ⟨g, j, none⟩ = some u :=
  fun m os => cell_grown (by exact h.lt) (by rw [h.cell]; exact hj) m os
theorem OwnGp.cellsG {w : World} {base g n c : Nat} {l : List Gp} (h : OwnGp w base (some ⟨g, 0, none⟩) n c l) {i : Nat} (hi : i < n) :
    (∀ m os, (grow (w.drewN m) os).cell? ⟨g, i * 2, none⟩ = some (.int .i64 (gth l i).a)) ∧ (∀ m os, (grow (w.drewN m) os).cell? ⟨g, i * 2 + 1, none⟩ = some (.int .i64 (gth l i).m)) := by
  obtain ⟨g', e, _, hg⟩ := h.addr (by omega)
  injection e with e
  injection e with e _ _
  subst e
  obtain ⟨h0, h1⟩ := h.at_ hi
  exact ⟨fun m os => cell_grown (by exact hg) h0 m os, fun m os => cell_grown (by exact hg) h1 m os⟩
/-! ### whether something is wrong with an operation -/
def cerr (s : Int) (o : Sp) : Int := if ¬ (o.k = 1 ∨ o.k = 2 ∨ o.k = 3) then 5 else if o.m < 1 ∨ s < o.m ∨ (o.k = 3 ∧ (o.a < 0 ∨ s - o.m < o.a)) then 2 else 0
theorem ser_cerr {s : Int} {l : List Gp} {o : Sp} (h : okRow s l = true) (hc : cerr s o ≠ 0) : ser s l o = cerr s o := by
  unfold cerr at *
  by_cases h1 : o.k = 1 ∨ o.k = 2 ∨ o.k = 3
  · rw [if_neg (fun hn => hn h1)] at hc ⊢
    by_cases h2 : o.m < 1 ∨ s < o.m ∨ (o.k = 3 ∧ (o.a < 0 ∨ s - o.m < o.a))
    · rw [if_pos h2]; exact ser_range h h1 h2
    · rw [if_neg h2] at hc; exact absurd rfl hc
  · rw [if_pos h1]; exact ser_kind h h1
theorem cerr_ok {s : Int} {o : Sp} (hc : cerr s o = 0) : (o.k = 1 ∨ o.k = 2 ∨ o.k = 3) ∧ ¬ (o.m < 1 ∨ s < o.m ∨ (o.k = 3 ∧ (o.a < 0 ∨ s - o.m < o.a))) := by
  unfold cerr at hc
  by_cases h1 : o.k = 1 ∨ o.k = 2 ∨ o.k = 3
  · rw [if_neg (fun hn => hn h1)] at hc
    refine ⟨h1, fun h2 => ?_⟩
    rw [if_pos h2] at hc
    omega
  · rw [if_pos h1] at hc; omega
end Go.Proofs.Ytkhcaobmohppnaa.Spc
