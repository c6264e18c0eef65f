/-
  Pages taken out of one row and put into another; pages that are not whole put ahead.
-/
import Derived.Test.YtiiadclcfbghkaaIns2
import Derived.Test.YtiiadclcfbghkaaKeep2
import Derived.Test.YtiiadclcfbghkaaSeq
namespace Go.Proofs.Ytiiadclcfbghkaa.Mnt
open Go.ChangeShapes Go.WideShapes Go.ChangeAt Go.RowKit Words
set_option linter.unusedVariables false

theorem insert15 (base vb : Nat) (A : Option Addr) (n c : Nat) (l : List Pg) (p : Pg) (w : World) (h : OwnPg w base A n c l) (hn : n ≤ 4398046511000) (hv : Whole w vb 36 (pcells p).toArray) (hne : ∀ g, A = some ⟨g, 0, none⟩ → vb ≠ g) (hb : base ≤ w.heap.size) :
    Calls Try.prog 15 #[.slice A n c, .int .i64 0, .slice (some ⟨vb, 0, none⟩) 1 1] w (Ahead base w l p n) := by
  rcases Nat.eq_zero_or_pos n with h0 | h0
  · subst h0
    have hl : l = [] := List.eq_nil_of_length_eq_zero h.len
    subst hl
    exact insA base vb A c p w h hv hb
  · obtain ⟨g, rfl, _, _⟩ := h.addr h0
    have hnc := (own_cap h).1
    rcases Nat.lt_or_ge n c with h1 | h1
    · exact insC base g vb n c l p w h h0 (by omega) hv (hne g rfl) hb
    · obtain rfl : c = n := by omega
      exact insB base g vb c l p w h h0 hn hv hb
/-- What the taking keeps: the row that is left, the row that was found; nothing below b1 has changed. -/
structure OInv (w1 : World) (b1 b2 : Nat) (A1 : Option Addr) (n1 c1 : Nat) (lf : List Pg) (A2 : Option Addr) (n2 c2 : Nat) (fd : List Pg) (W : World) : Prop where
  bel : Below b1 w1 W
  le : b1 ≤ b2
  le2 : b2 ≤ W.heap.size
  lt : ∀ g, A1 = some ⟨g, 0, none⟩ → g < b2
  left : OwnPg W b1 A1 n1 c1 lf
  found : OwnPg W b2 A2 n2 c2 fd
section
variable {w1 W W' : World} {b1 b2 : Nat} {A1 A2 : Option Addr} {n1 c1 n2 c2 : Nat} {lf fd : List Pg}
theorem OInv.alloc (h : OInv w1 b1 b2 A1 n1 c1 lf A2 n2 c2 fd W) (o : Obj) : OInv w1 b1 b2 A1 n1 c1 lf A2 n2 c2 fd (W.alloc o) :=
  ⟨h.bel.alloc (Nat.le_trans h.le h.le2) _, h.le, by rw [World.size_alloc]; have := h.le2; omega, h.lt, h.left.below (boxed W o) (Nat.le_refl _), h.found.below (boxed W o) (Nat.le_refl _)⟩
theorem OInv.apart (h : OInv w1 b1 b2 A1 n1 c1 lf A2 n2 c2 fd W) : (Value.slice A1 n1 c1).ownBlock = none ∨ (Value.slice A1 n1 c1).ownBlock ≠ (Value.slice A2 n2 c2).ownBlock := by
  rcases h.left.2 with ⟨hv, _⟩ | ⟨g, cap, cur, hv, _⟩
  · rw [hv]; exact .inl rfl
  · right
    have hA : A1 = some ⟨g, 0, none⟩ := by injection hv
    have hlt := h.lt g hA
    rcases h.found.2 with ⟨hv2, _⟩ | ⟨g2, cap2, cur2, hv2, hb2, _⟩
    · rw [hv, hv2]; simp [Value.ownBlock]
    · rw [hv, hv2]
      simp [Value.ownBlock]
      omega
theorem OInv.had (h : OInv w1 b1 b2 A1 n1 c1 lf A2 n2 c2 fd W) {p : Pg} {A' : Option Addr} {c' : Nat} (ho : W'.ownsRow b2 36 4 (.slice A' (n2 + 1) c') (n2 + 1) (lcells fd ++ lcells [p])) (hg : W.grownBy W' (Value.slice A2 n2 c2).ownBlock) :
    OInv w1 b1 b2 A1 n1 c1 lf A' (n2 + 1) c' (fd ++ [p]) W' :=
  ⟨below_grown h.bel h.found hg (Nat.le_trans h.le h.le2) h.le, h.le, Nat.le_trans h.le2 hg.size, h.lt, Go.World.ownsRow.kept h.left hg h.apart, by unfold OwnPg; rw [lcells_append]; exact ho⟩
theorem OInv.del {g i m : Nat} (h : OInv w1 b1 b2 (some ⟨g, 0, none⟩) (i + 1 + m) c1 lf A2 n2 c2 fd W) (ho : OwnPg W' b1 (some ⟨g, 0, none⟩) (i + m) c1 (lf.eraseIdx i)) (hg : W.grownBy W' (some g)) :
    OInv w1 b1 b2 (some ⟨g, 0, none⟩) (i + m) c1 (lf.eraseIdx i) A2 n2 c2 fd W' := by
  have hlt := h.lt g rfl
  have hbg : b1 ≤ g := (h.left.lt g rfl).1
  refine ⟨h.bel.grown hg (Nat.le_trans h.le h.le2) (fun j hj => by cases hj; exact hbg), h.le, Nat.le_trans h.le2 hg.size, h.lt, ho, Go.World.ownsRow.kept h.found hg ?_⟩
  rcases h.found.2 with ⟨hv2, _⟩ | ⟨g2, cap2, cur2, hv2, hb2, _⟩
  · rw [hv2]; exact .inl rfl
  · right
    rw [hv2]
    simp [Value.ownBlock]
    omega
end
theorem mem_take {lf fd L : List Pg} {i : Nat} {p : Pg} (hp : lf[i]? = some p) (h : ∀ x, (x ∈ fd ∨ x ∈ lf) ↔ x ∈ L) : ∀ x, (x ∈ fd ++ [p] ∨ x ∈ lf.eraseIdx i) ↔ x ∈ L := by
  intro x
  rw [← h x]
  obtain ⟨hi, hpi⟩ := List.getElem?_eq_some_iff.1 hp
  have e : lf = lf.take i ++ p :: lf.drop (i + 1) := by
    rw [← hpi, List.getElem_cons_drop, List.take_append_drop]
  have h1 : x ∈ lf ↔ x ∈ lf.take i ∨ x = p ∨ x ∈ lf.drop (i + 1) := by
    conv => lhs; rw [e]
    rw [List.mem_append, List.mem_cons]
  rw [h1, List.eraseIdx_eq_take_drop_succ, List.mem_append, List.mem_append, List.mem_singleton]
  constructor
  · rintro ((h | h) | (h | h))
    · exact .inl h
    · exact .inr (.inr (.inl h))
    · exact .inr (.inl h)
    · exact .inr (.inr (.inr h))
  · rintro (h | h | h | h)
    · exact .inl (.inl h)
    · exact .inr (.inl h)
    · exact .inl (.inr h)
    · exact .inr (.inr h)
theorem shuffled_of {l fd : List Pg} (h : ∀ x, (x ∈ fd ∨ x ∈ ([] : List Pg)) ↔ x ∈ wrt l) : Shuffled l fd :=
  ⟨fun p hp _ => (h p).1 (.inl hp), fun p hp => by rcases (h p).2 hp with h1 | h1; exact h1; cases h1⟩
/-- What the putting ahead keeps. -/
structure GInv (w1 : World) (b1 : Nat) (l : List Pg) (A : Option Addr) (n c : Nat) (f : List Pg) (W : World) : Prop where
  bel : Below b1 w1 W
  le : b1 ≤ W.heap.size
  row : OwnPg W b1 A n c f
  sh : Shuffled l f
  wf : WfL f
section
variable {w1 W W' : World} {b1 : Nat} {A : Option Addr} {n c : Nat} {l f : List Pg}
theorem GInv.alloc (h : GInv w1 b1 l A n c f W) (o : Obj) : GInv w1 b1 l A n c f (W.alloc o) :=
  ⟨h.bel.alloc h.le _, by rw [World.size_alloc]; have := h.le; omega, h.row.below (boxed W o) (Nat.le_refl _), h.sh, h.wf⟩
theorem GInv.next (h : GInv w1 b1 l A n c f W) {A' : Option Addr} {c' : Nat} {p : Pg} (hp : p.w = false) (hw : (Lit.int .i64 p.q).wf = true) (ho : OwnPg W' b1 A' (n + 1) c' (p :: f)) (hb : Below b1 W W') : GInv w1 b1 l A' (n + 1) c' (p :: f) W' :=
  ⟨h.bel.trans hb, Nat.le_trans h.le hb.size, ho, ⟨fun x hx hxw => by
    rcases List.mem_cons.1 hx with rfl | hx
    · rw [hp] at hxw; cases hxw
    · exact h.sh.1 x hx hxw, fun x hx => List.mem_cons_of_mem _ (h.sh.2 x hx)⟩, fun x hx => by
    rcases List.mem_cons.1 hx with rfl | hx
    · exact hw
    · exact h.wf x hx⟩
theorem GInv.apart (h : GInv w1 b1 l A n c f W) {vb : Nat} (hv : W.heap.size ≤ vb) : ∀ g, A = some ⟨g, 0, none⟩ → vb ≠ g := fun g hA => by
  subst hA
  have := (h.row.lt g rfl).2
  omega
end
/-- The place that a pick tells. -/
def spot (v : Int) (n : Nat) : Int := (v.tmod n + n).tmod n
theorem spot_lt (v : Int) {n : Nat} (hn : 0 < n) : 0 ≤ spot v n ∧ spot v n < n := by
  unfold spot
  have h1 : -(n : Int) < v.tmod n := by
    have := Int.lt_tmod_of_pos v (b := (n : Int)) (by omega)
    omega
  exact ⟨Int.tmod_nonneg _ (by omega), Int.tmod_lt_of_pos _ (by omega)⟩
theorem wrap_spot (v : Int) {n : Nat} (hn : 0 < n) (hm : n ≤ 4398046511104) : (wrap64 (v.tmod n + n)).tmod n = spot v n := by
  have h1 : -(n : Int) < v.tmod n := by
    have := Int.lt_tmod_of_pos v (b := (n : Int)) (by omega)
    omega
  have h2 : v.tmod n < n := Int.tmod_lt_of_pos _ (by omega)
  have h3 : wrap64 (v.tmod n + n) = v.tmod n + n := by unfold wrap64; omega
  rw [h3]; rfl
end Go.Proofs.Ytiiadclcfbghkaa.Mnt
