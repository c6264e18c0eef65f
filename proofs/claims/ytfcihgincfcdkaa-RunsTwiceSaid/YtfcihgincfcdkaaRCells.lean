/-
  Many cells stored in a row of the call's own; a run stored anew; two that stand side by side exchanged.
-/
import Derived.Test.YtfcihgincfcdkaaRMem
import Derived.Test.YtfcihgincfcdkaaRSort
import Derived.Laws.OwnMore
namespace Go.Proofs.Ytfcihgincfcdkaa.Rns
open Go.ChangeShapes Go.WideShapes Go.ChangeAt Go.RowKit Words
set_option linter.unusedVariables false

/-- Stored one after another from o on; what lies outside is left out. -/
def setAll : List Value → Nat → List Value → List Value
  | xs, _, [] => xs
  | xs, o, v :: vs => setAll (xs.set o v) (o + 1) vs
theorem setAll_past : ∀ (vs xs : List Value) (o : Nat), xs.length ≤ o → setAll xs o vs = xs
  | [], _, _, _ => rfl
  | v :: vs, xs, o, h => by
    unfold setAll
    rw [List.set_eq_of_length_le h]
    exact setAll_past vs xs (o + 1) (by omega)
theorem setAll_mid : ∀ (vs mid pre post : List Value), mid.length = vs.length → setAll (pre ++ mid ++ post) pre.length vs = pre ++ vs ++ post
  | [], mid, pre, post, h => by
    have : mid = [] := List.eq_nil_of_length_eq_zero (by simpa using h)
    subst this; rfl
  | v :: vs, [], pre, post, h => by simp at h
  | v :: vs, m :: mid, pre, post, h => by
    have ih := setAll_mid vs mid (pre ++ [v]) post (by simpa using h)
    have e1 : (pre ++ m :: mid ++ post).set pre.length v = pre ++ [v] ++ mid ++ post := by
      rw [List.append_assoc, List.set_append_right _ _ (Nat.le_refl _), Nat.sub_self]
      simp
    unfold setAll
    rw [e1]
    rw [List.length_append] at ih
    rw [show pre.length + 1 = pre.length + [v].length from rfl, ih]
    simp
section
variable {w : World} {base g n c sz : Nat} {e : TypeId} {xs : List Value}
theorem own_setCells : ∀ (vs : List Value) (o : Nat) {w : World} {xs : List Value}, w.ownsRow base e sz (.slice (some ⟨g, 0, none⟩) n c) n xs →
    (w.setCells g o vs).ownsRow base e sz (.slice (some ⟨g, 0, none⟩) n c) n (setAll xs o vs) ∧ w.grownBy (w.setCells g o vs) (some g)
  | [], o, w, xs, h => ⟨h, World.grownBy.refl w _⟩
  | v :: vs, o, w, xs, h => by
    have h1 := World.ownsRow.stored h o v
    have h2 := own_setCells vs (o + 1) h1.1
    exact ⟨h2.1, h1.2.trans h2.2⟩
theorem own_head (h : w.ownsRow base e sz (.slice (some ⟨g, 0, none⟩) n c) n xs) {k : Nat} (hk : k ≤ n) : w.ownsRow base e sz (.slice (some ⟨g, 0, none⟩) k c) k (xs.take (k * sz)) := by
  refine ⟨by rw [List.length_take, h.1, Nat.min_eq_left (Nat.mul_le_mul_right _ hk)], ?_⟩
  rcases h.2 with ⟨h', _⟩ | ⟨g', cap', cur, h', hb, hg, hnc, hcm, hcs, htake⟩
  · simp at h'
  · injection h' with h1 h2 h3
    subst h3
    injection h1 with h1
    injection h1 with h1
    subst h1
    refine .inr ⟨g, c, cur, rfl, hb, hg, by omega, hcm, hcs, ?_⟩
    rw [← htake, List.take_take, Nat.min_eq_left (Nat.mul_le_mul_right _ hk)]
/-- Every cell of the row, the spare ones too, is there. -/
theorem own_there (h : w.ownsRow base e sz (.slice (some ⟨g, 0, none⟩) n c) n xs) {j : Nat} (hj : j < c * sz) : (w.cell? ⟨g, j, none⟩).isSome = true ∧ w.frozen? ⟨g, j, none⟩ = false := by
  rcases h.2 with ⟨h', _⟩ | ⟨g', cap', cur, h', hb, hg, hnc, hcm, hcs, htake⟩
  · simp at h'
  · injection h' with h1 h2 h3
    subst h3
    injection h1 with h1
    injection h1 with h1
    subst h1
    exact ⟨by rw [Whole.cell hg, Array.getElem?_eq_getElem (by omega)]; rfl, Whole.frozen hg j⟩
theorem own_cap (h : w.ownsRow base e sz (.slice (some ⟨g, 0, none⟩) n c) n xs) : n ≤ c ∧ c ≤ maxLen := by
  rcases h.2 with ⟨h', _⟩ | ⟨g', cap', cur, h', hb, hg, hnc, hcm, hcs, htake⟩
  · simp at h'
  · injection h' with h1 h2 h3
    subst h3
    exact ⟨hnc, hcm⟩
end
theorem setAll_run {l : List Rn} {i : Nat} (hi : i < l.length) (x : Rn) : setAll (lcells l) (i * 3) (rcells x) = lcells (l.set i x) := by
  have e0 : (lcells (l.take i)).length = i * 3 := by rw [lcells_length, List.length_take, Nat.min_eq_left (by omega)]
  have e1 : l = l.take i ++ l[i] :: l.drop (i + 1) := by rw [List.getElem_cons_drop, List.take_append_drop]
  have e2 : lcells l = lcells (l.take i) ++ rcells l[i] ++ lcells (l.drop (i + 1)) := by
    conv => lhs; rw [e1]
    rw [lcells_append, List.append_assoc]; rfl
  have := setAll_mid (rcells x) (rcells l[i]) (lcells (l.take i)) (lcells (l.drop (i + 1))) rfl
  rw [← e2, e0] at this
  rw [this, List.set_eq_take_append_cons_drop, if_pos hi, lcells_append, List.append_assoc]; rfl
theorem OwnRn.drew {w : World} {base n c : Nat} {A : Option Addr} {l : List Rn} (h : OwnRn w base A n c l) : OwnRn w.drew base A n c l := h
theorem grown_below {B g : Nat} {a w w' : World} (h : Below B a w) (hg : w.grownBy w' (some g)) (hs : B ≤ w.heap.size) (hb : B ≤ g) : Below B a w'.drew := (h.grown hg hs (fun j hj => by cases hj; exact hb)).drew
/-- Run i stored anew. -/
def putR (w : World) (g i : Nat) (x : Rn) : World := ((w.setCell ⟨g, i * 3, none⟩ (.int .i64 x.a)).setCell ⟨g, i * 3 + 1, none⟩ (.int .i64 x.d)).setCell ⟨g, i * 3 + 2, none⟩ (.int .i64 x.m)
theorem OwnRn.put {w : World} {base g n c : Nat} {l : List Rn} (h : OwnRn w base (some ⟨g, 0, none⟩) n c l) {i : Nat} (hi : i < n) (x : Rn) :
    OwnRn (putR w g i x) base (some ⟨g, 0, none⟩) n c (l.set i x) ∧ w.grownBy (putR w g i x) (some g) := by
  have h1 := own_setCells (rcells x) (i * 3) h
  rw [setAll_run (by rw [h.len]; exact hi)] at h1
  exact h1
theorem OwnRn.at_ {w : World} {base g n c : Nat} {l : List Rn} (h : OwnRn w base (some ⟨g, 0, none⟩) n c l) {i : Nat} (hi : i < n) : RAt w g (i * 3) (nth l i) := by
  have := Rns.cells h.rns rfl (nth_get (by rw [h.len]; exact hi))
  rw [Nat.zero_add] at this
  exact this
theorem OwnRn.frozen {w : World} {base g n c : Nat} {l : List Rn} (h : OwnRn w base (some ⟨g, 0, none⟩) n c l) (j : Nat) : w.frozen? ⟨g, j, none⟩ = false := Go.World.ownsRow.frozenAt h j
/-- What an exchange reads and writes. -/
structure SwapF (w : World) (g t : Nat) (x y : Rn) : Prop where
  i0 : w.cell? ⟨g, (t + 1) * 3, none⟩ = some (.int .i64 x.a)
  i1 : w.cell? ⟨g, (t + 1) * 3 + 1, none⟩ = some (.int .i64 x.d)
  i2 : w.cell? ⟨g, (t + 1) * 3 + 2, none⟩ = some (.int .i64 x.m)
  j0 : w.cell? ⟨g, t * 3, none⟩ = some (.int .i64 y.a)
  j1 : w.cell? ⟨g, t * 3 + 1, none⟩ = some (.int .i64 y.d)
  j2 : w.cell? ⟨g, t * 3 + 2, none⟩ = some (.int .i64 y.m)
  fi0 : w.frozen? ⟨g, (t + 1) * 3, none⟩ = false
  fi1 : w.frozen? ⟨g, (t + 1) * 3 + 1, none⟩ = false
  fi2 : w.frozen? ⟨g, (t + 1) * 3 + 2, none⟩ = false
  fj0 : w.frozen? ⟨g, t * 3, none⟩ = false
  fj1 : w.frozen? ⟨g, t * 3 + 1, none⟩ = false
  fj2 : w.frozen? ⟨g, t * 3 + 2, none⟩ = false
  a1 : (w.setCell ⟨g, (t + 1) * 3, none⟩ (.int .i64 y.a)).cell? ⟨g, (t + 1) * 3 + 1, none⟩ = some (.int .i64 x.d)
  a2 : ((w.setCell ⟨g, (t + 1) * 3, none⟩ (.int .i64 y.a)).setCell ⟨g, (t + 1) * 3 + 1, none⟩ (.int .i64 y.d)).cell? ⟨g, (t + 1) * 3 + 2, none⟩ = some (.int .i64 x.m)
  b0 : (putR w g (t + 1) y).cell? ⟨g, t * 3, none⟩ = some (.int .i64 y.a)
  b1 : ((putR w g (t + 1) y).setCell ⟨g, t * 3, none⟩ (.int .i64 x.a)).cell? ⟨g, t * 3 + 1, none⟩ = some (.int .i64 y.d)
  b2 : (((putR w g (t + 1) y).setCell ⟨g, t * 3, none⟩ (.int .i64 x.a)).setCell ⟨g, t * 3 + 1, none⟩ (.int .i64 x.d)).cell? ⟨g, t * 3 + 2, none⟩ = some (.int .i64 y.m)
theorem OwnRn.swapF {w : World} {base g n c : Nat} {l : List Rn} (h : OwnRn w base (some ⟨g, 0, none⟩) n c l) {t : Nat} (ht : t + 1 < n) : SwapF w g t (nth l (t + 1)) (nth l t) := by
  obtain ⟨c0, c1, c2⟩ := h.at_ ht
  obtain ⟨d0, d1, d2⟩ := h.at_ (i := t) (by omega)
  have o : ∀ (w : World) (a b : Nat) (u : Value), a ≠ b → (w.setCell ⟨g, a, none⟩ u).cell? ⟨g, b, none⟩ = w.cell? ⟨g, b, none⟩ := fun w a b u hab => World.cell?_setCell_other w _ _ u (fun e => hab (by injection e))
  refine ⟨c0, c1, c2, d0, d1, d2, h.frozen _, h.frozen _, h.frozen _, h.frozen _, h.frozen _, h.frozen _, ?_, ?_, ?_, ?_, ?_⟩
  · rw [o _ _ _ _ (by omega)]; exact c1
  · rw [o _ _ _ _ (by omega), o _ _ _ _ (by omega)]; exact c2
  · unfold putR; rw [o _ _ _ _ (by omega), o _ _ _ _ (by omega), o _ _ _ _ (by omega)]; exact d0
  · unfold putR; rw [o _ _ _ _ (by omega), o _ _ _ _ (by omega), o _ _ _ _ (by omega), o _ _ _ _ (by omega)]; exact d1
  · unfold putR; rw [o _ _ _ _ (by omega), o _ _ _ _ (by omega), o _ _ _ _ (by omega), o _ _ _ _ (by omega), o _ _ _ _ (by omega)]; exact d2
theorem OwnRn.swapped {w : World} {base g n c : Nat} {l : List Rn} (h : OwnRn w base (some ⟨g, 0, none⟩) n c l) {t : Nat} (ht : t + 1 < n) :
    OwnRn (putR (putR w g (t + 1) (nth l t)) g t (nth l (t + 1))) base (some ⟨g, 0, none⟩) n c (sw l t) ∧ w.grownBy (putR (putR w g (t + 1) (nth l t)) g t (nth l (t + 1))) (some g) := by
  have h1 := h.put ht (nth l t)
  have h2 := h1.1.put (i := t) (by omega) (nth l (t + 1))
  exact ⟨h2.1, h1.2.trans h2.2⟩
end Go.Proofs.Ytfcihgincfcdkaa.Rns
