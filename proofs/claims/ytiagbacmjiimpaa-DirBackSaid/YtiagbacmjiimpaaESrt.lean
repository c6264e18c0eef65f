/-
  Sorting by insertion: the plain mathematics, the row in memory.
-/
import Derived.Test.YtiagbacmjiimpaaEEqs
import Derived.Laws.OwnMore
namespace Go.Proofs.Ytiagbacmjiimpaa.Dir
open Go.ChangeShapes Go.WideShapes Go.ChangeAt Go.RowKit Words
set_option linter.unusedVariables false

theorem mem_eth {l : List En} {p : En} : p ∈ l ↔ ∃ k, k < l.length ∧ eth l k = p := by
  constructor
  · intro h
    obtain ⟨k, hk⟩ := List.getElem?_of_mem h
    exact ⟨k, (List.getElem?_eq_some_iff.1 hk).1, eth_of hk⟩
  · rintro ⟨k, hk, rfl⟩
    exact List.mem_of_getElem? (eth_get hk)
/-- Two that stand side by side exchanged. -/
def sw (l : List En) (t : Nat) : List En := (l.set (t + 1) (eth l t)).set t (eth l (t + 1))
theorem sw_length (l : List En) (t : Nat) : (sw l t).length = l.length := by unfold sw; rw [List.length_set, List.length_set]
theorem eth_sw {l : List En} {t : Nat} (h : t + 1 < l.length) (k : Nat) (hk : k < l.length) : eth (sw l t) k = if k = t then eth l (t + 1) else if k = t + 1 then eth l t else eth l k := by
  refine eth_of ?_
  unfold sw
  rw [List.getElem?_set, List.length_set, List.getElem?_set]
  by_cases h1 : t = k
  · subst h1
    rw [if_pos rfl, if_pos (by omega), if_pos rfl]
  · have h1' : ¬ k = t := fun e => h1 e.symm
    rw [if_neg h1, if_neg h1']
    by_cases h2 : t + 1 = k
    · subst h2
      rw [if_pos rfl, if_pos h, if_pos rfl]
    · have h2' : ¬ k = t + 1 := fun e => h2 e.symm
      rw [if_neg h2, if_neg h2']
      exact eth_get hk
/-- The same entries, none at one place with another. -/
structure Sm (ps qs : List En) : Prop where
  len : qs.length = ps.length
  mem : ∀ p, p ∈ qs ↔ p ∈ ps
  ne : ∀ i j, i < qs.length → j < qs.length → i ≠ j → (eth qs i).n ≠ (eth qs j).n
theorem sm_start {ps : List En} (h : ps.Pairwise fun p q => p.n ≠ q.n) : Sm ps ps := ⟨rfl, fun p => Iff.rfl, fun i j hi hj hij => by
  have key : ∀ i j, i < j → j < ps.length → (eth ps i).n ≠ (eth ps j).n := fun i j hij hj => by
    have := List.pairwise_iff_getElem.1 h i j (by omega) hj hij
    have e1 := eth_of (List.getElem?_eq_getElem (show i < ps.length by omega))
    have e2 := eth_of (List.getElem?_eq_getElem hj)
    rw [e1, e2]; exact this
  rcases Nat.lt_or_ge i j with h1 | h1
  · exact key i j h1 hj
  · exact (key j i (by omega) hi).symm⟩
theorem Sm.swap {ps qs : List En} {t : Nat} (h : Sm ps qs) (ht : t + 1 < qs.length) : Sm ps (sw qs t) := by
  have hl := sw_length qs t
  refine ⟨hl.trans h.len, fun p => ?_, fun i j hi hj hij => ?_⟩
  · rw [← h.mem p, mem_eth, mem_eth]
    constructor
    · rintro ⟨k, hk, rfl⟩
      rw [hl] at hk
      rw [eth_sw ht k hk]
      split
      · exact ⟨t + 1, ht, rfl⟩
      · split
        · exact ⟨t, by omega, rfl⟩
        · exact ⟨k, hk, rfl⟩
    · rintro ⟨k, hk, rfl⟩
      by_cases h1 : k = t
      · subst h1
        exact ⟨k + 1, by omega, by rw [eth_sw ht _ ht, if_neg (by omega), if_pos rfl]⟩
      · by_cases h2 : k = t + 1
        · subst h2
          exact ⟨t, by omega, by rw [eth_sw ht _ (by omega), if_pos rfl]⟩
        · exact ⟨k, by omega, by rw [eth_sw ht _ hk, if_neg h1, if_neg h2]⟩
  · rw [hl] at hi hj
    rw [eth_sw ht i hi, eth_sw ht j hj]
    repeat' split
    all_goals first
      | (subst_vars; exact absurd rfl hij)
      | exact h.ne _ _ (by omega) (by omega) (by omega)
/-- Sorted up to k. -/
def Up (qs : List En) (k : Nat) : Prop := ∀ p q, p < q → q < k → bl (eth qs p).n (eth qs q).n = true
/-- Sorted up to i but for the one at j, which lies below those behind it. -/
structure Ins (qs : List En) (i j : Nat) : Prop where
  rest : ∀ p q, p < q → q ≤ i → p ≠ j → q ≠ j → bl (eth qs p).n (eth qs q).n = true
  low : ∀ q, j < q → q ≤ i → bl (eth qs j).n (eth qs q).n = true
theorem ins_start {qs : List En} {i : Nat} (h : Up qs i) : Ins qs i i := ⟨fun p q h1 h2 h3 h4 => h p q h1 (by omega), fun q h1 h2 => by omega⟩
theorem Ins.step {qs : List En} {i t : Nat} (h : Ins qs i (t + 1)) (hi : i < qs.length) (ht : t + 1 ≤ i) (hlt : bl (eth qs (t + 1)).n (eth qs t).n = true) : Ins (sw qs t) i t := by
  have hs : ∀ k, k ≤ i → eth (sw qs t) k = if k = t then eth qs (t + 1) else if k = t + 1 then eth qs t else eth qs k := fun k hk => eth_sw (by omega) k (by omega)
  refine ⟨fun p q h1 h2 h3 h4 => ?_, fun q h1 h2 => ?_⟩
  · rw [hs p (by omega), hs q h2, if_neg h3, if_neg h4]
    split
    · rename_i e
      rw [if_neg (by omega)]
      exact h.rest t q (by omega) h2 (by omega) (by omega)
    · split
      · rename_i e1 e
        exact h.rest p t (by omega) (by omega) (by omega) (by omega)
      · exact h.rest p q h1 h2 (by omega) (by omega)
  · rw [hs t (by omega), hs q h2, if_pos rfl, if_neg (by omega)]
    split
    · exact hlt
    · exact h.low q (by omega) h2
theorem Ins.done {qs : List En} {i j : Nat} (h : Ins qs i j) (hj : j ≤ i) (hi : i < qs.length) (hne : ∀ p q, p < qs.length → q < qs.length → p ≠ q → (eth qs p).n ≠ (eth qs q).n)
    (he : j = 0 ∨ ∃ t, j = t + 1 ∧ bl (eth qs (t + 1)).n (eth qs t).n = false) : Up qs (i + 1) := fun p q h1 h2 => by
  by_cases hp : p = j
  · subst hp; exact h.low q h1 (by omega)
  · by_cases hq : q = j
    · subst hq
      rcases he with rfl | ⟨t, rfl, hnl⟩
      · omega
      · have hn := hne (t + 1) t (by omega) (by omega) (by omega)
        have hb : bl (eth qs t).n (eth qs (t + 1)).n = true := by
          cases hc : bl (eth qs t).n (eth qs (t + 1)).n with
          | true => rfl
          | false => exact absurd (bl_tri hnl hc) hn
        by_cases hpt : p = t
        · subst hpt; exact hb
        · exact bl_trans (h.rest p t (by omega) (by omega) (by omega) (by omega)) hb
    · exact h.rest p q h1 (by omega) hp hq
theorem up_ss {qs : List En} (h : Up qs qs.length) : SS qs := by
  unfold SS
  rw [List.pairwise_iff_getElem]
  intro i j hi hj hij
  have := h i j hij hj
  rw [eth_of (List.getElem?_eq_getElem hi), eth_of (List.getElem?_eq_getElem hj)] at this
  exact this
theorem sorted_is {l qs : List En} (h : Dist l) (s : Sm l qs) (u : Up qs qs.length) : qs = srt l := (srt_is h (up_ss u) s.mem).symm
/-! ### the row -/
/-- Stored one after another from o on; what lies outside is left out. -/
def setAll : List Value → Nat → List Value → List Value
  | xs, _, [] => xs
  | xs, o, v :: vs => setAll (xs.set o v) (o + 1) vs
theorem setAll_past : ∀ (vs xs : List Value) (o : Nat), xs.length ≤ o → setAll xs o vs = xs
  | [], _, _, _ => rfl
  | v :: vs, xs, o, h => by
    unfold setAll
    rw [List.set_eq_of_length_le h]
    exact setAll_past vs xs (o + 1) (by omega)
theorem setAll_mid : ∀ (vs mid pre post : List Value), mid.length = vs.length → setAll (pre ++ mid ++ post) pre.length vs = pre ++ vs ++ post
  | [], mid, pre, post, h => by
    have : mid = [] := List.eq_nil_of_length_eq_zero (by simpa using h)
    subst this; rfl
  | v :: vs, [], pre, post, h => by simp at h
  | v :: vs, m :: mid, pre, post, h => by
    have ih := setAll_mid vs mid (pre ++ [v]) post (by simpa using h)
    have e1 : (pre ++ m :: mid ++ post).set pre.length v = pre ++ [v] ++ mid ++ post := by
      rw [List.append_assoc, List.set_append_right _ _ (Nat.le_refl _), Nat.sub_self]
      simp
    unfold setAll
    rw [e1]
    rw [List.length_append] at ih
    rw [show pre.length + 1 = pre.length + [v].length from rfl, ih]
    simp
section
variable {w : World} {base g n c sz : Nat} {e : TypeId} {xs : List Value}
theorem own_setCells : ∀ (vs : List Value) (o : Nat) {w : World} {xs : List Value}, w.ownsRow base e sz (.slice (some ⟨g, 0, none⟩) n c) n xs →
    (w.setCells g o vs).ownsRow base e sz (.slice (some ⟨g, 0, none⟩) n c) n (setAll xs o vs) ∧ w.grownBy (w.setCells g o vs) (some g)
  | [], o, w, xs, h => ⟨h, World.grownBy.refl w _⟩
  | v :: vs, o, w, xs, h => by
    have h1 := World.ownsRow.stored h o v
    have h2 := own_setCells vs (o + 1) h1.1
    exact ⟨h2.1, h1.2.trans h2.2⟩
end
theorem setAll_en {l : List En} {i : Nat} (hi : i < l.length) (x : En) : setAll (lcells l) (i * 2) (ecells x) = lcells (l.set i x) := by
  have e0 : (lcells (l.take i)).length = i * 2 := by rw [lcells_length, List.length_take, Nat.min_eq_left (by omega)]
  have e1 : l = l.take i ++ l[i] :: l.drop (i + 1) := by rw [List.getElem_cons_drop, List.take_append_drop]
  have e2 : lcells l = lcells (l.take i) ++ ecells l[i] ++ lcells (l.drop (i + 1)) := by
    conv => lhs; rw [e1]
    rw [lcells_append, List.append_assoc]; rfl
  have := setAll_mid (ecells x) (ecells l[i]) (lcells (l.take i)) (lcells (l.drop (i + 1))) rfl
  rw [← e2, e0] at this
  rw [this, List.set_eq_take_append_cons_drop, if_pos hi, lcells_append, List.append_assoc]; rfl
theorem grown_below2 {B g : Nat} {a w w' : World} (h : Below B a w) (hg : w.grownBy w' (some g)) (hs : B ≤ w.heap.size) (hb : B ≤ g) : Below B a w'.drew := (h.grown hg hs (fun j hj => by cases hj; exact hb)).drew
/-- Entry i stored anew. -/
def putE (w : World) (g i : Nat) (x : En) : World := (w.setCell ⟨g, i * 2, none⟩ (.string (str x.n))).setCell ⟨g, i * 2 + 1, none⟩ (.int .i64 x.i)
theorem OwnEn.put {w : World} {base g n c : Nat} {l : List En} (h : OwnEn w base (some ⟨g, 0, none⟩) n c l) {i : Nat} (hi : i < n) (x : En) :
    OwnEn (putE w g i x) base (some ⟨g, 0, none⟩) n c (l.set i x) ∧ w.grownBy (putE w g i x) (some g) := by
  have h1 := own_setCells (ecells x) (i * 2) h
  rw [setAll_en (by rw [h.len]; exact hi)] at h1
  exact h1
/-- What an exchange reads and writes. -/
structure SwapF (w : World) (g t : Nat) (x y : En) : Prop where
  i0 : w.cell? ⟨g, (t + 1) * 2, none⟩ = some (.string (str x.n))
  i1 : w.cell? ⟨g, (t + 1) * 2 + 1, none⟩ = some (.int .i64 x.i)
  j0 : w.cell? ⟨g, t * 2, none⟩ = some (.string (str y.n))
  j1 : w.cell? ⟨g, t * 2 + 1, none⟩ = some (.int .i64 y.i)
  fi0 : w.frozen? ⟨g, (t + 1) * 2, none⟩ = false
  fi1 : w.frozen? ⟨g, (t + 1) * 2 + 1, none⟩ = false
  fj0 : w.frozen? ⟨g, t * 2, none⟩ = false
  fj1 : w.frozen? ⟨g, t * 2 + 1, none⟩ = false
  a1 : (w.setCell ⟨g, (t + 1) * 2, none⟩ (.string (str y.n))).cell? ⟨g, (t + 1) * 2 + 1, none⟩ = some (.int .i64 x.i)
  b0 : (putE w g (t + 1) y).cell? ⟨g, t * 2, none⟩ = some (.string (str y.n))
  b1 : ((putE w g (t + 1) y).setCell ⟨g, t * 2, none⟩ (.string (str x.n))).cell? ⟨g, t * 2 + 1, none⟩ = some (.int .i64 y.i)
theorem OwnEn.swapF {w : World} {base g n c : Nat} {l : List En} (h : OwnEn w base (some ⟨g, 0, none⟩) n c l) {t : Nat} (ht : t + 1 < n) : SwapF w g t (eth l (t + 1)) (eth l t) := by
  obtain ⟨c0, c1⟩ := h.at_ ht
  obtain ⟨d0, d1⟩ := h.at_ (i := t) (by omega)
  have o : ∀ (w : World) (a b : Nat) (u : Value), a ≠ b → (w.setCell ⟨g, a, none⟩ u).cell? ⟨g, b, none⟩ = w.cell? ⟨g, b, none⟩ := fun w a b u hab => World.cell?_setCell_other w _ _ u (fun e => hab (by injection e))
  refine ⟨c0, c1, d0, d1, h.frozen _, h.frozen _, h.frozen _, h.frozen _, ?_, ?_, ?_⟩
  · rw [o _ _ _ _ (by omega)]; exact c1
  · unfold putE; rw [o _ _ _ _ (by omega), o _ _ _ _ (by omega)]; exact d0
  · unfold putE; rw [o _ _ _ _ (by omega), o _ _ _ _ (by omega), o _ _ _ _ (by omega)]; exact d1
theorem OwnEn.swapped {w : World} {base g n c : Nat} {l : List En} (h : OwnEn w base (some ⟨g, 0, none⟩) n c l) {t : Nat} (ht : t + 1 < n) :
    OwnEn (putE (putE w g (t + 1) (eth l t)) g t (eth l (t + 1))) base (some ⟨g, 0, none⟩) n c (sw l t) ∧ w.grownBy (putE (putE w g (t + 1) (eth l t)) g t (eth l (t + 1))) (some g) := by
  have h1 := h.put ht (eth l t)
  have h2 := h1.1.put (i := t) (by omega) (eth l (t + 1))
  exact ⟨h2.1, h1.2.trans h2.2⟩
end Go.Proofs.Ytiagbacmjiimpaa.Dir
