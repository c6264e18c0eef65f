/-
  A stable sort of whole numbers, plainly: the one sorted list, one element put in, two sorted pieces made one, and the levels of the sort.
-/
import Derived.Test.YtodnjeahjalinaaStPlain
namespace Go.Proofs.Ytodnjeahjalinaa.Stab
set_option linter.unusedVariables false

/-- A strict total order. -/
structure Tot (lt : Int → Int → Bool) : Prop where
  irrefl : ∀ x, lt x x = false
  trans : ∀ x y z, lt x y = true → lt y z = true → lt x z = true
  total : ∀ x y, x ≠ y → lt x y = true ∨ lt y x = true
section
variable {lt : Int → Int → Bool} (T : Tot lt)
include T
theorem Tot.asymm {x y : Int} (h : lt x y = true) : lt y x = false := by
  cases e : lt y x with
  | false => rfl
  | true => have := T.trans _ _ _ h e; rw [T.irrefl] at this; cases this
theorem Tot.cases {x y : Int} (h : lt x y = false) : x = y ∨ lt y x = true := by
  by_cases e : x = y
  · exact .inl e
  · rcases T.total x y e with h2 | h2
    · rw [h] at h2; cases h2
    · exact .inr h2
/-- x is not above y, and y not above z. -/
theorem Tot.le {x y z : Int} (h1 : lt y x = false) (h2 : lt z y = false) : lt z x = false := by
  rcases T.cases h1 with e | e
  · subst e; exact h2
  · rcases T.cases h2 with e2 | e2
    · subst e2; exact h1
    · exact T.asymm (T.trans _ _ _ e e2)
theorem Tot.lt_le {x y z : Int} (h1 : lt x y = true) (h2 : lt z y = false) : lt x z = true := by
  rcases T.cases h2 with e | e
  · subst e; exact h1
  · exact T.trans _ _ _ h1 e
theorem Tot.le_lt {x y z : Int} (h1 : lt y x = false) (h2 : lt y z = true) : lt x z = true := by
  rcases T.cases h1 with e | e
  · subst e; exact h2
  · exact T.trans _ _ _ e h2
end
def Srt (lt : Int → Int → Bool) (l : List Int) : Prop := l.Pairwise fun x y => lt y x = false
def sortT (lt : Int → Int → Bool) (l : List Int) : List Int := l.mergeSort fun x y => !lt y x
theorem sortT_perm (lt : Int → Int → Bool) (l : List Int) : (sortT lt l).Perm l := List.mergeSort_perm _ _
theorem sortT_length (lt : Int → Int → Bool) (l : List Int) : (sortT lt l).length = l.length := (sortT_perm lt l).length_eq
section
variable {lt : Int → Int → Bool} (T : Tot lt)
include T
theorem sortT_srt (l : List Int) : Srt lt (sortT lt l) := by
  have := List.pairwise_mergeSort (le := fun x y => !lt y x) (fun a b c h1 h2 => by simp only [Bool.not_eq_true'] at *; exact T.le h1 h2) (fun a b => by
    cases h : lt b a with
    | false => rfl
    | true => rw [T.asymm h]; rfl) l
  exact this.imp fun h => by simpa using h
theorem srt_unique {a b : List Int} (hp : a.Perm b) (ha : Srt lt a) (hb : Srt lt b) : a = b :=
  List.Perm.eq_of_pairwise (le := fun x y => lt y x = false) (fun x y _ _ h1 h2 => by
    rcases T.cases h1 with e | e
    · exact e.symm
    · rw [h2] at e; cases e) ha hb hp
theorem sortT_eq {a b : List Int} (hp : a.Perm b) (ha : Srt lt a) : sortT lt b = a := srt_unique T ((sortT_perm lt b).trans hp.symm) (sortT_srt T b) ha
theorem sortT_self {a : List Int} (ha : Srt lt a) : sortT lt a = a := sortT_eq T (List.Perm.refl _) ha
theorem sortT_of_perm {a b : List Int} (hp : a.Perm b) : sortT lt a = sortT lt b := (sortT_eq T ((sortT_perm lt b).trans hp.symm) (sortT_srt T b))
theorem sortT_append {A B : List Int} (h : ∀ x ∈ A, ∀ y ∈ B, lt y x = false) : sortT lt (A ++ B) = sortT lt A ++ sortT lt B := by
  refine sortT_eq T ((sortT_perm lt A).append (sortT_perm lt B)) ?_
  refine List.pairwise_append.2 ⟨sortT_srt T A, sortT_srt T B, fun x hx y hy => h x ((sortT_perm lt A).mem_iff.1 hx) y ((sortT_perm lt B).mem_iff.1 hy)⟩
end
def SrtOn (lt : Int → Int → Bool) (d : List Int) (a b : Nat) : Prop := ∀ i j, a ≤ i → i < j → j < b → lt (nti d j) (nti d i) = false
theorem srt_of_on {lt : Int → Int → Bool} {d : List Int} {a b : Nat} (hb : b ≤ d.length) (h : SrtOn lt d a b) : Srt lt (seg d a b) := by
  refine List.pairwise_iff_getElem.2 fun i j hi hj hij => ?_
  have hi' := hi; have hj' := hj
  rw [seg_length hb] at hi' hj'
  rw [← nti_eq hi, ← nti_eq hj, nti_seg hi', nti_seg hj']
  exact h _ _ (by omega) (by omega) (by omega)
theorem on_of_srt {lt : Int → Int → Bool} {d : List Int} {a b : Nat} (hb : b ≤ d.length) (h : Srt lt (seg d a b)) : SrtOn lt d a b := by
  intro i j hi hij hj
  have h1 : i - a < (seg d a b).length := by rw [seg_length hb]; omega
  have h2 : j - a < (seg d a b).length := by rw [seg_length hb]; omega
  have := List.pairwise_iff_getElem.1 h _ _ h1 h2 (by omega)
  rw [← nti_eq h1, ← nti_eq h2, nti_seg (by omega), nti_seg (by omega)] at this
  rwa [show a + (i - a) = i by omega, show a + (j - a) = j by omega] at this
section
variable {lt : Int → Int → Bool} (T : Tot lt)
include T
theorem on_le {d : List Int} {a b : Nat} (h : SrtOn lt d a b) {i j : Nat} (hi : a ≤ i) (hij : i ≤ j) (hj : j < b) : lt (nti d j) (nti d i) = false := by
  by_cases e : i = j
  · subst e; exact T.irrefl _
  · exact h i j hi (by omega) hj
end

/-! ### one element put in -/
def slideR (d : List Int) (a : Nat) : Nat → List Int
  | 0 => d
  | t + 1 => swp (slideR d a t) (a + t) (a + t + 1)
theorem slideR_length (d : List Int) (a : Nat) : ∀ t, (slideR d a t).length = d.length
  | 0 => rfl
  | t + 1 => by show (swp _ _ _).length = _; rw [swp_length, slideR_length d a t]
theorem nti_slideR {d : List Int} {a : Nat} : ∀ t, a + t < d.length → ∀ k, k < d.length → nti (slideR d a t) k = if a ≤ k ∧ k < a + t then nti d (k + 1) else if k = a + t then nti d a else nti d k
  | 0, _, k, _ => by
    rw [if_neg (by omega)]
    show nti d k = _
    split
    · rename_i e; rw [e, Nat.add_zero]
    · rfl
  | t + 1, h, k, hk => by
    have ih := nti_slideR (d := d) (a := a) t (by omega)
    have i1 := ih (a + t) (by omega)
    have i2 := ih (a + t + 1) (by omega)
    have i3 := ih k hk
    show nti (swp (slideR d a t) (a + t) (a + t + 1)) k = _
    rw [nti_swp (by rw [slideR_length]; exact hk), i1, i2, i3]
    rw [if_neg (show ¬ (a ≤ a + t ∧ a + t < a + t) by omega), if_pos rfl, if_neg (show ¬ (a ≤ a + t + 1 ∧ a + t + 1 < a + t) by omega), if_neg (show ¬ a + t + 1 = a + t by omega)]
    by_cases e1 : a + t + 1 = k
    · subst e1
      rw [if_pos rfl, if_neg (by omega), if_pos (by omega)]
    · rw [if_neg e1]
      by_cases e2 : a + t = k
      · subst e2
        rw [if_pos rfl, if_pos (by omega)]
      · rw [if_neg e2]
        by_cases e3 : a ≤ k ∧ k < a + t
        · rw [if_pos e3, if_pos (by omega)]
        · rw [if_neg e3, if_neg (by omega), if_neg (by omega), if_neg (by omega)]
def slideL (d : List Int) (m : Nat) : Nat → List Int
  | 0 => d
  | t + 1 => swp (slideL d m t) (m - t) (m - t - 1)
theorem slideL_length (d : List Int) (m : Nat) : ∀ t, (slideL d m t).length = d.length
  | 0 => rfl
  | t + 1 => by show (swp _ _ _).length = _; rw [swp_length, slideL_length d m t]
theorem nti_slideL {d : List Int} {m : Nat} (hm : m < d.length) : ∀ t, t ≤ m → ∀ k, k < d.length → nti (slideL d m t) k = if m - t < k ∧ k ≤ m then nti d (k - 1) else if k = m - t then nti d m else nti d k
  | 0, _, k, _ => by
    rw [if_neg (by omega)]
    show nti d k = _
    split
    · rename_i e; rw [e, Nat.sub_zero]
    · rfl
  | t + 1, h, k, hk => by
    have ih := nti_slideL (d := d) hm t (by omega)
    have i1 := ih (m - t) (by omega)
    have i2 := ih (m - t - 1) (by omega)
    have i3 := ih k hk
    show nti (swp (slideL d m t) (m - t) (m - t - 1)) k = _
    rw [nti_swp (by rw [slideL_length]; exact hk), i1, i2, i3]
    rw [if_neg (show ¬ (m - t < m - t ∧ m - t ≤ m) by omega), if_pos rfl, if_neg (show ¬ (m - t < m - t - 1 ∧ m - t - 1 ≤ m) by omega), if_neg (show ¬ m - t - 1 = m - t by omega)]
    by_cases e1 : m - t - 1 = k
    · subst e1
      rw [if_pos rfl, if_neg (by omega), if_pos (by omega)]
    · rw [if_neg e1]
      by_cases e2 : m - t = k
      · subst e2
        rw [if_pos rfl, if_pos (by omega)]
      · rw [if_neg e2]
        by_cases e3 : m - t < k ∧ k ≤ m
        · rw [if_pos e3, if_pos (by omega)]
        · rw [if_neg e3, if_neg (by omega), if_neg (by omega), if_neg (by omega)]
section
variable {lt : Int → Int → Bool} (T : Tot lt)
include T
/-- The last of a piece put in behind those that are not above it. -/
theorem insL {d : List Int} {a m i : Nat} (hai : a ≤ i) (him : i ≤ m) (hm : m < d.length) (hs : SrtOn lt d a m) (h1 : ∀ k, a ≤ k → k < i → lt (nti d m) (nti d k) = false) (h2 : ∀ k, i ≤ k → k < m → lt (nti d m) (nti d k) = true) :
    slideL d m (m - i) = put d a (m + 1) (sortT lt (seg d a (m + 1))) := by
  have hz : (sortT lt (seg d a (m + 1))).length = m + 1 - a := by rw [sortT_length, seg_length (by omega)]
  have hl : (slideL d m (m - i)).length = d.length := slideL_length _ _ _
  have n1 := fun k hk => nti_slideL (d := d) hm (m - i) (by omega) k hk
  rw [show m - (m - i) = i by omega] at n1
  have e : sortT lt (seg d a (m + 1)) = seg (slideL d m (m - i)) a (m + 1) := by
    refine sortT_eq T ?_ (srt_of_on (by omega) ?_)
    · have hp : seg (slideL d m (m - i)) a (m + 1) = seg d a i ++ ([nti d m] ++ seg d i m) := by
        refine ext_nti (by rw [seg_length (by omega)]; simp [seg_length (d := d) (show i ≤ d.length by omega), seg_length (d := d) (show m ≤ d.length by omega)]; omega) fun k hk => ?_
        rw [seg_length (by omega)] at hk
        rw [nti_seg hk, n1 _ (by omega), nti_append, nti_append, seg_length (by omega)]
        by_cases c1 : k < i - a
        · rw [if_pos c1, nti_seg c1, if_neg (by omega), if_neg (by omega)]
        · rw [if_neg c1]
          by_cases c2 : k = i - a
          · rw [if_neg (by omega), if_pos (by omega), if_pos (by simp; omega), c2, Nat.sub_self]
            rfl
          · rw [if_pos (by omega), if_neg (by simp; omega), nti_seg (by simp; omega)]
            congr 1; simp; omega
      rw [hp]
      have h3 : seg d a (m + 1) = (seg d a i ++ seg d i m) ++ seg d m (m + 1) := by rw [seg_two hai him (by omega), seg_two (by omega) (by omega) (by omega)]
      have h4 : seg d m (m + 1) = [nti d m] := by
        refine ext_nti (by rw [seg_length (by omega)]; simp) fun k hk => ?_
        rw [seg_length (by omega)] at hk
        obtain rfl : k = 0 := by omega
        rw [nti_seg (by omega)]; rfl
      rw [h3, h4, List.append_assoc]
      exact (List.perm_append_comm).append_left _
    · intro p q hp hpq hq
      rw [n1 p (by omega), n1 q (by omega)]
      by_cases c1 : q < i
      · rw [if_neg (by omega), if_neg (by omega), if_neg (by omega), if_neg (by omega)]
        exact hs p q hp hpq (by omega)
      · by_cases c2 : q = i
        · rw [if_neg (by omega), if_pos c2, if_neg (by omega), if_neg (by omega)]
          exact h1 p hp (by omega)
        · rw [if_pos (show i < q ∧ q ≤ m by omega)]
          by_cases c3 : p < i
          · rw [if_neg (by omega), if_neg (by omega)]
            exact hs p (q - 1) hp (by omega) (by omega)
          · by_cases c4 : p = i
            · rw [if_neg (by omega), if_pos c4]
              exact T.asymm (h2 (q - 1) (by omega) (by omega))
            · rw [if_pos (by omega)]
              exact on_le T hs (by omega) (by omega) (by omega)
  refine ext_nti (by rw [hl, put_length (by omega) (by omega) hz]) fun k hk => ?_
  rw [hl] at hk
  rw [nti_put (by omega) (by omega) hz hk, e]
  by_cases c1 : k < a
  · rw [if_pos c1, n1 k hk, if_neg (by omega), if_neg (by omega)]
  · rw [if_neg c1]
    by_cases c2 : k < m + 1
    · rw [if_pos c2, nti_seg (by omega), show a + (k - a) = k by omega]
    · rw [if_neg c2, n1 k hk, if_neg (by omega), if_neg (by omega)]
/-- The first of a piece put in behind those that are below it. -/
theorem insR {d : List Int} {a b i : Nat} (hai : a + 1 ≤ i) (hib : i ≤ b) (hb : b ≤ d.length) (hs : SrtOn lt d (a + 1) b) (h1 : ∀ k, a + 1 ≤ k → k < i → lt (nti d k) (nti d a) = true) (h2 : ∀ k, i ≤ k → k < b → lt (nti d k) (nti d a) = false) :
    slideR d a (i - (a + 1)) = put d a b (sortT lt (seg d a b)) := by
  have hz : (sortT lt (seg d a b)).length = b - a := by rw [sortT_length, seg_length hb]
  have hl : (slideR d a (i - (a + 1))).length = d.length := slideR_length _ _ _
  have n1 := fun k hk => nti_slideR (d := d) (a := a) (i - (a + 1)) (by omega) k hk
  rw [show a + (i - (a + 1)) = i - 1 by omega] at n1
  have e : sortT lt (seg d a b) = seg (slideR d a (i - (a + 1))) a b := by
    refine sortT_eq T ?_ (srt_of_on (by omega) ?_)
    · have hp : seg (slideR d a (i - (a + 1))) a b = seg d (a + 1) i ++ ([nti d a] ++ seg d i b) := by
        refine ext_nti (by rw [seg_length (by omega)]; simp [seg_length (d := d) (show i ≤ d.length by omega), seg_length hb]; omega) fun k hk => ?_
        rw [seg_length (by omega)] at hk
        rw [nti_seg hk, n1 _ (by omega), nti_append, nti_append, seg_length (by omega)]
        by_cases c1 : k < i - (a + 1)
        · rw [if_pos c1, nti_seg c1, if_pos (by omega)]
          congr 1; omega
        · rw [if_neg c1]
          by_cases c2 : k = i - (a + 1)
          · rw [if_neg (by omega), if_pos (by omega), if_pos (by simp; omega), c2, Nat.sub_self]
            rfl
          · rw [if_neg (by omega), if_neg (by omega), if_neg (by simp; omega), nti_seg (by simp; omega)]
            congr 1; simp; omega
      rw [hp]
      have h3 : seg d a b = seg d a (a + 1) ++ (seg d (a + 1) i ++ seg d i b) := by rw [seg_two hai hib hb, seg_two (by omega) (by omega) hb]
      have h4 : seg d a (a + 1) = [nti d a] := by
        refine ext_nti (by rw [seg_length (by omega)]; simp) fun k hk => ?_
        rw [seg_length (by omega)] at hk
        obtain rfl : k = 0 := by omega
        rw [nti_seg (by omega)]; rfl
      rw [h3, h4, ← List.append_assoc, ← List.append_assoc]
      exact (List.perm_append_comm).append_right _
    · intro p q hp hpq hq
      rw [n1 p (by omega), n1 q (by omega)]
      by_cases c1 : q < i - 1
      · rw [if_pos (by omega), if_pos (by omega)]
        exact hs (p + 1) (q + 1) (by omega) (by omega) (by omega)
      · by_cases c2 : q = i - 1
        · rw [if_neg (by omega), if_pos c2, if_pos (by omega)]
          exact T.asymm (h1 (p + 1) (by omega) (by omega))
        · rw [if_neg (show ¬ (a ≤ q ∧ q < i - 1) by omega), if_neg c2]
          by_cases c3 : p < i - 1
          · rw [if_pos (by omega)]
            exact on_le T hs (by omega) (by omega) (by omega)
          · by_cases c4 : p = i - 1
            · rw [if_neg (by omega), if_pos c4]
              exact h2 q (by omega) (by omega)
            · rw [if_neg (by omega), if_neg c4]
              exact hs p q (by omega) (by omega) (by omega)
  refine ext_nti (by rw [hl, put_length (by omega) (by omega) hz]) fun k hk => ?_
  rw [hl] at hk
  rw [nti_put (by omega) (by omega) hz hk, e]
  by_cases c1 : k < a
  · rw [if_pos c1, n1 k hk, if_neg (by omega), if_neg (by omega)]
  · rw [if_neg c1]
    by_cases c2 : k < b
    · rw [if_pos c2, nti_seg (by omega), show a + (k - a) = k by omega]
    · rw [if_neg c2, n1 k hk, if_neg (by omega), if_neg (by omega)]
end
end Go.Proofs.Ytodnjeahjalinaa.Stab
