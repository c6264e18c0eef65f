/-
  Heaps of pairs of numbers, plainly: the order by wear and then by id; what the program's way and the document's way of moving an element up or down come to; that a heap stays one, that nothing is lost, and that taking all gives the sorted list. No program is named here.
-/
namespace Go.Proofs.Ytkkmfeclondlpaa.Heap
set_option linter.unusedVariables false

/-- A block, and how often it was erased. -/
structure Wn where
  id : Int
  wear : Int
deriving DecidableEq
instance : Inhabited Wn := ⟨⟨0, 0⟩⟩
theorem Wn.ext' {a b : Wn} (h1 : a.id = b.id) (h2 : a.wear = b.wear) : a = b := by cases a; cases b; simp at *; exact ⟨h1, h2⟩

/-- By wear, and then by id. -/
def less (a b : Wn) : Bool := if a.wear = b.wear then decide (a.id < b.id) else decide (a.wear < b.wear)
theorem less_iff {a b : Wn} : less a b = true ↔ a.wear < b.wear ∨ (a.wear = b.wear ∧ a.id < b.id) := by
  unfold less
  split <;> simp <;> omega
theorem less_no {a b : Wn} : less a b = false ↔ ¬ (a.wear < b.wear ∨ (a.wear = b.wear ∧ a.id < b.id)) := by
  rw [← less_iff]; simp
theorem less_irrefl (a : Wn) : less a a = false := by rw [less_no]; omega
theorem less_trans {a b c : Wn} (h1 : less a b = true) (h2 : less b c = true) : less a c = true := by rw [less_iff] at *; omega
theorem nless_trans {a b c : Wn} (h1 : less b a = false) (h2 : less c b = false) : less c a = false := by rw [less_no] at *; omega
theorem less_nless {a b c : Wn} (h1 : less a b = true) (h2 : less c b = false) : less a c = true := by rw [less_iff] at *; rw [less_no] at h2; omega
theorem nless_less {a b c : Wn} (h1 : less b a = false) (h2 : less b c = true) : less a c = true := by rw [less_iff] at *; rw [less_no] at h1; omega
theorem less_asymm {a b : Wn} (h : less a b = true) : less b a = false := by rw [less_iff] at h; rw [less_no]; omega
theorem nless_eq {a b : Wn} (h1 : less a b = false) (h2 : less b a = false) : a = b := by
  rw [less_no] at *
  exact Wn.ext' (by omega) (by omega)

/-- The element at a place. -/
def nth (l : List Wn) (k : Nat) : Wn := l.getD k ⟨0, 0⟩
theorem nth_get {l : List Wn} {k : Nat} (h : k < l.length) : l[k]? = some (nth l k) := by simp [nth, List.getD, List.getElem?_eq_getElem h]
theorem nth_of {l : List Wn} {k : Nat} {x : Wn} (h : l[k]? = some x) : nth l k = x := by simp [nth, List.getD, h]
theorem nth_eq {l : List Wn} {k : Nat} (h : k < l.length) : nth l k = l[k] := nth_of (List.getElem?_eq_getElem h)
theorem nth_mem {l : List Wn} {k : Nat} (h : k < l.length) : nth l k ∈ l := List.mem_of_getElem? (nth_get h)
theorem nth_set {l : List Wn} {i k : Nat} {x : Wn} (h : k < l.length) : nth (l.set i x) k = if i = k then x else nth l k := by
  simp only [nth, List.getD, List.getElem?_set]
  split
  · rename_i e; subst e; simp [h]
  · rfl
theorem ext_nth {a b : List Wn} (hl : a.length = b.length) (h : ∀ k, k < a.length → nth a k = nth b k) : a = b := by
  apply List.ext_getElem?
  intro k
  by_cases hk : k < a.length
  · rw [nth_get hk, nth_get (by omega), h k hk]
  · rw [List.getElem?_eq_none (by omega), List.getElem?_eq_none (by omega)]

/-! ### exchange -/
/-- The elements at i and j, exchanged. -/
def swap (l : List Wn) (i j : Nat) : List Wn := (l.set i (nth l j)).set j (nth l i)
theorem swap_length (l : List Wn) (i j : Nat) : (swap l i j).length = l.length := by simp [swap]
theorem nth_swap {l : List Wn} {i j k : Nat} (hk : k < l.length) : nth (swap l i j) k = if j = k then nth l i else if i = k then nth l j else nth l k := by
  unfold swap
  rw [nth_set (by simpa using hk), nth_set hk]
theorem swap_perm {l : List Wn} {i j : Nat} (hi : i < l.length) (hj : j < l.length) : (swap l i j).Perm l := by
  have h := List.set_set_perm (as := l) hi hj
  unfold swap
  rw [nth_eq hi, nth_eq hj]
  exact h

/-! ### heaps -/
/-- A heap, from index i on: no element whose parent lies there is less than the parent. -/
def From (l : List Wn) (i : Nat) : Prop := ∀ c, 0 < c → c < l.length → i ≤ (c - 1) / 2 → less (nth l c) (nth l ((c - 1) / 2)) = false
def IsHeap (l : List Wn) : Prop := From l 0
/-- Whether the list is a heap. -/
def right (l : List Wn) : Bool := (List.range l.length).all fun c => c == 0 || !less (nth l c) (nth l ((c - 1) / 2))
theorem right_iff {l : List Wn} : right l = true ↔ IsHeap l := by
  unfold right IsHeap From
  rw [List.all_eq_true]
  constructor
  · intro h c h0 hc _
    have := h c (by simpa using hc)
    have h1 : (c == 0) = false := by rw [beq_eq_false_iff_ne]; omega
    rw [h1] at this
    simpa using this
  · intro h c hc
    rw [List.mem_range] at hc
    by_cases h0 : c = 0
    · subst h0; rfl
    · rw [h c (by omega) hc (Nat.zero_le _)]; simp
theorem right_no {l : List Wn} {c : Nat} (h0 : 0 < c) (hc : c < l.length) (h : less (nth l c) (nth l ((c - 1) / 2)) = true) : right l = false := by
  cases hr : right l with
  | false => rfl
  | true =>
    have := right_iff.1 hr c h0 hc (Nat.zero_le _)
    rw [h] at this; cases this
theorem right_upto {l : List Wn} (h : ∀ c, 0 < c → c < l.length → less (nth l c) (nth l ((c - 1) / 2)) = false) : right l = true := right_iff.2 fun c h0 hc _ => h c h0 hc
theorem right_kids {l : List Wn} (h : ∀ k, k < l.length → (2 * k + 1 < l.length → less (nth l (2 * k + 1)) (nth l k) = false) ∧ (2 * k + 2 < l.length → less (nth l (2 * k + 2)) (nth l k) = false)) : right l = true := by
  refine right_upto fun c h0 hc => ?_
  have hp := h ((c - 1) / 2) (by omega)
  rcases Nat.mod_two_eq_zero_or_one (c - 1) with hm | hm
  · have e : 2 * ((c - 1) / 2) + 1 = c := by omega
    rw [e] at hp
    exact hp.1 hc
  · have e : 2 * ((c - 1) / 2) + 2 = c := by omega
    rw [e] at hp
    exact hp.2 hc
/-- The first one is the least. -/
theorem heap_least {l : List Wn} (h : IsHeap l) : ∀ k, k < l.length → less (nth l k) (nth l 0) = false := by
  intro k
  induction k using Nat.strongRecOn with
  | ind k ih =>
    intro hk
    by_cases h0 : k = 0
    · subst h0; exact less_irrefl _
    · exact nless_trans (ih ((k - 1) / 2) (by omega) (by omega)) (h k (by omega) hk (Nat.zero_le _))
theorem heap_least_mem {l : List Wn} (h : IsHeap l) {x : Wn} (hx : x ∈ l) : less x (nth l 0) = false := by
  obtain ⟨k, hk, rfl⟩ := List.mem_iff_getElem.1 hx
  rw [← nth_eq hk]
  exact heap_least h k hk

/-! ### up -/
def up (l : List Wn) (k : Nat) : List Wn :=
  if h : 0 < k ∧ less (nth l k) (nth l ((k - 1) / 2)) = true then up (swap l k ((k - 1) / 2)) ((k - 1) / 2) else l
termination_by k
decreasing_by omega
theorem up_go {l : List Wn} {k : Nat} (h0 : 0 < k) (h : less (nth l k) (nth l ((k - 1) / 2)) = true) : up l k = up (swap l k ((k - 1) / 2)) ((k - 1) / 2) := by
  rw [up, dif_pos ⟨h0, h⟩]
theorem up_zero (l : List Wn) : up l 0 = l := by rw [up, dif_neg (by omega)]
theorem up_stop {l : List Wn} {k : Nat} (h : less (nth l k) (nth l ((k - 1) / 2)) = false) : up l k = l := by
  rw [up, dif_neg (by rw [h]; simp)]
theorem up_perm : ∀ (k : Nat) (l : List Wn), k < l.length → (up l k).Perm l := by
  intro k
  induction k using Nat.strongRecOn with
  | ind k ih =>
    intro l hk
    by_cases h : 0 < k ∧ less (nth l k) (nth l ((k - 1) / 2)) = true
    · rw [up_go h.1 h.2]
      exact (ih _ (by omega) _ (by rw [swap_length]; omega)).trans (swap_perm hk (by omega))
    · rw [up, dif_neg h]
theorem up_length {k : Nat} {l : List Wn} (h : k < l.length) : (up l k).length = l.length := (up_perm k l h).length_eq
/-- Every element but the one at k is not less than its parent; and k's children are not less than k's parent. -/
def ButAt (l : List Wn) (k : Nat) : Prop :=
  (∀ c, 0 < c → c < l.length → c ≠ k → less (nth l c) (nth l ((c - 1) / 2)) = false) ∧ (0 < k → ∀ c, 0 < c → c < l.length → (c - 1) / 2 = k → less (nth l c) (nth l ((k - 1) / 2)) = false)
theorem up_heap : ∀ (k : Nat) (l : List Wn), k < l.length → ButAt l k → IsHeap (up l k) := by
  intro k
  induction k using Nat.strongRecOn with
  | ind k ih =>
    intro l hk hb
    by_cases h : 0 < k ∧ less (nth l k) (nth l ((k - 1) / 2)) = true
    · rw [up_go h.1 h.2]
      obtain ⟨h0, hl⟩ := h
      refine ih _ (by omega) _ (by rw [swap_length]; omega) ⟨?_, ?_⟩
      · intro c c0 hc hne
        rw [swap_length] at hc
        rw [nth_swap hc, nth_swap (by omega)]
        rw [if_neg (show ¬ (k - 1) / 2 = c by omega)]
        by_cases hck : k = c
        · subst hck
          rw [if_pos rfl, if_pos rfl]
          exact less_asymm hl
        · rw [if_neg hck]
          by_cases h1 : (k - 1) / 2 = (c - 1) / 2
          · rw [if_pos h1]
            have := hb.1 c c0 hc (by omega)
            rw [← h1] at this
            exact less_asymm (less_nless hl this)
          · rw [if_neg h1]
            by_cases h2 : k = (c - 1) / 2
            · rw [if_pos h2]
              exact hb.2 h0 c c0 hc h2.symm
            · rw [if_neg h2]
              exact hb.1 c c0 hc (by omega)
      · intro hp c c0 hc hcp
        rw [swap_length] at hc
        rw [nth_swap hc, nth_swap (by omega)]
        rw [if_neg (show ¬ (k - 1) / 2 = c by omega), if_neg (show ¬ (k - 1) / 2 = ((k - 1) / 2 - 1) / 2 by omega), if_neg (show ¬ k = ((k - 1) / 2 - 1) / 2 by omega)]
        have hg := hb.1 ((k - 1) / 2) hp (by omega) (by omega)
        by_cases hck : k = c
        · subst hck
          rw [if_pos rfl]
          exact hg
        · rw [if_neg hck]
          have := hb.1 c c0 hc (by omega)
          rw [hcp] at this
          exact nless_trans hg this
    · rw [up, dif_neg h]
      intro c c0 hc _
      by_cases hck : c = k
      · subst hck
        cases hlc : less (nth l c) (nth l ((c - 1) / 2)) with
        | false => rfl
        | true => exact absurd ⟨c0, hlc⟩ h
      · exact hb.1 c c0 hc hck

/-! ### down -/
/-- The document's own step: the place of the least among k and its children, the first of equals. -/
def one (l : List Wn) (c b : Nat) : Nat := if c < l.length ∧ less (nth l c) (nth l b) = true then c else b
def best (l : List Wn) (k : Nat) : Nat := one l (2 * k + 2) (one l (2 * k + 1) k)
theorem one_cases (l : List Wn) (c b : Nat) : one l c b = b ∨ (one l c b = c ∧ c < l.length) := by
  unfold one
  split
  · rename_i h; exact .inr ⟨rfl, h.1⟩
  · exact .inl rfl
theorem best_cases (l : List Wn) (k : Nat) : best l k = k ∨ (best l k = 2 * k + 1 ∧ 2 * k + 1 < l.length) ∨ (best l k = 2 * k + 2 ∧ 2 * k + 2 < l.length) := by
  unfold best
  rcases one_cases l (2 * k + 2) (one l (2 * k + 1) k) with e | ⟨e, h⟩
  · rcases one_cases l (2 * k + 1) k with e2 | ⟨e2, h2⟩
    · exact .inl (e.trans e2)
    · exact .inr (.inl ⟨e.trans e2, h2⟩)
  · exact .inr (.inr ⟨e, h⟩)
/-- The program's own step: the smaller child, the first of equals. -/
def child (l : List Wn) (k : Nat) : Nat := if 2 * k + 2 < l.length ∧ less (nth l (2 * k + 2)) (nth l (2 * k + 1)) = true then 2 * k + 2 else 2 * k + 1
theorem child_cases (l : List Wn) (k : Nat) : child l k = 2 * k + 1 ∨ (child l k = 2 * k + 2 ∧ 2 * k + 2 < l.length) := by
  unfold child
  split
  · rename_i h; exact .inr ⟨rfl, h.1⟩
  · exact .inl rfl
theorem child_lt {l : List Wn} {k : Nat} (h : 2 * k + 1 < l.length) : child l k < l.length := by
  rcases child_cases l k with e | ⟨e, _⟩ <;> omega
theorem best_leaf {l : List Wn} {k : Nat} (h : l.length ≤ 2 * k + 1) : best l k = k := by
  unfold best one
  rw [if_neg (by omega), if_neg (by omega)]
theorem best_stay {l : List Wn} {k : Nat} (h : less (nth l (child l k)) (nth l k) = false) : best l k = k := by
  unfold best child one at *
  by_cases h2 : 2 * k + 2 < l.length ∧ less (nth l (2 * k + 2)) (nth l (2 * k + 1)) = true
  · rw [if_pos h2] at h
    have h1 : less (nth l (2 * k + 1)) (nth l k) = false := nless_trans h (less_asymm h2.2)
    rw [if_neg (show ¬ (2 * k + 1 < l.length ∧ less (nth l (2 * k + 1)) (nth l k) = true) by rw [h1]; simp), if_neg (by rw [h]; simp)]
  · rw [if_neg h2] at h
    rw [if_neg (show ¬ (2 * k + 1 < l.length ∧ less (nth l (2 * k + 1)) (nth l k) = true) by rw [h]; simp)]
    rw [if_neg]
    rintro ⟨h3, h4⟩
    have h5 : less (nth l (2 * k + 2)) (nth l (2 * k + 1)) = false := by
      cases e : less (nth l (2 * k + 2)) (nth l (2 * k + 1)) with
      | false => rfl
      | true => exact absurd ⟨h3, e⟩ h2
    rw [nless_trans h h5] at h4
    cases h4
theorem best_child {l : List Wn} {k : Nat} (hk : 2 * k + 1 < l.length) (h : less (nth l (child l k)) (nth l k) = true) : best l k = child l k := by
  unfold best child one at *
  by_cases h2 : 2 * k + 2 < l.length ∧ less (nth l (2 * k + 2)) (nth l (2 * k + 1)) = true
  · rw [if_pos h2] at h ⊢
    rw [if_pos]
    refine ⟨h2.1, ?_⟩
    split
    · exact h2.2
    · exact h
  · rw [if_neg h2] at h ⊢
    rw [if_pos (show 2 * k + 1 < l.length ∧ less (nth l (2 * k + 1)) (nth l k) = true from ⟨hk, h⟩), if_neg h2]
def down (l : List Wn) (k : Nat) : List Wn :=
  if h : best l k = k then l else down (swap l k (best l k)) (best l k)
termination_by l.length - k
decreasing_by
  rw [swap_length]
  rcases best_cases l k with e | ⟨e, h1⟩ | ⟨e, h1⟩
  · exact absurd e h
  · omega
  · omega
theorem down_stop {l : List Wn} {k : Nat} (h : best l k = k) : down l k = l := by rw [down, dif_pos h]
theorem down_go {l : List Wn} {k : Nat} (h : best l k ≠ k) : down l k = down (swap l k (best l k)) (best l k) := by rw [down, dif_neg h]
theorem best_gt {l : List Wn} {k : Nat} (h : best l k ≠ k) : k < best l k ∧ best l k < l.length ∧ (best l k - 1) / 2 = k := by
  rcases best_cases l k with e | ⟨e, h1⟩ | ⟨e, h1⟩
  · exact absurd e h
  · omega
  · omega
theorem best_less {l : List Wn} {k : Nat} (h : best l k ≠ k) : less (nth l (best l k)) (nth l k) = true := by
  have hg := best_gt h
  by_cases hl : 2 * k + 1 < l.length
  · cases hc : less (nth l (child l k)) (nth l k) with
    | false => exact absurd (best_stay hc) h
    | true => rw [best_child hl hc]; exact hc
  · exact absurd (best_leaf (by omega)) h
/-- No child is less than the least of them. -/
theorem best_min {l : List Wn} {k c : Nat} (hc : c < l.length) (hp : 0 < c ∧ (c - 1) / 2 = k) : less (nth l c) (nth l (best l k)) = false := by
  have h1 : c = 2 * k + 1 ∨ c = 2 * k + 2 := by omega
  by_cases hl : 2 * k + 1 < l.length
  · have hm : less (nth l c) (nth l (child l k)) = false := by
      unfold child
      split
      · rename_i h2
        rcases h1 with rfl | rfl
        · exact less_asymm h2.2
        · exact less_irrefl _
      · rename_i h2
        rcases h1 with rfl | rfl
        · exact less_irrefl _
        · cases e : less (nth l (2 * k + 2)) (nth l (2 * k + 1)) with
          | false => rfl
          | true => exact absurd ⟨hc, e⟩ h2
    cases hcc : less (nth l (child l k)) (nth l k) with
    | false => rw [best_stay hcc]; exact nless_trans hcc hm
    | true => rw [best_child hl hcc]; exact hm
  · omega
theorem down_perm : ∀ (m : Nat) (l : List Wn) (k : Nat), l.length - k ≤ m → (down l k).Perm l := by
  intro m
  induction m with
  | zero =>
    intro l k hm
    rw [down_stop (best_leaf (by omega))]
  | succ m ih =>
    intro l k hm
    by_cases h : best l k = k
    · rw [down_stop h]
    · have hg := best_gt h
      rw [down_go h]
      exact (ih _ _ (by rw [swap_length]; omega)).trans (swap_perm (by omega) hg.2.1)
theorem down_perm' (l : List Wn) (k : Nat) : (down l k).Perm l := down_perm _ l k (Nat.le_refl _)
theorem down_length (l : List Wn) (k : Nat) : (down l k).length = l.length := (down_perm' l k).length_eq
/-- From i on, but for k's children; and those are not less than k's parent. -/
def ButKids (l : List Wn) (i k : Nat) : Prop :=
  (∀ c, 0 < c → c < l.length → i ≤ (c - 1) / 2 → (c - 1) / 2 ≠ k → less (nth l c) (nth l ((c - 1) / 2)) = false) ∧
    (0 < k → i ≤ (k - 1) / 2 → ∀ c, 0 < c → c < l.length → (c - 1) / 2 = k → less (nth l c) (nth l ((k - 1) / 2)) = false)
theorem down_heap : ∀ (m : Nat) (l : List Wn) (i k : Nat), l.length - k ≤ m → i ≤ k → ButKids l i k → From (down l k) i := by
  intro m
  induction m with
  | zero =>
    intro l i k hm hik hb
    rw [down_stop (best_leaf (by omega))]
    intro c c0 hc hi
    exact hb.1 c c0 hc hi (by omega)
  | succ m ih =>
    intro l i k hm hik hb
    by_cases h : best l k = k
    · rw [down_stop h]
      intro c c0 hc hi
      by_cases hck : (c - 1) / 2 = k
      · have := best_min hc ⟨c0, hck⟩
        rw [h] at this
        rw [hck]
        exact this
      · exact hb.1 c c0 hc hi hck
    · have hg := best_gt h
      have hl := best_less h
      rw [down_go h]
      have hmin : ∀ c, 0 < c → c < l.length → (c - 1) / 2 = k → less (nth l c) (nth l (best l k)) = false := fun c c0 hc hp => best_min hc ⟨c0, hp⟩
      generalize best l k = b at *
      refine ih _ i _ (by rw [swap_length]; omega) (by omega) ⟨?_, ?_⟩
      · intro c c0 hc hi hne
        rw [swap_length] at hc
        rw [nth_swap hc, nth_swap (by omega)]
        rw [if_neg (show ¬ b = (c - 1) / 2 by omega)]
        by_cases hck : (c - 1) / 2 = k
        · rw [if_pos hck.symm]
          by_cases hbc : b = c
          · rw [if_pos hbc]
            exact less_asymm hl
          · rw [if_neg hbc, if_neg (show ¬ k = c by omega)]
            exact hmin c c0 hc hck
        · rw [if_neg (show ¬ k = (c - 1) / 2 by omega)]
          by_cases hbc : b = c
          · omega
          · rw [if_neg hbc]
            by_cases hkc : k = c
            · rw [if_pos hkc]
              subst hkc
              exact hb.2 c0 hi b (by omega) (by omega) hg.2.2
            · rw [if_neg hkc]
              exact hb.1 c c0 hc hi hck
      · intro b0 hib c c0 hc hcb
        rw [swap_length] at hc
        rw [nth_swap hc, nth_swap (by omega), hg.2.2]
        rw [if_neg (show ¬ b = c by omega), if_neg (show ¬ k = c by omega), if_neg (show ¬ b = k by omega), if_pos rfl]
        have := hb.1 c c0 hc (by omega) (by omega)
        rw [hcb] at this
        exact this

/-! ### what the functions return -/
def pushed (l : List Wn) (x : Wn) : List Wn := up (l ++ [x]) l.length
def popped (l : List Wn) : List Wn := down ((l.take (l.length - 1)).set 0 (nth l (l.length - 1))) 0
def downs (l : List Wn) : Nat → List Wn
  | 0 => l
  | k + 1 => downs (down l k) k
def made (l : List Wn) : List Wn := downs l l.length
def sorted (l : List Wn) : List Wn := l.mergeSort fun x y => !less y x

theorem pushed_length (l : List Wn) (x : Wn) : (pushed l x).length = l.length + 1 := by
  unfold pushed; rw [up_length (by simp)]; simp
theorem pushed_perm (l : List Wn) (x : Wn) : (pushed l x).Perm (x :: l) := (up_perm _ _ (by simp)).trans List.perm_append_comm
theorem nth_append {l r : List Wn} {k : Nat} (h : k < l.length) : nth (l ++ r) k = nth l k := by simp [nth, List.getD, List.getElem?_append_left h]
theorem pushed_heap {l : List Wn} (h : IsHeap l) (x : Wn) : IsHeap (pushed l x) := by
  refine up_heap _ _ (by simp) ⟨?_, ?_⟩
  · intro c c0 hc hne
    rw [List.length_append] at hc
    simp at hc
    rw [nth_append (by omega), nth_append (by omega)]
    exact h c c0 (by omega) (Nat.zero_le _)
  · intro _ c c0 hc hcp
    rw [List.length_append] at hc
    simp at hc
    omega
theorem popped_length (l : List Wn) : (popped l).length = l.length - 1 := by
  unfold popped; rw [down_length]; simp
theorem pop_base {l : List Wn} (h : 1 < l.length) : (l.take (l.length - 1)).set 0 (nth l (l.length - 1)) = nth l (l.length - 1) :: (l.take (l.length - 1)).drop 1 := by
  cases l with
  | nil => simp at h
  | cons a l =>
    simp at h
    obtain ⟨n, hn⟩ : ∃ n, l.length = n + 1 := ⟨l.length - 1, by omega⟩
    simp [hn]
theorem split_last {l : List Wn} (h : 0 < l.length) : l.take (l.length - 1) ++ [nth l (l.length - 1)] = l := by
  have h1 := List.take_append_drop (l.length - 1) l
  have h2 : l.drop (l.length - 1) = [nth l (l.length - 1)] := by
    rw [List.drop_eq_getElem_cons (by omega), ← nth_eq (by omega)]
    congr 1
    apply List.drop_eq_nil_of_le
    omega
  rw [h2] at h1
  exact h1
theorem popped_perm {l : List Wn} (h : 0 < l.length) : (nth l 0 :: popped l).Perm l := by
  by_cases h1 : l.length = 1
  · cases l with
    | nil => simp at h
    | cons a l =>
      have : l = [] := List.eq_nil_of_length_eq_zero (by simpa using h1)
      subst this
      have hp : popped [a] = [] := by
        have := popped_length [a]
        exact List.eq_nil_of_length_eq_zero (by simpa using this)
      rw [hp]
      rfl
  · unfold popped
    refine ((down_perm' _ _).cons _).trans ?_
    rw [pop_base (by omega)]
    refine (List.Perm.swap _ _ _).trans ?_
    have e : nth l 0 :: (l.take (l.length - 1)).drop 1 = l.take (l.length - 1) := by
      cases l with
      | nil => simp at h
      | cons a l =>
        simp at h1
        have h2 : l.length ≠ 0 := by simpa using h1
        obtain ⟨n, hn⟩ : ∃ n, l.length = n + 1 := ⟨l.length - 1, by omega⟩
        simp [hn, nth]
    rw [e]
    have := split_last h
    exact (List.perm_append_comm (l₁ := [nth l (l.length - 1)])).trans (by rw [this])
theorem nth_take {l : List Wn} {n k : Nat} (h : k < n) : nth (l.take n) k = nth l k := by simp [nth, List.getD, List.getElem?_take_of_lt h]
theorem popped_heap {l : List Wn} (h : IsHeap l) : IsHeap (popped l) := by
  refine down_heap _ _ 0 0 (Nat.le_refl _) (Nat.le_refl _) ⟨?_, fun h0 => absurd h0 (by omega)⟩
  intro c c0 hc _ hne
  simp at hc
  have e1 : ∀ j, 0 < j → j < l.length - 1 → nth ((l.take (l.length - 1)).set 0 (nth l (l.length - 1))) j = nth l j := fun j j0 hj => by
    rw [nth_set (by simp; omega), if_neg (by omega), nth_take hj]
  rw [e1 c c0 (by omega), e1 _ (by omega) (by omega)]
  exact h c c0 (by omega) (Nat.zero_le _)
theorem downs_perm : ∀ (k : Nat) (l : List Wn), (downs l k).Perm l := by
  intro k
  induction k with
  | zero => intro l; exact List.Perm.refl _
  | succ k ih => intro l; exact (ih _).trans (down_perm' _ _)
theorem downs_length (k : Nat) (l : List Wn) : (downs l k).length = l.length := (downs_perm k l).length_eq
theorem made_perm (l : List Wn) : (made l).Perm l := downs_perm _ _
theorem made_length (l : List Wn) : (made l).length = l.length := (made_perm l).length_eq
theorem downs_heap : ∀ (k : Nat) (l : List Wn), From l k → From (downs l k) 0 := by
  intro k
  induction k with
  | zero => intro l h; exact h
  | succ k ih =>
    intro l h
    refine ih _ (down_heap _ _ k k (Nat.le_refl _) (Nat.le_refl _) ⟨?_, fun h0 hk => absurd hk (by omega)⟩)
    intro c c0 hc hi hne
    exact h c c0 hc (by omega)
theorem made_heap (l : List Wn) : IsHeap (made l) := downs_heap _ _ fun c c0 hc hi => by omega
/-- From an index without children on nothing is moved: both ways of making a heap are one. -/
theorem downs_more : ∀ (j : Nat) (l : List Wn) (k : Nat), l.length ≤ 2 * k + 1 → downs l (k + j) = downs l k := by
  intro j
  induction j with
  | zero => intro l k _; rfl
  | succ j ih =>
    intro l k h
    rw [← Nat.add_assoc]
    show downs (down l (k + j)) (k + j) = _
    rw [down_stop (best_leaf (by omega))]
    exact ih l k h
theorem made_half (l : List Wn) : made l = downs l (l.length / 2) := by
  unfold made
  have := downs_more (l.length - l.length / 2) l (l.length / 2) (by omega)
  rwa [show l.length / 2 + (l.length - l.length / 2) = l.length by omega] at this

/-! ### sorted -/
theorem le_trans' (a b c : Wn) (h1 : (!less b a) = true) (h2 : (!less c b) = true) : (!less c a) = true := by
  simp only [Bool.not_eq_true'] at *
  exact nless_trans h1 h2
theorem le_total' (a b : Wn) : (!less b a || !less a b) = true := by
  cases h : less b a with
  | false => rfl
  | true => rw [less_asymm h]; rfl
theorem sorted_perm (l : List Wn) : (sorted l).Perm l := List.mergeSort_perm _ _
theorem sorted_length (l : List Wn) : (sorted l).length = l.length := (sorted_perm l).length_eq
theorem sorted_pairs (l : List Wn) : (sorted l).Pairwise fun x y => less y x = false := by
  have := List.pairwise_mergeSort (le := fun x y => !less y x) le_trans' le_total' l
  exact this.imp fun h => by simpa using h
theorem sorted_unique {a b : List Wn} (hp : a.Perm b) (ha : a.Pairwise fun x y => less y x = false) (hb : b.Pairwise fun x y => less y x = false) : a = b :=
  List.Perm.eq_of_pairwise (le := fun x y => less y x = false) (fun x y _ _ h1 h2 => nless_eq h2 h1) ha hb hp
theorem sorted_of_perm {a b : List Wn} (h : a.Perm b) : sorted a = sorted b := sorted_unique ((sorted_perm a).trans (h.trans (sorted_perm b).symm)) (sorted_pairs a) (sorted_pairs b)
theorem sorted_again (a : List Wn) : sorted (sorted a) = sorted a := sorted_of_perm (sorted_perm a)
theorem sorted_back (a : List Wn) : sorted a.reverse = sorted a := sorted_of_perm (List.reverse_perm a)
/-- Who is the least comes first. -/
theorem sorted_cons {x : Wn} {l m : List Wn} (hp : (x :: l).Perm m) (hx : ∀ y ∈ l, less y x = false) : sorted m = x :: sorted l := by
  refine sorted_unique ((sorted_perm m).trans (hp.symm.trans ((sorted_perm l).symm.cons x))) (sorted_pairs m) ?_
  refine List.pairwise_cons.2 ⟨fun y hy => hx y ((sorted_perm l).mem_iff.1 hy), sorted_pairs l⟩
theorem sorted_pop {l : List Wn} (h : IsHeap l) (h0 : 0 < l.length) : sorted l = nth l 0 :: sorted (popped l) :=
  sorted_cons (popped_perm h0) fun y hy => heap_least_mem h ((popped_perm h0).mem_iff.1 (List.mem_cons_of_mem _ hy))
/-- After j pops of a heap. -/
def pops (l : List Wn) : Nat → List Wn
  | 0 => l
  | k + 1 => popped (pops l k)
theorem pops_heap {l : List Wn} (h : IsHeap l) : ∀ j, IsHeap (pops l j)
  | 0 => h
  | j + 1 => popped_heap (pops_heap h j)
theorem pops_length (l : List Wn) : ∀ j, (pops l j).length = l.length - j
  | 0 => rfl
  | j + 1 => by show (popped _).length = _; rw [popped_length, pops_length l j]; omega
/-- .. what was taken so far. -/
def taken (l : List Wn) : Nat → List Wn
  | 0 => []
  | k + 1 => taken l k ++ [nth (pops l k) 0]
theorem taken_length (l : List Wn) : ∀ j, (taken l j).length = j
  | 0 => rfl
  | j + 1 => by simp [taken, taken_length l j]
theorem taken_sorted {l : List Wn} (h : IsHeap l) : ∀ j, j ≤ l.length → sorted l = taken l j ++ sorted (pops l j)
  | 0, _ => rfl
  | j + 1, hj => by
    rw [taken_sorted h j (by omega), sorted_pop (pops_heap h j) (by rw [pops_length]; omega)]
    simp [taken, pops]
theorem taken_all {l : List Wn} (h : IsHeap l) : taken l l.length = sorted l := by
  rw [taken_sorted h _ (Nat.le_refl _)]
  have : pops l l.length = [] := List.eq_nil_of_length_eq_zero (by rw [pops_length]; omega)
  rw [this]
  simp [sorted]
/-- The elements of a list pushed one after the other. -/
def pushAll (l : List Wn) : List Wn → List Wn
  | [] => l
  | x :: more => pushAll (pushed l x) more
theorem pushAll_heap : ∀ (more l : List Wn), IsHeap l → IsHeap (pushAll l more)
  | [], _, h => h
  | _ :: more, _, h => pushAll_heap more _ (pushed_heap h _)
theorem pushAll_perm : ∀ (more l : List Wn), (pushAll l more).Perm (l ++ more)
  | [], l => by rw [List.append_nil]; exact List.Perm.refl _
  | x :: more, l => by
    refine (pushAll_perm more _).trans (((pushed_perm l x).append_right more).trans ?_)
    exact List.perm_middle.symm
theorem pushAll_take : ∀ (more l : List Wn) (k : Nat), k < more.length → pushAll l (more.take (k + 1)) = pushed (pushAll l (more.take k)) (nth more k)
  | [], _, _, h => absurd h (by simp)
  | x :: more, l, 0, _ => by simp [pushAll, nth]
  | x :: more, l, k + 1, h => by
    have := pushAll_take more (pushed l x) k (by simpa using h)
    rw [List.take_succ_cons, List.take_succ_cons]
    show pushAll (pushed l x) _ = pushed (pushAll (pushed l x) _) _
    rw [this]
    rfl
theorem pushAll_length (more l : List Wn) : (pushAll l more).length = l.length + more.length := by rw [(pushAll_perm more l).length_eq, List.length_append]
/-- What was less than all others: pushed and popped, the others remain. -/
theorem least_first {l : List Wn} {x : Wn} (h : IsHeap l) (hx : ∀ y ∈ l, less x y = true) : nth (pushed l x) 0 = x := by
  have hh := pushed_heap h x
  have h0 : 0 < (pushed l x).length := by rw [pushed_length]; omega
  have hm : nth (pushed l x) 0 ∈ x :: l := (pushed_perm l x).mem_iff.1 (nth_mem h0)
  rcases List.mem_cons.1 hm with e | e
  · exact e
  · have h1 := hx _ e
    have h2 := heap_least_mem hh ((pushed_perm l x).mem_iff.2 (List.mem_cons_self))
    rw [h1] at h2
    cases h2
theorem least_rest {l : List Wn} {x : Wn} (h : IsHeap l) (hx : ∀ y ∈ l, less x y = true) : sorted (popped (pushed l x)) = sorted l := by
  refine sorted_of_perm ?_
  have h0 : 0 < (pushed l x).length := by rw [pushed_length]; omega
  have := (popped_perm h0).trans (pushed_perm l x)
  rw [least_first h hx] at this
  exact List.Perm.cons_inv this
theorem all_taken (l more : List Wn) : taken (pushAll (made l) more) (l.length + more.length) = sorted (l ++ more) := by
  have h := taken_all (pushAll_heap more _ (made_heap l))
  rw [pushAll_length, made_length] at h
  rw [h]
  exact sorted_of_perm ((pushAll_perm more _).trans ((made_perm l).append_right more))
end Go.Proofs.Ytkkmfeclondlpaa.Heap
