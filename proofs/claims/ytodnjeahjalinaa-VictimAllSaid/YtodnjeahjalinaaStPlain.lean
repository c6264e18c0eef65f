/-
  A stable sort of whole numbers, plainly: pieces of a list, exchanges, rotations, merges in place; what comes of each is said by the one sorted list. No program is named here.
-/
namespace Go.Proofs.Ytodnjeahjalinaa.Stab
set_option linter.unusedVariables false

/-! ### places -/
def nti (l : List Int) (k : Nat) : Int := l.getD k 0
theorem nti_get {l : List Int} {k : Nat} (h : k < l.length) : l[k]? = some (nti l k) := by simp [nti, List.getD, List.getElem?_eq_getElem h]
theorem nti_of {l : List Int} {k : Nat} {x : Int} (h : l[k]? = some x) : nti l k = x := by simp [nti, List.getD, h]
theorem nti_eq {l : List Int} {k : Nat} (h : k < l.length) : nti l k = l[k] := nti_of (List.getElem?_eq_getElem h)
theorem nti_mem {l : List Int} {k : Nat} (h : k < l.length) : nti l k ∈ l := List.mem_of_getElem? (nti_get h)
theorem nti_set {l : List Int} {i k : Nat} {x : Int} (h : k < l.length) : nti (l.set i x) k = if i = k then x else nti l k := by
  simp only [nti, List.getD, List.getElem?_set]
  split
  · rename_i e; subst e; simp [h]
  · rfl
theorem ext_nti {a b : List Int} (hl : a.length = b.length) (h : ∀ k, k < a.length → nti a k = nti b k) : a = b := by
  apply List.ext_getElem?
  intro k
  by_cases hk : k < a.length
  · rw [nti_get hk, nti_get (by omega), h k hk]
  · rw [List.getElem?_eq_none (by omega), List.getElem?_eq_none (by omega)]
theorem nti_append {a b : List Int} {k : Nat} : nti (a ++ b) k = if k < a.length then nti a k else nti b (k - a.length) := by
  unfold nti
  simp only [List.getD, List.getElem?_append]
  split <;> rfl
/-- Two elements exchanged. -/
def swp (l : List Int) (i j : Nat) : List Int := (l.set i (nti l j)).set j (nti l i)
theorem swp_length (l : List Int) (i j : Nat) : (swp l i j).length = l.length := by simp [swp]
theorem nti_swp {l : List Int} {i j k : Nat} (hk : k < l.length) : nti (swp l i j) k = if j = k then nti l i else if i = k then nti l j else nti l k := by
  unfold swp
  rw [nti_set (by simpa using hk), nti_set hk]

/-! ### pieces -/
def seg (d : List Int) (a b : Nat) : List Int := (d.drop a).take (b - a)
def put (d : List Int) (a b : Nat) (Z : List Int) : List Int := d.take a ++ Z ++ d.drop b
theorem seg_length {d : List Int} {a b : Nat} (hb : b ≤ d.length) : (seg d a b).length = b - a := by unfold seg; rw [List.length_take, List.length_drop]; omega
theorem nti_seg {d : List Int} {a b k : Nat} (h : k < b - a) : nti (seg d a b) k = nti d (a + k) := by
  unfold nti seg
  simp only [List.getD, List.getElem?_take_of_lt h, List.getElem?_drop]
theorem put_length {d Z : List Int} {a b : Nat} (hab : a ≤ b) (hb : b ≤ d.length) (hz : Z.length = b - a) : (put d a b Z).length = d.length := by
  unfold put; simp; omega
theorem nti_put {d Z : List Int} {a b k : Nat} (hab : a ≤ b) (hb : b ≤ d.length) (hz : Z.length = b - a) (hk : k < d.length) : nti (put d a b Z) k = if k < a then nti d k else if k < b then nti Z (k - a) else nti d k := by
  unfold put
  have hta : (d.take a).length = a := by rw [List.length_take]; omega
  rw [nti_append, nti_append]
  have e1 : nti (d.take a) k = if k < a then nti d k else 0 := by
    unfold nti
    simp only [List.getD, List.getElem?_take]
    split <;> rfl
  have e2 : ∀ j, nti (d.drop b) j = nti d (b + j) := fun j => by unfold nti; simp only [List.getD, List.getElem?_drop]
  simp only [List.length_append, hta, hz, e1, e2]
  by_cases h1 : k < a
  · rw [if_pos (by omega), if_pos h1, if_pos h1, if_pos h1]
  · rw [if_neg h1]
    by_cases h2 : k < b
    · rw [if_pos (by omega), if_neg h1, if_pos h2]
    · rw [if_neg (by omega), if_neg h2, show b + (k - (a + (b - a))) = k by omega, if_neg h1]
theorem seg_put {d Z : List Int} {a b : Nat} (hab : a ≤ b) (hb : b ≤ d.length) (hz : Z.length = b - a) : seg (put d a b Z) a b = Z := by
  refine ext_nti (by rw [seg_length (by rw [put_length hab hb hz]; exact hb), hz]) fun k hk => ?_
  rw [seg_length (by rw [put_length hab hb hz]; exact hb)] at hk
  rw [nti_seg hk, nti_put hab hb hz (by omega), if_neg (by omega), if_pos (by omega)]
  congr 1; omega
theorem put_seg {d : List Int} {a b : Nat} (hab : a ≤ b) (hb : b ≤ d.length) : put d a b (seg d a b) = d := by
  have hz := seg_length (a := a) hb
  refine ext_nti (put_length hab hb hz) fun k hk => ?_
  rw [put_length hab hb hz] at hk
  rw [nti_put hab hb hz hk]
  split
  · rfl
  · split
    · rw [nti_seg (by omega)]; congr 1; omega
    · rfl
theorem put_put {d Z Z' : List Int} {a b : Nat} (hab : a ≤ b) (hb : b ≤ d.length) (hz : Z.length = b - a) (hz' : Z'.length = b - a) : put (put d a b Z) a b Z' = put d a b Z' := by
  have hl := put_length hab hb hz
  refine ext_nti (by rw [put_length hab (by rw [hl]; exact hb) hz', hl, put_length hab hb hz']) fun k hk => ?_
  rw [put_length hab (by rw [hl]; exact hb) hz', hl] at hk
  rw [nti_put hab (by rw [hl]; exact hb) hz' (by rw [hl]; exact hk), nti_put hab hb hz' hk, nti_put hab hb hz hk]
  split
  · rfl
  · split <;> rfl
/-- What lies apart stays. -/
theorem seg_put_lo {d Z : List Int} {a b p q : Nat} (hab : a ≤ b) (hb : b ≤ d.length) (hz : Z.length = b - a) (hq : q ≤ a) : seg (put d a b Z) p q = seg d p q := by
  have hl := put_length hab hb hz
  refine ext_nti (by rw [seg_length (by omega), seg_length (by omega)]) fun k hk => ?_
  rw [seg_length (by omega)] at hk
  rw [nti_seg hk, nti_seg hk, nti_put hab hb hz (by omega), if_pos (by omega)]
theorem seg_put_hi {d Z : List Int} {a b p q : Nat} (hab : a ≤ b) (hb : b ≤ d.length) (hz : Z.length = b - a) (hp : b ≤ p) (hq : q ≤ d.length) : seg (put d a b Z) p q = seg d p q := by
  have hl := put_length hab hb hz
  refine ext_nti (by rw [seg_length (by omega), seg_length (by omega)]) fun k hk => ?_
  rw [seg_length (by omega)] at hk
  rw [nti_seg hk, nti_seg hk, nti_put hab hb hz (by omega), if_neg (by omega), if_neg (by omega)]
/-- Two pieces side by side. -/
theorem put_two {d X Y : List Int} {a m b : Nat} (ham : a ≤ m) (hmb : m ≤ b) (hb : b ≤ d.length) (hx : X.length = m - a) (hy : Y.length = b - m) : put (put d a m X) m b Y = put d a b (X ++ Y) := by
  have hl := put_length ham (by omega : m ≤ d.length) hx
  have hxy : (X ++ Y).length = b - a := by rw [List.length_append]; omega
  refine ext_nti (by rw [put_length hmb (by omega) hy, hl, put_length (by omega) hb hxy]) fun k hk => ?_
  rw [put_length hmb (by omega) hy, hl] at hk
  rw [nti_put hmb (by omega) hy (by omega), nti_put ham (by omega) hx hk, nti_put (by omega) hb hxy hk, nti_append]
  by_cases h1 : k < a
  · rw [if_pos (by omega), if_pos h1, if_pos h1]
  · by_cases h2 : k < m
    · rw [if_pos h2, if_neg h1, if_pos h2, if_neg h1, if_pos (by omega), if_pos (by omega)]
    · by_cases h3 : k < b
      · rw [if_neg h2, if_pos h3, if_neg h1, if_pos h3, if_neg (by omega)]
        congr 1; omega
      · rw [if_neg h2, if_neg h3, if_neg h1, if_neg h2, if_neg h1, if_neg h3]
theorem seg_two {d : List Int} {a m b : Nat} (ham : a ≤ m) (hmb : m ≤ b) (hb : b ≤ d.length) : seg d a m ++ seg d m b = seg d a b := by
  refine ext_nti (by rw [List.length_append, seg_length (by omega), seg_length hb, seg_length hb]; omega) fun k hk => ?_
  rw [List.length_append, seg_length (by omega), seg_length hb] at hk
  rw [nti_append, seg_length (by omega), nti_seg (d := d) (a := a) (b := b) (by omega)]
  by_cases h : k < m - a
  · rw [if_pos h, nti_seg h]
  · rw [if_neg h, nti_seg (by omega), show m + (k - (m - a)) = a + k by omega]
theorem seg_mem {d : List Int} {a b : Nat} (hb : b ≤ d.length) {x : Int} (hx : x ∈ seg d a b) : ∃ k, a ≤ k ∧ k < b ∧ x = nti d k := by
  obtain ⟨k, hk, rfl⟩ := List.mem_iff_getElem.1 hx
  have hk' := hk
  rw [seg_length hb] at hk'
  exact ⟨a + k, by omega, by omega, by rw [← nti_eq hk, nti_seg hk']⟩
theorem mem_seg {d : List Int} {a b k : Nat} (hb : b ≤ d.length) (ha : a ≤ k) (hk : k < b) : nti d k ∈ seg d a b := by
  have h : k - a < (seg d a b).length := by rw [seg_length hb]; omega
  have := nti_mem h
  rw [nti_seg (by omega)] at this
  rwa [show a + (k - a) = k by omega] at this
theorem put_mem {d Z : List Int} {a b : Nat} (hab : a ≤ b) (hb : b ≤ d.length) (hz : Z.Perm (seg d a b)) : (put d a b Z).Perm d := by
  have h := put_seg hab hb
  unfold put at h ⊢
  exact ((hz.append_left _).append_right _).trans (by rw [h])

/-! ### exchanges of whole pieces -/
def xr (d : List Int) (a b : Nat) : Nat → List Int
  | 0 => d
  | i + 1 => swp (xr d a b i) (a + i) (b + i)
theorem xr_length (d : List Int) (a b : Nat) : ∀ n, (xr d a b n).length = d.length
  | 0 => rfl
  | n + 1 => by show (swp _ _ _).length = _; rw [swp_length, xr_length d a b n]
theorem nti_xr {d : List Int} {a b : Nat} (hab : a < b) : ∀ n, a + n ≤ b → b + n ≤ d.length → ∀ k, k < d.length → nti (xr d a b n) k = if a ≤ k ∧ k < a + n then nti d (k - a + b) else if b ≤ k ∧ k < b + n then nti d (k - b + a) else nti d k
  | 0, _, _, k, _ => by rw [if_neg (by omega), if_neg (by omega)]; rfl
  | n + 1, h1, h2, k, hk => by
    have ih := nti_xr (d := d) hab n (by omega) (by omega)
    have hk2 : k < (xr d a b n).length := by rw [xr_length]; exact hk
    have i1 := ih (a + n) (by omega)
    have i2 := ih (b + n) (by omega)
    have i3 := ih k hk
    show nti (swp (xr d a b n) (a + n) (b + n)) k = _
    rw [nti_swp hk2, i1, i2, i3]
    rw [if_neg (show ¬ (a ≤ a + n ∧ a + n < a + n) by omega), if_neg (show ¬ (b ≤ a + n ∧ a + n < b + n) by omega)]
    rw [if_neg (show ¬ (a ≤ b + n ∧ b + n < a + n) by omega), if_neg (show ¬ (b ≤ b + n ∧ b + n < b + n) by omega)]
    by_cases e1 : b + n = k
    · subst e1
      rw [if_pos rfl, if_neg (by omega), if_pos (by omega)]
      congr 1; omega
    · rw [if_neg e1]
      by_cases e2 : a + n = k
      · subst e2
        rw [if_pos rfl, if_pos (by omega)]
        congr 1; omega
      · rw [if_neg e2]
        by_cases e3 : a ≤ k ∧ k < a + n
        · rw [if_pos e3, if_pos (by omega)]
        · rw [if_neg e3]
          by_cases e4 : b ≤ k ∧ k < b + n
          · rw [if_pos e4, if_neg (by omega), if_pos (by omega)]
          · rw [if_neg e4, if_neg (by omega), if_neg (by omega)]
/-- .. as lists. -/
theorem xr_lists {P X M Y S : List Int} {n : Nat} (hx : X.length = n) (hy : Y.length = n) (h0 : 0 < n) : xr (P ++ X ++ M ++ Y ++ S) P.length (P.length + X.length + M.length) n = P ++ Y ++ M ++ X ++ S := by
  refine ext_nti (by rw [xr_length]; simp; omega) fun k hk => ?_
  rw [xr_length] at hk
  rw [nti_xr (by omega) n (by omega) (by simp; omega) k hk]
  simp only [nti_append, List.length_append] at hk ⊢
  by_cases h1 : k < P.length
  · rw [if_neg (by omega), if_neg (by omega)]
    simp only [h1, if_true, show k < P.length + X.length by omega, show k < P.length + X.length + M.length by omega, show k < P.length + X.length + M.length + Y.length by omega, show k < P.length + Y.length by omega, show k < P.length + Y.length + M.length by omega, show k < P.length + Y.length + M.length + X.length by omega]
  · by_cases h2 : k < P.length + n
    · rw [if_pos (by omega)]
      rw [if_pos (by omega), if_neg (by omega), if_pos (by omega), if_pos (by omega), if_pos (by omega), if_neg (by omega)]
      congr 1; omega
    · rw [if_neg (by omega)]
      by_cases h3 : k < P.length + n + M.length
      · rw [if_neg (by omega), if_pos (by omega), if_pos (by omega), if_neg (by omega), if_pos (by omega), if_pos (by omega), if_neg (by omega)]
        congr 1; omega
      · by_cases h4 : k < P.length + n + M.length + n
        · rw [if_pos (by omega), if_pos (by omega), if_pos (by omega), if_pos (by omega), if_neg (by omega), if_pos (by omega), if_neg (by omega)]
          congr 1; omega
        · rw [if_neg (by omega), if_neg (by omega), if_neg (by omega)]
          congr 1; omega

/-! ### rotation -/
/-- What is still to do when the pieces [m - i, m) and [m, m + j) are to change places. -/
structure Rot (goal d : List Int) (m i j : Nat) : Prop where
  ex : ∃ P X Y S : List Int, d = P ++ X ++ Y ++ S ∧ P.length = m - i ∧ X.length = i ∧ Y.length = j ∧ goal = P ++ Y ++ X ++ S
  hi : 0 < i
  hj : 0 < j
  him : i ≤ m
theorem rot_start {d : List Int} {a m b : Nat} (ham : a < m) (hmb : m < b) (hb : b ≤ d.length) : Rot (put d a b (seg d m b ++ seg d a m)) d m (m - a) (b - m) :=
  ⟨⟨d.take a, seg d a m, seg d m b, d.drop b, by
      have h := put_seg (d := d) (a := a) (b := b) (by omega) hb
      unfold put at h
      rw [← seg_two (m := m) (by omega) (by omega) hb, ← List.append_assoc] at h
      exact h.symm, by rw [List.length_take]; omega, seg_length (by omega), seg_length hb, by unfold put; simp [List.append_assoc]⟩, by omega, by omega, by omega⟩
theorem rot_left {goal d : List Int} {m i j : Nat} (h : Rot goal d m i j) (hij : j < i) : Rot goal (xr d (m - i) m j) m (i - j) j ∧ m + j ≤ d.length := by
  obtain ⟨P, X, Y, S, rfl, hp, hx, hy, hg⟩ := h.ex
  have h0 := h.hi; have h1 := h.hj; have h2 := h.him
  have e : X = X.take j ++ X.drop j := (List.take_append_drop j X).symm
  have ht : (X.take j).length = j := by rw [List.length_take]; omega
  have hd : (X.drop j).length = i - j := by rw [List.length_drop, hx]
  refine ⟨⟨⟨P ++ Y, X.drop j, X.take j, S, ?_, by rw [List.length_append]; omega, hd, ht, ?_⟩, by omega, h1, by omega⟩, by simp; omega⟩
  · have := xr_lists (P := P) (X := X.take j) (M := X.drop j) (Y := Y) (S := S) ht hy h1
    rw [show P.length + (X.take j).length + (X.drop j).length = m by omega, hp] at this
    simp only [List.append_assoc] at this ⊢
    rw [← List.append_assoc (X.take j), List.take_append_drop] at this
    exact this
  · rw [hg]
    simp only [List.append_assoc]
    rw [← List.append_assoc (X.take j), List.take_append_drop]
theorem rot_right {goal d : List Int} {m i j : Nat} (h : Rot goal d m i j) (hij : i < j) : Rot goal (xr d (m - i) (m + j - i) i) m i (j - i) ∧ m + j ≤ d.length := by
  obtain ⟨P, X, Y, S, rfl, hp, hx, hy, hg⟩ := h.ex
  have h0 := h.hi; have h1 := h.hj; have h2 := h.him
  have ht : (Y.take (j - i)).length = j - i := by rw [List.length_take]; omega
  have hd : (Y.drop (j - i)).length = i := by rw [List.length_drop, hy]; omega
  refine ⟨⟨⟨P, Y.drop (j - i), Y.take (j - i), X ++ S, ?_, hp, hd, ht, ?_⟩, h0, by omega, h2⟩, by simp; omega⟩
  · have := xr_lists (P := P) (X := X) (M := Y.take (j - i)) (Y := Y.drop (j - i)) (S := S) hx hd h0
    rw [show P.length + X.length + (Y.take (j - i)).length = m + j - i by omega, hp] at this
    simp only [List.append_assoc] at this ⊢
    rw [← List.append_assoc (Y.take (j - i)), List.take_append_drop] at this
    exact this
  · rw [hg]
    simp only [List.append_assoc]
    rw [← List.append_assoc (Y.take (j - i)), List.take_append_drop]
theorem rot_end {goal d : List Int} {m i : Nat} (h : Rot goal d m i i) : xr d (m - i) m i = goal ∧ m + i ≤ d.length := by
  obtain ⟨P, X, Y, S, rfl, hp, hx, hy, hg⟩ := h.ex
  have h0 := h.hi; have h2 := h.him
  refine ⟨?_, by simp; omega⟩
  have := xr_lists (P := P) (X := X) (M := []) (Y := Y) (S := S) hx hy h0
  rw [show P.length + X.length + ([] : List Int).length = m by simp; omega, hp] at this
  rw [hg]
  simpa using this
end Go.Proofs.Ytodnjeahjalinaa.Stab
