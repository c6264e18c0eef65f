/-
  Two sorted pieces made one by rotation, plainly; and the levels of the sort.
-/
import Derived.Test.YtodnjeahjalinaaStSort
namespace Go.Proofs.Ytodnjeahjalinaa.Stab
set_option linter.unusedVariables false
set_option linter.unusedSectionVars false

/-! ### where the pieces are cut -/
/-- The middle; and from where to where the cut is looked for. -/
def lo (a m b : Nat) : Nat := if m > (a + b) / 2 then (a + b) / 2 + m - b else a
def hi (a m b : Nat) : Nat := if m > (a + b) / 2 then (a + b) / 2 else m
theorem lohi {a m b : Nat} (ham : a + 2 ≤ m) (hmb : m + 2 ≤ b) : a ≤ lo a m b ∧ lo a m b ≤ hi a m b ∧ hi a m b ≤ m ∧ hi a m b ≤ (a + b) / 2 + m ∧ (∀ s, lo a m b ≤ s → s ≤ hi a m b → m ≤ (a + b) / 2 + m - s ∧ (a + b) / 2 + m - s ≤ b ∧ s ≤ (a + b) / 2 ∧ (a + b) / 2 ≤ (a + b) / 2 + m - s) := by
  unfold lo hi
  split
  · refine ⟨by omega, by omega, by omega, by omega, fun s h1 h2 => by omega⟩
  · refine ⟨by omega, by omega, by omega, by omega, fun s h1 h2 => by omega⟩
section
variable {lt : Int → Int → Bool} (T : Tot lt)
include T
theorem split_ok {d : List Int} {a m b s : Nat} (ham : a + 2 ≤ m) (hmb : m + 2 ≤ b) (hb : b ≤ d.length) (s1 : SrtOn lt d a m) (s2 : SrtOn lt d m b) (hs1 : lo a m b ≤ s) (hs2 : s ≤ hi a m b)
    (h1 : ∀ c, lo a m b ≤ c → c < s → lt (nti d ((a + b) / 2 + m - 1 - c)) (nti d c) = false) (h2 : ∀ c, s ≤ c → c < hi a m b → lt (nti d ((a + b) / 2 + m - 1 - c)) (nti d c) = true) :
    (∀ i j, a ≤ i → i < s → (a + b) / 2 + m - s ≤ j → j < b → lt (nti d j) (nti d i) = false) ∧ (∀ i j, s ≤ i → i < m → m ≤ j → j < (a + b) / 2 + m - s → lt (nti d i) (nti d j) = false) := by
  obtain ⟨q1, q2, q3, q4, q5⟩ := lohi ham hmb
  have q6 := q5 s hs1 hs2
  constructor
  · intro i j hi1 hi2 hj1 hj2
    by_cases e : lo a m b < s
    · have h := h1 (s - 1) (by omega) (by omega)
      rw [show (a + b) / 2 + m - 1 - (s - 1) = (a + b) / 2 + m - s by omega] at h
      exact T.le (on_le T s1 hi1 (by omega : i ≤ s - 1) (by omega)) (T.le h (on_le T s2 (by omega) hj1 hj2))
    · exfalso
      have e2 : s = lo a m b := by omega
      unfold lo at e2
      split at e2
      · omega
      · omega
  · intro i j hi1 hi2 hj1 hj2
    by_cases e : s < hi a m b
    · have h := h2 s (Nat.le_refl _) e
      rw [show (a + b) / 2 + m - 1 - s = (a + b) / 2 + m - s - 1 by omega] at h
      exact T.asymm (T.le_lt (on_le T s2 hj1 (by omega : j ≤ (a + b) / 2 + m - s - 1) (by omega)) (T.lt_le h (on_le T s1 (by omega) hi1 hi2)))
    · exfalso
      have e2 : s = hi a m b := by omega
      unfold hi at e2
      split at e2
      · omega
      · omega
end
theorem nti_pw {lt : Int → Int → Bool} {d : List Int} {a b : Nat} (hb : b ≤ d.length) {P : Int → Prop} (h : ∀ k, a ≤ k → k < b → P (nti d k)) : ∀ x ∈ seg d a b, P x := fun x hx => by
  obtain ⟨k, h1, h2, rfl⟩ := seg_mem hb hx
  exact h k h1 h2
/-- Behind the rotation. -/
def rotd (d : List Int) (s m e : Nat) : List Int := put d s e (seg d m e ++ seg d s m)
theorem rotd_same {d : List Int} {s m e : Nat} (hsm : s ≤ m) (hme : m ≤ e) (he : e ≤ d.length) (h : s = m ∨ m = e) : rotd d s m e = d := by
  unfold rotd
  rcases h with rfl | rfl
  · have : seg d s s = [] := List.eq_nil_of_length_eq_zero (by rw [seg_length (by omega)]; omega)
    rw [this, List.append_nil, put_seg hme he]
  · have : seg d m m = [] := List.eq_nil_of_length_eq_zero (by rw [seg_length he]; omega)
    rw [this, List.nil_append, put_seg hsm he]
section
variable {d : List Int} {a s m e b : Nat} (has : a ≤ s) (hsm : s ≤ m) (hme : m ≤ e) (heb : e ≤ b) (hb : b ≤ d.length)
include has hsm hme heb hb
theorem rotd_len : (seg d m e ++ seg d s m).length = e - s := by rw [List.length_append, seg_length (by omega), seg_length (by omega)]; omega
theorem rotd_length : (rotd d s m e).length = d.length := put_length (by omega) (by omega) (rotd_len has hsm hme heb hb)
theorem nti_rotd {k : Nat} (hk : k < d.length) : nti (rotd d s m e) k = if k < s then nti d k else if k < s + (e - m) then nti d (k - s + m) else if k < e then nti d (k - (s + (e - m)) + s) else nti d k := by
  unfold rotd
  rw [nti_put (by omega) (by omega) (rotd_len has hsm hme heb hb) hk, nti_append, seg_length (by omega)]
  by_cases c1 : k < s
  · rw [if_pos c1, if_pos c1]
  · rw [if_neg c1, if_neg c1]
    by_cases c2 : k < s + (e - m)
    · rw [if_pos (by omega), if_pos (by omega), if_pos c2, nti_seg (by omega)]
      congr 1; omega
    · by_cases c3 : k < e
      · rw [if_pos c3, if_neg (by omega), if_neg c2, if_pos c3, nti_seg (by omega)]
        congr 1; omega
      · rw [if_neg c3, if_neg c2, if_neg c3]
theorem rotd_seg1 : seg (rotd d s m e) a (s + (e - m)) = seg d a s ++ seg d m e := by
  have hl := rotd_length has hsm hme heb hb
  refine ext_nti (by rw [seg_length (by omega), List.length_append, seg_length (by omega), seg_length (by omega)]; omega) fun k hk => ?_
  rw [seg_length (by omega)] at hk
  rw [nti_seg hk, nti_rotd has hsm hme heb hb (by omega), nti_append, seg_length (by omega)]
  by_cases c1 : k < s - a
  · rw [if_pos (by omega), if_pos c1, nti_seg c1]
  · rw [if_neg (by omega), if_pos (by omega), if_neg c1, nti_seg (by omega)]
    congr 1; omega
theorem rotd_seg2 : seg (rotd d s m e) (s + (e - m)) b = seg d s m ++ seg d e b := by
  have hl := rotd_length has hsm hme heb hb
  refine ext_nti (by rw [seg_length (by omega), List.length_append, seg_length (by omega), seg_length (by omega)]; omega) fun k hk => ?_
  rw [seg_length (by omega)] at hk
  rw [nti_seg hk, nti_rotd has hsm hme heb hb (by omega), nti_append, seg_length (by omega)]
  rw [if_neg (by omega), if_neg (by omega)]
  by_cases c1 : k < m - s
  · rw [if_pos (by omega), if_pos c1, nti_seg c1]
    congr 1; omega
  · rw [if_neg (by omega), if_neg c1, nti_seg (by omega)]
    congr 1; omega
end
theorem put_wide {d Z W : List Int} {a s e b : Nat} (has : a ≤ s) (hse : s ≤ e) (heb : e ≤ b) (hb : b ≤ d.length) (hz : Z.length = e - s) (hw : W.length = b - a) : put (put d s e Z) a b W = put d a b W := by
  have hl := put_length hse (by omega : e ≤ d.length) hz
  refine ext_nti (by rw [put_length (by omega) (by omega) hw, hl, put_length (by omega) hb hw]) fun k hk => ?_
  rw [put_length (by omega) (by omega) hw, hl] at hk
  rw [nti_put (by omega) (by omega) hw (by omega), nti_put (by omega) hb hw hk, nti_put hse (by omega) hz hk]
  by_cases c1 : k < a
  · rw [if_pos c1, if_pos (by omega), if_pos c1]
  · rw [if_neg c1, if_neg c1]
    by_cases c2 : k < b
    · rw [if_pos c2, if_pos c2]
    · rw [if_neg c2, if_neg c2, if_neg (by omega), if_neg (by omega)]
section
variable {lt : Int → Int → Bool} (T : Tot lt)
include T
/-- The two halves behind the rotation, each sorted: the whole is. -/
theorem halves {d : List Int} {a s m e b : Nat} (has : a ≤ s) (hsm : s ≤ m) (hme : m ≤ e) (heb : e ≤ b) (hb : b ≤ d.length) (s1 : SrtOn lt d a m) (s2 : SrtOn lt d m b)
    (c1 : ∀ i j, a ≤ i → i < s → e ≤ j → j < b → lt (nti d j) (nti d i) = false) (c2 : ∀ i j, s ≤ i → i < m → m ≤ j → j < e → lt (nti d i) (nti d j) = false) :
    put (put (rotd d s m e) a (s + (e - m)) (sortT lt (seg (rotd d s m e) a (s + (e - m))))) (s + (e - m)) b (sortT lt (seg (rotd d s m e) (s + (e - m)) b)) = put d a b (sortT lt (seg d a b)) := by
  have hl := rotd_length has hsm hme heb hb
  have l1 : (sortT lt (seg (rotd d s m e) a (s + (e - m)))).length = s + (e - m) - a := by rw [sortT_length, seg_length (by omega)]
  have l2 : (sortT lt (seg (rotd d s m e) (s + (e - m)) b)).length = b - (s + (e - m)) := by rw [sortT_length, seg_length (by omega)]
  have l3 : (sortT lt (seg (rotd d s m e) a (s + (e - m))) ++ sortT lt (seg (rotd d s m e) (s + (e - m)) b)).length = b - a := by rw [List.length_append, l1, l2]; omega
  rw [put_two (by omega) (by omega) (by omega) l1 l2]
  have hr : put (rotd d s m e) a b (sortT lt (seg (rotd d s m e) a (s + (e - m))) ++ sortT lt (seg (rotd d s m e) (s + (e - m)) b)) = put d a b (sortT lt (seg (rotd d s m e) a (s + (e - m))) ++ sortT lt (seg (rotd d s m e) (s + (e - m)) b)) := put_wide has (by omega) heb hb (rotd_len has hsm hme heb hb) l3
  rw [hr, rotd_seg1 has hsm hme heb hb, rotd_seg2 has hsm hme heb hb]
  congr 1
  rw [← sortT_append T]
  · refine sortT_of_perm T ?_
    have h3 : seg d a b = (seg d a s ++ seg d s m) ++ (seg d m e ++ seg d e b) := by rw [seg_two has hsm (by omega), seg_two hme heb hb, seg_two (by omega) (by omega) hb]
    rw [h3]
    simp only [List.append_assoc]
    refine List.Perm.append_left _ ?_
    rw [← List.append_assoc, ← List.append_assoc]
    exact (List.perm_append_comm).append_right _
  · intro x hx y hy
    rw [List.mem_append] at hx hy
    rcases hx with hx | hx
    · obtain ⟨i, i1, i2, rfl⟩ := seg_mem (by omega) hx
      rcases hy with hy | hy
      · obtain ⟨j, j1, j2, rfl⟩ := seg_mem (by omega) hy
        exact on_le T s1 i1 (by omega) j2
      · obtain ⟨j, j1, j2, rfl⟩ := seg_mem (by omega) hy
        exact c1 i j i1 i2 j1 j2
    · obtain ⟨i, i1, i2, rfl⟩ := seg_mem (by omega) hx
      rcases hy with hy | hy
      · obtain ⟨j, j1, j2, rfl⟩ := seg_mem (by omega) hy
        exact c2 j i j1 j2 i1 i2
      · obtain ⟨j, j1, j2, rfl⟩ := seg_mem (by omega) hy
        exact on_le T s2 i1 (by omega) j2
/-- A half whose one part is empty is sorted as it stands. -/
theorem half_same {d : List Int} {a b : Nat} (hab : a ≤ b) (hb : b ≤ d.length) (h : SrtOn lt d a b) : put d a b (sortT lt (seg d a b)) = d := by
  rw [sortT_self T (srt_of_on hb h), put_seg hab hb]
end
/-! ### the levels -/
/-- r is the list l with each B of its elements sorted. -/
inductive Lev (lt : Int → Int → Bool) (B : Nat) : List Int → List Int → Prop
  | last {l : List Int} (h : l.length ≤ B) : Lev lt B l (sortT lt l)
  | more {l r : List Int} (h : B < l.length) (hr : Lev lt B (l.drop B) r) : Lev lt B l (sortT lt (l.take B) ++ r)
theorem Lev.perm {lt : Int → Int → Bool} {B : Nat} {l r : List Int} (h : Lev lt B l r) : r.Perm l := by
  induction h with
  | last h => exact sortT_perm lt _
  | more h hr ih =>
    rename_i l r
    have := (sortT_perm lt (l.take B)).append ih
    rwa [List.take_append_drop] at this
theorem Lev.all {lt : Int → Int → Bool} {B : Nat} {l r : List Int} (h : Lev lt B l r) (hl : l.length ≤ B) : r = sortT lt l := by
  cases h with
  | last h => rfl
  | more h hr => omega
/-- What is done: acc; what is to do: rest, at level B; all together will be at level C. -/
structure Part (lt : Int → Int → Bool) (B C : Nat) (D d : List Int) (a : Nat) (rest : List Int) : Prop where
  ex : ∃ acc r, d = acc ++ r ∧ acc.length = a ∧ Lev lt B rest r ∧ ∀ r', Lev lt C rest r' → Lev lt C D (acc ++ r')
  len : a + rest.length = D.length
  suf : rest = D.drop a
theorem part_start {lt : Int → Int → Bool} {B C : Nat} {D d : List Int} (h : Lev lt B D d) : Part lt B C D d 0 D :=
  ⟨⟨[], d, rfl, rfl, h, fun r' h' => h'⟩, by simp, by simp⟩
/-- Two pieces of B made one of 2 B. -/
theorem part_merge {lt : Int → Int → Bool} (T : Tot lt) {B : Nat} {D d : List Int} {a : Nat} {rest : List Int} (hB : 0 < B) (h : Part lt B (2 * B) D d a rest) (h2 : a + 2 * B ≤ D.length) :
    seg d a (a + B) = sortT lt (rest.take B) ∧ seg d (a + B) (a + 2 * B) = sortT lt ((rest.drop B).take B) ∧ d.length = D.length ∧ Part lt B (2 * B) D (put d a (a + 2 * B) (sortT lt (seg d a (a + 2 * B)))) (a + 2 * B) (rest.drop (2 * B)) := by
  obtain ⟨⟨acc, r, rfl, ha, hr, hk⟩, hlen, hsuf⟩ := h
  have hrl := hr.perm.length_eq
  cases hr with
  | last hle => omega
  | more hlt hr1 =>
    rename_i r1
    have hx : (sortT lt (rest.take B)).length = B := by rw [sortT_length, List.length_take]; omega
    have hr1l := hr1.perm.length_eq
    rw [List.length_drop] at hr1l
    -- the second piece
    obtain ⟨r2, e2, hlev⟩ : ∃ r2, r1 = sortT lt ((rest.drop B).take B) ++ r2 ∧ Lev lt B (rest.drop (2 * B)) r2 := by
      cases hr1 with
      | last hle =>
        rw [List.length_drop] at hle
        refine ⟨[], by rw [List.append_nil, List.take_of_length_le (by rw [List.length_drop]; omega)], ?_⟩
        have e : rest.drop (2 * B) = [] := List.drop_eq_nil_of_le (by omega)
        rw [e]
        have := Lev.last (lt := lt) (B := B) (l := []) (by simp)
        rwa [show sortT lt [] = [] by simp [sortT]] at this
      | more hlt2 hr2 =>
        rw [List.drop_drop, show B + B = 2 * B by omega] at hr2
        exact ⟨_, rfl, hr2⟩
    subst e2
    have hy : (sortT lt ((rest.drop B).take B)).length = B := by rw [sortT_length, List.length_take, List.length_drop]; omega
    have hdl : (acc ++ (sortT lt (rest.take B) ++ (sortT lt ((rest.drop B).take B) ++ r2))).length = D.length := by
      rw [List.length_append, ha, hrl]; omega
    have g1 : seg (acc ++ (sortT lt (rest.take B) ++ (sortT lt ((rest.drop B).take B) ++ r2))) a (a + B) = sortT lt (rest.take B) := by
      unfold seg
      rw [← ha, List.drop_left, show acc.length + B - acc.length = B by omega]
      exact List.take_left' hx
    have g2 : seg (acc ++ (sortT lt (rest.take B) ++ (sortT lt ((rest.drop B).take B) ++ r2))) (a + B) (a + 2 * B) = sortT lt ((rest.drop B).take B) := by
      unfold seg
      rw [← List.append_assoc, List.drop_left' (by rw [List.length_append, ha, hx]), show a + 2 * B - (a + B) = B by omega]
      exact List.take_left' hy
    have g3 : seg (acc ++ (sortT lt (rest.take B) ++ (sortT lt ((rest.drop B).take B) ++ r2))) a (a + 2 * B) = sortT lt (rest.take B) ++ sortT lt ((rest.drop B).take B) := by
      rw [← seg_two (m := a + B) (by omega) (by omega) (by omega), g1, g2]
    have e3 : sortT lt (sortT lt (rest.take B) ++ sortT lt ((rest.drop B).take B)) = sortT lt (rest.take (2 * B)) := by
      refine sortT_of_perm T (((sortT_perm lt _).append (sortT_perm lt _)).trans ?_)
      rw [show 2 * B = B + B by omega, List.take_add]
    refine ⟨g1, g2, hdl, ⟨acc ++ sortT lt (rest.take (2 * B)), r2, ?_, by rw [List.length_append, ha, sortT_length, List.length_take]; omega, hlev, ?_⟩, by rw [List.length_drop]; omega, by rw [hsuf, List.drop_drop]⟩
    · rw [g3, e3]
      unfold put
      have t1 : (acc ++ (sortT lt (rest.take B) ++ (sortT lt ((rest.drop B).take B) ++ r2))).take a = acc := List.take_left' ha
      have t2 : (acc ++ (sortT lt (rest.take B) ++ (sortT lt ((rest.drop B).take B) ++ r2))).drop (a + 2 * B) = r2 := by
        rw [← List.append_assoc, ← List.append_assoc]
        exact List.drop_left' (by rw [List.length_append, List.length_append, ha, hx, hy]; omega)
      rw [t1, t2]
    · intro r' h'
      rw [List.append_assoc]
      refine hk _ ?_
      by_cases hc : 2 * B < rest.length
      · exact Lev.more hc h'
      · have e : rest.drop (2 * B) = [] := List.drop_eq_nil_of_le (by omega)
        rw [e] at h'
        have := h'.all (by simp)
        rw [this, show sortT lt [] = [] by simp [sortT], List.append_nil, List.take_of_length_le (by omega)]
        exact Lev.last (by omega)
/-- What is left of a pass: less than two pieces. -/
theorem part_end {lt : Int → Int → Bool} (T : Tot lt) {B : Nat} {D d : List Int} {a : Nat} {rest : List Int} (hB : 0 < B) (h : Part lt B (2 * B) D d a rest) (h2 : ¬ a + 2 * B ≤ D.length) :
    d.length = D.length ∧ (¬ a + B < D.length → Lev lt (2 * B) D d) ∧ (a + B < D.length → seg d a (a + B) = sortT lt (rest.take B) ∧ seg d (a + B) D.length = sortT lt (rest.drop B) ∧ Lev lt (2 * B) D (put d a D.length (sortT lt (seg d a D.length)))) := by
  obtain ⟨⟨acc, r, rfl, ha, hr, hk⟩, hlen, hsuf⟩ := h
  have hrl := hr.perm.length_eq
  have hdl : (acc ++ r).length = D.length := by rw [List.length_append, ha, hrl]; omega
  refine ⟨hdl, fun h3 => ?_, fun h3 => ?_⟩
  · have := hr.all (by omega)
    rw [this]
    exact hk _ (Lev.last (by omega))
  · cases hr with
    | last hle => omega
    | more hlt hr1 =>
      rename_i r1
      have e1 := hr1.all (by rw [List.length_drop]; omega)
      subst e1
      have hx : (sortT lt (rest.take B)).length = B := by rw [sortT_length, List.length_take]; omega
      have hy : (sortT lt (rest.drop B)).length = rest.length - B := by rw [sortT_length, List.length_drop]
      have g1 : seg (acc ++ (sortT lt (rest.take B) ++ sortT lt (rest.drop B))) a (a + B) = sortT lt (rest.take B) := by
        unfold seg
        rw [← ha, List.drop_left, show acc.length + B - acc.length = B by omega]
        exact List.take_left' hx
      have g2 : seg (acc ++ (sortT lt (rest.take B) ++ sortT lt (rest.drop B))) (a + B) D.length = sortT lt (rest.drop B) := by
        unfold seg
        rw [← List.append_assoc, List.drop_left' (by rw [List.length_append, ha, hx])]
        exact List.take_of_length_le (by omega)
      have g3 : seg (acc ++ (sortT lt (rest.take B) ++ sortT lt (rest.drop B))) a D.length = sortT lt (rest.take B) ++ sortT lt (rest.drop B) := by
        rw [← seg_two (m := a + B) (by omega) (by omega) (by omega), g1, g2]
      have e3 : sortT lt (sortT lt (rest.take B) ++ sortT lt (rest.drop B)) = sortT lt rest := by
        refine sortT_of_perm T (((sortT_perm lt _).append (sortT_perm lt _)).trans ?_)
        rw [List.take_append_drop]
      refine ⟨g1, g2, ?_⟩
      rw [g3, e3]
      have t1 : (acc ++ (sortT lt (rest.take B) ++ sortT lt (rest.drop B))).take a = acc := List.take_left' ha
      have t2 : (acc ++ (sortT lt (rest.take B) ++ sortT lt (rest.drop B))).drop D.length = [] := List.drop_eq_nil_of_le (by omega)
      unfold put
      rw [t1, t2, List.append_nil]
      exact hk _ (Lev.last (by omega))
/-- The first pass: the pieces sorted one by one. -/
structure Raw (lt : Int → Int → Bool) (C : Nat) (D d : List Int) (a : Nat) : Prop where
  ex : ∃ acc, d = acc ++ D.drop a ∧ acc.length = a ∧ ∀ r', Lev lt C (D.drop a) r' → Lev lt C D (acc ++ r')
  le : a ≤ D.length
theorem raw_start {lt : Int → Int → Bool} {C : Nat} (D : List Int) : Raw lt C D D 0 := ⟨⟨[], rfl, rfl, fun r' h => h⟩, Nat.zero_le _⟩
theorem raw_next {lt : Int → Int → Bool} {C : Nat} {D d : List Int} {a : Nat} (hC : 0 < C) (h : Raw lt C D d a) (h2 : a + C ≤ D.length) :
    seg d a (a + C) = (D.drop a).take C ∧ d.length = D.length ∧ Raw lt C D (put d a (a + C) (sortT lt (seg d a (a + C)))) (a + C) := by
  obtain ⟨⟨acc, rfl, ha, hk⟩, hle⟩ := h
  have hdl : (acc ++ D.drop a).length = D.length := by rw [List.length_append, ha, List.length_drop]; omega
  have g1 : seg (acc ++ D.drop a) a (a + C) = (D.drop a).take C := by
    unfold seg
    rw [List.drop_left' ha, show a + C - a = C by omega]
  refine ⟨g1, hdl, ⟨acc ++ sortT lt ((D.drop a).take C), ?_, by rw [List.length_append, ha, sortT_length, List.length_take, List.length_drop]; omega, ?_⟩, h2⟩
  · rw [g1]
    unfold put
    rw [List.take_left' ha]
    congr 1
    rw [List.drop_append, ha, show a + C - a = C by omega, List.drop_drop, List.drop_eq_nil_of_le (by omega : acc.length ≤ a + C), List.nil_append]
  · intro r' h'
    rw [List.append_assoc]
    refine hk _ ?_
    rw [← List.drop_drop] at h'
    by_cases hc : C < (D.drop a).length
    · exact Lev.more hc h'
    · have hl2 : (D.drop a).length ≤ C := by omega
      have e : (D.drop a).drop C = [] := List.drop_eq_nil_of_le (by omega)
      rw [e] at h'
      have := h'.all (by simp)
      rw [this, show sortT lt [] = [] by simp [sortT], List.append_nil, List.take_of_length_le hl2]
      exact Lev.last hl2
theorem raw_end {lt : Int → Int → Bool} {C : Nat} {D d : List Int} {a : Nat} (h : Raw lt C D d a) (h2 : ¬ a + C ≤ D.length) :
    seg d a D.length = D.drop a ∧ d.length = D.length ∧ Lev lt C D (put d a D.length (sortT lt (seg d a D.length))) := by
  obtain ⟨⟨acc, rfl, ha, hk⟩, hle⟩ := h
  have hdl : (acc ++ D.drop a).length = D.length := by rw [List.length_append, ha, List.length_drop]; omega
  have g1 : seg (acc ++ D.drop a) a D.length = D.drop a := by
    unfold seg
    rw [List.drop_left' ha, List.take_of_length_le (by rw [List.length_drop]; omega)]
  refine ⟨g1, hdl, ?_⟩
  rw [g1]
  unfold put
  have e : (acc ++ D.drop a).drop D.length = [] := List.drop_eq_nil_of_le (by omega)
  rw [List.take_left' ha, e, List.append_nil]
  exact hk _ (Lev.last (by rw [List.length_drop]; omega))
end Go.Proofs.Ytodnjeahjalinaa.Stab
