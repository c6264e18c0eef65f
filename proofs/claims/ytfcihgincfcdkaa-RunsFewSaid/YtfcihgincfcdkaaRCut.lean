/-
  Cutting and putting: the plain mathematics. What lies before a block, what lies from a block on; a list and what is still to be joined to it.
-/
import Derived.Test.YtfcihgincfcdkaaRValid
import Derived.Test.YtfcihgincfcdkaaRJoin
namespace Go.Proofs.Ytfcihgincfcdkaa.Rns
set_option linter.unusedVariables false

def b1 (t : Int) (r : Rn) : List Rn := if r.a < t then [⟨r.a, r.d, min r.m (t - r.a)⟩] else []
def a1 (t : Int) (r : Rn) : List Rn := if t < r.a + r.m then [⟨r.a + max 0 (t - r.a), r.d + max 0 (t - r.a), r.m - max 0 (t - r.a)⟩] else []
def bfr (t : Int) (l : List Rn) : List Rn := l.flatMap (b1 t)
def afr (t : Int) (l : List Rn) : List Rn := l.flatMap (a1 t)
theorem bfr_cons (t : Int) (r : Rn) (l : List Rn) : bfr t (r :: l) = b1 t r ++ bfr t l := List.flatMap_cons
theorem afr_cons (t : Int) (r : Rn) (l : List Rn) : afr t (r :: l) = a1 t r ++ afr t l := List.flatMap_cons
theorem b1_yes {t : Int} {r : Rn} (h : r.a < t) : b1 t r = [⟨r.a, r.d, min r.m (t - r.a)⟩] := if_pos h
theorem b1_no {t : Int} {r : Rn} (h : ¬ r.a < t) : b1 t r = [] := if_neg h
theorem a1_yes {t : Int} {r : Rn} (h : t < r.a + r.m) : a1 t r = [⟨r.a + max 0 (t - r.a), r.d + max 0 (t - r.a), r.m - max 0 (t - r.a)⟩] := if_pos h
theorem a1_no {t : Int} {r : Rn} (h : ¬ t < r.a + r.m) : a1 t r = [] := if_neg h
theorem bfr_next {l : List Rn} {k : Nat} {r : Rn} (t : Int) (hr : l[k]? = some r) : bfr t (l.take (k + 1)) = bfr t (l.take k) ++ b1 t r := by
  rw [take_next hr]; unfold bfr; rw [List.flatMap_append]; simp
theorem afr_next {l : List Rn} {k : Nat} {r : Rn} (t : Int) (hr : l[k]? = some r) : afr t (l.take (k + 1)) = afr t (l.take k) ++ a1 t r := by
  rw [take_next hr]; unfold afr; rw [List.flatMap_append]; simp
theorem bfr_length (t : Int) : ∀ l : List Rn, (bfr t l).length ≤ l.length
  | [] => Nat.le_refl _
  | r :: l => by
    have := bfr_length t l
    rw [bfr_cons, List.length_append, List.length_cons]
    by_cases h : r.a < t
    · rw [b1_yes h]; simp; omega
    · rw [b1_no h]; simp; omega
theorem afr_length (t : Int) : ∀ l : List Rn, (afr t l).length ≤ l.length
  | [] => Nat.le_refl _
  | r :: l => by
    have := afr_length t l
    rw [afr_cons, List.length_append, List.length_cons]
    by_cases h : t < r.a + r.m
    · rw [a1_yes h]; simp; omega
    · rw [a1_no h]; simp; omega
/-! ### what they map -/
theorem bfr_ma (t : Int) : ∀ (l : List Rn) (x : Int), ma (bfr t l) x = if x < t then ma l x else -1
  | [], x => by show (-1 : Int) = if x < t then -1 else -1; split <;> rfl
  | r :: l, x => by
    have ih := bfr_ma t l x
    rw [bfr_cons]
    by_cases h : r.a < t
    · rw [b1_yes h]
      show ma (_ :: bfr t l) x = _
      by_cases hx : x < t
      · rw [if_pos hx] at ih ⊢
        cases hi : inR r x with
        | true =>
          have h1 := inR_yes.1 hi
          rw [ma_in hi, ma_in (r := ⟨r.a, r.d, min r.m (t - r.a)⟩) (inR_yes.2 ⟨h1.1, by show x < r.a + min r.m (t - r.a); omega⟩)]
        | false =>
          have h1 := inR_no.1 hi
          rw [ma_out hi, ma_out (r := ⟨r.a, r.d, min r.m (t - r.a)⟩) (inR_no.2 (by show ¬ (r.a ≤ x ∧ x < r.a + min r.m (t - r.a)); omega)), ih]
      · rw [if_neg hx] at ih ⊢
        rw [ma_out (inR_no.2 (by show ¬ (r.a ≤ x ∧ x < r.a + min r.m (t - r.a)); omega)), ih]
    · rw [b1_no h]
      show ma (bfr t l) x = _
      rw [ih]
      by_cases hx : x < t
      · rw [if_pos hx, if_pos hx, ma_out (inR_no.2 (by omega))]
      · rw [if_neg hx, if_neg hx]
theorem afr_ma (t : Int) : ∀ (l : List Rn) (x : Int), ma (afr t l) x = if t ≤ x then ma l x else -1
  | [], x => by show (-1 : Int) = if t ≤ x then -1 else -1; split <;> rfl
  | r :: l, x => by
    have ih := afr_ma t l x
    rw [afr_cons]
    by_cases h : t < r.a + r.m
    · rw [a1_yes h]
      show ma (_ :: afr t l) x = _
      by_cases hx : t ≤ x
      · rw [if_pos hx] at ih ⊢
        cases hi : inR r x with
        | true =>
          have h1 := inR_yes.1 hi
          rw [ma_in hi, ma_in (r := ⟨r.a + max 0 (t - r.a), r.d + max 0 (t - r.a), r.m - max 0 (t - r.a)⟩) (inR_yes.2 ⟨by show r.a + max 0 (t - r.a) ≤ x; omega, by show x < r.a + max 0 (t - r.a) + (r.m - max 0 (t - r.a)); omega⟩)]
          show x - (r.a + max 0 (t - r.a)) + (r.d + max 0 (t - r.a)) = _
          omega
        | false =>
          have h1 := inR_no.1 hi
          rw [ma_out hi, ma_out (r := ⟨r.a + max 0 (t - r.a), r.d + max 0 (t - r.a), r.m - max 0 (t - r.a)⟩) (inR_no.2 (by show ¬ (r.a + max 0 (t - r.a) ≤ x ∧ x < r.a + max 0 (t - r.a) + (r.m - max 0 (t - r.a))); omega)), ih]
      · rw [if_neg hx] at ih ⊢
        rw [ma_out (inR_no.2 (by show ¬ (r.a + max 0 (t - r.a) ≤ x ∧ x < r.a + max 0 (t - r.a) + (r.m - max 0 (t - r.a))); omega)), ih]
    · rw [a1_no h]
      show ma (afr t l) x = _
      rw [ih]
      by_cases hx : t ≤ x
      · rw [if_pos hx, if_pos hx, ma_out (inR_no.2 (by omega))]
      · rw [if_neg hx, if_neg hx]
theorem ma_app : ∀ {X Y : List Rn} (x : Int), (∀ p ∈ X, 0 ≤ p.d) → ma (X ++ Y) x = if ma X x = -1 then ma Y x else ma X x
  | [], Y, x, _ => by show ma Y x = if (-1 : Int) = -1 then ma Y x else -1; rw [if_pos rfl]
  | p :: X, Y, x, h => by
    show ma (p :: (X ++ Y)) x = _
    cases hi : inR p x with
    | true =>
      have := inR_yes.1 hi
      have := h p (by simp)
      rw [ma_in hi, ma_in hi, if_neg (by omega)]
    | false =>
      rw [ma_out hi, ma_out hi]
      exact ma_app x fun q hq => h q (by simp [hq])
/-! ### that they are lists without two that continue one another -/
theorem Ch.low {l : List Rn} {e d e' d' : Int} (h : Ch e' d' l) (he : e < e') : Ch e d l := by
  match l, h with
  | [], _ => trivial
  | r :: l, h => exact ⟨⟨h.1.1, h.1.2.1, by have := h.1.2.2.1; omega, fun hc => by have := h.1.2.2.1; omega⟩, h.2⟩
theorem Ch.lift {l : List Rn} {e d e' d' : Int} (h : Ch e' d' l) (he : ∀ q ∈ l, e < q.a) : Ch e d l := by
  match l, h, he with
  | [], _, _ => trivial
  | r :: l, h, he => exact ⟨⟨h.1.1, h.1.2.1, by have := he r (by simp); omega, fun hc => by have := he r (by simp); omega⟩, h.2⟩
theorem Ch.each {l : List Rn} {e d : Int} (h : Ch e d l) : ∀ r ∈ l, 1 ≤ r.m ∧ 0 ≤ r.d ∧ e ≤ r.a := h.fo.each
theorem bfr_nil {t : Int} : ∀ {l : List Rn} {e : Int}, Fo e l → t ≤ e → bfr t l = []
  | [], _, _, _ => rfl
  | r :: l, e, h, he => by
    have h1 := h.1
    rw [bfr_cons, b1_no (by omega), bfr_nil h.2 (by omega)]; rfl
theorem bfr_ch (t : Int) : ∀ {l : List Rn} {e d : Int}, Ch e d l → Ch e d (bfr t l)
  | [], _, _, _ => trivial
  | r :: l, e, d, h => by
    obtain ⟨⟨p1, p2, p3, p4⟩, hr⟩ := h
    rw [bfr_cons]
    by_cases ht : r.a < t
    · rw [b1_yes ht]
      show Ch e d (_ :: bfr t l)
      refine ⟨⟨by show 1 ≤ min r.m (t - r.a); omega, p2, p3, p4⟩, ?_⟩
      show Ch (r.a + min r.m (t - r.a)) (r.d + min r.m (t - r.a)) (bfr t l)
      by_cases hm : r.m ≤ t - r.a
      · rw [Int.min_eq_left hm]; exact bfr_ch t hr
      · rw [bfr_nil hr.fo (by omega)]; trivial
    · rw [b1_no ht, bfr_nil hr.fo (by omega)]; trivial
theorem afr_ch (t : Int) : ∀ {l : List Rn} {e d : Int}, Ch e d l → Ch e d (afr t l)
  | [], _, _, _ => trivial
  | r :: l, e, d, h => by
    obtain ⟨⟨p1, p2, p3, p4⟩, hr⟩ := h
    have ih := afr_ch t hr
    rw [afr_cons]
    by_cases ht : t < r.a + r.m
    · rw [a1_yes ht]
      show Ch e d (_ :: afr t l)
      refine ⟨⟨by show 1 ≤ r.m - max 0 (t - r.a); omega, by show 0 ≤ r.d + max 0 (t - r.a); omega, by show e ≤ r.a + max 0 (t - r.a); omega, ?_⟩, ?_⟩
      · show ¬ (r.a + max 0 (t - r.a) = e ∧ r.d + max 0 (t - r.a) = d)
        omega
      · show Ch (r.a + max 0 (t - r.a) + (r.m - max 0 (t - r.a))) (r.d + max 0 (t - r.a) + (r.m - max 0 (t - r.a))) (afr t l)
        rw [show r.a + max 0 (t - r.a) + (r.m - max 0 (t - r.a)) = r.a + r.m by omega, show r.d + max 0 (t - r.a) + (r.m - max 0 (t - r.a)) = r.d + r.m by omega]
        exact ih
    · rw [a1_no ht]
      exact Ch.low ih (by omega)
theorem Ch.app {t u : Int} : ∀ {X Y : List Rn} {e d e0 d0 : Int}, Ch e d X → (∀ p ∈ X, p.a + p.m ≤ t) → e ≤ t → Ch e0 d0 Y → (∀ q ∈ Y, u ≤ q.a) → t < u → Ch e d (X ++ Y)
  | [], Y, e, d, _, _, _, _, he, hY, hu, htu => Ch.lift hY fun q hq => by have := hu q hq; omega
  | p :: X, Y, e, d, _, _, h, ht, he, hY, hu, htu => ⟨h.1, Ch.app h.2 (fun q hq => ht q (by simp [hq])) (ht p (by simp)) hY hu htu⟩
theorem bfr_end (t : Int) {l : List Rn} : ∀ p ∈ bfr t l, p.a + p.m ≤ t := fun p hp => by
  obtain ⟨r, _, h⟩ := List.mem_flatMap.1 hp
  unfold b1 at h
  split at h
  · rw [List.mem_singleton] at h; subst h; show r.a + min r.m (t - r.a) ≤ t; omega
  · cases h
theorem afr_from (t : Int) {l : List Rn} : ∀ p ∈ afr t l, t ≤ p.a := fun p hp => by
  obtain ⟨r, _, h⟩ := List.mem_flatMap.1 hp
  unfold a1 at h
  split at h
  · rw [List.mem_singleton] at h; subst h; show t ≤ r.a + max 0 (t - r.a); omega
  · cases h
/-- Cut: the list for it. -/
theorem cut_upd {l : List Rn} {a m : Int} (h : Ch (-1) 0 l) (ha : 0 ≤ a) (hm : 1 ≤ m) : Upd l ⟨a, 0, m⟩ false (bfr a l ++ afr (a + m) l) := by
  refine ⟨Ch.app (bfr_ch a h) (bfr_end a) (by omega) (afr_ch (a + m) h) (afr_from (a + m)) (by omega), fun x => ?_⟩
  rw [ma_app x fun p hp => ((bfr_ch a h).each p hp).2.1, bfr_ma, afr_ma]
  have hr := ma_range (l := l) x fun p hp => (h.each p hp).2.1
  unfold fx
  cases hi : inR ⟨a, 0, m⟩ x with
  | true =>
    have h1 := inR_yes.1 hi
    have h2 : a ≤ x := h1.1
    have h3 : x < a + m := h1.2
    rw [if_neg (show ¬ x < a by omega), if_pos rfl, if_neg (show ¬ a + m ≤ x by omega)]
    simp
  | false =>
    have h1 := inR_no.1 hi
    have h2 : ¬ (a ≤ x ∧ x < a + m) := h1
    simp only [Bool.false_eq_true, if_false]
    by_cases h3 : x < a
    · rw [if_pos h3]
      by_cases h4 : ma l x = -1
      · rw [if_pos h4, if_neg (by omega), h4]
      · rw [if_neg h4]
    · rw [if_neg h3, if_pos rfl, if_pos (by omega)]
/-! ### joining one run after the other -/
def jst (all : List Rn) (x : Rn) : List Rn := if all ≠ [] ∧ cont (nth all (all.length - 1)) x = true then all.set (all.length - 1) (join2 (nth all (all.length - 1)) x) else all ++ [x]
structure JP (l : List Rn) (r : Rn) (all rest : List Rn) : Prop where
  fo : Fo 0 (all ++ rest)
  is : ∀ x, ma (all ++ rest) x = fx l r true x
  nc : Nc all
  bd : Bnd (all ++ rest)
theorem last_split {all : List Rn} (h : all ≠ []) : ∃ pre, all = pre ++ [nth all (all.length - 1)] ∧ pre.length = all.length - 1 := by
  have hl : 0 < all.length := List.length_pos_iff.2 h
  refine ⟨all.take (all.length - 1), ?_, by rw [List.length_take]; omega⟩
  have := take_next (nth_get (l := all) (k := all.length - 1) (by omega))
  rw [← this, show all.length - 1 + 1 = all.length by omega, List.take_length]
theorem jst_join {pre : List Rn} {p x : Rn} (h : cont p x = true) : jst (pre ++ [p]) x = pre ++ [join2 p x] := by
  have e : nth (pre ++ [p]) ((pre ++ [p]).length - 1) = p := nth_of (by simp)
  unfold jst
  rw [e, if_pos ⟨by simp, h⟩]
  simp
theorem jst_add {all : List Rn} {x : Rn} (h : all = [] ∨ cont (nth all (all.length - 1)) x = false) : jst all x = all ++ [x] := by
  unfold jst
  rw [if_neg]
  rintro ⟨h1, h2⟩
  rcases h with h | h
  · exact h1 h
  · rw [h] at h2; cases h2
theorem jst_length (all : List Rn) (x : Rn) : (jst all x).length ≤ all.length + 1 := by
  unfold jst
  split
  · rw [List.length_set]; omega
  · rw [List.length_append]; exact Nat.le_refl _
theorem JP.step {l : List Rn} {r x : Rn} {all rest : List Rn} (h : JP l r all (x :: rest)) : JP l r (jst all x) rest := by
  by_cases h0 : all ≠ [] ∧ cont (nth all (all.length - 1)) x = true
  · obtain ⟨h1, h2⟩ := h0
    obtain ⟨pre, e, _⟩ := last_split h1
    obtain ⟨p, hp⟩ : ∃ p, p = nth all (all.length - 1) := ⟨_, rfl⟩
    rw [← hp] at e h2
    clear hp
    subst e
    rw [jst_join h2]
    obtain ⟨f1, f2, f3, f4⟩ := h
    have ee : (pre ++ [p]) ++ x :: rest = pre ++ p :: x :: rest := by simp
    have e2 : (pre ++ [join2 p x]) ++ rest = pre ++ join2 p x :: rest := by simp
    rw [ee] at f1 f4
    have b0 := f4 p (by simp)
    have b1 := f4 x (by simp)
    obtain ⟨k1, k2⟩ := cont_yes.1 h2
    refine ⟨by rw [e2]; exact f1.join h2, fun y => ?_, nc_last (p := p) (p' := join2 p x) rfl rfl f3, fun q hq => ?_⟩
    · rw [e2, ma_join h2 b0.2.1 b1.2.1, ← ee]; exact f2 y
    · rw [e2] at hq
      rcases List.mem_append.1 hq with hq | hq
      · exact f4 q (by simp [hq])
      · rcases List.mem_cons.1 hq with rfl | hq
        · refine ⟨b0.1, ?_, ?_, b0.2.2.2.1, b0.2.2.2.2⟩
          · show 1 ≤ p.m + x.m; omega
          · show p.a + (p.m + x.m) ≤ _; omega
        · exact f4 q (by simp [hq])
  · have h0' : all = [] ∨ cont (nth all (all.length - 1)) x = false := by
      by_cases h1 : all = []
      · exact .inl h1
      · right
        cases h2 : cont (nth all (all.length - 1)) x with
        | false => rfl
        | true => exact absurd ⟨h1, h2⟩ h0
    rw [jst_add h0']
    obtain ⟨f1, f2, f3, f4⟩ := h
    have ee : (all ++ [x]) ++ rest = all ++ x :: rest := by simp
    refine ⟨by rw [ee]; exact f1, fun y => by rw [ee]; exact f2 y, ?_, by rw [ee]; exact f4⟩
    rcases h0' with rfl | h1
    · trivial
    · by_cases h2 : all = []
      · subst h2; trivial
      · obtain ⟨pre, e, _⟩ := last_split h2
        obtain ⟨p, hp⟩ : ∃ p, p = nth all (all.length - 1) := ⟨_, rfl⟩
        rw [← hp] at e h1
        clear hp
        subst e
        rw [List.append_assoc]
        exact nc_snoc f3 h1
theorem JP.done {l : List Rn} {r : Rn} {all : List Rn} (h : JP l r all []) : Upd l r true all := by
  obtain ⟨f1, f2, f3, f4⟩ := h
  rw [List.append_nil] at f1 f2
  exact upd_of f1 f3 f2
theorem ch_nc : ∀ {l : List Rn} {e d : Int}, Ch e d l → Nc l
  | [], _, _, _ => trivial
  | [p], _, _, _ => trivial
  | p :: q :: l, e, d, h => ⟨by
      rw [← Bool.not_eq_true, cont_yes]
      intro hc
      exact h.2.1.2.2.2 ⟨hc.1.symm, hc.2.symm⟩, ch_nc h.2⟩
theorem Fo.app {t : Int} : ∀ {X Y : List Rn} {e : Int}, Fo e X → (∀ p ∈ X, p.a + p.m ≤ t) → e ≤ t → Fo t Y → Fo e (X ++ Y)
  | [], Y, e, _, _, he, hY => hY.mono he
  | p :: X, Y, e, h, ht, he, hY => ⟨h.1, Fo.app h.2 (fun q hq => ht q (by simp [hq])) (ht p (by simp)) hY⟩
theorem Fo.at_ {X : List Rn} {e t : Int} (h : Fo e X) (ht : ∀ q ∈ X, t ≤ q.a) : Fo t X := by
  match X, h, ht with
  | [], _, _ => trivial
  | p :: X, h, ht => exact ⟨⟨h.1.1, h.1.2.1, ht p (by simp)⟩, h.2⟩
theorem Fo.zero {X : List Rn} {e : Int} (h : Fo e X) (ht : ∀ q ∈ X, 0 ≤ q.a) : Fo 0 X := h.at_ ht
theorem bfr_bd {l : List Rn} (t : Int) (hl : Oks l) : ∀ p ∈ bfr t l, 0 ≤ p.a ∧ 1 ≤ p.m ∧ p.a + p.m ≤ 2199023255552 ∧ 0 ≤ p.d ∧ p.d ≤ 4398046511104 := fun p hp => by
  obtain ⟨r, hr, h⟩ := List.mem_flatMap.1 hp
  obtain ⟨o1, o2, o3, o4, o5, o6⟩ := okR_yes.1 (hl r hr)
  unfold b1 at h
  split at h
  · rename_i hlt
    rw [List.mem_singleton] at h; subst h
    refine ⟨o1, ?_, ?_, o2, by show r.d ≤ _; omega⟩
    · show 1 ≤ min r.m (t - r.a); omega
    · show r.a + min r.m (t - r.a) ≤ _; omega
  · cases h
theorem afr_bd {l : List Rn} (t : Int) (hl : Oks l) : ∀ p ∈ afr t l, 0 ≤ p.a ∧ 1 ≤ p.m ∧ p.a + p.m ≤ 2199023255552 ∧ 0 ≤ p.d ∧ p.d ≤ 4398046511104 := fun p hp => by
  obtain ⟨r, hr, h⟩ := List.mem_flatMap.1 hp
  obtain ⟨o1, o2, o3, o4, o5, o6⟩ := okR_yes.1 (hl r hr)
  unfold a1 at h
  split at h
  · rename_i hlt
    rw [List.mem_singleton] at h; subst h
    refine ⟨by show 0 ≤ r.a + max 0 (t - r.a); omega, by show 1 ≤ r.m - max 0 (t - r.a); omega, by show r.a + max 0 (t - r.a) + (r.m - max 0 (t - r.a)) ≤ _; omega, by show 0 ≤ r.d + max 0 (t - r.a); omega, by show r.d + max 0 (t - r.a) ≤ _; omega⟩
  · cases h
/-- Put: what is there at the start. -/
theorem put_start {l : List Rn} {r : Rn} (h : Ch (-1) 0 l) (hl : Oks l) (hr : okR r = true) : JP l r (bfr r.a l) (r :: afr (r.a + r.m) l) := by
  obtain ⟨o1, o2, o3, o4, o5, o6⟩ := okR_yes.1 hr
  have hB := bfr_ch r.a h
  have hA := afr_ch (r.a + r.m) h
  refine ⟨?_, fun x => ?_, ch_nc hB, fun p hp => ?_⟩
  · refine Fo.app (t := r.a) (hB.fo.zero fun q hq => (bfr_bd r.a hl q hq).1) (bfr_end r.a) o1 ?_
    exact ⟨⟨o3, o2, Int.le_refl _⟩, hA.fo.at_ (afr_from _)⟩
  · rw [ma_app x fun p hp => (hB.each p hp).2.1, bfr_ma]
    have hrg := ma_range (l := l) x fun p hp => (h.each p hp).2.1
    unfold fx
    cases hi : inR r x with
    | true =>
      have h1 := inR_yes.1 hi
      rw [if_neg (show ¬ x < r.a by omega), if_pos rfl, ma_in hi]
      simp
      omega
    | false =>
      have h1 := inR_no.1 hi
      rw [ma_out hi, afr_ma]
      simp only [Bool.false_eq_true, if_false]
      by_cases h3 : x < r.a
      · rw [if_pos h3]
        by_cases h4 : ma l x = -1
        · rw [if_pos h4, if_neg (by omega), h4]
        · rw [if_neg h4]
      · rw [if_neg h3, if_pos rfl, if_pos (by omega)]
  · rcases List.mem_append.1 hp with hp | hp
    · exact bfr_bd r.a hl p hp
    · rcases List.mem_cons.1 hp with rfl | hp
      · exact ⟨o1, o3, by omega, o2, by omega⟩
      · exact afr_bd _ hl p hp
end Go.Proofs.Ytfcihgincfcdkaa.Rns
