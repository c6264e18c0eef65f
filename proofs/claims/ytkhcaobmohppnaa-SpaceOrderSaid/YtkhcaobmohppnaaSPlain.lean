/-
  Gaps: the plain mathematics, without the program: valid lists, what they hold, that a row of blocks has one list of gaps.
-/
import Derived.Test.YtkhcaobmohppnaaBase
namespace Go.Proofs.Ytkhcaobmohppnaa.Spc
set_option linter.unusedVariables false

structure Gp where
  a : Int
  m : Int
deriving DecidableEq
instance : Inhabited Gp := ⟨⟨0, 0⟩⟩
def okG (s last : Int) (g : Gp) : Bool := decide (last < g.a) && decide (1 ≤ g.m) && decide (g.m ≤ s) && decide (g.a ≤ s - g.m)
theorem okG_yes {s last : Int} {g : Gp} : okG s last g = true ↔ last < g.a ∧ 1 ≤ g.m ∧ g.m ≤ s ∧ g.a ≤ s - g.m := by unfold okG; simp [and_assoc]
def vF (s last : Int) : List Gp → Bool
  | [] => true
  | g :: l => okG s last g && vF s (g.a + g.m) l
def va (s : Int) (l : List Gp) : Bool := vF s (-1) l
/-- Block x lies in the gap. -/
def inG (g : Gp) (x : Int) : Bool := decide (g.a ≤ x) && decide (x < g.a + g.m)
theorem inG_yes {g : Gp} {x : Int} : inG g x = true ↔ g.a ≤ x ∧ x < g.a + g.m := by unfold inG; simp
theorem inG_no {g : Gp} {x : Int} : inG g x = false ↔ ¬ (g.a ≤ x ∧ x < g.a + g.m) := by rw [← inG_yes]; simp
def mem (l : List Gp) (x : Int) : Bool := l.any fun g => inG g x
theorem mem_nil (x : Int) : mem [] x = false := rfl
theorem mem_cons (g : Gp) (l : List Gp) (x : Int) : mem (g :: l) x = (inG g x || mem l x) := rfl
theorem mem_app (l k : List Gp) (x : Int) : mem (l ++ k) x = (mem l x || mem k x) := List.any_append
theorem mem_yes {l : List Gp} {x : Int} : mem l x = true ↔ ∃ g ∈ l, inG g x = true := List.any_eq_true
/-- They follow one another with a block in between, and end up to s. -/
def Ch (s last : Int) : List Gp → Prop
  | [] => True
  | g :: l => (last < g.a ∧ 1 ≤ g.m ∧ g.a + g.m ≤ s) ∧ Ch s (g.a + g.m) l
theorem vF_ch {s : Int} : ∀ {l : List Gp} {last : Int}, -1 ≤ last → (vF s last l = true ↔ Ch s last l)
  | [], _, _ => by unfold vF Ch; simp
  | g :: l, last, hl => by
    unfold vF Ch
    rw [Bool.and_eq_true, okG_yes]
    constructor
    · rintro ⟨h1, h2⟩
      exact ⟨⟨h1.1, h1.2.1, by omega⟩, (vF_ch (by omega)).1 h2⟩
    · rintro ⟨h1, h2⟩
      exact ⟨⟨h1.1, h1.2.1, by omega, by omega⟩, (vF_ch (by omega)).2 h2⟩
theorem va_ch {s : Int} {l : List Gp} : va s l = true ↔ Ch s (-1) l := vF_ch (by omega)
theorem Ch.each {s : Int} : ∀ {l : List Gp} {last : Int}, Ch s last l → ∀ g ∈ l, last < g.a ∧ 1 ≤ g.m ∧ g.a + g.m ≤ s
  | x :: l, last, h, g, hg => by
    rcases List.mem_cons.1 hg with rfl | hg
    · exact h.1
    · have := Ch.each h.2 g hg
      have := h.1
      omega
theorem Ch.low {s : Int} : ∀ {l : List Gp} {last x : Int}, Ch s last l → x ≤ last → mem l x = false
  | [], _, _, _, _ => rfl
  | g :: l, last, x, h, hx => by
    rw [mem_cons, inG_no.2 (by have := h.1; omega), Ch.low h.2 (by have := h.1; omega)]; rfl
theorem Ch.high {s : Int} {l : List Gp} {last x : Int} (h : Ch s last l) (hx : s ≤ x) : mem l x = false := by
  rw [← Bool.not_eq_true, mem_yes]
  rintro ⟨g, hg, hi⟩
  have := h.each g hg
  have := inG_yes.1 hi
  omega
theorem Ch.le {s s' : Int} : ∀ {l : List Gp} {last : Int}, Ch s last l → s ≤ s' → Ch s' last l
  | [], _, _, _ => trivial
  | g :: l, _, h, hs => ⟨⟨h.1.1, h.1.2.1, by have := h.1.2.2; omega⟩, h.2.le hs⟩
theorem Ch.back {s : Int} {l : List Gp} {last last' : Int} (h : Ch s last l) (hs : last' ≤ last) : Ch s last' l := by
  match l, h with
  | [], _ => trivial
  | g :: l, h => exact ⟨⟨by have := h.1.1; omega, h.1.2.1, h.1.2.2⟩, h.2⟩
/-- One list for what it holds. -/
theorem ch_unique {s s' : Int} : ∀ {a b : List Gp} {last last' : Int}, Ch s last a → Ch s' last' b → (∀ x, mem a x = mem b x) → a = b
  | [], [], _, _, _, _, _ => rfl
  | [], g :: b, _, _, _, hb, h => by
    have h1 := h g.a
    rw [mem_cons, inG_yes.2 ⟨Int.le_refl _, by have := hb.1; omega⟩] at h1
    cases h1
  | g :: a, [], _, _, ha, _, h => by
    have h1 := h g.a
    rw [mem_cons, inG_yes.2 ⟨Int.le_refl _, by have := ha.1; omega⟩] at h1
    cases h1
  | g :: a, k :: b, last, last', ha, hb, h => by
    have hg := ha.1
    have hk := hb.1
    have key : ∀ {p q : Gp} {x y : List Gp} {l1 l2 s1 s2 : Int}, Ch s1 l1 (p :: x) → Ch s2 l2 (q :: y) → (∀ z, mem (p :: x) z = mem (q :: y) z) → ¬ p.a < q.a := by
      intro p q x y l1 l2 s1 s2 hp hq hz hlt
      have h1 := hz p.a
      rw [mem_cons, inG_yes.2 ⟨Int.le_refl _, by have := hp.1; omega⟩, mem_cons, inG_no.2 (by omega), Ch.low hq.2 (by have := hq.1; omega)] at h1
      cases h1
    have e1 : g.a = k.a := by
      rcases Int.lt_trichotomy g.a k.a with h1 | h1 | h1
      · exact absurd h1 (key ha hb h)
      · exact h1
      · exact absurd h1 (key hb ha fun z => (h z).symm)
    have key2 : ∀ {p q : Gp} {x y : List Gp} {l1 l2 s1 s2 : Int}, Ch s1 l1 (p :: x) → Ch s2 l2 (q :: y) → p.a = q.a → (∀ z, mem (p :: x) z = mem (q :: y) z) → ¬ p.m < q.m := by
      intro p q x y l1 l2 s1 s2 hp hq he hz hlt
      have h1 := hz (p.a + p.m)
      rw [mem_cons, inG_no.2 (by omega), Ch.low hp.2 (by omega), mem_cons, inG_yes.2 ⟨by have := hp.1; omega, by omega⟩] at h1
      cases h1
    have e2 : g.m = k.m := by
      rcases Int.lt_trichotomy g.m k.m with h1 | h1 | h1
      · exact absurd h1 (key2 ha hb e1 h)
      · exact h1
      · exact absurd h1 (key2 hb ha e1.symm fun z => (h z).symm)
    have e0 : g = k := by cases g; cases k; simp at e1 e2 ⊢; exact ⟨e1, e2⟩
    subst e0
    congr 1
    refine ch_unique ha.2 hb.2 fun x => ?_
    cases hi : inG g x with
    | true =>
      have := inG_yes.1 hi
      rw [ha.2.low (by omega), hb.2.low (by omega)]
    | false =>
      have := h x
      rw [mem_cons, mem_cons, hi] at this
      exact this
/-! ### the gaps of a row -/
def at_ (row : List Bool) (k : Nat) : Bool := row.getD k false
theorem at_get {row : List Bool} {k : Nat} {b : Bool} (h : row[k]? = some b) : at_ row k = b := by unfold at_; rw [List.getD_eq_getElem?_getD, h]; rfl
theorem get_at {row : List Bool} {k : Nat} (h : k < row.length) : row[k]? = some (at_ row k) := by unfold at_; rw [List.getD_eq_getElem?_getD, List.getElem?_eq_getElem h]; rfl
theorem at_out {row : List Bool} {k : Nat} (h : row.length ≤ k) : at_ row k = false := by unfold at_; rw [List.getD_eq_getElem?_getD, List.getElem?_eq_none h]; rfl
def gth (l : List Gp) (k : Nat) : Gp := l.getD k ⟨0, 0⟩
theorem gth_get {l : List Gp} {k : Nat} (h : k < l.length) : l[k]? = some (gth l k) := by unfold gth; rw [List.getD_eq_getElem?_getD, List.getElem?_eq_getElem h]; rfl
theorem gth_of {l : List Gp} {k : Nat} {x : Gp} (h : l[k]? = some x) : gth l k = x := by unfold gth; rw [List.getD_eq_getElem?_getD, h]; rfl
/-- The last one a block longer. -/
def bump (l : List Gp) : List Gp := l.set (l.length - 1) ⟨(gth l (l.length - 1)).a, (gth l (l.length - 1)).m + 1⟩
theorem bump_app (l : List Gp) (g : Gp) : bump (l ++ [g]) = l ++ [⟨g.a, g.m + 1⟩] := by
  unfold bump
  have e : gth (l ++ [g]) ((l ++ [g]).length - 1) = g := gth_of (by simp)
  rw [e]
  simp
def gk (row : List Bool) : Nat → List Gp
  | 0 => []
  | k + 1 => if at_ row k = true then (if k = 0 ∨ at_ row (k - 1) = false then gk row k ++ [⟨k, 1⟩] else bump (gk row k)) else gk row k
theorem gk_free {row : List Bool} {k : Nat} (h : at_ row k = false) : gk row (k + 1) = gk row k := by
  show (if at_ row k = true then _ else _) = _
  rw [if_neg (by rw [h]; simp)]
theorem gk_new {row : List Bool} {k : Nat} (h : at_ row k = true) (h2 : k = 0 ∨ at_ row (k - 1) = false) : gk row (k + 1) = gk row k ++ [⟨k, 1⟩] := by
  show (if at_ row k = true then _ else _) = _
  rw [if_pos h, if_pos h2]
theorem gk_more {row : List Bool} {k : Nat} (h : at_ row k = true) (h2 : ¬ (k = 0 ∨ at_ row (k - 1) = false)) : gk row (k + 1) = bump (gk row k) := by
  show (if at_ row k = true then _ else _) = _
  rw [if_pos h, if_neg h2]
theorem gk_length (row : List Bool) : ∀ k, (gk row k).length ≤ k
  | 0 => Nat.le_refl _
  | k + 1 => by
    have ih := gk_length row k
    cases h : at_ row k with
    | false => rw [gk_free h]; omega
    | true =>
      by_cases h2 : k = 0 ∨ at_ row (k - 1) = false
      · rw [gk_new h h2, List.length_append]; simp; omega
      · rw [gk_more h h2]; unfold bump; rw [List.length_set]; omega
theorem Ch.snoc {s s' : Int} {g : Gp} : ∀ {l : List Gp} {last : Int}, Ch s last l → (last < g.a) → (s < g.a ∨ ∀ p ∈ l, p.a + p.m < g.a) → 1 ≤ g.m → s ≤ s' → g.a + g.m ≤ s' → Ch s' last (l ++ [g])
  | [], last, _, h1, _, h3, _, h4 => ⟨⟨h1, h3, h4⟩, trivial⟩
  | p :: l, last, h, h1, h2, h3, hs, h4 => ⟨⟨h.1.1, h.1.2.1, by have := h.1.2.2; omega⟩, Ch.snoc h.2 (by
      rcases h2 with h2 | h2
      · have := h.1.2.2; omega
      · exact h2 p (by simp)) (h2.imp id fun h2 q hq => h2 q (by simp [hq])) h3 hs h4⟩
theorem Ch.left {s : Int} {k : List Gp} : ∀ {l : List Gp} {last : Int}, Ch s last (l ++ k) → Ch s last l
  | [], _, _ => trivial
  | p :: l, _, h => ⟨h.1, Ch.left h.2⟩
theorem Ch.longer {s : Int} {g : Gp} : ∀ {l : List Gp} {last : Int}, Ch s last (l ++ [g]) → Ch (s + 1) last (l ++ [⟨g.a, g.m + 1⟩])
  | [], _, h => ⟨⟨h.1.1, by show 1 ≤ g.m + 1; have := h.1.2.1; omega, by show g.a + (g.m + 1) ≤ s + 1; have := h.1.2.2; omega⟩, trivial⟩
  | p :: l, _, h => ⟨⟨h.1.1, h.1.2.1, by have := h.1.2.2; omega⟩, Ch.longer h.2⟩
/-- What the gaps of the first k blocks are. -/
structure GI (row : List Bool) (k : Nat) (out : List Gp) : Prop where
  ch : Ch k (-1) out
  is : ∀ x : Nat, mem out x = (decide (x < k) && at_ row x)
  neg : ∀ x : Int, x < 0 → mem out x = false
  fin : 0 < k → at_ row (k - 1) = true → ∃ (pre : List Gp) (g : Gp), out = pre ++ [g] ∧ g.a + g.m = (k : Int)
  low : 0 < k → at_ row (k - 1) = false → ∀ p ∈ out, p.a + p.m < (k : Int)
theorem gi_zero (row : List Bool) : GI row 0 [] := ⟨trivial, fun x => by simp [mem_nil], fun x _ => rfl, fun h => absurd h (by omega), fun h => absurd h (by omega)⟩
theorem GI.next {row : List Bool} {k : Nat} {out : List Gp} (h : GI row k out) (hk : at_ row k = false) : GI row (k + 1) out := by
  refine ⟨h.ch.le (by omega), fun x => ?_, h.neg, fun _ hc => ?_, fun _ _ p hp => by have := h.ch.each p hp; omega⟩
  · rw [h.is x]
    by_cases hx : x = k
    · subst hx; rw [hk]; simp
    · have : decide (x < k + 1) = decide (x < k) := by simp; omega
      rw [this]
  · rw [show k + 1 - 1 = k by omega, hk] at hc; cases hc
theorem one_is (k : Nat) (x : Nat) : mem [(⟨k, 1⟩ : Gp)] x = decide (x = k) := by
  rw [Bool.eq_iff_iff, mem_yes]
  constructor
  · rintro ⟨g, hg, hi⟩
    rw [List.mem_singleton] at hg
    subst hg
    have := inG_yes.1 hi
    simp at this
    simp; omega
  · intro hx
    simp at hx
    exact ⟨⟨k, 1⟩, by simp, inG_yes.2 ⟨by show (k : Int) ≤ x; omega, by show (x : Int) < (k : Int) + 1; omega⟩⟩
theorem GI.new {row : List Bool} {k : Nat} {out : List Gp} (h : GI row k out) (hk : at_ row k = true) (h2 : k = 0 ∨ at_ row (k - 1) = false) : GI row (k + 1) (out ++ [⟨k, 1⟩]) := by
  have hlow : ∀ p ∈ out, p.a + p.m < (k : Int) := fun p hp => by
    rcases h2 with rfl | h2
    · have := h.ch.each p hp; simp at this; omega
    · rcases Nat.eq_zero_or_pos k with h0 | h0
      · subst h0; have := h.ch.each p hp; simp at this; omega
      · exact h.low h0 h2 p hp
  refine ⟨?_, fun x => ?_, fun x hx => ?_, fun _ _ => ⟨out, _, rfl, by show (k : Int) + 1 = (k + 1 : Nat); omega⟩, fun _ hc => ?_⟩
  · exact h.ch.snoc (by show (-1 : Int) < k; omega) (.inr hlow) (by show (1 : Int) ≤ 1; omega) (by omega) (by show (k : Int) + 1 ≤ (k + 1 : Nat); omega)
  · rw [mem_app, h.is x, one_is]
    by_cases hx : x = k
    · subst hx; rw [hk]; simp
    · have : decide (x < k + 1) = decide (x < k) := by simp; omega
      rw [this]; simp [hx]
  · rw [mem_app, h.neg x hx]
    rw [← Bool.not_eq_true, Bool.or_eq_true, mem_yes]
    rintro (h3 | ⟨g, hg, hi⟩)
    · cases h3
    · rw [List.mem_singleton] at hg
      subst hg
      have := inG_yes.1 hi
      simp at this
      omega
  · rw [show k + 1 - 1 = k by omega, hk] at hc; cases hc
theorem GI.more {row : List Bool} {k : Nat} {out : List Gp} (h : GI row k out) (hk : at_ row k = true) (h2 : ¬ (k = 0 ∨ at_ row (k - 1) = false)) : GI row (k + 1) (bump out) := by
  have h3 : 0 < k ∧ at_ row (k - 1) = true := by
    constructor
    · rcases Nat.eq_zero_or_pos k with h0 | h0
      · exact absurd (.inl h0) h2
      · exact h0
    · cases hc : at_ row (k - 1) with
      | true => rfl
      | false => exact absurd (.inr hc) h2
  obtain ⟨pre, g, rfl, he⟩ := h.fin h3.1 h3.2
  rw [bump_app]
  have hg := h.ch.each g (by simp)
  have hin : ∀ x : Int, mem (pre ++ [⟨g.a, g.m + 1⟩]) x = (mem (pre ++ [g]) x || decide (x = k)) := fun x => by
    rw [mem_app, mem_app, mem_cons, mem_cons, mem_nil, Bool.or_false, Bool.or_false, Bool.or_assoc]
    congr 1
    rw [Bool.eq_iff_iff, Bool.or_eq_true, inG_yes, inG_yes]
    simp
    omega
  refine ⟨?_, fun x => ?_, fun x hx => ?_, fun _ _ => ⟨pre, _, rfl, by show g.a + (g.m + 1) = (k + 1 : Nat); omega⟩, fun _ hc => ?_⟩
  · have := h.ch.longer
    rw [show ((k : Int) + 1) = ((k + 1 : Nat) : Int) by omega] at this
    exact this
  · rw [hin, h.is x]
    by_cases hx : x = k
    · subst hx; rw [hk]; simp
    · have e1 : decide (x < k + 1) = decide (x < k) := by simp; omega
      have e2 : decide ((x : Int) = (k : Int)) = false := by simp; omega
      rw [e1, e2, Bool.or_false]
  · rw [hin, h.neg x hx, Bool.false_or]; simp; omega
  · rw [show k + 1 - 1 = k by omega, hk] at hc; cases hc
theorem gk_gi (row : List Bool) : ∀ k, GI row k (gk row k)
  | 0 => gi_zero row
  | k + 1 => by
    have ih := gk_gi row k
    cases h : at_ row k with
    | false => rw [gk_free h]; exact ih.next h
    | true =>
      by_cases h2 : k = 0 ∨ at_ row (k - 1) = false
      · rw [gk_new h h2]; exact ih.new h h2
      · rw [gk_more h h2]; exact ih.more h h2
/-- A valid list is the gaps of the row of what it holds. -/
theorem gk_of {row : List Bool} {n : Nat} {l : List Gp} (h : Ch n (-1) l) (hr : ∀ x : Nat, x < n → at_ row x = mem l x) : gk row n = l := by
  have g := gk_gi row n
  refine ch_unique g.ch h fun x => ?_
  by_cases h0 : x < 0
  · rw [g.neg x h0, h.low (by omega)]
  · obtain ⟨k, rfl⟩ : ∃ k : Nat, x = k := ⟨x.toNat, by omega⟩
    rw [g.is k]
    by_cases hk : k < n
    · rw [hr k hk]; simp [hk]
    · rw [h.high (by omega)]; simp [hk]
/-- Two rows that are one up to n have the same gaps. -/
theorem gk_congr {row row' : List Bool} {n : Nat} (h : ∀ x : Nat, x < n → at_ row x = at_ row' x) : gk row n = gk row' n := by
  refine gk_of (gk_gi row' n).ch fun x hx => ?_
  rw [h x hx, (gk_gi row' n).is x]; simp [hx]
end Go.Proofs.Ytkhcaobmohppnaa.Spc
