/-
  What a step leaves, written on the list of gaps itself: the plain mathematics.
-/
import Derived.Test.YtkhcaobmohppnaaSFacts
namespace Go.Proofs.Ytkhcaobmohppnaa.Spc
set_option linter.unusedVariables false

/-- The list is the one if it is valid and holds what it must. -/
theorem sgl_is {s : Int} {l L : List Gp} {o : Sp} (h : ser s l o = 0) (hL : Ch s (-1) L) (hm : ∀ x : Int, mem L x = if ats o l ≤ x ∧ x < ats o l + o.m then decide (o.k = 3) else mem l x) : sgl s l o = L ∧ sat s l o = ats o l := by
  obtain ⟨h1, _⟩ := ok_parts h
  obtain ⟨c1, c2, c3⟩ := ok_ch h1
  refine ⟨?_, (sgl_yes h).2⟩
  rw [(sgl_yes h).1]
  exact gk_of (by rw [show ((s.toNat : Nat) : Int) = s by omega]; exact hL) fun x hx => by rw [at_setR hx, hm x]
theorem Ch.join {s e : Int} : ∀ {X Y : List Gp} {last : Int}, Ch s last X → (∀ p ∈ X, p.a + p.m ≤ e) → last ≤ e → Ch s e Y → Ch s last (X ++ Y)
  | [], Y, last, _, _, hl, hY => hY.back hl
  | p :: X, Y, last, h, he, hl, hY => ⟨h.1, Ch.join h.2 (fun q hq => he q (by simp [hq])) (he p (by simp)) hY⟩
theorem Ch.right {s : Int} : ∀ {X Y : List Gp} {last : Int}, Ch s last (X ++ Y) → ∃ e, last ≤ e ∧ Ch s e Y ∧ (∀ p ∈ X, p.a + p.m ≤ e) ∧ (e = last ∨ ∃ p ∈ X, p.a + p.m = e)
  | [], Y, last, h => ⟨last, Int.le_refl _, h, (fun p hp => by cases hp), .inl rfl⟩
  | p :: X, Y, last, h => by
    obtain ⟨e, h1, h2, h3, h4⟩ := Ch.right h.2
    have hp := h.1
    refine ⟨e, by omega, h2, fun q hq => ?_, .inr ?_⟩
    · rcases List.mem_cons.1 hq with rfl | hq
      · exact h1
      · exact h3 q hq
    · rcases h4 with h4 | ⟨q, hq, h4⟩
      · exact ⟨p, by simp, h4.symm⟩
      · exact ⟨q, by simp [hq], h4⟩
theorem mem_mid (pre post : List Gp) (g : Gp) (x : Int) : mem (pre ++ g :: post) x = (mem pre x || (inG g x || mem post x)) := by rw [mem_app, mem_cons]
theorem none_in {X : List Gp} {x : Int} (h : ∀ p ∈ X, p.a + p.m ≤ x) : mem X x = false := by
  rw [← Bool.not_eq_true, mem_yes]
  rintro ⟨g, hg, hi⟩
  have := h g hg
  have := inG_yes.1 hi
  omega
theorem none_in' {X : List Gp} {x : Int} (h : ∀ p ∈ X, x < p.a) : mem X x = false := by
  rw [← Bool.not_eq_true, mem_yes]
  rintro ⟨g, hg, hi⟩
  have := h g hg
  have := inG_yes.1 hi
  omega
/-- The first m blocks of a gap taken: the gap is gone, or begins later. -/
theorem take_list {s : Int} {pre post : List Gp} {g : Gp} {m : Int} (h : Ch s (-1) (pre ++ g :: post)) (h1 : 1 ≤ m) (h2 : m ≤ g.m) :
    Ch s (-1) (pre ++ (if g.m = m then post else ⟨g.a + m, g.m - m⟩ :: post)) ∧ ∀ x : Int, mem (pre ++ (if g.m = m then post else ⟨g.a + m, g.m - m⟩ :: post)) x = if g.a ≤ x ∧ x < g.a + m then false else mem (pre ++ g :: post) x := by
  obtain ⟨e, e1, hY, e3, _⟩ := h.right
  have hX := h.left
  obtain ⟨y1, y2⟩ := hY
  have hpost : ∀ q ∈ post, g.a + g.m < q.a := fun q hq => (y2.each q hq).1
  constructor
  · refine hX.join e3 e1 ?_
    split
    · exact y2.back (by omega)
    · exact ⟨⟨by show e < g.a + m; omega, by show 1 ≤ g.m - m; omega, by show g.a + m + (g.m - m) ≤ s; omega⟩, by show Ch s (g.a + m + (g.m - m)) post; rw [show g.a + m + (g.m - m) = g.a + g.m by omega]; exact y2⟩
  · intro x
    rw [mem_mid]
    by_cases hc : g.a ≤ x ∧ x < g.a + m
    · rw [if_pos hc]
      have a1 : mem pre x = false := none_in fun p hp => by have := e3 p hp; omega
      have a2 : mem post x = false := none_in' fun p hp => by have := hpost p hp; omega
      split
      · rw [mem_app, a1, a2]; rfl
      · rw [mem_mid, a1, a2, inG_no.2 (by show ¬ (g.a + m ≤ x ∧ _); omega)]; rfl
    · rw [if_neg hc]
      split
      · rename_i he
        rw [mem_app, inG_no.2 (by omega)]; rfl
      · rw [mem_mid]
        congr 2
        rw [Bool.eq_iff_iff, inG_yes, inG_yes]
        show g.a + m ≤ x ∧ x < g.a + m + (g.m - m) ↔ _
        omega
/-- Blocks given back between two parts of the list: which gaps they touch. -/
theorem give_mem {pre post : List Gp} {a m : Int} {G : List Gp} {l : List Gp} (hl : ∀ x, mem l x = (mem pre x || mem post x)) (hp : ∀ x, mem G x = (mem pre x || (inG ⟨a, m⟩ x || mem post x))) (x : Int) : mem G x = if a ≤ x ∧ x < a + m then true else mem l x := by
  rw [hp x, hl x]
  by_cases hc : a ≤ x ∧ x < a + m
  · rw [if_pos hc, inG_yes.2 hc]; simp
  · rw [if_neg hc, inG_no.2 hc]; simp
section
variable {s a m : Int} {pre post : List Gp}
theorem give_free (h : Ch s (-1) (pre ++ post)) (h0 : 0 ≤ a) (h1 : 1 ≤ m) (h2 : a + m ≤ s) (hp : ∀ p ∈ pre, p.a + p.m < a) (hq : ∀ q ∈ post, a + m < q.a) :
    Ch s (-1) (pre ++ ⟨a, m⟩ :: post) ∧ ∀ x : Int, mem (pre ++ ⟨a, m⟩ :: post) x = if a ≤ x ∧ x < a + m then true else mem (pre ++ post) x := by
  obtain ⟨e, e1, hY, e3, e4⟩ := h.right
  refine ⟨h.left.join e3 e1 ⟨⟨?_, h1, h2⟩, ?_⟩, give_mem (fun x => mem_app _ _ x) fun x => mem_mid _ _ _ x⟩
  · show e < a
    rcases e4 with rfl | ⟨p, hp', rfl⟩
    · omega
    · exact hp p hp'
  · match post, hY, hq with
    | [], _, _ => trivial
    | q :: post, hY, hq => exact ⟨⟨hq q (by simp), hY.1.2.1, hY.1.2.2⟩, hY.2⟩
theorem give_left {p : Gp} (h : Ch s (-1) ((pre ++ [p]) ++ post)) (h0 : 0 ≤ a) (h1 : 1 ≤ m) (h2 : a + m ≤ s) (hp : p.a + p.m = a) (hq : ∀ q ∈ post, a + m < q.a) :
    Ch s (-1) (pre ++ ⟨p.a, p.m + m⟩ :: post) ∧ ∀ x : Int, mem (pre ++ ⟨p.a, p.m + m⟩ :: post) x = if a ≤ x ∧ x < a + m then true else mem ((pre ++ [p]) ++ post) x := by
  rw [List.append_assoc] at h
  obtain ⟨e, e1, hY, e3, e4⟩ := h.right
  have hY : Ch s e (p :: post) := hY
  refine ⟨h.left.join e3 e1 ⟨⟨hY.1.1, by show 1 ≤ p.m + m; have := hY.1.2.1; omega, by show p.a + (p.m + m) ≤ s; omega⟩, ?_⟩, give_mem (fun x => mem_app _ _ x) fun x => ?_⟩
  · show Ch s (p.a + (p.m + m)) post
    match post, hY.2, hq with
    | [], _, _ => trivial
    | q :: post, hz, hq => exact ⟨⟨by have := hq q (by simp); omega, hz.1.2.1, hz.1.2.2⟩, hz.2⟩
  · rw [mem_mid, mem_app, mem_cons, mem_nil, Bool.or_false, Bool.or_assoc, ← Bool.or_assoc (inG p x)]
    congr 2
    rw [Bool.eq_iff_iff, Bool.or_eq_true, inG_yes, inG_yes, inG_yes]
    have := hY.1.2.1
    show p.a ≤ x ∧ x < p.a + (p.m + m) ↔ _ ∨ (a ≤ x ∧ x < a + m)
    omega
theorem give_right {q : Gp} (h : Ch s (-1) (pre ++ q :: post)) (h0 : 0 ≤ a) (h1 : 1 ≤ m) (hp : ∀ p ∈ pre, p.a + p.m < a) (hq : a + m = q.a) :
    Ch s (-1) (pre ++ ⟨a, m + q.m⟩ :: post) ∧ ∀ x : Int, mem (pre ++ ⟨a, m + q.m⟩ :: post) x = if a ≤ x ∧ x < a + m then true else mem (pre ++ q :: post) x := by
  obtain ⟨e, e1, hY, e3, e4⟩ := h.right
  obtain ⟨y1, y2⟩ := hY
  refine ⟨h.left.join e3 e1 ⟨⟨?_, by show 1 ≤ m + q.m; omega, by show a + (m + q.m) ≤ s; omega⟩, ?_⟩, give_mem (fun x => mem_app _ _ x) fun x => ?_⟩
  · show e < a
    rcases e4 with rfl | ⟨p, hp', rfl⟩
    · omega
    · exact hp p hp'
  · show Ch s (a + (m + q.m)) post
    rw [show a + (m + q.m) = q.a + q.m by omega]; exact y2
  · rw [mem_mid, mem_cons, ← Bool.or_assoc (inG ⟨a, m⟩ x)]
    congr 2
    rw [Bool.eq_iff_iff, Bool.or_eq_true, inG_yes, inG_yes, inG_yes]
    show a ≤ x ∧ x < a + (m + q.m) ↔ (a ≤ x ∧ x < a + m) ∨ _
    omega
theorem give_both {p q : Gp} (h : Ch s (-1) ((pre ++ [p]) ++ q :: post)) (h0 : 0 ≤ a) (h1 : 1 ≤ m) (hp : p.a + p.m = a) (hq : a + m = q.a) :
    Ch s (-1) (pre ++ ⟨p.a, p.m + m + q.m⟩ :: post) ∧ ∀ x : Int, mem (pre ++ ⟨p.a, p.m + m + q.m⟩ :: post) x = if a ≤ x ∧ x < a + m then true else mem ((pre ++ [p]) ++ q :: post) x := by
  rw [List.append_assoc] at h
  obtain ⟨e, e1, hY, e3, e4⟩ := h.right
  have hY : Ch s e (p :: q :: post) := hY
  obtain ⟨y1, y2, y3⟩ := hY
  refine ⟨h.left.join e3 e1 ⟨⟨y1.1, by show 1 ≤ p.m + m + q.m; omega, by show p.a + (p.m + m + q.m) ≤ s; omega⟩, ?_⟩, give_mem (fun x => mem_app _ _ x) fun x => ?_⟩
  · show Ch s (p.a + (p.m + m + q.m)) post
    rw [show p.a + (p.m + m + q.m) = q.a + q.m by omega]; exact y3
  · rw [mem_mid, mem_app, mem_cons, mem_nil, Bool.or_false, mem_cons, Bool.or_assoc, ← Bool.or_assoc (inG ⟨a, m⟩ x), ← Bool.or_assoc (inG p x)]
    congr 2
    rw [Bool.eq_iff_iff, Bool.or_eq_true, Bool.or_eq_true, inG_yes, inG_yes, inG_yes, inG_yes]
    show p.a ≤ x ∧ x < p.a + (p.m + m + q.m) ↔ (p.a ≤ x ∧ x < p.a + p.m) ∨ (a ≤ x ∧ x < a + m) ∨ (q.a ≤ x ∧ x < q.a + q.m)
    omega
end
end Go.Proofs.Ytkhcaobmohppnaa.Spc
