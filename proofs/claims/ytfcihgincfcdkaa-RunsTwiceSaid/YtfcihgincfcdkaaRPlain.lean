/-
  Runs: the plain mathematics, without the program: what a list of runs maps; that a list without two runs that continue one another is the only one for what it maps; pieces between edges.
-/
import Derived.Test.YtfcihgincfcdkaaBase
namespace Go.Proofs.Ytfcihgincfcdkaa.Rns
set_option linter.unusedVariables false

structure Rn where
  a : Int
  d : Int
  m : Int
deriving DecidableEq
instance : Inhabited Rn := ⟨⟨0, 0, 0⟩⟩
def okR (r : Rn) : Bool := decide (0 ≤ r.a) && decide (0 ≤ r.d) && decide (1 ≤ r.m) && decide (r.a ≤ 1099511627776) && decide (r.d ≤ 1099511627776) && decide (r.m ≤ 1099511627776)
theorem okR_yes {r : Rn} : okR r = true ↔ 0 ≤ r.a ∧ 0 ≤ r.d ∧ 1 ≤ r.m ∧ r.a ≤ 1099511627776 ∧ r.d ≤ 1099511627776 ∧ r.m ≤ 1099511627776 := by unfold okR; simp [and_assoc]
def stp (e d : Int) (r : Rn) : Bool := okR r && decide (e ≤ r.a) && !(decide (r.a = e) && decide (r.d = d))
def rtF (e d : Int) : List Rn → Bool
  | [] => true
  | r :: l => stp e d r && rtF (r.a + r.m) (r.d + r.m) l
def rt (l : List Rn) : Bool := rtF (-1) 0 l
/-! ### what a list maps -/
def inR (r : Rn) (x : Int) : Bool := decide (r.a ≤ x) && decide (x < r.a + r.m)
theorem inR_yes {r : Rn} {x : Int} : inR r x = true ↔ r.a ≤ x ∧ x < r.a + r.m := by unfold inR; simp
theorem inR_no {r : Rn} {x : Int} : inR r x = false ↔ ¬ (r.a ≤ x ∧ x < r.a + r.m) := by rw [← inR_yes]; simp
def ma : List Rn → Int → Int
  | [], _ => -1
  | r :: l, x => if inR r x = true then x - r.a + r.d else ma l x
theorem ma_in {r : Rn} {l : List Rn} {x : Int} (h : inR r x = true) : ma (r :: l) x = x - r.a + r.d := if_pos h
theorem ma_out {r : Rn} {l : List Rn} {x : Int} (h : inR r x = false) : ma (r :: l) x = ma l x := if_neg (by rw [h]; simp)
/-- The runs follow one another; none continues the one ahead. -/
def Ch (e d : Int) : List Rn → Prop
  | [] => True
  | r :: l => (1 ≤ r.m ∧ 0 ≤ r.d ∧ e ≤ r.a ∧ ¬ (r.a = e ∧ r.d = d)) ∧ Ch (r.a + r.m) (r.d + r.m) l
/-- The runs follow one another. -/
def Fo (e : Int) : List Rn → Prop
  | [] => True
  | r :: l => (1 ≤ r.m ∧ 0 ≤ r.d ∧ e ≤ r.a) ∧ Fo (r.a + r.m) l
theorem Ch.fo : ∀ {l : List Rn} {e d : Int}, Ch e d l → Fo e l
  | [], _, _, _ => trivial
  | r :: l, _, _, h => ⟨⟨h.1.1, h.1.2.1, h.1.2.2.1⟩, Ch.fo h.2⟩
theorem Fo.low : ∀ {l : List Rn} {e x : Int}, Fo e l → x < e → ma l x = -1
  | [], _, _, _, _ => rfl
  | r :: l, e, x, h, hx => by
    rw [ma_out (inR_no.2 (by have := h.1.2.2; omega))]
    exact Fo.low h.2 (by have := h.1.1; have := h.1.2.2; omega)
theorem Fo.mono : ∀ {l : List Rn} {e e' : Int}, Fo e l → e' ≤ e → Fo e' l
  | [], _, _, _, _ => trivial
  | r :: l, _, _, h, he => ⟨⟨h.1.1, h.1.2.1, by have := h.1.2.2; omega⟩, h.2⟩
theorem Fo.each : ∀ {l : List Rn} {e : Int}, Fo e l → ∀ r ∈ l, 1 ≤ r.m ∧ 0 ≤ r.d ∧ e ≤ r.a
  | r :: l, e, h, x, hx => by
    rcases List.mem_cons.1 hx with rfl | hx
    · exact h.1
    · have := Fo.each h.2 x hx
      have h1 := h.1
      exact ⟨this.1, this.2.1, by omega⟩
theorem ma_range : ∀ {l : List Rn} (x : Int), (∀ r ∈ l, 0 ≤ r.d) → ma l x = -1 ∨ 0 ≤ ma l x
  | [], x, _ => .inl rfl
  | r :: l, x, h => by
    cases hi : inR r x with
    | true =>
      rw [ma_in hi]
      have := inR_yes.1 hi
      have := h r (by simp)
      exact .inr (by omega)
    | false => rw [ma_out hi]; exact ma_range x fun y hy => h y (by simp [hy])
theorem ch_unique : ∀ {a b : List Rn} {e d e' d' : Int}, Ch e d a → Ch e' d' b → (∀ x, ma a x = ma b x) → a = b
  | [], [], _, _, _, _, _, _, _ => rfl
  | [], s :: b, e, d, e', d', ha, hb, h => by
    have h1 := h s.a
    rw [ma_in (inR_yes.2 ⟨Int.le_refl _, by have := hb.1.1; omega⟩)] at h1
    have : ma [] s.a = -1 := rfl
    have := hb.1.2.1
    omega
  | r :: a, [], e, d, e', d', ha, hb, h => by
    have h1 := h r.a
    rw [ma_in (inR_yes.2 ⟨Int.le_refl _, by have := ha.1.1; omega⟩)] at h1
    have : ma [] r.a = -1 := rfl
    have := ha.1.2.1
    omega
  | r :: a, s :: b, e, d, e', d', ha, hb, h => by
    have hr : inR r r.a = true := inR_yes.2 ⟨Int.le_refl _, by have := ha.1.1; omega⟩
    have hs : inR s s.a = true := inR_yes.2 ⟨Int.le_refl _, by have := hb.1.1; omega⟩
    have r1 := ha.1.1
    have r2 := ha.1.2.1
    have s1 := hb.1.1
    have s2 := hb.1.2.1
    have e1 : s.a = r.a := by
      rcases Int.lt_trichotomy r.a s.a with h1 | h1 | h1
      · have h2 := h r.a
        rw [ma_in hr, ma_out (inR_no.2 (by omega)), Fo.low hb.2.fo (by omega)] at h2
        omega
      · exact h1.symm
      · have h2 := h s.a
        rw [ma_in hs, ma_out (inR_no.2 (by omega)), Fo.low ha.2.fo (by omega)] at h2
        omega
    have e2 : s.d = r.d := by
      have h2 := h r.a
      rw [ma_in hr, ma_in (inR_yes.2 ⟨by omega, by omega⟩)] at h2
      omega
    have key : ∀ {p q : Rn} {x y : List Rn}, Ch (p.a + p.m) (p.d + p.m) x → 1 ≤ p.m → 0 ≤ p.d → q.a = p.a → q.d = p.d → (∀ z, ma (p :: x) z = ma (q :: y) z) → ¬ p.m < q.m := by
      intro p q x y hx hp1 hp2 ha hd hz hlt
      have h2 := hz (p.a + p.m)
      rw [ma_out (inR_no.2 (by omega)), ma_in (inR_yes.2 ⟨by omega, by omega⟩)] at h2
      match x, hx with
      | [], _ => have : ma [] (p.a + p.m) = -1 := rfl; omega
      | t :: x, hx =>
        rcases Int.lt_or_le (p.a + p.m) t.a with h3 | h3
        · rw [Fo.low (l := t :: x) (e := t.a) ⟨⟨hx.1.1, hx.1.2.1, Int.le_refl _⟩, hx.2.fo⟩ h3] at h2
          omega
        · have h4 : t.a = p.a + p.m := by have := hx.1.2.2.1; omega
          rw [ma_in (inR_yes.2 ⟨by omega, by have := hx.1.1; omega⟩)] at h2
          exact hx.1.2.2.2 ⟨h4, by omega⟩
    have e3 : s.m = r.m := by
      rcases Int.lt_trichotomy r.m s.m with h1 | h1 | h1
      · exact absurd h1 (key ha.2 r1 r2 e1 e2 h)
      · exact h1.symm
      · exact absurd h1 (key hb.2 s1 s2 e1.symm e2.symm (fun z => (h z).symm))
    have e0 : s = r := by cases s; cases r; simp at e1 e2 e3 ⊢; exact ⟨e1, e2, e3⟩
    subst e0
    congr 1
    refine ch_unique ha.2 hb.2 fun x => ?_
    cases hi : inR s x with
    | true =>
      have := inR_yes.1 hi
      rw [Fo.low ha.2.fo (by omega), Fo.low hb.2.fo (by omega)]
    | false =>
      have := h x
      rw [ma_out hi, ma_out hi] at this
      exact this
/-! ### what an update maps -/
def fx (l : List Rn) (r : Rn) (put : Bool) (x : Int) : Int := if inR r x = true then (if put = true then r.d + x - r.a else -1) else ma l x
/-- The list for what the update maps. -/
structure Upd (l : List Rn) (r : Rn) (put : Bool) (out : List Rn) : Prop where
  ch : Ch (-1) 0 out
  is : ∀ x, ma out x = fx l r put x
theorem Upd.unique {l : List Rn} {r : Rn} {put : Bool} {a b : List Rn} (ha : Upd l r put a) (hb : Upd l r put b) : a = b := ch_unique ha.ch hb.ch fun x => (ha.is x).trans (hb.is x).symm
/-! ### pieces between edges -/
/-- Between two places without an edge between them the mapping goes on as it is. -/
def Cl (E : Int → Prop) (l : List Rn) : Prop := ∀ r ∈ l, E r.a ∧ E (r.a + r.m)
theorem ma_lin {E : Int → Prop} : ∀ {l : List Rn} {u x : Int}, Cl E l → u ≤ x → (∀ e, E e → ¬ (u < e ∧ e ≤ x)) → (∀ r ∈ l, 0 ≤ r.d) → (ma l u = -1 ∧ ma l x = -1) ∨ (0 ≤ ma l u ∧ ma l x = ma l u + (x - u))
  | [], u, x, _, _, _, _ => .inl ⟨rfl, rfl⟩
  | r :: l, u, x, hE, hu, hn, hd => by
    have h1 := hn _ (hE r (by simp)).1
    have h2 := hn _ (hE r (by simp)).2
    have h0 := hd r (by simp)
    cases hi : inR r u with
    | true =>
      have h3 := inR_yes.1 hi
      have hx : inR r x = true := inR_yes.2 ⟨by omega, by omega⟩
      rw [ma_in hi, ma_in hx]
      exact .inr ⟨by omega, by omega⟩
    | false =>
      have h3 := inR_no.1 hi
      have hx : inR r x = false := inR_no.2 (by omega)
      rw [ma_out hi, ma_out hx]
      exact ma_lin (fun y hy => hE y (by simp [hy])) hu hn fun y hy => hd y (by simp [hy])
theorem fx_lin {E : Int → Prop} {l : List Rn} {r : Rn} {put : Bool} {u x : Int} (hE : Cl E l) (hr : E r.a ∧ E (r.a + r.m)) (hu : u ≤ x) (hn : ∀ e, E e → ¬ (u < e ∧ e ≤ x)) (hd : ∀ r ∈ l, 0 ≤ r.d) (hd2 : 0 ≤ r.d) :
    (fx l r put u = -1 ∧ fx l r put x = -1) ∨ (0 ≤ fx l r put u ∧ fx l r put x = fx l r put u + (x - u)) := by
  have h1 := hn _ hr.1
  have h2 := hn _ hr.2
  unfold fx
  cases hi : inR r u with
  | true =>
    have h3 := inR_yes.1 hi
    have hx : inR r x = true := inR_yes.2 ⟨by omega, by omega⟩
    rw [hx]
    cases put with
    | true => simp; exact .inr ⟨by omega, by omega⟩
    | false => simp
  | false =>
    have h3 := inR_no.1 hi
    have hx : inR r x = false := inR_no.2 (by omega)
    rw [hx]
    simp only [Bool.false_eq_true, if_false]
    exact ma_lin hE hu hn hd
/-- The least edge behind u, if there is one. -/
def Nx (E : Int → Prop) (u t : Int) : Prop := E t ∧ u < t ∧ ∀ e, E e → u < e → t ≤ e
theorem Nx.one {E : Int → Prop} {u t t' : Int} (h : Nx E u t) (h' : Nx E u t') : t = t' := by
  have := h.2.2 _ h'.1 h'.2.1
  have := h'.2.2 _ h.1 h.2.1
  omega
/-- The pieces of the edges, whichever have been visited. -/
structure Pc (E : Int → Prop) (l : List Rn) (r : Rn) (put : Bool) (V : Int → Prop) (ps : List Rn) : Prop where
  piece : ∀ p ∈ ps, V p.a ∧ E p.a ∧ Nx E p.a (p.a + p.m) ∧ p.d = fx l r put p.a ∧ 0 ≤ p.d
  all : ∀ u t, V u → E u → Nx E u t → 0 ≤ fx l r put u → ⟨u, fx l r put u, t - u⟩ ∈ ps
  nd : ps.Pairwise fun p q => p.a ≠ q.a
theorem Pc.start {E : Int → Prop} {l : List Rn} {r : Rn} {put : Bool} : Pc E l r put (fun _ => False) [] := ⟨(fun p hp => by cases hp), (fun u t hu _ _ _ => False.elim hu), List.Pairwise.nil⟩
theorem Pc.add {E V : Int → Prop} {l : List Rn} {r : Rn} {put : Bool} {ps : List Rn} {u t : Int} (h : Pc E l r put V ps) (hV : ¬ V u) (hE : E u) (ht : Nx E u t) (h0 : 0 ≤ fx l r put u) : Pc E l r put (fun x => V x ∨ x = u) (ps ++ [⟨u, fx l r put u, t - u⟩]) := by
  refine ⟨fun p hp => ?_, fun v s hv hEv hs h0v => ?_, List.pairwise_append.2 ⟨h.nd, List.pairwise_singleton _ _, fun p hp q hq e => by
    rw [List.mem_singleton] at hq
    subst hq
    have h1 := (h.piece p hp).1
    have e : p.a = u := e
    rw [e] at h1
    exact hV h1⟩⟩
  · rcases List.mem_append.1 hp with hp | hp
    · obtain ⟨h1, h2⟩ := h.piece p hp
      exact ⟨.inl h1, h2⟩
    · rw [List.mem_singleton] at hp
      subst hp
      exact ⟨.inr rfl, hE, by show Nx E u (u + (t - u)); rw [show u + (t - u) = t by omega]; exact ht, rfl, h0⟩
  · rcases hv with hv | rfl
    · exact List.mem_append_left _ (h.all v s hv hEv hs h0v)
    · rw [hs.one ht]; simp
theorem Pc.skip {E V : Int → Prop} {l : List Rn} {r : Rn} {put : Bool} {ps : List Rn} {u : Int} (h : Pc E l r put V ps) (hn : (∀ t, ¬ Nx E u t) ∨ fx l r put u < 0) : Pc E l r put (fun x => V x ∨ x = u) ps := by
  refine ⟨fun p hp => ?_, fun v s hv hEv hs h0v => ?_, h.nd⟩
  · obtain ⟨h1, h2⟩ := h.piece p hp
    exact ⟨.inl h1, h2⟩
  · rcases hv with hv | rfl
    · exact h.all v s hv hEv hs h0v
    · rcases hn with hn | hn
      · exact absurd hs (hn s)
      · omega
/-- Sorted by their beginnings. -/
def Srt (ps : List Rn) : Prop := ps.Pairwise fun p q => p.a < q.a
theorem fo_of {E V : Int → Prop} {l : List Rn} {r : Rn} {put : Bool} : ∀ {ps : List Rn} {e : Int}, Srt ps → (∀ p ∈ ps, E p.a ∧ Nx E p.a (p.a + p.m) ∧ 0 ≤ p.d) → (∀ p ∈ ps, e ≤ p.a) → Fo e ps
  | [], _, _, _, _ => trivial
  | p :: ps, e, hs, hp, he => by
    obtain ⟨h1, h2⟩ := List.pairwise_cons.1 hs
    have hp0 := hp p (by simp)
    refine ⟨⟨by have := hp0.2.1.2.1; omega, hp0.2.2, he p (by simp)⟩, fo_of (V := V) (l := l) (r := r) (put := put) h2 (fun q hq => hp q (by simp [hq])) fun q hq => ?_⟩
    exact hp0.2.1.2.2 _ (hp q (by simp [hq])).1 (h1 q hq)
theorem Fo.hit : ∀ {ps : List Rn} {e : Int} {p : Rn} {x : Int}, Fo e ps → p ∈ ps → inR p x = true → ma ps x = x - p.a + p.d
  | q :: ps, e, p, x, h, hp, hi => by
    rcases List.mem_cons.1 hp with rfl | hp
    · exact ma_in hi
    · have h1 := Fo.each h.2 p hp
      have h2 := inR_yes.1 hi
      rw [ma_out (inR_no.2 (by omega))]
      exact Fo.hit h.2 hp hi
theorem Fo.miss : ∀ {ps : List Rn} {x : Int}, (∀ p ∈ ps, inR p x = false) → ma ps x = -1
  | [], _, _ => rfl
  | q :: ps, x, h => by
    rw [ma_out (h q (by simp))]
    exact Fo.miss fun p hp => h p (by simp [hp])
/-- A finite set of edges: behind a place, the least; up to a place, the greatest. -/
theorem least : ∀ (L : List Int) (u : Int), (∃ t, t ∈ L ∧ u < t) → ∃ t, Nx (· ∈ L) u t
  | [], u, ⟨t, ht, _⟩ => by cases ht
  | y :: L, u, h => by
    by_cases h2 : ∃ t, t ∈ L ∧ u < t
    · obtain ⟨t, ht1, ht2, ht3⟩ := least L u h2
      by_cases hy : u < y ∧ y < t
      · exact ⟨y, by simp, hy.1, fun e he hue => by
          rcases List.mem_cons.1 he with rfl | he
          · exact Int.le_refl _
          · have := ht3 e he hue; omega⟩
      · exact ⟨t, by simp [ht1], ht2, fun e he hue => by
          rcases List.mem_cons.1 he with rfl | he
          · omega
          · exact ht3 e he hue⟩
    · obtain ⟨t, ht, hu⟩ := h
      rcases List.mem_cons.1 ht with rfl | ht
      · exact ⟨t, by simp, hu, fun e he hue => by
          rcases List.mem_cons.1 he with rfl | he
          · exact Int.le_refl _
          · exact absurd ⟨e, he, hue⟩ h2⟩
      · exact absurd ⟨t, ht, hu⟩ h2
theorem greatest : ∀ (L : List Int) (x : Int), (∃ t, t ∈ L ∧ t ≤ x) → ∃ t, t ∈ L ∧ t ≤ x ∧ ∀ e, e ∈ L → e ≤ x → e ≤ t
  | [], _, ⟨t, ht, _⟩ => by cases ht
  | y :: L, x, h => by
    by_cases h2 : ∃ t, t ∈ L ∧ t ≤ x
    · obtain ⟨t, ht1, ht2, ht3⟩ := greatest L x h2
      by_cases hy : y ≤ x ∧ t < y
      · exact ⟨y, by simp, hy.1, fun e he hue => by
          rcases List.mem_cons.1 he with rfl | he
          · exact Int.le_refl _
          · have := ht3 e he hue; omega⟩
      · exact ⟨t, by simp [ht1], ht2, fun e he hue => by
          rcases List.mem_cons.1 he with rfl | he
          · omega
          · exact ht3 e he hue⟩
    · obtain ⟨t, ht, hu⟩ := h
      rcases List.mem_cons.1 ht with rfl | ht
      · exact ⟨t, by simp, hu, fun e he hue => by
          rcases List.mem_cons.1 he with rfl | he
          · exact Int.le_refl _
          · exact absurd ⟨e, he, hue⟩ h2⟩
      · exact absurd ⟨t, ht, hu⟩ h2
theorem ma_edges {E : Int → Prop} : ∀ {l : List Rn} {x : Int}, Cl E l → ma l x ≠ -1 → ∃ a b, E a ∧ E b ∧ a ≤ x ∧ x < b
  | [], _, _, h => absurd rfl h
  | r :: l, x, hE, h => by
    cases hi : inR r x with
    | true =>
      have := inR_yes.1 hi
      exact ⟨r.a, r.a + r.m, (hE r (by simp)).1, (hE r (by simp)).2, this.1, this.2⟩
    | false =>
      rw [ma_out hi] at h
      exact ma_edges (fun y hy => hE y (by simp [hy])) h
/-- All pieces, sorted: they follow one another and map what the update maps. -/
theorem pieces_done {L : List Int} {l : List Rn} {r : Rn} {put : Bool} {ps : List Rn} (hE : Cl (· ∈ L) l) (hr : r.a ∈ L ∧ r.a + r.m ∈ L) (hd : ∀ r ∈ l, 0 ≤ r.d) (hd2 : 0 ≤ r.d) (h0 : ∀ e ∈ L, 0 ≤ e)
    (h : Pc (· ∈ L) l r put (· ∈ L) ps) (hs : Srt ps) : Fo 0 ps ∧ ∀ x, ma ps x = fx l r put x := by
  have hf : Fo 0 ps := fo_of (V := (· ∈ L)) (l := l) (r := r) (put := put) hs (fun p hp => by obtain ⟨_, h1, h2, _, h3⟩ := h.piece p hp; exact ⟨h1, h2, h3⟩) fun p hp => h0 _ (h.piece p hp).2.1
  refine ⟨hf, fun x => ?_⟩
  by_cases hx : ∃ p, p ∈ ps ∧ inR p x = true
  · obtain ⟨p, hp, hi⟩ := hx
    rw [Fo.hit hf hp hi]
    obtain ⟨_, h1, h2, h3, h4⟩ := h.piece p hp
    have hi2 := inR_yes.1 hi
    have hl := fx_lin (put := put) (u := p.a) (x := x) hE hr hi2.1 (fun e he hee => by have := h2.2.2 e he hee.1; omega) hd hd2
    rcases hl with ⟨h5, _⟩ | ⟨_, h5⟩
    · omega
    · rw [h5, ← h3]; omega
  · have hno : ∀ p ∈ ps, inR p x = false := fun p hp => by
      cases hi : inR p x with
      | false => rfl
      | true => exact absurd ⟨p, hp, hi⟩ hx
    rw [Fo.miss hno]
    -- nothing is mapped here
    by_cases hfx : fx l r put x = -1
    · exact hfx.symm
    · exfalso
      have hab : ∃ a b, a ∈ L ∧ b ∈ L ∧ a ≤ x ∧ x < b := by
        unfold fx at hfx
        cases hi : inR r x with
        | true => have := inR_yes.1 hi; exact ⟨r.a, r.a + r.m, hr.1, hr.2, this.1, this.2⟩
        | false =>
          rw [hi] at hfx
          simp only [Bool.false_eq_true, if_false] at hfx
          exact ma_edges hE hfx
      obtain ⟨a, b, ha, hb, hax, hxb⟩ := hab
      obtain ⟨u, hu1, hu2, hu3⟩ := greatest L x ⟨a, ha, hax⟩
      obtain ⟨t, ht⟩ := least L u ⟨b, hb, by omega⟩
      have htx : x < t := by
        rcases Int.lt_or_le x t with h1 | h1
        · exact h1
        · have := hu3 t ht.1 h1; have := ht.2.1; omega
      have hl := fx_lin (put := put) (u := u) (x := x) hE hr hu2 (fun e he hee => by have := hu3 e he hee.2; omega) hd hd2
      rcases hl with ⟨_, h5⟩ | ⟨h5, _⟩
      · exact hfx h5
      · have hm := h.all u t hu1 hu1 ht h5
        have := hno _ hm
        rw [inR_no] at this
        exact this ⟨hu2, by show x < u + (t - u); omega⟩
/-! ### joining -/
def join2 (p q : Rn) : Rn := ⟨p.a, p.d, p.m + q.m⟩
def cont (p q : Rn) : Bool := decide (p.a + p.m = q.a) && decide (p.d + p.m = q.d)
theorem cont_yes {p q : Rn} : cont p q = true ↔ p.a + p.m = q.a ∧ p.d + p.m = q.d := by unfold cont; simp
theorem ma_join {p q : Rn} (h : cont p q = true) (hp : 1 ≤ p.m) (hq : 1 ≤ q.m) : ∀ (pre post : List Rn) (x : Int), ma (pre ++ join2 p q :: post) x = ma (pre ++ p :: q :: post) x
  | [], post, x => by
    obtain ⟨h1, h2⟩ := cont_yes.1 h
    show ma (join2 p q :: post) x = ma (p :: q :: post) x
    cases hi : inR p x with
    | true =>
      have := inR_yes.1 hi
      rw [ma_in hi, ma_in (r := join2 p q) (inR_yes.2 ⟨this.1, by show x < p.a + (p.m + q.m); omega⟩)]
      rfl
    | false =>
      have h3 := inR_no.1 hi
      rw [ma_out hi]
      cases hj : inR q x with
      | true =>
        have := inR_yes.1 hj
        rw [ma_in hj, ma_in (r := join2 p q) (inR_yes.2 ⟨by show p.a ≤ x; omega, by show x < p.a + (p.m + q.m); omega⟩)]
        show x - p.a + p.d = _
        omega
      | false =>
        have h4 := inR_no.1 hj
        rw [ma_out hj, ma_out (r := join2 p q) (inR_no.2 (by show ¬ (p.a ≤ x ∧ x < p.a + (p.m + q.m)); omega))]
  | y :: pre, post, x => by
    show ma (y :: (pre ++ join2 p q :: post)) x = ma (y :: (pre ++ p :: q :: post)) x
    cases hi : inR y x with
    | true => rw [ma_in hi, ma_in hi]
    | false => rw [ma_out hi, ma_out hi]; exact ma_join h hp hq pre post x
theorem Fo.join {p q : Rn} (h : cont p q = true) : ∀ {pre post : List Rn} {e : Int}, Fo e (pre ++ p :: q :: post) → Fo e (pre ++ join2 p q :: post)
  | [], post, e, hf => by
    obtain ⟨h1, h2⟩ := cont_yes.1 h
    obtain ⟨hp, hq, hr⟩ := hf
    refine ⟨⟨by show 1 ≤ p.m + q.m; omega, hp.2.1, hp.2.2⟩, ?_⟩
    show Fo (p.a + (p.m + q.m)) post
    rw [show p.a + (p.m + q.m) = q.a + q.m by omega]
    exact hr
  | y :: pre, post, e, hf => ⟨hf.1, Fo.join h hf.2⟩
/-- None of the first ones continues the one ahead of it. -/
def Nc : List Rn → Prop
  | p :: q :: l => cont p q = false ∧ Nc (q :: l)
  | _ => True
theorem ch_of : ∀ {l : List Rn} {e d : Int}, Fo e l → Nc l → (∀ r, l.head? = some r → ¬ (r.a = e ∧ r.d = d)) → Ch e d l
  | [], _, _, _, _, _ => trivial
  | [p], e, d, hf, _, h => ⟨⟨hf.1.1, hf.1.2.1, hf.1.2.2, h p rfl⟩, trivial⟩
  | p :: q :: l, e, d, hf, hn, h => by
    refine ⟨⟨hf.1.1, hf.1.2.1, hf.1.2.2, h p rfl⟩, ch_of hf.2 hn.2 fun r hr => ?_⟩
    cases hr
    intro hc
    have := hn.1
    rw [← Bool.not_eq_true, cont_yes] at this
    exact this ⟨hc.1.symm, hc.2.symm⟩
theorem nc_snoc {q p : Rn} : ∀ {l : List Rn}, Nc (l ++ [p]) → cont p q = false → Nc (l ++ [p, q])
  | [], _, h => ⟨h, trivial⟩
  | [x], h1, h => ⟨h1.1, h, trivial⟩
  | x :: y :: l, h1, h => ⟨h1.1, nc_snoc (l := y :: l) h1.2 h⟩
theorem nc_last {p p' : Rn} (ha : p'.a = p.a) (hd : p'.d = p.d) : ∀ {l : List Rn}, Nc (l ++ [p]) → Nc (l ++ [p'])
  | [], _ => trivial
  | [x], h => ⟨by have := h.1; unfold cont at *; rw [ha, hd]; exact this, trivial⟩
  | x :: y :: l, h => ⟨h.1, nc_last ha hd (l := y :: l) h.2⟩
theorem upd_of {l : List Rn} {r : Rn} {put : Bool} {out : List Rn} (hf : Fo 0 out) (hn : Nc out) (hm : ∀ x, ma out x = fx l r put x) : Upd l r put out :=
  ⟨ch_of (hf.mono (by omega)) hn fun r hr hc => by
    cases out with
    | nil => cases hr
    | cons y out => cases hr; have := hf.1.2.2; omega, hm⟩
end Go.Proofs.Ytfcihgincfcdkaa.Rns
