/-
  What the laws ask, of the answers as functions: the plain mathematics.
-/
import Derived.Test.YtiagbacmjiimpaaECon
namespace Go.Proofs.Ytiagbacmjiimpaa.Dir
set_option linter.unusedVariables false

theorem ae_ok {l : List En} {e : En} : ae l e = 0 ↔ rt l = true ∧ good e.n = true ∧ has l e.n = false := by
  unfold ae
  cases rt l <;> cases good e.n <;> cases has l e.n <;> simp
theorem re_ok {l : List En} {nm : List UInt8} : re l nm = 0 ↔ rt l = true ∧ has l nm = true := by
  unfold re
  cases rt l <;> cases has l nm <;> simp
theorem fe_ok {l : List En} {nm : List UInt8} : fe l nm = 0 ↔ rt l = true ∧ has l nm = true := re_ok
theorem ne_ok {l : List En} {f t : List UInt8} : ne l f t = 0 ↔ rt l = true ∧ has l f = true ∧ (f = t ∨ (good t = true ∧ has l t = false)) := by
  unfold ne
  by_cases h : f = t
  · cases rt l <;> cases has l f <;> simp [h]
  · cases rt l <;> cases has l f <;> cases good t <;> cases has l t <;> simp [h]
theorem al_yes {l : List En} {e : En} (h : ae l e = 0) : al l e = insE e l := if_pos h
theorem al_no {l : List En} {e : En} (h : ae l e ≠ 0) : al l e = [] := if_neg h
theorem rl_yes {l : List En} {nm : List UInt8} (h : re l nm = 0) : rl l nm = del l nm := if_pos h
theorem rl_no {l : List En} {nm : List UInt8} (h : re l nm ≠ 0) : rl l nm = [] := if_neg h
theorem nl_no {l : List En} {f t : List UInt8} (h : ne l f t ≠ 0) : nl l f t = [] := if_neg h
theorem has_ne {l : List En} {nm : List UInt8} (h : has l nm = false) : ∀ x ∈ l, x.n ≠ nm := has_no h
theorem rt_ins {l : List En} {e : En} (h : rt l = true) (hg : good e.n = true) (hn : has l e.n = false) : rt (insE e l) = true := by
  obtain ⟨h1, h2⟩ := rt_iff.1 h
  refine rt_iff.2 ⟨fun x hx => ?_, h2.ins (has_no hn)⟩
  rcases mem_insE.1 hx with rfl | hx
  · exact hg
  · exact h1 x hx
theorem rt_del {l : List En} (h : rt l = true) (nm : List UInt8) : rt (del l nm) = true := by
  obtain ⟨h1, h2⟩ := rt_iff.1 h
  exact rt_iff.2 ⟨fun x hx => h1 x (List.mem_of_mem_eraseP hx), h2.del nm⟩
/-! ### adding -/
theorem add_order {l : List En} {a b : En} (h1 : ae l a = 0) (h2 : ae (al l a) b = 0) : ae l b = 0 ∧ ae (al l b) a = 0 ∧ al (al l a) b = al (al l b) a := by
  obtain ⟨a1, a2, a3⟩ := ae_ok.1 h1
  rw [al_yes h1] at h2 ⊢
  obtain ⟨b1, b2, b3⟩ := ae_ok.1 h2
  rw [has_ins] at b3
  simp at b3
  have h3 : ae l b = 0 := ae_ok.2 ⟨a1, b2, b3.2⟩
  rw [al_yes h3, al_yes h2]
  have h4 : ae (insE b l) a = 0 := ae_ok.2 ⟨rt_ins a1 b2 b3.2, a2, by rw [has_ins, a3, Bool.or_false, decide_eq_false_iff_not]; exact fun e => b3.1 e.symm⟩
  refine ⟨h3, h4, ?_⟩
  rw [al_yes h4]
  obtain ⟨_, s1⟩ := rt_iff.1 (rt_ins (ae_ok.1 h2).1 b2 (ae_ok.1 h2).2.2)
  obtain ⟨_, s2⟩ := rt_iff.1 (rt_ins (ae_ok.1 h4).1 a2 (ae_ok.1 h4).2.2)
  refine s1.eq_of s2 fun x => ?_
  rw [mem_insE, mem_insE, mem_insE, mem_insE]
  constructor
  · rintro (h | h | h)
    · exact .inr (.inl h)
    · exact .inl h
    · exact .inr (.inr h)
  · rintro (h | h | h)
    · exact .inr (.inl h)
    · exact .inl h
    · exact .inr (.inr h)
theorem add_back {l : List En} {e : En} (h : ae l e = 0) (other : List UInt8) :
    fe (al l e) e.n = 0 ∧ fv (al l e) e.n = e.i ∧ (other ≠ e.n → fe l other = fe (al l e) other ∧ fv l other = fv (al l e) other) ∧ re (al l e) e.n = 0 ∧ rl (al l e) e.n = l ∧ rt (al l e) = true := by
  obtain ⟨a1, a2, a3⟩ := ae_ok.1 h
  rw [al_yes h]
  have hr := rt_ins a1 a2 a3
  obtain ⟨_, s0⟩ := rt_iff.1 a1
  obtain ⟨_, s1⟩ := rt_iff.1 hr
  have hm : e ∈ insE e l := mem_insE.2 (.inl rfl)
  have hh : has (insE e l) e.n = true := has_iff.2 ⟨e, hm, rfl⟩
  have hf : fe (insE e l) e.n = 0 := fe_ok.2 ⟨hr, hh⟩
  have hre : re (insE e l) e.n = 0 := re_ok.2 ⟨hr, hh⟩
  refine ⟨hf, by unfold fv; rw [if_pos hf]; exact fnd_of s1 hm, fun ho => ?_, hre, ?_, hr⟩
  · obtain ⟨f1, f2⟩ := fnd_same (nm := other) s0 s1 fun x hx => by
      rw [mem_insE]
      exact ⟨fun h => .inr h, fun h => h.resolve_left (fun e2 => ho (by rw [← hx, e2]))⟩
    have hfe : fe l other = fe (insE e l) other := by unfold fe; rw [a1, hr, f2]
    exact ⟨hfe, by unfold fv; rw [hfe, f1]⟩
  · rw [rl_yes hre]
    refine (s1.del e.n).eq_of s0 fun x => ?_
    rw [mem_del s1, mem_insE]
    constructor
    · rintro ⟨rfl | h, hn⟩
      · exact absurd rfl hn
      · exact h
    · exact fun h => ⟨.inr h, has_no a3 x h⟩
theorem al_length {l : List En} {e : En} (h : ae l e = 0) : (al l e).length = l.length + 1 := by rw [al_yes h, insE_length]
theorem rl_length {l : List En} {nm : List UInt8} (h : re l nm = 0) : (rl l nm).length + 1 = l.length := by rw [rl_yes h, del_length (re_ok.1 h).2]
theorem not_both {l : List En} {e : En} (h : ae l e = 0) : re l e.n ≠ 0 := fun h2 => by
  have := (ae_ok.1 h).2.2
  rw [(re_ok.1 h2).2] at this
  cases this
theorem each_found {l : List En} (h : rt l = true) {x : En} (hx : x ∈ l) : fe l x.n = 0 ∧ fv l x.n = x.i := by
  have hf : fe l x.n = 0 := fe_ok.2 ⟨h, has_iff.2 ⟨x, hx, rfl⟩⟩
  exact ⟨hf, by unfold fv; rw [if_pos hf]; exact fnd_of (rt_iff.1 h).2 hx⟩
theorem al_le (l : List En) (e : En) : (al l e).length ≤ l.length + 1 := by
  by_cases h : ae l e = 0
  · rw [al_length h]; exact Nat.le_refl _
  · rw [al_no h]; exact Nat.zero_le _
theorem rl_le (l : List En) (nm : List UInt8) : (rl l nm).length ≤ l.length := by
  by_cases h : re l nm = 0
  · have := rl_length h; omega
  · rw [rl_no h]; exact Nat.zero_le _
/-! ### renaming -/
/-- The entry renamed. -/
theorem nl_mem {l : List En} {f t : List UInt8} (h : ne l f t = 0) (hft : f ≠ t) : ∃ x ∈ l, x.n = f ∧ fnd l f = x.i ∧ nl l f t = insE ⟨t, x.i⟩ (del l f) ∧ rt (nl l f t) = true ∧ ∀ y, y ∈ nl l f t ↔ y = ⟨t, x.i⟩ ∨ (y ∈ l ∧ y.n ≠ f) := by
  obtain ⟨h1, h2, h3⟩ := ne_ok.1 h
  obtain ⟨k3, k4⟩ := h3.resolve_left hft
  obtain ⟨x, hx, rfl⟩ := has_iff.1 h2
  have hs := (rt_iff.1 h1).2
  have hf := fnd_of hs hx
  have hd : has (del l x.n) t = false := by rw [has_del hs, k4]; rfl
  have e : nl l x.n t = insE ⟨t, x.i⟩ (del l x.n) := by unfold nl; rw [if_pos h, if_neg hft, hf]
  refine ⟨x, hx, rfl, hf, e, ?_, fun y => ?_⟩
  · rw [e]; exact rt_ins (rt_del h1 _) k3 hd
  · rw [e, mem_insE, mem_del hs]
theorem ren_same {l : List En} {f : List UInt8} (h : ne l f f = 0) : nl l f f = l := by unfold nl; rw [if_pos h, if_pos rfl]
theorem ren_facts {l : List En} {f t : List UInt8} (h : ne l f t = 0) :
    fe l f = 0 ∧ fe (nl l f t) t = 0 ∧ fv l f = fv (nl l f t) t ∧ ne (nl l f t) t f = 0 ∧ nl (nl l f t) t f = l ∧ (decide (fe (nl l f t) f = 3) = !decide (f = t)) ∧ (nl l f t).length = l.length := by
  obtain ⟨h1, h2, h3⟩ := ne_ok.1 h
  have hff : fe l f = 0 := fe_ok.2 ⟨h1, h2⟩
  by_cases hft : f = t
  · subst hft
    rw [ren_same h]
    refine ⟨hff, hff, rfl, h, ren_same h, ?_, rfl⟩
    rw [hff]; simp
  · obtain ⟨x, hx, rfl, hfx, e, hr, hm⟩ := nl_mem h hft
    obtain ⟨h4, h5⟩ := h3.resolve_left hft
    have hs := (rt_iff.1 h1).2
    have hsr := (rt_iff.1 hr).2
    have hin : (⟨t, x.i⟩ : En) ∈ nl l x.n t := (hm _).2 (.inl rfl)
    have ht : has (nl l x.n t) t = true := has_iff.2 ⟨_, hin, rfl⟩
    have hft2 : fe (nl l x.n t) t = 0 := fe_ok.2 ⟨hr, ht⟩
    have hno : has (nl l x.n t) x.n = false := by
      rw [← Bool.not_eq_true, has_iff]
      rintro ⟨y, hy, hn⟩
      rcases (hm y).1 hy with rfl | ⟨_, h⟩
      · exact hft hn.symm
      · exact h hn
    have hbk : ne (nl l x.n t) t x.n = 0 := ne_ok.2 ⟨hr, ht, .inr ⟨(rt_iff.1 h1).1 x hx, hno⟩⟩
    refine ⟨hff, hft2, ?_, hbk, ?_, ?_, ?_⟩
    · unfold fv
      rw [if_pos hff, if_pos hft2, hfx]
      exact (fnd_of hsr hin).symm
    · obtain ⟨y, hy, hyn, hfy, e2, hr2, hm2⟩ := nl_mem hbk (fun e => hft e.symm)
      have hyx : y = ⟨t, x.i⟩ := hsr.one hy hin hyn
      subst hyx
      refine ((rt_iff.1 hr2).2).eq_of hs fun z => ?_
      rw [hm2, hm]
      constructor
      · rintro (rfl | ⟨rfl | ⟨h6, h7⟩, h8⟩)
        · exact hx
        · exact absurd rfl h8
        · exact h6
      · intro hz
        by_cases hzn : z.n = x.n
        · exact .inl (by have := hs.one hz hx hzn; subst this; rfl)
        · exact .inr ⟨.inr ⟨hz, hzn⟩, has_no h5 z hz⟩
    · have : fe (nl l x.n t) x.n = 3 := by unfold fe; rw [hr, hno]; simp
      rw [this]; simp [hft]
    · rw [e, insE_length, del_length h2]
theorem nl_le (l : List En) (f t : List UInt8) : (nl l f t).length ≤ l.length := by
  by_cases h : ne l f t = 0
  · rw [(ren_facts h).2.2.2.2.2.2]; exact Nat.le_refl _
  · rw [nl_no h]; exact Nat.zero_le _
end Go.Proofs.Ytiagbacmjiimpaa.Dir
