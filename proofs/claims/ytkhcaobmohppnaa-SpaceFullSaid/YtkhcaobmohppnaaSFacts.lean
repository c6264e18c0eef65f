/-
  What the laws say of a step: the plain mathematics.
-/
import Derived.Test.YtkhcaobmohppnaaSSpec
namespace Go.Proofs.Ytkhcaobmohppnaa.Spc
set_option linter.unusedVariables false

theorem ok_parts {s : Int} {l : List Gp} {o : Sp} (h : ser s l o = 0) : okRow s l = true ∧ (o.k = 1 ∨ o.k = 2 ∨ o.k = 3) ∧ ¬ (o.m < 1 ∨ s < o.m ∨ (o.k = 3 ∧ (o.a < 0 ∨ s - o.m < o.a))) ∧ ¬ (o.k ≠ 3 ∧ (pk o l).1 < 0) ∧ ¬ (o.k = 3 ∧ heldF l o.a o.m.toNat = true) := by
  unfold ser at h
  split at h
  · cases h
  · rename_i h1
    split at h
    · cases h
    · rename_i h2
      split at h
      · cases h
      · rename_i h3
        split at h
        · cases h
        · rename_i h4
          split at h
          · cases h
          · rename_i h5
            exact ⟨by simpa using h1, Classical.byContradiction h2, h3, h4, h5⟩
/-! ### a new list -/
theorem setR_ok {s : Int} {l : List Gp} {a m : Int} {b : Bool} (h : okRow s l = true) : okRow s (gk (setR s.toNat l a m b) s.toNat) = true ∧ ∀ x : Nat, (x : Int) < s → mem (gk (setR s.toNat l a m b) s.toNat) x = if a ≤ x ∧ (x : Int) < a + m then b else mem l x := by
  obtain ⟨h1, h2, h3⟩ := ok_ch h
  have g := gk_gi (setR s.toNat l a m b) s.toNat
  have e : ((s.toNat : Nat) : Int) = s := by omega
  refine ⟨ok_of_ch h1 h2 (by have := g.ch; rwa [e] at this), fun x hx => ?_⟩
  have hxn : x < s.toNat := by omega
  rw [g.is x, at_setR hxn]
  simp [hxn]
theorem va_of {s : Int} {l : List Gp} (h : okRow s l = true) : va 4096 l = true := by
  obtain ⟨h1, h2, h3⟩ := ok_ch h
  exact va_ch.2 (h3.le h2)
/-! ### taking -/
theorem pk_room {s : Int} {l : List Gp} {o : Sp} (h : okRow s l = true) : decide (0 ≤ (pk o l).1) = l.any fun g => decide (o.m ≤ g.m) := by
  obtain ⟨h1, h2, h3⟩ := ok_ch h
  have hp := pk_pk (o := o) (l := l) fun g hg => by have := h3.each g hg; omega
  rcases hp with ⟨e, hn⟩ | ⟨g, hg, e, hm⟩
  · rw [e]
    symm
    rw [decide_eq_false (by omega), ← Bool.not_eq_true, List.any_eq_true]
    rintro ⟨g, hg, hd⟩
    have := hn g hg
    simp at hd
    omega
  · have := h3.each g hg
    rw [e]
    simp only
    rw [decide_eq_true (by omega)]
    symm
    rw [List.any_eq_true]
    exact ⟨g, hg, by simpa using hm⟩
theorem pk1_stay {o : Sp} (hk : o.k = 1) : ∀ {l : List Gp} {st : Int × Int}, 0 ≤ st.1 → l.foldl (pkS o) st = st
  | [], _, _ => rfl
  | g :: l, st, h => by
    show l.foldl (pkS o) (pkS o st g) = st
    rw [pkS_no (by rintro ⟨_, h2 | h2⟩ <;> omega)]
    exact pk1_stay hk h
/-- The first one lies ahead of all that are large enough. -/
theorem pk1_first {o : Sp} (hk : o.k = 1) {s : Int} : ∀ {l : List Gp} {last : Int}, -1 ≤ last → Ch s last l → ∀ g ∈ l, o.m ≤ g.m → (pk o l).1 ≤ g.a
  | x :: l, last, hl, h, g, hg, hm => by
    unfold pk
    show (l.foldl (pkS o) (pkS o (-1, 0) x)).1 ≤ g.a
    by_cases h1 : o.m ≤ x.m
    · rw [pkS_yes h1 (.inl (by show (-1 : Int) < 0; omega)), pk1_stay hk (by show 0 ≤ x.a; have := h.1; omega)]
      rcases List.mem_cons.1 hg with rfl | hg
      · exact Int.le_refl _
      · have := h.2.each g hg
        have := h.1
        show x.a ≤ g.a
        omega
    · rw [pkS_no (fun hc => h1 hc.1)]
      rcases List.mem_cons.1 hg with rfl | hg
      · exact absurd hm h1
      · exact pk1_first hk (by have := h.1; omega) h.2 g hg hm
/-- SpaceFull: the two errors. -/
theorem full_same {s : Int} {l : List Gp} {m : Int} (h0 : ser s l ⟨1, 0, m⟩ ≠ 0) (h4 : ser s l ⟨1, 0, m⟩ ≠ 4) : ser s l ⟨2, 0, m⟩ = ser s l ⟨1, 0, m⟩ := by
  cases hf : okRow s l with
  | false => rw [ser_form _ hf, ser_form _ hf]
  | true =>
    by_cases hr : m < 1 ∨ s < m
    · rw [ser_range (o := ⟨1, 0, m⟩) hf (by simp) (by simp only; omega), ser_range (o := ⟨2, 0, m⟩) hf (by simp) (by simp only; omega)]
    · exfalso
      by_cases hp : (pk ⟨1, 0, m⟩ l).1 < 0
      · exact h4 (ser_full (o := ⟨1, 0, m⟩) hf (by simp) (by simp only; omega) (by simp) hp)
      · exact h0 (ser_take (o := ⟨1, 0, m⟩) hf (by simp) (by simp only; omega) (by simp) hp)
theorem full_room {s : Int} {l : List Gp} {m : Int} (h : ser s l ⟨1, 0, m⟩ = 0 ∨ ser s l ⟨1, 0, m⟩ = 4) :
    (ser s l ⟨1, 0, m⟩ = 0 ∧ ser s l ⟨2, 0, m⟩ = 0 ∧ (l.any fun g => decide (m ≤ g.m)) = true ∧ sat s l ⟨1, 0, m⟩ ≤ sat s l ⟨2, 0, m⟩) ∨ (ser s l ⟨1, 0, m⟩ = 4 ∧ ser s l ⟨2, 0, m⟩ = 4 ∧ (l.any fun g => decide (m ≤ g.m)) = false) := by
  cases hf : okRow s l with
  | false => rw [ser_form _ hf] at h; omega
  | true =>
    by_cases hr : m < 1 ∨ s < m
    · rw [ser_range (o := ⟨1, 0, m⟩) hf (by simp) (by simp only; omega)] at h; omega
    · have r1 := pk_room (o := ⟨1, 0, m⟩) hf
      have r2 := pk_room (o := ⟨2, 0, m⟩) hf
      simp only at r1 r2
      obtain ⟨h1, h2, h3⟩ := ok_ch hf
      cases hz : l.any fun g => decide (m ≤ g.m) with
      | false =>
        rw [hz] at r1 r2
        have p1 : (pk ⟨1, 0, m⟩ l).1 < 0 := by have := of_decide_eq_false r1; omega
        have p2 : (pk ⟨2, 0, m⟩ l).1 < 0 := by have := of_decide_eq_false r2; omega
        exact .inr ⟨ser_full (o := ⟨1, 0, m⟩) hf (by simp) (by simp only; omega) (by simp) p1, ser_full (o := ⟨2, 0, m⟩) hf (by simp) (by simp only; omega) (by simp) p2, rfl⟩
      | true =>
        rw [hz] at r1 r2
        have p1 := of_decide_eq_true r1
        have p2 := of_decide_eq_true r2
        have e1 := ser_take (o := ⟨1, 0, m⟩) hf (by simp) (by simp only; omega) (by simp) (by omega)
        have e2 := ser_take (o := ⟨2, 0, m⟩) hf (by simp) (by simp only; omega) (by simp) (by omega)
        refine .inl ⟨e1, e2, rfl, ?_⟩
        rw [(sgl_yes e1).2, (sgl_yes e2).2]
        show (if (1 : Int) = 3 then (0 : Int) else (pk ⟨1, 0, m⟩ l).1) ≤ (if (2 : Int) = 3 then (0 : Int) else (pk ⟨2, 0, m⟩ l).1)
        rw [if_neg (by omega), if_neg (by omega)]
        rcases pk_pk (o := ⟨2, 0, m⟩) (l := l) (fun g hg => by have := h3.each g hg; omega) with ⟨e, _⟩ | ⟨g, hg, e, hm⟩
        · rw [e] at p2; simp at p2
        · rw [e]
          exact pk1_first (o := ⟨1, 0, m⟩) rfl (by omega) h3 g hg hm
/-! ### taking and giving back -/
theorem take_parts {s : Int} {l : List Gp} {K m : Int} (hK : K = 1 ∨ K = 2) (h : ser s l ⟨K, 0, m⟩ = 0) :
    okRow s l = true ∧ 1 ≤ m ∧ m ≤ s ∧ ∃ g ∈ l, sat s l ⟨K, 0, m⟩ = g.a ∧ m ≤ g.m ∧ 0 ≤ g.a ∧ g.a + g.m ≤ s := by
  obtain ⟨h1, h2, h3, h4, h5⟩ := ok_parts h
  obtain ⟨c1, c2, c3⟩ := ok_ch h1
  simp only at h3 h4
  have hk3 : K ≠ 3 := by omega
  have hp : ¬ (pk ⟨K, 0, m⟩ l).1 < 0 := fun hc => h4 ⟨hk3, hc⟩
  refine ⟨h1, by omega, by omega, ?_⟩
  rcases pk_pk (o := ⟨K, 0, m⟩) (l := l) (fun g hg => by have := c3.each g hg; omega) with ⟨e, _⟩ | ⟨g, hg, e, hm⟩
  · rw [e] at hp; exact absurd (by show (-1 : Int) < 0; omega) hp
  · have := c3.each g hg
    refine ⟨g, hg, ?_, hm, by omega, by omega⟩
    rw [(sgl_yes h).2]
    show (if K = 3 then (0 : Int) else (pk ⟨K, 0, m⟩ l).1) = g.a
    rw [if_neg hk3, e]
theorem back_facts {s : Int} {l : List Gp} {K m : Int} (hK : K = 1 ∨ K = 2) (h : ser s l ⟨K, 0, m⟩ = 0) :
    0 ≤ sat s l ⟨K, 0, m⟩ ∧ sat s l ⟨K, 0, m⟩ + m ≤ s ∧ (l.any fun g => decide (g.a ≤ sat s l ⟨K, 0, m⟩) && decide (sat s l ⟨K, 0, m⟩ + m ≤ g.a + g.m)) = true ∧ va 4096 (sgl s l ⟨K, 0, m⟩) = true ∧
      ser s (sgl s l ⟨K, 0, m⟩) ⟨3, sat s l ⟨K, 0, m⟩, m⟩ = 0 ∧ sat s (sgl s l ⟨K, 0, m⟩) ⟨3, sat s l ⟨K, 0, m⟩, m⟩ = sat s l ⟨K, 0, m⟩ ∧ sgl s (sgl s l ⟨K, 0, m⟩) ⟨3, sat s l ⟨K, 0, m⟩, m⟩ = l ∧ ser s l ⟨3, sat s l ⟨K, 0, m⟩, m⟩ = 6 := by
  obtain ⟨h1, r1, r2, g, hg, ha, hm, g0, g1⟩ := take_parts hK h
  obtain ⟨c1, c2, c3⟩ := ok_ch h1
  have hk3 : K ≠ 3 := by omega
  have hL := (sgl_yes h).1
  have hA := (sgl_yes h).2
  obtain ⟨a, hae⟩ : ∃ a, a = sat s l ⟨K, 0, m⟩ := ⟨_, rfl⟩
  have hL' : sgl s l ⟨K, 0, m⟩ = gk (setR s.toNat l a m false) s.toNat := by
    rw [hL, ← hA, ← hae]
    show gk (setR s.toNat l a m (decide (K = 3))) s.toNat = _
    rw [decide_eq_false hk3]
  rw [← hae] at ha ⊢
  obtain ⟨M, hM⟩ : ∃ M, M = sgl s l ⟨K, 0, m⟩ := ⟨_, rfl⟩
  rw [← hM] at hL' ⊢
  obtain ⟨m1, m2⟩ := setR_ok (a := a) (m := m) (b := false) h1
  rw [← hL'] at m1 m2
  have hin : ∀ x : Int, a ≤ x → x < a + m → mem l x = true := fun x h1 h2 => mem_yes.2 ⟨g, hg, inG_yes.2 ⟨by omega, by omega⟩⟩
  have hfree : heldF M a m.toNat = false := by
    unfold heldF
    rw [← Bool.not_eq_true, List.any_eq_true]
    rintro ⟨j, hj, h2⟩
    have hj := List.mem_range.1 hj
    obtain ⟨x, hx⟩ : ∃ x : Nat, (x : Int) = a + j := ⟨(a + j).toNat, by omega⟩
    rw [← hx, m2 x (by omega), if_pos (by omega)] at h2
    cases h2
  have hheld : heldF l a m.toNat = true := by
    unfold heldF
    rw [List.any_eq_true]
    exact ⟨0, List.mem_range.2 (by omega), hin _ (by simp) (by simp; omega)⟩
  have e0 := ser_give (o := ⟨3, a, m⟩) m1 (by simp only; omega) rfl hfree
  refine ⟨by omega, by omega, List.any_eq_true.2 ⟨g, hg, by simp; omega⟩, va_of m1, e0, ?_, ?_, ser_held (o := ⟨3, a, m⟩) h1 (by simp only; omega) rfl hheld⟩
  · rw [(sgl_yes e0).2]; rfl
  · rw [(sgl_yes e0).1]
    show gk (setR s.toNat M a m true) s.toNat = l
    refine gk_of (by rw [show ((s.toNat : Nat) : Int) = s by omega]; exact c3) fun x hx => ?_
    rw [at_setR hx]
    by_cases hc : a ≤ x ∧ (x : Int) < a + m
    · rw [if_pos hc, hin x hc.1 hc.2]
    · rw [if_neg hc, m2 x (by omega), if_neg hc]
theorem back_none {s : Int} {l : List Gp} {o : Sp} (h : ser s l o ≠ 0) : sgl s l o = [] ∧ sat s l o = 0 := sgl_no h
end Go.Proofs.Ytkhcaobmohppnaa.Spc
