/-
  What taking and giving leave of the list of gaps, as the program does it: the plain mathematics.
-/
import Derived.Test.YtkhcaobmohppnaaDFind
namespace Go.Proofs.Ytkhcaobmohppnaa.Spc
set_option linter.unusedVariables false

theorem ok_sums {s : Int} {l : List Gp} (h : okRow s l = true) : ∀ x ∈ l, 0 ≤ x.a ∧ 1 ≤ x.m ∧ x.a + x.m ≤ 4096 := by
  obtain ⟨h1, h2, h3⟩ := ok_ch h
  intro x hx
  have := h3.each x hx
  omega
theorem ok_len {s : Int} {l : List Gp} (h : okRow s l = true) : l.length ≤ 4096 := by
  obtain ⟨h1, h2, h3⟩ := ok_ch h
  have e := gk_row h
  have := gk_length (rowOf l s.toNat) s.toNat
  rw [e] at this
  omega
theorem parts {l : List Gp} {i : Nat} (h : i < l.length) : l = l.take i ++ gth l i :: l.drop (i + 1) := by
  rw [← drop_next (gth_get h), List.take_append_drop]
/-- The elements behind one begin behind its end. -/
theorem ch_after {s last : Int} {l : List Gp} {i : Nat} (h : Ch s last l) (hi : i < l.length) : ∀ q ∈ l.drop (i + 1), (gth l i).a + (gth l i).m < q.a := by
  rw [parts hi] at h
  obtain ⟨e, _, hY, _, _⟩ := h.right
  exact fun q hq => (hY.2.each q hq).1
theorem ch_before {s last : Int} {l : List Gp} {i : Nat} (h : Ch s last l) (hi : i < l.length) : ∀ p ∈ l.take i, p.a + p.m < (gth l i).a := by
  rw [parts hi] at h
  obtain ⟨e, _, hY, hX, _⟩ := h.right
  intro p hp
  have := hX p hp
  have := hY.1.1
  omega
theorem mem_take_gth {l : List Gp} {i : Nat} {p : Gp} (h : p ∈ l.take i) : ∃ j, j < i ∧ j < l.length ∧ p = gth l j := by
  obtain ⟨j, hj⟩ := List.mem_iff_getElem?.1 h
  have h1 := (List.getElem?_eq_some_iff.1 hj).1
  rw [List.length_take] at h1
  rw [List.getElem?_take_of_lt (by omega)] at hj
  exact ⟨j, by omega, by omega, (gth_of hj).symm⟩
theorem cnt_exists (l : List Gp) (a : Int) : ∃ i, Cnt l a i := by
  have : ∀ k, k ≤ l.length → (∃ i, Cnt l a i) ∨ ∀ j, j < k → (gth l j).a + (gth l j).m ≤ a := by
    intro k
    induction k with
    | zero => exact fun _ => .inr fun j hj => absurd hj (by omega)
    | succ k ih =>
      intro hk
      rcases ih (by omega) with h | h
      · exact .inl h
      · by_cases hc : (gth l k).a + (gth l k).m ≤ a
        · refine .inr fun j hj => ?_
          by_cases hjk : j = k
          · subst hjk; exact hc
          · exact h j (by omega)
        · exact .inl ⟨k, by omega, h, fun _ => by omega⟩
  rcases this l.length (Nat.le_refl _) with h | h
  · exact h
  · exact ⟨l.length, Nat.le_refl _, h, fun h => absurd h (by omega)⟩
section
variable {s a m : Int} {l : List Gp} {i : Nat}
theorem Cnt.pre (h : Cnt l a i) : ∀ p ∈ l.take i, p.a + p.m ≤ a := fun p hp => by
  obtain ⟨j, h1, _, rfl⟩ := mem_take_gth hp
  exact h.2.1 j h1
theorem give_held_is (hok : okRow s l = true) (hc : Cnt l a i) (h0 : 0 ≤ a) (h1 : 1 ≤ m) (h2 : a + m ≤ s) (hi : i < l.length) (hh : (gth l i).a < a + m) : ser s l ⟨3, a, m⟩ = 6 := by
  refine ser_held hok (by simp; omega) rfl ?_
  have he := hc.2.2 hi
  have hs := ok_sums hok _ (List.mem_of_getElem? (gth_get hi))
  show heldF l a m.toNat = true
  unfold heldF
  rw [List.any_eq_true]
  by_cases hc : a ≤ (gth l i).a
  · refine ⟨((gth l i).a - a).toNat, List.mem_range.2 (by omega), mem_yes.2 ⟨gth l i, List.mem_of_getElem? (gth_get hi), inG_yes.2 ?_⟩⟩
    omega
  · refine ⟨0, List.mem_range.2 (by omega), mem_yes.2 ⟨gth l i, List.mem_of_getElem? (gth_get hi), inG_yes.2 ?_⟩⟩
    omega
/-- All that lies behind begins at the end or behind it. -/
theorem Cnt.post (hok : okRow s l = true) (hf : i < l.length → a + m ≤ (gth l i).a) : ∀ q ∈ l.drop i, a + m ≤ q.a := fun q hq => by
  by_cases hi : i < l.length
  · rw [drop_next (gth_get hi)] at hq
    rcases List.mem_cons.1 hq with rfl | hq
    · exact hf hi
    · have := ch_after (ok_ch hok).2.2 hi q hq
      have := hf hi
      have := ok_sums hok _ (List.mem_of_getElem? (gth_get hi))
      omega
  · rw [List.drop_eq_nil_of_le (by omega)] at hq
    cases hq
theorem give_free_is (hok : okRow s l = true) (hc : Cnt l a i) (h0 : 0 ≤ a) (h1 : 1 ≤ m) (h2 : a + m ≤ s) (hf : i < l.length → a + m ≤ (gth l i).a) : ser s l ⟨3, a, m⟩ = 0 := by
  refine ser_give hok (by simp; omega) rfl ?_
  show heldF l a m.toNat = false
  unfold heldF
  rw [List.any_eq_false]
  intro j hj
  rw [List.mem_range] at hj
  rw [← List.take_append_drop i l, mem_app, none_in (fun p hp => by have := hc.pre p hp; omega), none_in' (fun q hq => by have := Cnt.post hok hf q hq; omega)]
  simp
theorem give_eq (hok : okRow s l = true) (hs : ser s l ⟨3, a, m⟩ = 0) {L : List Gp} (h : Ch s (-1) L ∧ ∀ x : Int, mem L x = if a ≤ x ∧ x < a + m then true else mem l x) : sgl s l ⟨3, a, m⟩ = L ∧ sat s l ⟨3, a, m⟩ = a := by
  have := sgl_is hs h.1 (fun x => by rw [h.2 x]; rfl)
  exact this
end
section
variable {s : Int} {l : List Gp} {o : Sp} {i : Nat}
theorem take_eq (hok : okRow s l = true) (hk : o.k = 1 ∨ o.k = 2) (hr : ¬ (o.m < 1 ∨ s < o.m ∨ (o.k = 3 ∧ (o.a < 0 ∨ s - o.m < o.a)))) (hi : i < l.length) (hp : pk o l = ((gth l i).a, (gth l i).m)) (hm : o.m ≤ (gth l i).m) :
    ser s l o = 0 ∧ sat s l o = (gth l i).a ∧ sgl s l o = l.take i ++ (if (gth l i).m = o.m then l.drop (i + 1) else ⟨(gth l i).a + o.m, (gth l i).m - o.m⟩ :: l.drop (i + 1)) := by
  have hx := ok_sums hok _ (List.mem_of_getElem? (gth_get hi))
  have h3 : o.k ≠ 3 := by omega
  have hs : ser s l o = 0 := ser_take hok (by omega) hr h3 (by rw [hp]; show ¬ (gth l i).a < 0; omega)
  have hch := (ok_ch hok).2.2
  have ha : ats o l = (gth l i).a := by unfold ats; rw [if_neg h3, hp]
  obtain ⟨t1, t2⟩ := take_list (m := o.m) (by rw [← parts hi]; exact hch) (by omega) hm
  rw [← parts hi] at t2
  obtain ⟨e1, e2⟩ := sgl_is hs t1 (fun x => by rw [t2 x, ha, decide_eq_false h3])
  exact ⟨hs, by rw [e2, ha], e1⟩
end
end Go.Proofs.Ytkhcaobmohppnaa.Spc
