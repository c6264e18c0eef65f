/-
  What a valid list is: its runs are within the bounds, they follow one another, and there are no more than the bounds leave room for.
-/
import Derived.Test.YtfcihgincfcdkaaRPlain
namespace Go.Proofs.Ytfcihgincfcdkaa.Rns
set_option linter.unusedVariables false

theorem stp_ok {e d : Int} {r : Rn} (h : stp e d r = true) : okR r = true ∧ e ≤ r.a ∧ ¬ (r.a = e ∧ r.d = d) := by
  unfold stp at h
  simp at h
  exact ⟨h.1.1, h.1.2, fun hc => by rcases h.2 with h2 | h2; exact h2 hc.1; exact h2 hc.2⟩
theorem rtF_cons {e d : Int} {r : Rn} {l : List Rn} (h : rtF e d (r :: l) = true) : stp e d r = true ∧ rtF (r.a + r.m) (r.d + r.m) l = true := by
  unfold rtF at h
  simpa using h
theorem rtF_all : ∀ {l : List Rn} {e d : Int}, rtF e d l = true → ∀ r ∈ l, okR r = true
  | r :: l, e, d, h, x, hx => by
    obtain ⟨h1, h2⟩ := rtF_cons h
    rcases List.mem_cons.1 hx with rfl | hx
    · exact (stp_ok h1).1
    · exact rtF_all h2 x hx
theorem rtF_ch : ∀ {l : List Rn} {e d : Int}, rtF e d l = true → Ch e d l
  | [], _, _, _ => trivial
  | r :: l, e, d, h => by
    obtain ⟨h1, h2⟩ := rtF_cons h
    obtain ⟨h3, h4, h5⟩ := stp_ok h1
    obtain ⟨p1, p2, p3, p4, p5, p6⟩ := okR_yes.1 h3
    exact ⟨⟨p3, p2, h4, h5⟩, rtF_ch h2⟩
theorem rtF_of : ∀ {l : List Rn} {e d : Int}, Ch e d l → (∀ r ∈ l, okR r = true) → rtF e d l = true
  | [], _, _, _, _ => rfl
  | r :: l, e, d, h, ho => by
    unfold rtF stp
    have h1 := ho r (by simp)
    obtain ⟨⟨_, _, h4, h5⟩, h2⟩ := h
    rw [rtF_of h2 fun x hx => ho x (by simp [hx]), h1]
    simp
    exact ⟨h4, by omega⟩
theorem rtF_few : ∀ {l : List Rn} {e d : Int}, rtF e d l = true → l = [] ∨ (l.length : Int) ≤ 1099511627777 - e
  | [], _, _, _ => .inl rfl
  | r :: l, e, d, h => by
    obtain ⟨h1, h2⟩ := rtF_cons h
    obtain ⟨h3, h4, _⟩ := stp_ok h1
    obtain ⟨p1, p2, p3, p4, p5, p6⟩ := okR_yes.1 h3
    right
    rw [List.length_cons]
    rcases rtF_few h2 with rfl | h6
    · simp; omega
    · push_cast; omega
theorem rt_few {l : List Rn} (h : rt l = true) : l.length ≤ 1099511627777 := by
  match l, h with
  | [], _ => simp
  | r :: l, h =>
    obtain ⟨h1, h2⟩ := rtF_cons h
    obtain ⟨h3, _, _⟩ := stp_ok h1
    obtain ⟨p1, p2, p3, p4, p5, p6⟩ := okR_yes.1 h3
    rw [List.length_cons]
    rcases rtF_few h2 with rfl | h6
    · simp
    · omega
theorem rt_all {l : List Rn} (h : rt l = true) : ∀ r ∈ l, okR r = true := rtF_all h
theorem rt_ch {l : List Rn} (h : rt l = true) : Ch (-1) 0 l := rtF_ch h
/-- The list is valid just if it is the one and its runs are within the bounds. -/
theorem rt_iff {l : List Rn} : rt l = true ↔ Ch (-1) 0 l ∧ ∀ r ∈ l, okR r = true := ⟨fun h => ⟨rt_ch h, rt_all h⟩, fun h => rtF_of h.1 h.2⟩
end Go.Proofs.Ytfcihgincfcdkaa.Rns
