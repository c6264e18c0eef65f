/-
  What the pieces of a pass may be asked: the comparisons there say what the total order says.
-/
import Derived.Test.YtodnjeahjalinaaStSym
namespace Go.Proofs.Ytodnjeahjalinaa.Stab
open Go.ChangeShapes Go.WideShapes Go.ChangeAt Go.RowKit Words Go.Sort
set_option linter.unusedVariables false

section
variable {f : Nat} {cb : Array Value} {cf : Int → Int → Int} {V : Int → Prop} {lt : Int → Int → Bool} {base : Nat} {w : World}
def Agr (cf : Int → Int → Int) (lt : Int → Int → Bool) (l : List Int) : Prop := l.Pairwise fun x y => lessOf cf y x = lt y x
theorem mrg_of (T : Tot lt) {d X Y : List Int} {a m b : Nat} (hc : Cmpr f cb cf V base w) (ham : a ≤ m) (hmb : m ≤ b) (hb : b ≤ d.length) (e1 : seg d a m = sortT lt X) (e2 : seg d m b = sortT lt Y) (hP : Agr cf lt (X ++ Y)) (hV : ∀ x ∈ X ++ Y, V x) :
    Mrg f cb cf V lt d a m b base w := by
  have m1 : ∀ k, a ≤ k → k < m → nti d k ∈ X := fun k h1 h2 => (sortT_perm lt X).mem_iff.1 (e1 ▸ mem_seg (by omega) h1 h2)
  have m2 : ∀ k, m ≤ k → k < b → nti d k ∈ Y := fun k h1 h2 => (sortT_perm lt Y).mem_iff.1 (e2 ▸ mem_seg hb h1 h2)
  refine ⟨hc, fun k h1 h2 => hV _ (List.mem_append.2 ?_), fun i j h1 h2 h3 h4 => (List.pairwise_append.1 hP).2.2 _ (m1 i h1 h2) _ (m2 j h3 h4), on_of_srt (by omega) (e1 ▸ sortT_srt T _), on_of_srt hb (e2 ▸ sortT_srt T _)⟩
  by_cases c : k < m
  · exact .inl (m1 k h1 c)
  · exact .inr (m2 k (by omega) h2)
/-- One pair of pieces of a pass. -/
theorem part_mrg (T : Tot lt) {B : Nat} {D d : List Int} {a : Nat} {rest : List Int} (hB : 0 < B) (h : Part lt B (2 * B) D d a rest) (h2 : a + 2 * B ≤ D.length) (hc : Cmpr f cb cf V base w) (hP : Agr cf lt D) (hV : ∀ x ∈ D, V x) :
    Mrg f cb cf V lt d a (a + B) (a + 2 * B) base w := by
  obtain ⟨g1, g2, hl, _⟩ := part_merge T hB h h2
  have e : rest.take B ++ (rest.drop B).take B = (D.drop a).take (B + B) := by rw [h.suf, List.take_add]
  refine mrg_of T hc (by omega) (by omega) (by omega) g1 g2 ?_ ?_
  · rw [e]; exact hP.sublist ((List.take_sublist _ _).trans (List.drop_sublist _ _))
  · rw [e]; intro x hx; exact hV x (List.mem_of_mem_drop (List.mem_of_mem_take hx))
/-- .. and the last, shorter one. -/
theorem part_mrg_end (T : Tot lt) {B : Nat} {D d : List Int} {a : Nat} {rest : List Int} (hB : 0 < B) (h : Part lt B (2 * B) D d a rest) (h2 : ¬ a + 2 * B ≤ D.length) (h3 : a + B < D.length) (hc : Cmpr f cb cf V base w) (hP : Agr cf lt D) (hV : ∀ x ∈ D, V x) :
    Mrg f cb cf V lt d a (a + B) D.length base w := by
  obtain ⟨hl, _, h4⟩ := part_end T hB h h2
  obtain ⟨g1, g2, _⟩ := h4 h3
  have e : rest.take B ++ rest.drop B = D.drop a := by rw [List.take_append_drop, h.suf]
  refine mrg_of T hc (by omega) (by omega) (by omega) g1 g2 ?_ ?_
  · rw [e]; exact hP.sublist (List.drop_sublist _ _)
  · rw [e]; intro x hx; exact hV x (List.mem_of_mem_drop hx)
/-- A piece of the first pass. -/
theorem agr_seg {D d : List Int} {a b : Nat} {k : Nat} (hb : b ≤ d.length) (e : seg d a b = (D.drop a).take k) (hP : Agr cf lt D) : ∀ i j, a ≤ i → i < j → j < b → lessOf cf (nti d j) (nti d i) = lt (nti d j) (nti d i) := by
  intro i j h1 h2 h3
  have hp : Agr cf lt (seg d a b) := by rw [e]; exact hP.sublist ((List.take_sublist _ _).trans (List.drop_sublist _ _))
  have q1 : i - a < (seg d a b).length := by rw [seg_length hb]; omega
  have q2 : j - a < (seg d a b).length := by rw [seg_length hb]; omega
  have := List.pairwise_iff_getElem.1 hp _ _ q1 q2 (by omega)
  rw [← nti_eq q1, ← nti_eq q2, nti_seg (by omega), nti_seg (by omega), show a + (i - a) = i by omega, show a + (j - a) = j by omega] at this
  exact this
theorem val_seg {D d : List Int} {a b : Nat} {k : Nat} (hb : b ≤ d.length) (e : seg d a b = (D.drop a).take k) (hV : ∀ x ∈ D, V x) : ∀ i, a ≤ i → i < b → V (nti d i) := by
  intro i h1 h2
  have := mem_seg hb h1 h2
  rw [e] at this
  exact hV _ (List.mem_of_mem_drop (List.mem_of_mem_take this))
end
end Go.Proofs.Ytodnjeahjalinaa.Stab
