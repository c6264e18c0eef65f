/-
  What the answers of package bad are at each kind of argument; the place of a block among the good ones.
-/
import Derived.Test.YtocmbknccjnggaaSort
import Derived.Test.YtocmbknccjnggaaFrame
namespace Go.Proofs.Ytocmbknccjnggaa.Bad
open Go.ChangeShapes Go.WideShapes Go.ChangeAt Go.RowKit Words

theorem cerr_form {bl x : Int} {l : List Int} (h : right bl l = false) : cerr bl l x = 1 := by unfold cerr; rw [if_pos h]
theorem cerr_range {bl x : Int} {l : List Int} (h : right bl l = true) (hx : x < 0 ∨ bl ≤ x) : cerr bl l x = 2 := by
  unfold cerr; rw [if_neg (by simp [h]), if_pos hx]
/-- All answers where the block is refused by its range or by the list's form. -/
theorem refused {bl x k : Int} {l : List Int} (hk : k ≠ 0) (h : cerr bl l x = k) : nerr bl l x = k ∧ nval bl l x = 0 ∧ merr bl l x = k ∧ mval bl l x = [] := by
  have hc : cerr bl l x ≠ 0 := by rw [h]; exact hk
  have h1 := nerr_of hc
  have h2 := merr_of hc
  rw [h] at h1 h2
  exact ⟨h1, nval_no (by rw [h1]; exact hk), h2, mval_no (by rw [h2]; exact hk)⟩
theorem dead {bl x : Int} {l : List Int} (hr : right bl l = true) (h0 : 0 ≤ x) (h1 : x < bl) (hm : x ∈ l) : nerr bl l x = 8 ∧ nval bl l x = 0 ∧ merr bl l x = 6 ∧ mval bl l x = [] := by
  have e1 : nerr bl l x = 8 := by rw [nerr_in (cerr_ok hr h0 h1), if_pos hm]
  have e2 : merr bl l x = 6 := by rw [merr_in (cerr_ok hr h0 h1), if_pos hm]
  exact ⟨e1, nval_no (by rw [e1]; decide), e2, mval_no (by rw [e2]; decide)⟩
theorem alive {bl x : Int} {l : List Int} (hr : right bl l = true) (h0 : 0 ≤ x) (h1 : x < bl) (hm : x ∉ l) : nerr bl l x = 0 ∧ nval bl l x = x - cnt x l ∧ merr bl l x = 0 ∧ mval bl l x = ins x l := by
  have e1 := nerr_ok hr h0 h1 hm
  have e2 := merr_ok hr h0 h1 hm
  exact ⟨e1, nval_ok e1, e2, mval_ok e2⟩
/-- The place that slices.Index tells among the good blocks is the block's number. -/
theorem place_good {bl x : Int} {l : List Int} {k : Nat} (hi : incr bl 0 l = true) (h0 : 0 ≤ x) (hk : x < k) (hx : x ∉ l) {w w' : World} {e : Ending} (h : IdxI x (goods k l) w e w') : e = .returned (.int .i64 (x - cnt x l)) ∧ w = w' := by
  obtain ⟨i, hi1, hi2, hi3⟩ := goods_at hi h0 hk hx
  obtain ⟨r, rfl, hr, rfl⟩ := h
  refine ⟨?_, rfl⟩
  rcases hr with ⟨_, hn⟩ | ⟨j, rfl, hj1, hj2⟩
  · exact absurd (List.mem_of_getElem? hi2) hn
  · rcases Nat.lt_trichotomy i j with h | h | h
    · exact absurd hi2 (hj2 i h)
    · subst h; rw [hi1]
    · exact absurd hj1 (hi3 j h)
end Go.Proofs.Ytocmbknccjnggaa.Bad
