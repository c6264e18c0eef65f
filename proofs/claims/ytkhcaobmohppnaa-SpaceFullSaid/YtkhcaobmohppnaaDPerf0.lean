/-
  What an operation on the device leaves; blocks taken, by what is chosen.
-/
import Derived.Test.YtkhcaobmohppnaaDMath
import Derived.Test.YtkhcaobmohppnaaDTake
namespace Go.Proofs.Ytkhcaobmohppnaa.Spc
open Go.ChangeShapes Go.WideShapes Go.ChangeAt Go.RowKit Words Go.Sort
set_option linter.unusedVariables false

/-- A box of an answer is a list of one. -/
theorem whole_own {w : World} {b : Nat} {p : An} (h : Whole w b 27 (xcells p).toArray) : OwnAn w b (some ⟨b, 0, none⟩) 1 1 [p] :=
  ⟨by simp [ycells, xcells], .inr ⟨b, 1, (xcells p).toArray, rfl, Nat.le_refl _, h, Nat.le_refl _, by unfold maxLen; omega, by simp [xcells], by simp [ycells, xcells]⟩⟩
theorem own_whole {w : World} {b : Nat} {p : An} (h : OwnAn w b (some ⟨b, 0, none⟩) 1 1 [p]) : Whole w b 27 (xcells p).toArray := by
  rcases h.2 with ⟨hn, _⟩ | ⟨g', cap, cur, hv, h1, hgg, h2, h3, h4, h5⟩
  · simp at hn
  · injection hv with hv _ hc
    injection hv with hv
    injection hv with hv _ _
    subst hv hc
    unfold Whole
    rw [hgg]
    have e : cur.toList = xcells p := by
      have hl : cur.toList.length = 2 := by simpa using h4
      rw [List.take_of_length_le (by omega)] at h5
      rw [h5]; simp [ycells]
    rw [← e]
theorem whole_K {w w' : World} {b : Nat} {e a : Int} (k : K w w') (h : Whole w b 27 #[.int .i64 e, .int .i64 a]) : Whole w' b 27 #[.int .i64 e, .int .i64 a] :=
  own_whole (p := ⟨e, a⟩) (k _ _ _ _ _ (whole_own (p := ⟨e, a⟩) h))
/-- A store into a box of an answer. -/
theorem RD.fill {w : World} {base g n c b : Nat} {s : Int} {A : Option Addr} {l : List Gp} {cs : Array Value} (d : RD w base g s A n c l) (h : Whole w b 27 cs) (j : Nat) (u : Value) : RD (w.setCell ⟨b, j, none⟩ u) base g s A n c l := by
  refine d.over ?_ (fun k hk hke => ?_)
  · rintro rfl
    have := d.blk
    unfold Whole at this h
    rw [this] at h
    injection h with h
    injection h with _ h2 _
    cases h2
  · subst hke
    rcases d.row.2 with ⟨hn, _⟩ | ⟨g', cap, cur, hv, _, hgg, _⟩
    · injection hn with hn _ _; subst hn; simp [Value.ownBlock] at hk
    · rw [hv] at hk
      have : g' = k := by simpa [Value.ownBlock] using hk
      subst this
      unfold Whole at h
      rw [h] at hgg
      injection hgg with hgg
      injection hgg with _ h2 _
      cases h2
/-- What an operation leaves: the answer, the device. -/
def PF (base g : Nat) (s : Int) (l : List Gp) (o : Sp) (w : World) (e : Ending) (w' : World) : Prop :=
  e = .returned (aval (ser s l o) (sat s l o)) ∧ (∃ A n c, RD w' base g s A n c (if ser s l o = 0 then sgl s l o else l)) ∧ Fr base w w'
theorem pf_err {base g n c : Nat} {s x : Int} {A : Option Addr} {l : List Gp} {o : Sp} {w w' : World} (d : RD w base g s A n c l) (hb : base ≤ w.heap.size) (h : ser s l o = x) (hx : x ≠ 0) (b : Below w.heap.size w w') : PF base g s l o w (.returned (aval x 0)) w' := by
  obtain ⟨_, h2⟩ := sgl_no (s := s) (l := l) (o := o) (by rw [h]; exact hx)
  unfold PF
  rw [h, h2, if_neg hx]
  exact ⟨rfl, ⟨A, n, c, d.below b⟩, Fr.of_below hb b⟩
theorem take36_pf (base g n c : Nat) (s v : Int) (A : Option Addr) (l : List Gp) (o : Sp) (w : World) (d : RD w base g s A n c l) (hp : Pick o l v) (hok : okRow s l = true) (hk : o.k = 1 ∨ o.k = 2) (hr : ¬ (o.m < 1 ∨ s < o.m ∨ (o.k = 3 ∧ (o.a < 0 ∨ s - o.m < o.a)))) (hb : base ≤ w.heap.size) :
    Calls Try.prog 36 #[.pointer (some ⟨g, 0, none⟩), .int .i64 v, .int .i64 o.m] w (PF base g s l o w) := by
  rcases hp with ⟨i, rfl, hi, he, hm⟩ | ⟨rfl, he⟩
  · obtain ⟨e1, e2, e3⟩ := take_eq hok hk hr hi he hm
    have hx := ok_sums hok _ (List.mem_of_getElem? (gth_get hi))
    refine (take36 base g i n c s A l o.m w d (by rw [← d.row.len]; exact hi) (by omega) hm hx.1 hx.2.2 hb).mono ?_
    rintro e w' ⟨rfl, h1, h2⟩
    unfold PF
    rw [e1, e2, if_pos rfl, e3]
    exact ⟨rfl, h1, h2⟩
  · have hs : ser s l o = 4 := ser_full hok (by omega) hr (by omega) (by rw [he]; decide)
    refine (take36_none g o.m w).mono ?_
    rintro e w' ⟨rfl, b⟩
    exact pf_err d hb hs (by decide) b
/-- What is chosen, and then taken, in one. -/
theorem pick_one {o : Sp} (hk : o.k = 1 ∨ o.k = 2) : o.k = 1 ∨ o.k = 2 := hk
end Go.Proofs.Ytkhcaobmohppnaa.Spc
