/-
  slices.Replace as the program uses it; what a call to give keeps.
-/
import Derived.Test.YtkhcaobmohppnaaDTake
namespace Go.Proofs.Ytkhcaobmohppnaa.Spc
open Go.ChangeShapes Go.WideShapes Go.ChangeAt Go.RowKit Words Go.Sort
set_option linter.unusedVariables false

theorem repl42 (base vb : Nat) (A : Option Addr) (i j n c : Nat) (l : List Gp) (p : Gp) (w : World) (h : OwnGp w base A n c l) (h1 : i ≤ j) (h2 : j ≤ i + 2) (hj : j ≤ n) (hn : n ≤ 5000) (hv : Whole w vb 36 (gcells p).toArray) (hne : ∀ g, A = some ⟨g, 0, none⟩ → vb ≠ g) (hb : base ≤ w.heap.size) :
    Calls Try.prog 42 #[.slice A n c, .int .i64 i, .int .i64 j, .slice (some ⟨vb, 0, none⟩) 1 1] w (RowTo base w (Value.slice A n c).ownBlock (l.take i ++ p :: l.drop j)) := by
  have hl := h.len
  by_cases h0 : j = i
  · subst h0
    exact rep0 base vb A j n c l p w h hj hn hv hne hb
  · obtain ⟨g, rfl, _, _⟩ := h.addr (by omega)
    by_cases hjn : j = n
    · subst hjn
      rw [List.drop_eq_nil_of_le (by omega)]
      by_cases h3 : j = i + 1
      · exact repEnd1 base g vb i j c l p w h h3 hv hn
      · exact repEnd2 base g vb i j c l p w h (by omega) hv hn
    · by_cases h3 : j = i + 1
      · exact repMid1 base g vb i j n c l p w h h3 (by omega) hv (hne g rfl) hn
      · exact repMid2 base g vb i j n c l p w h (by omega) (by omega) hv (hne g rfl) hn
/-- What is kept while blocks are given back. -/
structure GV (base g : Nat) (s : Int) (A : Option Addr) (n c : Nat) (l : List Gp) (w : World) (a m : Int) (x : World) : Prop where
  dev : RD x base g s A n c l
  gap : Whole x w.heap.size 36 #[.int .i64 a, .int .i64 m]
  ans : Whole x (w.heap.size + 1) 27 #[.int .i64 0, .int .i64 0]
  fr : Fr base w x
  low : w.heap.size + 2 ≤ x.heap.size
  hb : base ≤ w.heap.size
  glt : g < w.heap.size
  rlt : ∀ k, (Value.slice A n c).ownBlock = some k → k < w.heap.size
section
variable {base g n c : Nat} {s a m : Int} {A : Option Addr} {l : List Gp} {w x y : World}
theorem GV.start (d : RD w base g s A n c l) (hb : base ≤ w.heap.size) : GV base g s A n c l w a m ((w.alloc (.cells #[.int .i64 a, .int .i64 m] 36)).alloc (.cells #[.int .i64 0, .int .i64 0] 27)) := by
  have b2 := two_blocks w (.cells #[.int .i64 a, .int .i64 m] 36) (.cells #[.int .i64 0, .int .i64 0] 27)
  refine ⟨d.below b2, (Whole.new w 36 _).alloc _, ?_, Fr.of_below hb b2, ?_, hb, d.lt, fun k hk => own_lt d.row hk⟩
  · have := Whole.new (w.alloc (.cells #[.int .i64 a, .int .i64 m] 36)) 27 #[.int .i64 0, .int .i64 0]
    rwa [World.size_alloc] at this
  · rw [World.size_alloc, World.size_alloc]; omega
theorem GV.next (h : GV base g s A n c l w a m x) (b : Below x.heap.size x y) : GV base g s A n c l w a m y :=
  ⟨h.dev.below b, whole_below2 h.gap b, whole_below2 h.ans b, h.fr.below h.hb b, Nat.le_trans h.low b.size, h.hb, h.glt, h.rlt⟩
theorem GV.put (h : GV base g s A n c l w a m x) {b : Nat} (hz : w.heap.size + 2 ≤ b) (j : Nat) (u : Value) : GV base g s A n c l w a m (x.setCell ⟨b, j, none⟩ u) :=
  ⟨h.dev.over (by have := h.glt; omega) (fun k hk => by have := h.rlt k hk; omega), whole_other h.gap (by omega) j u, whole_other h.ans (by omega) j u, h.fr.box h.hb (by omega) j u, by rw [World.size_setCell]; exact h.low, h.hb, h.glt, h.rlt⟩
/-- After the row was changed and stored in the device, the answer is filled. -/
theorem GV.done (h : GV base g s A n c l w a m x) {A' : Option Addr} {n' c' : Nat} {l' : List Gp} (ho : OwnGp y base A' n' c' l') (hg : x.grownBy y (Value.slice A n c).ownBlock) (e v : Int) :
    RD (((y.setCell ⟨g, 1, none⟩ (.slice A' n' c')).setCell ⟨w.heap.size + 1, 0, none⟩ (.int .i64 e)).setCell ⟨w.heap.size + 1, 1, none⟩ (.int .i64 v)) base g s A' n' c' l' ∧
    Whole (((y.setCell ⟨g, 1, none⟩ (.slice A' n' c')).setCell ⟨w.heap.size + 1, 0, none⟩ (.int .i64 e)).setCell ⟨w.heap.size + 1, 1, none⟩ (.int .i64 v)) (w.heap.size + 1) 27 #[.int .i64 e, .int .i64 v] ∧
    Fr base w (((y.setCell ⟨g, 1, none⟩ (.slice A' n' c')).setCell ⟨w.heap.size + 1, 0, none⟩ (.int .i64 e)).setCell ⟨w.heap.size + 1, 1, none⟩ (.int .i64 v)) := by
  have mv := h.dev.moved hg
  have hgl := h.glt
  have x3 := whole_grown h.ans hg (by intro e; have := h.rlt _ e; omega)
  have x4 := whole_other x3 (show w.heap.size + 1 ≠ g by omega) 1 (.slice A' n' c')
  have f3 := (h.fr.trans (Fr.row (Nat.le_trans h.hb h.fr.bel.size) h.dev.row hg)).dev mv h.dev.bg (.slice A' n' c')
  have o3 := RD.put mv h.dev.bg ho
  have hk : ∀ k, (Value.slice A' n' c').ownBlock = some k → k ≠ w.heap.size + 1 := by
    intro k hk hke
    subst hke
    rcases ho.2 with ⟨hn, _⟩ | ⟨g', cap, cur, hv, _, hgg, _⟩
    · injection hn with hn _ _; subst hn; simp [Value.ownBlock] at hk
    · rw [hv] at hk
      have : g' = w.heap.size + 1 := by simpa [Value.ownBlock] using hk
      subst this
      unfold Whole at x3
      rw [x3] at hgg
      injection hgg with hgg
      injection hgg with _ h2 _
      cases h2
  exact ⟨(o3.over (by omega) hk).over (by omega) hk, fill_an x4 rfl e v, (f3.box h.hb (by omega) 0 (.int .i64 e)).box h.hb (by omega) 1 (.int .i64 v)⟩
end
end Go.Proofs.Ytkhcaobmohppnaa.Spc
