/-
  What a step on the free space answers: the plain mathematics; a result that is a box of an answer.
-/
import Derived.Test.YtkhcaobmohppnaaSGaps
namespace Go.Proofs.Ytkhcaobmohppnaa.Spc
open Go.ChangeShapes Go.WideShapes Go.ChangeAt Go.RowKit Words Go.Sort
set_option linter.unusedVariables false

/-- An operation. -/
structure Sp where
  k : Int
  a : Int
  m : Int
deriving DecidableEq
def sval (o : Sp) : Value := .agg #[.int .i64 o.k, .int .i64 o.a, .int .i64 o.m]
def scells (o : Sp) : List Value := [.int .i64 o.k, .int .i64 o.a, .int .i64 o.m]
def aval (e a : Int) : Value := .agg #[.int .i64 e, .int .i64 a]
def acells (e a : Int) : List Value := [.int .i64 e, .int .i64 a]
/-- Which gap is chosen: the first, or the smallest, of those that are large enough. -/
def pkS (o : Sp) (st : Int × Int) (g : Gp) : Int × Int := if o.m ≤ g.m ∧ (st.1 < 0 ∨ (o.k = 2 ∧ g.m < st.2)) then (g.a, g.m) else st
def pk (o : Sp) (l : List Gp) : Int × Int := l.foldl (pkS o) (-1, 0)
def ats (o : Sp) (l : List Gp) : Int := if o.k = 3 then o.a else (pk o l).1
/-- Whether one of the blocks is free. -/
def heldF (l : List Gp) (a : Int) (n : Nat) : Bool := (List.range n).any fun j : Nat => mem l (a + j)
def setR (n : Nat) (l : List Gp) (a m : Int) (b : Bool) : List Bool := (List.range n).map fun x : Nat => if a ≤ x ∧ (x : Int) < a + m then b else mem l x
def ser (s : Int) (l : List Gp) (o : Sp) : Int :=
  if okRow s l = false then 1 else if ¬ (o.k = 1 ∨ o.k = 2 ∨ o.k = 3) then 5 else if o.m < 1 ∨ s < o.m ∨ (o.k = 3 ∧ (o.a < 0 ∨ s - o.m < o.a)) then 2 else
  if o.k ≠ 3 ∧ (pk o l).1 < 0 then 4 else if o.k = 3 ∧ heldF l o.a o.m.toNat = true then 6 else 0
def sgl (s : Int) (l : List Gp) (o : Sp) : List Gp := if ser s l o = 0 then gk (setR s.toNat l (ats o l) o.m (decide (o.k = 3))) s.toNat else []
def sat (s : Int) (l : List Gp) (o : Sp) : Int := if ser s l o = 0 then ats o l else 0
theorem ser_form {s : Int} {l : List Gp} (o : Sp) (h : okRow s l = false) : ser s l o = 1 := by unfold ser; rw [if_pos h]
theorem ser_kind {s : Int} {l : List Gp} {o : Sp} (h : okRow s l = true) (h2 : ¬ (o.k = 1 ∨ o.k = 2 ∨ o.k = 3)) : ser s l o = 5 := by unfold ser; rw [if_neg (by rw [h]; simp), if_pos h2]
theorem ser_range {s : Int} {l : List Gp} {o : Sp} (h : okRow s l = true) (h2 : o.k = 1 ∨ o.k = 2 ∨ o.k = 3) (h3 : o.m < 1 ∨ s < o.m ∨ (o.k = 3 ∧ (o.a < 0 ∨ s - o.m < o.a))) : ser s l o = 2 := by
  unfold ser; rw [if_neg (by rw [h]; simp), if_neg (fun hc => hc h2), if_pos h3]
theorem ser_full {s : Int} {l : List Gp} {o : Sp} (h : okRow s l = true) (h2 : o.k = 1 ∨ o.k = 2 ∨ o.k = 3) (h3 : ¬ (o.m < 1 ∨ s < o.m ∨ (o.k = 3 ∧ (o.a < 0 ∨ s - o.m < o.a)))) (h4 : o.k ≠ 3) (h5 : (pk o l).1 < 0) : ser s l o = 4 := by
  unfold ser; rw [if_neg (by rw [h]; simp), if_neg (fun hc => hc h2), if_neg h3, if_pos ⟨h4, h5⟩]
theorem ser_held {s : Int} {l : List Gp} {o : Sp} (h : okRow s l = true) (h3 : ¬ (o.m < 1 ∨ s < o.m ∨ (o.k = 3 ∧ (o.a < 0 ∨ s - o.m < o.a)))) (h4 : o.k = 3) (h5 : heldF l o.a o.m.toNat = true) : ser s l o = 6 := by
  unfold ser; rw [if_neg (by rw [h]; simp), if_neg (by simp [h4]), if_neg h3, if_neg (by simp [h4]), if_pos ⟨h4, h5⟩]
theorem ser_give {s : Int} {l : List Gp} {o : Sp} (h : okRow s l = true) (h3 : ¬ (o.m < 1 ∨ s < o.m ∨ (o.k = 3 ∧ (o.a < 0 ∨ s - o.m < o.a)))) (h4 : o.k = 3) (h5 : heldF l o.a o.m.toNat = false) : ser s l o = 0 := by
  unfold ser; rw [if_neg (by rw [h]; simp), if_neg (by simp [h4]), if_neg h3, if_neg (by simp [h4]), if_neg (by rw [h5]; simp)]
theorem ser_take {s : Int} {l : List Gp} {o : Sp} (h : okRow s l = true) (h2 : o.k = 1 ∨ o.k = 2 ∨ o.k = 3) (h3 : ¬ (o.m < 1 ∨ s < o.m ∨ (o.k = 3 ∧ (o.a < 0 ∨ s - o.m < o.a)))) (h4 : o.k ≠ 3) (h5 : ¬ (pk o l).1 < 0) : ser s l o = 0 := by
  unfold ser; rw [if_neg (by rw [h]; simp), if_neg (fun hc => hc h2), if_neg h3, if_neg (by simp [h5]), if_neg (by simp [h4])]
theorem sgl_no {s : Int} {l : List Gp} {o : Sp} (h : ser s l o ≠ 0) : sgl s l o = [] ∧ sat s l o = 0 := ⟨if_neg h, if_neg h⟩
theorem sgl_yes {s : Int} {l : List Gp} {o : Sp} (h : ser s l o = 0) : sgl s l o = gk (setR s.toNat l (ats o l) o.m (decide (o.k = 3))) s.toNat ∧ sat s l o = ats o l := ⟨if_pos h, if_pos h⟩
/-! ### choosing -/
theorem pk_next {o : Sp} {l : List Gp} {k : Nat} {g : Gp} (h : l[k]? = some g) : pk o (l.take (k + 1)) = pkS o (pk o (l.take k)) g := by
  unfold pk; rw [take_next h, List.foldl_append]; rfl
theorem pkS_yes {o : Sp} {st : Int × Int} {g : Gp} (h : o.m ≤ g.m) (h2 : st.1 < 0 ∨ (o.k = 2 ∧ g.m < st.2)) : pkS o st g = (g.a, g.m) := if_pos ⟨h, h2⟩
theorem pkS_no {o : Sp} {st : Int × Int} {g : Gp} (h : ¬ (o.m ≤ g.m ∧ (st.1 < 0 ∨ (o.k = 2 ∧ g.m < st.2)))) : pkS o st g = st := if_neg h
/-- Nothing is chosen, or a gap that is there and large enough. -/
def PK (o : Sp) (l : List Gp) (st : Int × Int) : Prop := (st = (-1, 0) ∧ ∀ g ∈ l, g.m < o.m) ∨ ∃ g ∈ l, st = (g.a, g.m) ∧ o.m ≤ g.m
theorem pk_is {o : Sp} : ∀ (l k : List Gp) (st : Int × Int), (∀ g ∈ k, 0 ≤ g.a) → (∀ g ∈ l, 0 ≤ g.a) → PK o k st → PK o (k ++ l) (l.foldl (pkS o) st)
  | [], k, st, _, _, h => by simpa using h
  | g :: l, k, st, hk, hl, h => by
    have e : k ++ g :: l = (k ++ [g]) ++ l := by simp
    rw [e]
    refine pk_is l (k ++ [g]) (pkS o st g) (fun x hx => ?_) (fun x hx => hl x (by simp [hx])) ?_
    · rcases List.mem_append.1 hx with hx | hx
      · exact hk x hx
      · rw [List.mem_singleton] at hx; subst hx; exact hl _ (by simp)
    · by_cases hc : o.m ≤ g.m ∧ (st.1 < 0 ∨ (o.k = 2 ∧ g.m < st.2))
      · rw [pkS_yes hc.1 hc.2]
        exact .inr ⟨g, by simp, rfl, hc.1⟩
      · rw [pkS_no hc]
        rcases h with ⟨h1, h2⟩ | ⟨x, hx, h1, h2⟩
        · refine .inl ⟨h1, fun x hx => ?_⟩
          rcases List.mem_append.1 hx with hx | hx
          · exact h2 x hx
          · rw [List.mem_singleton] at hx; subst hx
            rw [h1] at hc
            simp at hc
            rcases Int.lt_or_le x.m o.m with h3 | h3
            · exact h3
            · exact absurd h3 (by omega)
        · exact .inr ⟨x, by simp [hx], h1, h2⟩
theorem pk_pk {o : Sp} {l : List Gp} (hl : ∀ g ∈ l, 0 ≤ g.a) : PK o l (pk o l) := by
  have := pk_is (o := o) l [] (-1, 0) (fun g hg => by cases hg) hl (.inl ⟨rfl, fun g hg => by cases hg⟩)
  rw [List.nil_append] at this
  exact this
theorem ok_ch {s : Int} {l : List Gp} (h : okRow s l = true) : 0 ≤ s ∧ s ≤ 4096 ∧ Ch s (-1) l := by
  unfold okRow at h
  simp at h
  exact ⟨h.1.1, h.1.2, va_ch.1 h.2⟩
theorem ok_of_ch {s : Int} {l : List Gp} (h0 : 0 ≤ s) (h1 : s ≤ 4096) (h : Ch s (-1) l) : okRow s l = true := by
  unfold okRow
  rw [va_ch.2 h]; simp [h0, h1]
theorem gk_row {s : Int} {l : List Gp} (h : okRow s l = true) : gk (rowOf l s.toNat) s.toNat = l := by
  obtain ⟨h1, h2, h3⟩ := ok_ch h
  exact gk_of (by rw [show ((s.toNat : Nat) : Int) = s by omega]; exact h3) fun x hx => at_rowOf hx
theorem setR_length (n : Nat) (l : List Gp) (a m : Int) (b : Bool) : (setR n l a m b).length = n := by unfold setR; simp
theorem at_setR {n x : Nat} {l : List Gp} {a m : Int} {b : Bool} (h : x < n) : at_ (setR n l a m b) x = if a ≤ x ∧ (x : Int) < a + m then b else mem l x := at_get (by unfold setR; rw [List.getElem?_map, List.getElem?_range h]; rfl)
/-! ### a result that is a box of an answer -/
theorem results_two {fn : Func} {t p : Tmp} (h : fn.results = #[.tmp t, .cell p 27]) {tmps : Array Value} {w : World} {b : Nat} {e a : Int} (hp : tmps.getD p undef = .pointer (some ⟨b, 0, none⟩)) (hw : Whole w b 27 #[.int .i64 e, .int .i64 a]) :
    (results fn tmps).run Try.prog w = .ok (.tuple #[tmps.getD t undef, aval e a]) w := by
  have c0 := hw.cell 0
  have c1 := hw.cell 1
  simp at c0 c1
  have hp' : tmps[p]?.getD undef = .pointer (some ⟨b, 0, none⟩) := by simpa using hp
  simp [results, h, hp', asAddr, go_sem, loadVar, c0, c1, aval]
theorem no29 (x : Int) (w : World) : Calls Try.prog 29 #[.int .i64 x] w fun e w' => e = .returned (.tuple #[.slice none 0 0, aval x 0]) ∧ Below w.heap.size w w' := by
  go_enter Try.func29, Try.ntmps29
  go_wp2_with fail
  refine bodyPost_ret (results_two rfl rfl (Whole.new w 27 #[.int .i64 x, .int .i64 0])) rfl ?_
  exact ⟨rfl, boxed w _⟩
end Go.Proofs.Ytkhcaobmohppnaa.Spc
