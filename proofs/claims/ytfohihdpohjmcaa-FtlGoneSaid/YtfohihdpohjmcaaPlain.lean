/-
  Plain facts of a store of numbered data: what each operation answers, what it leaves. No program.
-/
import Derived.Test.YtfohihdpohjmcaaBase
namespace Go.Proofs.Ytfohihdpohjmcaa.Ftl
open Words
set_option linter.unusedVariables false

structure Fop where
  kind : Int
  n : Int
  data : Int
structure Fan where
  err : Int
  data : Int
theorem Fop.ext' {x y : Fop} (h0 : x.kind = y.kind) (h1 : x.n = y.n) (h2 : x.data = y.data) : x = y := by cases x; cases y; simp at h0 h1 h2; subst h0 h1 h2; rfl
theorem Fan.ext' {x y : Fan} (h0 : x.err = y.err) (h1 : x.data = y.data) : x = y := by cases x; cases y; simp at h0 h1; subst h0 h1; rfl
/-- What each number holds. -/
abbrev Sto := Int → Option Int
def sto0 : Sto := fun _ => none
def upd (s : Sto) (n : Int) (v : Option Int) : Sto := fun m => if m = n then v else s m
theorem upd_same (s : Sto) (n : Int) (v : Option Int) : upd s n v n = v := by unfold upd; rw [if_pos rfl]
theorem upd_other (s : Sto) {n m : Int} (v : Option Int) (h : m ≠ n) : upd s n v m = s m := by unfold upd; rw [if_neg h]
def fkind (o : Fop) : Prop := o.kind = 1 ∨ o.kind = 2 ∨ o.kind = 3
def frange (o : Fop) : Prop := 0 ≤ o.n ∧ o.n < 16
instance (o : Fop) : Decidable (fkind o) := by unfold fkind; infer_instance
instance (o : Fop) : Decidable (frange o) := by unfold frange; infer_instance
def ferr (s : Sto) (o : Fop) : Int := if fkind o then (if frange o then (if o.kind = 1 then 0 else if s o.n = none then 3 else 0) else 2) else 5
def fans (s : Sto) (o : Fop) : Fan := ⟨ferr s o, if ferr s o = 0 ∧ o.kind = 2 then (s o.n).getD 0 else 0⟩
def fnx (s : Sto) (o : Fop) : Sto := if ferr s o = 0 then (if o.kind = 1 then upd s o.n (some o.data) else if o.kind = 3 then upd s o.n none else s) else s
theorem fx_kind {s : Sto} {o : Fop} (h : ¬ fkind o) : fans s o = ⟨5, 0⟩ ∧ fnx s o = s := by
  have e : ferr s o = 5 := by unfold ferr; rw [if_neg h]
  unfold fans fnx
  rw [e]
  exact ⟨rfl, rfl⟩
theorem fx_range {s : Sto} {o : Fop} (h : fkind o) (hr : ¬ frange o) : fans s o = ⟨2, 0⟩ ∧ fnx s o = s := by
  have e : ferr s o = 2 := by unfold ferr; rw [if_pos h, if_neg hr]
  unfold fans fnx
  rw [e]
  exact ⟨rfl, rfl⟩
theorem fx_write {s : Sto} {o : Fop} (h : o.kind = 1) (hr : frange o) : fans s o = ⟨0, 0⟩ ∧ fnx s o = upd s o.n (some o.data) := by
  have e : ferr s o = 0 := by unfold ferr; rw [if_pos (.inl h), if_pos hr, if_pos h]
  unfold fans fnx
  rw [e, if_pos rfl, if_pos h, if_neg (by omega)]
  exact ⟨rfl, rfl⟩
theorem fx_none {s : Sto} {o : Fop} (h : o.kind = 2 ∨ o.kind = 3) (hr : frange o) (hs : s o.n = none) : fans s o = ⟨3, 0⟩ ∧ fnx s o = s := by
  have e : ferr s o = 3 := by unfold ferr; rw [if_pos (.inr h), if_pos hr, if_neg (by omega), if_pos hs]
  unfold fans fnx
  rw [e]
  exact ⟨rfl, rfl⟩
theorem fx_read {s : Sto} {o : Fop} {v : Int} (h : o.kind = 2) (hr : frange o) (hs : s o.n = some v) : fans s o = ⟨0, v⟩ ∧ fnx s o = s := by
  have e : ferr s o = 0 := by unfold ferr; rw [if_pos (.inr (.inl h)), if_pos hr, if_neg (by omega), hs]; rfl
  unfold fans fnx
  rw [e, if_pos ⟨rfl, h⟩, if_pos rfl, if_neg (by omega), if_neg (by omega), hs]
  exact ⟨rfl, rfl⟩
theorem fx_trim {s : Sto} {o : Fop} {v : Int} (h : o.kind = 3) (hr : frange o) (hs : s o.n = some v) : fans s o = ⟨0, 0⟩ ∧ fnx s o = upd s o.n none := by
  have e : ferr s o = 0 := by unfold ferr; rw [if_pos (.inr (.inr h)), if_pos hr, if_neg (by omega), hs]; rfl
  unfold fans fnx
  rw [e, if_pos rfl, if_neg (by omega), if_neg (by omega), if_pos h]
  exact ⟨rfl, rfl⟩
/-! ### runs -/
def runS (s : Sto) : List Fop → Sto
  | [] => s
  | o :: t => runS (fnx s o) t
def anss (s : Sto) : List Fop → List Fan
  | [] => []
  | o :: t => fans s o :: anss (fnx s o) t
theorem anss_length (s : Sto) (l : List Fop) : (anss s l).length = l.length := by
  induction l generalizing s with
  | nil => rfl
  | cons o t ih => unfold anss; simp [ih]
theorem runS_append (s : Sto) (a b : List Fop) : runS s (a ++ b) = runS (runS s a) b := by
  induction a generalizing s with
  | nil => rfl
  | cons o t ih => simp only [List.cons_append, runS]; exact ih _
theorem anss_append (s : Sto) (a b : List Fop) : anss s (a ++ b) = anss s a ++ anss (runS s a) b := by
  induction a generalizing s with
  | nil => rfl
  | cons o t ih => simp only [List.cons_append, anss, runS]; rw [ih]
/-- Behind k operations. -/
def S (l : List Fop) (k : Nat) : Sto := runS sto0 (l.take k)
def A (l : List Fop) (k : Nat) : List Fan := anss sto0 (l.take k)
theorem S_zero (l : List Fop) : S l 0 = sto0 := by unfold S; simp [runS]
theorem A_zero (l : List Fop) : A l 0 = [] := by unfold A; simp [anss]
theorem take_next {l : List Fop} {k : Nat} {o : Fop} (h : l[k]? = some o) : l.take (k + 1) = l.take k ++ [o] := by
  obtain ⟨hk, rfl⟩ := List.getElem?_eq_some_iff.1 h
  rw [List.take_add_one, List.getElem?_eq_getElem hk]; rfl
theorem S_next {l : List Fop} {k : Nat} {o : Fop} (h : l[k]? = some o) : S l (k + 1) = fnx (S l k) o := by
  unfold S; rw [take_next h, runS_append]; rfl
theorem A_next {l : List Fop} {k : Nat} {o : Fop} (h : l[k]? = some o) : A l (k + 1) = A l k ++ [fans (S l k) o] := by
  unfold A S; rw [take_next h, anss_append]; rfl
theorem A_length {l : List Fop} {k : Nat} (h : k ≤ l.length) : (A l k).length = k := by unfold A; rw [anss_length, List.length_take]; omega
theorem A_all {l : List Fop} {k : Nat} (h : l.length ≤ k) : A l k = anss sto0 l := by unfold A; rw [List.take_of_length_le h]
theorem S_all {l : List Fop} {k : Nat} (h : l.length ≤ k) : S l k = runS sto0 l := by unfold S; rw [List.take_of_length_le h]
/-- Only numbers hold anything. -/
def Inb (s : Sto) : Prop := ∀ n, s n ≠ none → 0 ≤ n ∧ n < 16
theorem inb0 : Inb sto0 := fun n h => absurd rfl h
theorem inb_next {s : Sto} (h : Inb s) (o : Fop) : Inb (fnx s o) := by
  by_cases hk : fkind o
  · by_cases hr : frange o
    · rcases hk with e | e | e
      · rw [(fx_write e hr).2]
        intro n hn
        by_cases he : n = o.n
        · subst he; exact hr
        · rw [upd_other _ _ he] at hn; exact h n hn
      · cases hs : s o.n with
        | none => rw [(fx_none (.inl e) hr hs).2]; exact h
        | some v => rw [(fx_read e hr hs).2]; exact h
      · cases hs : s o.n with
        | none => rw [(fx_none (.inr e) hr hs).2]; exact h
        | some v =>
          rw [(fx_trim e hr hs).2]
          intro n hn
          by_cases he : n = o.n
          · subst he; exact hr
          · rw [upd_other _ _ he] at hn; exact h n hn
    · rw [(fx_range hk hr).2]; exact h
  · rw [(fx_kind hk).2]; exact h
theorem inb_run (l : List Fop) {s : Sto} (h : Inb s) : Inb (runS s l) := by
  induction l generalizing s with
  | nil => exact h
  | cons o t ih => exact ih (inb_next h o)
/-! ### numbers do not know of each other -/
def own (l : List Fop) (n : Int) : List Fop := l.filter fun o => decide (o.n = n)
theorem fnx_other {s : Sto} {o : Fop} {n : Int} (h : n ≠ o.n) : fnx s o n = s n := by
  unfold fnx
  split
  · split
    · exact upd_other _ _ h
    · split
      · exact upd_other _ _ h
      · rfl
  · rfl
theorem fans_same {s t : Sto} {o : Fop} (h : s o.n = t o.n) : fans s o = fans t o := by unfold fans ferr; rw [h]
theorem fnx_same {s t : Sto} {o : Fop} (h : s o.n = t o.n) : fnx s o o.n = fnx t o o.n := by
  have he : ferr s o = ferr t o := by unfold ferr; rw [h]
  unfold fnx
  rw [he]
  split
  · split
    · rw [upd_same, upd_same]
    · split
      · rw [upd_same, upd_same]
      · exact h
  · exact h
/-- The answers of n's own operations, picked out. -/
theorem anss_own {n : Int} (l : List Fop) {s t : Sto} (h : s n = t n) : anss t (own l n) = ((l.zip (anss s l)).filter fun p => decide (p.1.n = n)).map Prod.snd := by
  induction l generalizing s t with
  | nil => rfl
  | cons o r ih =>
    unfold own
    by_cases e : o.n = n
    · subst e
      rw [List.filter_cons_of_pos (by simp)]
      simp only [anss, List.zip_cons_cons]
      rw [List.filter_cons_of_pos (by simp), List.map_cons, fans_same h]
      congr 1
      exact ih (fnx_same h)
    · rw [List.filter_cons_of_neg (by simpa using e)]
      simp only [anss, List.zip_cons_cons]
      rw [List.filter_cons_of_neg (by simpa using e)]
      exact ih ((fnx_other (fun h2 => e h2.symm)).trans h)
end Go.Proofs.Ytfohihdpohjmcaa.Ftl
