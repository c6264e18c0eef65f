/-
  Plain facts of the mapping: a list of the numbers that the pages were given, -1 where none is left. No program.
-/
import Derived.Test.YtegllglfnngijaaBase
namespace Go.Proofs.Ytegllglfnngijaa.Rem
open Words
set_option linter.unusedVariables false

def none16 : List Int := List.replicate 16 (-1)
def zero16 : List Int := List.replicate 16 0
/-- The first place of x, or -1. -/
def idx : List Int → Int → Int
  | [], _ => -1
  | a :: l, x => if a = x then 0 else if idx l x = -1 then -1 else idx l x + 1
theorem idx_ge (l : List Int) (x : Int) : -1 ≤ idx l x := by
  induction l with
  | nil => simp [idx]
  | cons a l ih =>
    unfold idx
    split
    · omega
    · split <;> omega
theorem idx_not {l : List Int} {x : Int} : idx l x = -1 ↔ x ∉ l := by
  induction l with
  | nil => simp [idx]
  | cons a l ih =>
    unfold idx
    have := idx_ge l x
    by_cases h : a = x
    · subst h; simp
    · rw [if_neg h]
      have hx : x ≠ a := fun e => h e.symm
      by_cases h2 : idx l x = -1
      · rw [if_pos h2]; simp [hx, ih.1 h2]
      · rw [if_neg h2]
        constructor
        · intro e; omega
        · intro e
          simp [hx] at e
          exact absurd (ih.2 e) h2
/-- What it is, where there is one. -/
theorem idx_is {l : List Int} {x : Int} (h : idx l x ≠ -1) : ∃ p : Nat, idx l x = p ∧ p < l.length ∧ l[p]? = some x ∧ ∀ q, q < p → l[q]? ≠ some x := by
  induction l with
  | nil => simp [idx] at h
  | cons a l ih =>
    unfold idx at h ⊢
    by_cases e : a = x
    · subst e
      rw [if_pos rfl]
      exact ⟨0, rfl, by simp, by simp, fun q hq => by omega⟩
    · rw [if_neg e] at h ⊢
      by_cases h2 : idx l x = -1
      · rw [if_pos h2] at h; exact absurd rfl h
      · rw [if_neg h2]
        obtain ⟨p, hp, hl, hg, hq⟩ := ih h2
        refine ⟨p + 1, by omega, by simpa using hl, by simpa using hg, fun q hq' => ?_⟩
        cases q with
        | zero => simpa using e
        | succ q => simpa using hq q (by omega)
theorem idx_at {l : List Int} {x : Int} {p : Nat} (hg : l[p]? = some x) (hq : ∀ q, q < p → l[q]? ≠ some x) : idx l x = p := by
  have hm : x ∈ l := List.mem_iff_getElem?.2 ⟨p, hg⟩
  obtain ⟨r, hr, _, hg2, hq2⟩ := idx_is (l := l) (x := x) (fun e => (idx_not.1 e) hm)
  rw [hr]
  rcases Nat.lt_trichotomy r p with h | h | h
  · exact absurd hg2 (hq r h)
  · omega
  · exact absurd hg (hq2 p h)
theorem idx_lt {l : List Int} {x : Int} : idx l x < l.length := by
  by_cases h : idx l x = -1
  · omega
  · obtain ⟨p, hp, hl, _⟩ := idx_is h; omega
/-- The pages' numbers: from -1 to 15, and none but -1 twice. -/
structure Ok (wr : List Int) : Prop where
  rng : ∀ (p : Nat) (x : Int), wr[p]? = some x → -1 ≤ x ∧ x < 16
  one : ∀ (p q : Nat) (x : Int), 0 ≤ x → wr[p]? = some x → wr[q]? = some x → p = q
theorem ok_nil : Ok [] := ⟨fun p x h => by simp at h, fun p q x _ h => by simp at h⟩
theorem Ok.idx {wr : List Int} (h : Ok wr) {p : Nat} {x : Int} (hx : 0 ≤ x) (hp : wr[p]? = some x) : idx wr x = p :=
  idx_at hp fun q hq e => by have := h.one p q x hx hp e; omega
/-- The list with n forgotten. -/
def fg (wr : List Int) (n : Int) : List Int := if idx wr n = -1 then wr else wr.set (idx wr n).toNat (-1)
theorem fg_none {wr : List Int} {n : Int} (h : idx wr n = -1) : fg wr n = wr := by unfold fg; rw [if_pos h]
theorem fg_some {wr : List Int} {n : Int} {p : Nat} (h : idx wr n = p) : fg wr n = wr.set p (-1) := by
  unfold fg
  rw [if_neg (by omega), h]; rfl
theorem fg_length (wr : List Int) (n : Int) : (fg wr n).length = wr.length := by
  unfold fg; split <;> simp
theorem fg_get (wr : List Int) (n : Int) (q : Nat) : (fg wr n)[q]? = if idx wr n = q then (if q < wr.length then some (-1) else none) else wr[q]? := by
  by_cases h : idx wr n = -1
  · rw [fg_none h, if_neg (by omega)]
  · obtain ⟨p, hp, hl, _⟩ := idx_is h
    rw [fg_some hp, List.getElem?_set]
    by_cases e : p = q
    · subst e; simp [hp, hl]
    · rw [if_neg e, if_neg (by omega)]
theorem fg_ok {wr : List Int} (h : Ok wr) (n : Int) : Ok (fg wr n) := by
  have g : ∀ {q : Nat} {x : Int}, (fg wr n)[q]? = some x → x = -1 ∨ wr[q]? = some x := fun {q x} e => by
    rw [fg_get] at e
    split at e
    · split at e
      · injection e with e; exact .inl e.symm
      · cases e
    · exact .inr e
  refine ⟨fun p x hp => ?_, fun p q x hx hp hq => ?_⟩
  · rcases g hp with rfl | e
    · omega
    · exact h.rng p x e
  · rcases g hp with rfl | e
    · omega
    · rcases g hq with rfl | e2
      · omega
      · exact h.one p q x hx e e2
theorem fg_gone {wr : List Int} (h : Ok wr) {n : Int} (hn : 0 ≤ n) : n ∉ fg wr n := by
  intro hm
  obtain ⟨q, hq⟩ := List.mem_iff_getElem?.1 hm
  rw [fg_get] at hq
  split at hq
  · split at hq
    · injection hq with hq; omega
    · cases hq
  · rename_i hne
    exact hne (h.idx hn hq)
theorem fg_idx_same {wr : List Int} (h : Ok wr) {n : Int} (hn : 0 ≤ n) : idx (fg wr n) n = -1 := idx_not.2 (fg_gone h hn)
theorem fg_idx_other {wr : List Int} (h : Ok wr) {n m : Int} (hm : 0 ≤ m) (hne : m ≠ n) : idx (fg wr n) m = idx wr m := by
  by_cases e : idx wr m = -1
  · rw [e, idx_not]
    intro hx
    obtain ⟨q, hq⟩ := List.mem_iff_getElem?.1 hx
    rw [fg_get] at hq
    split at hq
    · split at hq
      · injection hq with hq; omega
      · cases hq
    · exact (idx_not.1 e) (List.mem_iff_getElem?.2 ⟨q, hq⟩)
  · obtain ⟨p, hp, hl, hg, hq⟩ := idx_is e
    rw [hp]
    refine (fg_ok h n).idx hm ?_
    rw [fg_get, if_neg, hg]
    intro e2
    obtain ⟨r, hr, _, hg2, _⟩ := idx_is (l := wr) (x := n) (by omega)
    have : r = p := by omega
    subst this
    rw [hg] at hg2
    injection hg2 with hg2
    exact hne hg2
/-- The list with n given the next page. -/
def put (wr : List Int) (n : Int) : List Int := fg wr n ++ [n]
theorem put_length (wr : List Int) (n : Int) : (put wr n).length = wr.length + 1 := by unfold put; rw [List.length_append, fg_length]; rfl
theorem put_ok {wr : List Int} (h : Ok wr) {n : Int} (hn : 0 ≤ n) (h16 : n < 16) : Ok (put wr n) := by
  have hk := fg_ok h n
  have hgone := fg_gone h hn
  have g : ∀ {q : Nat} {x : Int}, (put wr n)[q]? = some x → (q < (fg wr n).length ∧ (fg wr n)[q]? = some x) ∨ (q = (fg wr n).length ∧ x = n) := fun {q x} e => by
    unfold put at e
    rcases Nat.lt_or_ge q (fg wr n).length with hl | hl
    · rw [List.getElem?_append_left hl] at e
      exact .inl ⟨hl, e⟩
    · rw [List.getElem?_append_right hl] at e
      have h0 := (List.getElem?_eq_some_iff.1 e).1
      simp at h0
      have hq : q = (fg wr n).length := by omega
      subst hq
      simp at e
      exact .inr ⟨rfl, e.symm⟩
  refine ⟨fun p x hp => ?_, fun p q x hx hp hq => ?_⟩
  · rcases g hp with ⟨_, e⟩ | ⟨_, rfl⟩
    · exact hk.rng p x e
    · omega
  · rcases g hp with ⟨_, e⟩ | ⟨rfl, rfl⟩
    · rcases g hq with ⟨_, e2⟩ | ⟨rfl, rfl⟩
      · exact hk.one p q x hx e e2
      · exact absurd (List.mem_iff_getElem?.2 ⟨_, e⟩) hgone
    · rcases g hq with ⟨_, e2⟩ | ⟨rfl, _⟩
      · exact absurd (List.mem_iff_getElem?.2 ⟨_, e2⟩) hgone
      · rfl
theorem put_idx_same {wr : List Int} (h : Ok wr) {n : Int} (hn : 0 ≤ n) (h16 : n < 16) : idx (put wr n) n = wr.length := by
  refine (put_ok h hn h16).idx hn ?_
  unfold put
  rw [List.getElem?_append_right (by rw [fg_length]; exact Nat.le_refl _), fg_length]; simp
theorem put_idx_other {wr : List Int} (h : Ok wr) {n m : Int} (hn : 0 ≤ n) (h16 : n < 16) (hm : 0 ≤ m) (hne : m ≠ n) : idx (put wr n) m = idx wr m := by
  rw [← fg_idx_other h hm hne]
  by_cases e : idx (fg wr n) m = -1
  · rw [e, idx_not]
    unfold put
    rw [List.mem_append]
    intro hx
    rcases hx with hx | hx
    · exact (idx_not.1 e) hx
    · simp at hx; exact hne hx
  · obtain ⟨p, hp, hl, hg, _⟩ := idx_is e
    rw [hp]
    refine (put_ok h hn h16).idx hm ?_
    unfold put
    rw [List.getElem?_append_left hl]; exact hg
/-- Each number's page. -/
def ats (wr : List Int) : List Int := (List.range 16).map fun (n : Nat) => idx wr (n : Int)
theorem ats_length (wr : List Int) : (ats wr).length = 16 := by unfold ats; simp
theorem ats_get (wr : List Int) {n : Nat} (hn : n < 16) : (ats wr)[n]? = some (idx wr (n : Int)) := by unfold ats; simp [hn]
theorem ats_nil : ats [] = none16 := by decide +kernel
theorem ats_ext {wr : List Int} {l : List Int} (hl : l.length = 16) (h : ∀ n : Nat, n < 16 → l[n]? = some (idx wr (n : Int))) : ats wr = l :=
  same_lists (ats_length wr) hl rfl fun j hj => by rw [ats_get wr hj, h j hj]
theorem ats_fg {wr : List Int} (h : Ok wr) {n : Nat} (hn : n < 16) : ats (fg wr n) = (ats wr).set n (-1) := by
  refine ats_ext (by rw [List.length_set, ats_length]) fun m hm => ?_
  rw [List.getElem?_set]
  by_cases e : n = m
  · subst e
    rw [if_pos rfl, if_pos (by rw [ats_length]; exact hn), fg_idx_same h (by omega)]
  · rw [if_neg e, ats_get wr hm, fg_idx_other h (by omega) (by omega)]
theorem ats_put {wr : List Int} (h : Ok wr) {n : Nat} (hn : n < 16) : ats (put wr n) = (ats (fg wr n)).set n wr.length := by
  refine ats_ext (by rw [List.length_set, ats_length]) fun m hm => ?_
  rw [List.getElem?_set]
  by_cases e : n = m
  · subst e
    rw [if_pos rfl, if_pos (by rw [ats_length]; exact hn), put_idx_same h (by omega) (by omega)]
  · rw [if_neg e, ats_get _ hm, put_idx_other h (by omega) (by omega) (by omega) (by omega), fg_idx_other h (by omega) (by omega)]
theorem ats_fg_none {wr : List Int} {n : Nat} (hn : n < 16) (h : idx wr n = -1) : (ats wr).set n (-1) = ats wr := by
  apply List.ext_getElem?
  intro m
  rw [List.getElem?_set]
  by_cases e : n = m
  · subst e
    rw [if_pos rfl, if_pos (by rw [ats_length]; exact hn), ats_get wr hn, h]
  · rw [if_neg e]
/-- Each page's number. -/
def nos (P : Nat) (wr : List Int) : List Int := wr ++ List.replicate (P - wr.length) (-1)
theorem nos_length {P : Nat} {wr : List Int} (h : wr.length ≤ P) : (nos P wr).length = P := by unfold nos; rw [List.length_append, List.length_replicate]; omega
theorem nos_nil (P : Nat) : nos P [] = List.replicate P (-1) := by unfold nos; simp
theorem nos_left {P : Nat} {wr : List Int} {p : Nat} (h : p < wr.length) : (nos P wr)[p]? = wr[p]? := by unfold nos; rw [List.getElem?_append_left h]
theorem nos_right {P : Nat} {wr : List Int} {p : Nat} (h : wr.length ≤ p) (hp : p < P) : (nos P wr)[p]? = some (-1) := by
  unfold nos
  rw [List.getElem?_append_right h, List.getElem?_replicate, if_pos (by omega)]
theorem nos_fg {P : Nat} {wr : List Int} {n : Int} {p : Nat} (h : idx wr n = p) : nos P (fg wr n) = (nos P wr).set p (-1) := by
  have hl := idx_lt (l := wr) (x := n)
  unfold nos
  rw [fg_length, fg_some h, List.set_append_left _ _ (by omega)]
theorem nos_put {P : Nat} {wr : List Int} {n : Int} (h : wr.length < P) : nos P (put wr n) = (nos P (fg wr n)).set wr.length n := by
  unfold nos put
  rw [List.set_append_right _ _ (by rw [fg_length]; exact Nat.le_refl _), List.append_assoc]
  congr 1
  rw [fg_length, Nat.sub_self, List.length_append, fg_length]
  rw [show P - wr.length = (P - (wr.length + 1)) + 1 by omega, List.replicate_succ, List.set_cons_zero]
  simp
/-- An operation. -/
structure Mop where
  kind : Int
  n : Int
theorem Mop.ext' {x y : Mop} (h0 : x.kind = y.kind) (h1 : x.n = y.n) : x = y := by cases x; cases y; simp at h0 h1; subst h0 h1; rfl
def mkind (o : Mop) : Bool := (o.kind == 1) || (o.kind == 2)
def mrange (o : Mop) : Bool := decide (0 ≤ o.n) && decide (o.n < 16)
def merr (P : Nat) (wr : List Int) (o : Mop) : Int :=
  if mkind o = false then 5 else if mrange o = false then 2 else if o.kind = 1 then (if wr.length = P then 4 else 0) else if idx wr o.n = -1 then 3 else 0
def mnx (P : Nat) (wr : List Int) (o : Mop) : List Int :=
  if merr P wr o = 0 then (if o.kind = 1 then put wr o.n else fg wr o.n) else wr
theorem mnx_ne {P : Nat} {wr : List Int} {o : Mop} (h : merr P wr o ≠ 0) : mnx P wr o = wr := by unfold mnx; rw [if_neg h]
theorem mk_iff {o : Mop} : mkind o = true ↔ o.kind = 1 ∨ o.kind = 2 := by unfold mkind; simp
theorem mr_iff {o : Mop} : mrange o = true ↔ 0 ≤ o.n ∧ o.n < 16 := by unfold mrange; simp
theorem merr_kind {P : Nat} {wr : List Int} {o : Mop} (h : ¬ (o.kind = 1 ∨ o.kind = 2)) : merr P wr o = 5 := by
  unfold merr
  rw [if_pos (by rw [← Bool.not_eq_true, mk_iff]; exact h)]
theorem merr_range {P : Nat} {wr : List Int} {o : Mop} (h : o.kind = 1 ∨ o.kind = 2) (hr : ¬ (0 ≤ o.n ∧ o.n < 16)) : merr P wr o = 2 := by
  unfold merr
  rw [if_neg (by rw [mk_iff.2 h]; simp), if_pos (by rw [← Bool.not_eq_true, mr_iff]; exact hr)]
theorem merr_write {P : Nat} {wr : List Int} {o : Mop} (h : o.kind = 1) (hr : 0 ≤ o.n ∧ o.n < 16) : merr P wr o = if wr.length = P then 4 else 0 := by
  unfold merr
  rw [if_neg (by rw [mk_iff.2 (.inl h)]; simp), if_neg (by rw [mr_iff.2 hr]; simp), if_pos h]
theorem merr_trim {P : Nat} {wr : List Int} {o : Mop} (h : o.kind = 2) (hr : 0 ≤ o.n ∧ o.n < 16) : merr P wr o = if idx wr o.n = -1 then 3 else 0 := by
  unfold merr
  rw [if_neg (by rw [mk_iff.2 (.inr h)]; simp), if_neg (by rw [mr_iff.2 hr]; simp), if_neg (by omega)]
/-- What an operation without an error was. -/
theorem merr_zero {P : Nat} {wr : List Int} {o : Mop} (h : merr P wr o = 0) : (0 ≤ o.n ∧ o.n < 16) ∧ ((o.kind = 1 ∧ wr.length ≠ P ∧ mnx P wr o = put wr o.n) ∨ (o.kind = 2 ∧ idx wr o.n ≠ -1 ∧ mnx P wr o = fg wr o.n)) := by
  by_cases hk : o.kind = 1 ∨ o.kind = 2
  · by_cases hr : 0 ≤ o.n ∧ o.n < 16
    · refine ⟨hr, ?_⟩
      have hm : mnx P wr o = if o.kind = 1 then put wr o.n else fg wr o.n := by unfold mnx; rw [if_pos h]
      rcases hk with hk | hk
      · rw [merr_write hk hr] at h
        rw [if_pos hk] at hm
        refine .inl ⟨hk, fun e => ?_, hm⟩
        rw [if_pos e] at h; omega
      · rw [merr_trim hk hr] at h
        rw [if_neg (by omega)] at hm
        refine .inr ⟨hk, fun e => ?_, hm⟩
        rw [if_pos e] at h; omega
    · rw [merr_range hk hr] at h; omega
  · rw [merr_kind hk] at h; omega
theorem mnx_ok {P : Nat} {wr : List Int} {o : Mop} (h : Ok wr) (hl : wr.length ≤ P) : Ok (mnx P wr o) ∧ (mnx P wr o).length ≤ P := by
  by_cases he : merr P wr o = 0
  · obtain ⟨hr, ⟨_, hne, hm⟩ | ⟨_, _, hm⟩⟩ := merr_zero he
    · rw [hm]; exact ⟨put_ok h hr.1 hr.2, by rw [put_length]; omega⟩
    · rw [hm]; exact ⟨fg_ok h _, by rw [fg_length]; exact hl⟩
  · rw [mnx_ne he]; exact ⟨h, hl⟩
/-! ### runs -/
def runW (P : Nat) (wr : List Int) : List Mop → List Int
  | [] => wr
  | o :: t => runW P (mnx P wr o) t
def errs (P : Nat) (wr : List Int) : List Mop → List Int
  | [] => []
  | o :: t => merr P wr o :: errs P (mnx P wr o) t
theorem errs_length (P : Nat) (wr : List Int) (l : List Mop) : (errs P wr l).length = l.length := by
  induction l generalizing wr with
  | nil => rfl
  | cons o t ih => unfold errs; simp [ih]
theorem runW_append (P : Nat) (wr : List Int) (a b : List Mop) : runW P wr (a ++ b) = runW P (runW P wr a) b := by
  induction a generalizing wr with
  | nil => rfl
  | cons o t ih => simp only [List.cons_append, runW]; exact ih _
theorem errs_append (P : Nat) (wr : List Int) (a b : List Mop) : errs P wr (a ++ b) = errs P wr a ++ errs P (runW P wr a) b := by
  induction a generalizing wr with
  | nil => rfl
  | cons o t ih => simp only [List.cons_append, errs, runW]; rw [ih]
theorem run_ok {P : Nat} (l : List Mop) {wr : List Int} (h : Ok wr) (hl : wr.length ≤ P) : Ok (runW P wr l) ∧ (runW P wr l).length ≤ P := by
  induction l generalizing wr with
  | nil => exact ⟨h, hl⟩
  | cons o t ih => unfold runW; obtain ⟨a, b⟩ := mnx_ok (o := o) h hl; exact ih a b
/-- Behind k operations. -/
def W (P : Nat) (l : List Mop) (k : Nat) : List Int := runW P [] (l.take k)
def E (P : Nat) (l : List Mop) (k : Nat) : List Int := errs P [] (l.take k)
theorem W_zero (P : Nat) (l : List Mop) : W P l 0 = [] := by unfold W; simp [runW]
theorem E_zero (P : Nat) (l : List Mop) : E P l 0 = [] := by unfold E; simp [errs]
theorem W_ok (P : Nat) (l : List Mop) (k : Nat) : Ok (W P l k) ∧ (W P l k).length ≤ P := run_ok _ ok_nil (Nat.zero_le _)
theorem take_next {l : List Mop} {k : Nat} {o : Mop} (h : l[k]? = some o) : l.take (k + 1) = l.take k ++ [o] := by
  obtain ⟨hk, rfl⟩ := List.getElem?_eq_some_iff.1 h
  rw [List.take_add_one, List.getElem?_eq_getElem hk]; rfl
theorem W_next {P : Nat} {l : List Mop} {k : Nat} {o : Mop} (h : l[k]? = some o) : W P l (k + 1) = mnx P (W P l k) o := by
  unfold W; rw [take_next h, runW_append]; rfl
theorem E_next {P : Nat} {l : List Mop} {k : Nat} {o : Mop} (h : l[k]? = some o) : E P l (k + 1) = E P l k ++ [merr P (W P l k) o] := by
  unfold E W; rw [take_next h, errs_append]; rfl
theorem E_length {P : Nat} {l : List Mop} {k : Nat} (h : k ≤ l.length) : (E P l k).length = k := by unfold E; rw [errs_length, List.length_take]; omega
theorem W_all {P : Nat} {l : List Mop} {k : Nat} (h : l.length ≤ k) : W P l k = runW P [] l := by unfold W; rw [List.take_of_length_le h]
theorem E_all {P : Nat} {l : List Mop} {k : Nat} (h : l.length ≤ k) : E P l k = errs P [] l := by unfold E; rw [List.take_of_length_le h]
/-! ### what Play returns -/
def pok (pages : Int) : Bool := decide (0 ≤ pages) && decide (pages ≤ 4096)
theorem pok_iff {pages : Int} : pok pages = true ↔ 0 ≤ pages ∧ pages ≤ 4096 := by unfold pok; simp
def perr (pages : Int) : Int := if pok pages then 0 else 2
def pErrs (pages : Int) (l : List Mop) : List Int := if pok pages then errs pages.toNat [] l else []
def pAt (pages : Int) (l : List Mop) : List Int := if pok pages then ats (runW pages.toNat [] l) else zero16
def pNo (pages : Int) (l : List Mop) : List Int := if pok pages then nos pages.toNat (runW pages.toNat [] l) else []
theorem pAt_length (pages : Int) (l : List Mop) : (pAt pages l).length = 16 := by
  unfold pAt; split
  · exact ats_length _
  · rfl
/-! ### what Again returns -/
def allN (l : List Int) : Bool := l.all fun x => decide (0 ≤ x) && decide (x < 16)
theorem allN_iff {l : List Int} : allN l = true ↔ ∀ x ∈ l, 0 ≤ x ∧ x < 16 := by unfold allN; simp
def lasts (l : List Int) : Nat → List Int
  | 0 => none16
  | k + 1 => (lasts l k).set (l.getD k 0).toNat k
theorem lasts_length (l : List Int) (k : Nat) : (lasts l k).length = 16 := by
  induction k with
  | zero => rfl
  | succ k ih => unfold lasts; rw [List.length_set, ih]
/-- v is the last place of n among the first k. -/
def IsLast (l : List Int) (k : Nat) (n : Int) (v : Int) : Prop := (v = -1 ∧ ∀ j, j < k → l[j]? ≠ some n) ∨ ∃ p : Nat, v = p ∧ p < k ∧ l[p]? = some n ∧ ∀ j, p < j → j < k → l[j]? ≠ some n
theorem isLast_one {l : List Int} {k : Nat} {n v u : Int} (h : IsLast l k n v) (h2 : IsLast l k n u) : v = u := by
  rcases h with ⟨rfl, h⟩ | ⟨p, rfl, hp, hg, h⟩
  · rcases h2 with ⟨rfl, _⟩ | ⟨q, _, hq, hg, _⟩
    · rfl
    · exact absurd hg (h q hq)
  · rcases h2 with ⟨_, h2⟩ | ⟨q, rfl, hq, hg2, h2⟩
    · exact absurd hg (h2 p hp)
    · rcases Nat.lt_trichotomy p q with e | e | e
      · exact absurd hg2 (h q e hq)
      · rw [e]
      · exact absurd hg (h2 p e hp)
theorem lasts_is {l : List Int} (ha : allN l = true) {k : Nat} (hk : k ≤ l.length) {n : Nat} (hn : n < 16) : ∃ v, (lasts l k)[n]? = some v ∧ IsLast l k n v := by
  induction k with
  | zero =>
    refine ⟨-1, ?_, .inl ⟨rfl, fun j hj => by omega⟩⟩
    show (List.replicate 16 (-1 : Int))[n]? = _
    rw [List.getElem?_replicate, if_pos hn]
  | succ k ih =>
    obtain ⟨v, hv, hi⟩ := ih (by omega)
    have hg : l[k]? = some l[k] := List.getElem?_eq_getElem (by omega)
    obtain ⟨x0, x1⟩ := allN_iff.1 ha l[k] (List.getElem_mem _)
    have hd : l.getD k 0 = l[k] := by simp [List.getD, hg]
    unfold lasts
    rw [hd, List.getElem?_set]
    by_cases e : l[k].toNat = n
    · rw [if_pos e, if_pos (by rw [lasts_length]; omega)]
      exact ⟨k, rfl, .inr ⟨k, rfl, by omega, by rw [hg]; congr 1; omega, fun j h1 h2 => by omega⟩⟩
    · rw [if_neg e]
      have hne : l[k]? ≠ some (n : Int) := by rw [hg]; intro h; injection h with h; omega
      refine ⟨v, hv, ?_⟩
      rcases hi with ⟨rfl, h⟩ | ⟨p, rfl, hp, hg, h⟩
      · exact .inl ⟨rfl, fun j hj => by
          by_cases hjk : j = k
          · subst hjk; exact hne
          · exact h j (by omega)⟩
      · exact .inr ⟨p, rfl, by omega, hg, fun j h1 h2 => by
          by_cases hjk : j = k
          · subst hjk; exact hne
          · exact h j h1 (by omega)⟩
def aErr (l : List Int) : Int := if allN l then 0 else 1
def aAt (l : List Int) : List Int := if allN l then lasts l l.length else zero16
theorem aAt_length (l : List Int) : (aAt l).length = 16 := by
  unfold aAt; split
  · exact lasts_length _ _
  · rfl
end Go.Proofs.Ytegllglfnngijaa.Rem
