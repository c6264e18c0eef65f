/-
  Pages that are replayed: the plain mathematics, without the program.
-/
import Derived.Test.YtiiadclcfbghkaaBase
namespace Go.Proofs.Ytiiadclcfbghkaa.Mnt
set_option linter.unusedVariables false

structure Pg where
  q : Int
  n : Int
  d : Int
  w : Bool
deriving DecidableEq
instance : Inhabited Pg := ⟨⟨0, 0, 0, false⟩⟩
def zeroP : Pg := ⟨0, 0, 0, false⟩
def zero16 : List Int := [0, 0, 0, 0, 0, 0, 0, 0, 0, 0, 0, 0, 0, 0, 0, 0]
def inN (p : Pg) : Bool := decide (0 ≤ p.n) && decide (p.n < 16)
theorem inN_yes {p : Pg} : inN p = true ↔ 0 ≤ p.n ∧ p.n < 16 := by unfold inN; simp
theorem inN_no {p : Pg} : inN p = false ↔ ¬ (0 ≤ p.n ∧ p.n < 16) := by rw [← inN_yes]; simp
def put1 (s : List Int) (p : Pg) : List Int := s.set p.n.toNat p.d
theorem put1_length (s : List Int) (p : Pg) : (put1 s p).length = s.length := List.length_set
def allN (l : List Pg) : Bool := l.all inN
theorem allN_iff {l : List Pg} : allN l = true ↔ ∀ p ∈ l, inN p = true := by unfold allN; rw [List.all_eq_true]
theorem allN_app (a b : List Pg) : allN (a ++ b) = (allN a && allN b) := List.all_append
theorem allN_one (p : Pg) : allN [p] = inN p := by simp [allN]
def run (s : List Int) (l : List Pg) : List Int := l.foldl put1 s
theorem run_length (l : List Pg) : ∀ s : List Int, (run s l).length = s.length := by
  induction l with
  | nil => intro s; rfl
  | cons p l ih => intro s; exact (ih (put1 s p)).trans (put1_length s p)
theorem run_app (s : List Int) (a b : List Pg) : run s (a ++ b) = run (run s a) b := List.foldl_append
theorem run_one (s : List Int) (p : Pg) : run s [p] = put1 s p := rfl
theorem take_next {α : Type} {l : List α} {k : Nat} {x : α} (h : l[k]? = some x) : l.take (k + 1) = l.take k ++ [x] := by
  rw [List.take_add_one, h]; rfl
def foS (s : List Int) (l : List Pg) : List Int := if allN l = true then run s l else zero16
def foE (l : List Pg) : Int := if allN l = true then 0 else 2
theorem foS_yes {s : List Int} {l : List Pg} (h : allN l = true) : foS s l = run s l := if_pos h
theorem foE_yes {l : List Pg} (h : allN l = true) : foE l = 0 := if_pos h
theorem foS_no {s : List Int} {l : List Pg} (h : allN l = false) : foS s l = zero16 := if_neg (by rw [h]; simp)
theorem foE_no {l : List Pg} (h : allN l = false) : foE l = 2 := if_neg (by rw [h]; simp)
theorem foS_length {s : List Int} {l : List Pg} (h : s.length = 16) : (foS s l).length = 16 := by
  unfold foS; split
  · rw [run_length, h]
  · rfl
theorem allN_bad {l : List Pg} {k : Nat} {p : Pg} (hp : l[k]? = some p) (h : inN p = false) : allN l = false := by
  cases hh : allN l
  · rfl
  · have := allN_iff.1 hh p (List.mem_of_getElem? hp)
    rw [h] at this; cases this

/-! ### the first page with a number -/
def mt (q : Int) (p : Pg) : Bool := p.w && decide (p.q = q)
theorem mt_yes {q : Int} {p : Pg} : mt q p = true ↔ p.w = true ∧ p.q = q := by unfold mt; simp
def fi (l : List Pg) (q : Int) : Option Pg := l.find? (mt q)
theorem fi_nil (q : Int) : fi [] q = none := rfl
theorem fi_some {l : List Pg} {q : Int} {p : Pg} (h : fi l q = some p) : p ∈ l ∧ p.w = true ∧ p.q = q :=
  ⟨List.mem_of_find?_eq_some h, mt_yes.1 (List.find?_some h)⟩
theorem fi_none {l : List Pg} {q : Int} (h : ∀ p ∈ l, p.w = true → p.q ≠ q) : fi l q = none :=
  List.find?_eq_none.2 fun p hp he => h p hp (mt_yes.1 he).1 (mt_yes.1 he).2
theorem fi_mem {l : List Pg} {q : Int} {p : Pg} (hp : p ∈ l) (hw : p.w = true) (hq : p.q = q) (hu : ∀ x ∈ l, x.w = true → x.q = q → x = p) : fi l q = some p := by
  cases h : fi l q with
  | none => exact absurd (mt_yes.2 ⟨hw, hq⟩) (List.find?_eq_none.1 h p hp)
  | some x => obtain ⟨h1, h2, h3⟩ := fi_some h; rw [hu x h1 h2 h3]
theorem fi_app (a : List Pg) (x : Pg) (q : Int) : fi (a ++ [x]) q = (fi a q).or (if mt q x = true then some x else none) := by
  unfold fi
  rw [List.find?_append]
  congr 1
  cases h : mt q x <;> simp [h]
/-- A page that is not whole, or whose number stands already, changes nothing. -/
theorem fi_skip {a : List Pg} {x : Pg} (h : (x.w && !(fi a x.q).isSome) = false) : fi (a ++ [x]) = fi a := by
  funext q
  rw [fi_app]
  cases hm : mt q x with
  | false => simp
  | true =>
    obtain ⟨hw, rfl⟩ := mt_yes.1 hm
    rw [hw] at h
    cases hf : fi a x.q with
    | none => rw [hf] at h; simp at h
    | some y => simp
theorem fi_take {a : List Pg} {x : Pg} (h : (x.w && !(fi a x.q).isSome) = true) : fi (a ++ [x]) = fun q => if q = x.q then some x else fi a q := by
  funext q
  rw [fi_app]
  have hw : x.w = true := by cases hx : x.w <;> simp [hx] at h ⊢
  have hn : fi a x.q = none := by cases hx : fi a x.q <;> simp [hx, hw] at h ⊢
  by_cases hq : q = x.q
  · subst hq
    rw [if_pos rfl, hn, if_pos (mt_yes.2 ⟨hw, rfl⟩)]; rfl
  · rw [if_neg hq, if_neg (by rw [mt_yes]; exact fun e => hq e.2.symm), Option.or_none]

/-! ### the pages that follow one another -/
def cnt (l : List Pg) (q : Int) : Nat := l.countP fun p => p.w && decide (q ≤ p.q)
theorem cnt_le (l : List Pg) (q : Int) : cnt l (q + 1) ≤ cnt l q := by
  unfold cnt
  refine List.countP_mono_left fun p _ h => ?_
  simp at h ⊢
  exact ⟨h.1, by omega⟩
theorem cnt_lt {l : List Pg} {q : Int} {p : Pg} (h : fi l q = some p) : cnt l (q + 1) < cnt l q := by
  induction l with
  | nil => cases h
  | cons a l ih =>
    unfold fi at h
    have hle := cnt_le l q
    unfold cnt at *
    rw [List.countP_cons, List.countP_cons]
    cases hm : mt q a with
    | true =>
      obtain ⟨hw, hq⟩ := mt_yes.1 hm
      have h1 : (a.w && decide (q + 1 ≤ a.q)) = false := by rw [hw, hq]; simp; omega
      have h2 : (a.w && decide (q ≤ a.q)) = true := by rw [hw, hq]; simp
      rw [h1, h2]
      simp only [Bool.false_eq_true, if_false, if_true]
      omega
    | false =>
      rw [List.find?_cons, hm] at h
      have := ih h
      have h3 : (if (a.w && decide (q + 1 ≤ a.q)) = true then 1 else 0) ≤ (if (a.w && decide (q ≤ a.q)) = true then 1 else 0) := by
        split
        · rename_i h4
          rw [if_pos]
          · exact Nat.le_refl _
          · simp at h4 ⊢
            exact ⟨h4.1, by omega⟩
        · split <;> omega
      omega
def rn (l : List Pg) : Nat → Int → List Pg
  | 0, _ => []
  | k + 1, q => match fi l q with
    | none => []
    | some p => p :: rn l k (q + 1)
def sq (l : List Pg) (q : Int) : List Pg := rn l (cnt l q) q
theorem rn_none {l : List Pg} {q : Int} (h : fi l q = none) (k : Nat) : rn l k q = [] := by
  cases k with
  | zero => rfl
  | succ k => unfold rn; rw [h]
theorem rn_more (l : List Pg) : ∀ (k k' : Nat) (q : Int), cnt l q ≤ k → cnt l q ≤ k' → rn l k q = rn l k' q := by
  intro k
  induction k with
  | zero =>
    intro k' q h h'
    have : fi l q = none := by
      cases hf : fi l q with
      | none => rfl
      | some p => have := cnt_lt hf; omega
    rw [rn_none this, rn_none this]
  | succ k ih =>
    intro k' q h h'
    cases hf : fi l q with
    | none => rw [rn_none hf, rn_none hf]
    | some p =>
      have hlt := cnt_lt hf
      cases k' with
      | zero => omega
      | succ k' =>
        unfold rn
        rw [hf]
        simp only
        rw [ih k' (q + 1) (by omega) (by omega)]
theorem sq_nil {l : List Pg} {q : Int} (h : fi l q = none) : sq l q = [] := rn_none h _
theorem sq_cons {l : List Pg} {q : Int} {p : Pg} (h : fi l q = some p) : sq l q = p :: sq l (q + 1) := by
  have hlt := cnt_lt h
  unfold sq
  obtain ⟨k, hk⟩ : ∃ k, cnt l q = k + 1 := ⟨cnt l q - 1, by omega⟩
  rw [hk]
  conv => lhs; unfold rn
  rw [h]
  simp only
  rw [rn_more l k (cnt l (q + 1)) (q + 1) (by omega) (Nat.le_refl _)]
theorem sq_le (l : List Pg) (q : Int) : (sq l q).length ≤ l.length := by
  have h : ∀ k q, (rn l k q).length ≤ k := by
    intro k
    induction k with
    | zero => intro q; exact Nat.le_refl _
    | succ k ih =>
      intro q
      unfold rn
      cases fi l q with
      | none => exact Nat.zero_le _
      | some p => exact Nat.succ_le_succ (ih _)
  exact Nat.le_trans (h _ _) (List.countP_le_length)
theorem sq_get (l : List Pg) : ∀ (k : Nat) (q : Int), k ≤ (sq l q).length → (sq l q)[k]? = fi l (q + k) := by
  intro k
  induction k with
  | zero =>
    intro q _
    rw [show q + ((0 : Nat) : Int) = q by omega]
    cases hf : fi l q with
    | none => rw [sq_nil hf]; rfl
    | some p => rw [sq_cons hf]; rfl
  | succ k ih =>
    intro q h
    cases hf : fi l q with
    | none => rw [sq_nil hf] at h; simp at h
    | some p =>
      rw [sq_cons hf] at h ⊢
      rw [List.getElem?_cons_succ, ih (q + 1) (by simpa using h)]
      congr 1; omega
theorem sq_end (l : List Pg) (q : Int) : fi l (q + (sq l q).length) = none := by
  rw [← sq_get l _ q (Nat.le_refl _), List.getElem?_eq_none (Nat.le_refl _)]
theorem sq_of {l : List Pg} {ps : List Pg} : ∀ {q : Int}, (∀ j p, ps[j]? = some p → fi l (q + (j : Nat)) = some p) → fi l (q + ps.length) = none → sq l q = ps := by
  induction ps with
  | nil => intro q _ h2; exact sq_nil (by simpa using h2)
  | cons p ps ih =>
    intro q h1 h2
    have h0 := h1 0 p rfl
    rw [show q + ((0 : Nat) : Int) = q by omega] at h0
    rw [sq_cons h0]
    congr 1
    refine ih (fun j x hx => ?_) ?_
    · have := h1 (j + 1) x (by simpa using hx)
      rw [← this]; congr 1; omega
    · rw [← h2]; congr 1; rw [List.length_cons]; omega
theorem sq_mem {l : List Pg} {q : Int} {p : Pg} (h : p ∈ sq l q) : p ∈ l := by
  obtain ⟨k, hk⟩ := List.getElem?_of_mem h
  have hlt := (List.getElem?_eq_some_iff.1 hk).1
  rw [sq_get l k q (by omega)] at hk
  exact (fi_some hk).1

/-! ### mounting -/
def okF (q : Int) : Bool := decide (0 ≤ q) && decide (q ≤ 1099511627776)
theorem okF_yes {q : Int} : okF q = true ↔ 0 ≤ q ∧ q ≤ 1099511627776 := by unfold okF; simp
theorem okF_no {q : Int} : okF q = false ↔ ¬ (0 ≤ q ∧ q ≤ 1099511627776) := by rw [← okF_yes]; simp
def okM (l : List Pg) (q : Int) : Bool := okF q && allN (sq l q)
def moS (s : List Int) (l : List Pg) (q : Int) : List Int := if okM l q = true then run s (sq l q) else zero16
def moN (l : List Pg) (q : Int) : Int := if okM l q = true then q + (sq l q).length else 0
def moE (l : List Pg) (q : Int) : Int := if okM l q = true then 0 else 2
section
variable {s : List Int} {l : List Pg} {q : Int}
theorem moS_yes (h : okM l q = true) : moS s l q = run s (sq l q) := if_pos h
theorem moN_yes (h : okM l q = true) : moN l q = q + (sq l q).length := if_pos h
theorem moE_yes (h : okM l q = true) : moE l q = 0 := if_pos h
theorem moS_no (h : okM l q = false) : moS s l q = zero16 := if_neg (by rw [h]; simp)
theorem moN_no (h : okM l q = false) : moN l q = 0 := if_neg (by rw [h]; simp)
theorem moE_no (h : okM l q = false) : moE l q = 2 := if_neg (by rw [h]; simp)
theorem moS_length (h : s.length = 16) : (moS s l q).length = 16 := by
  unfold moS; split
  · rw [run_length, h]
  · rfl
end
/-! ### what a search from the end finds -/
def Sc (l : List Pg) (q : Int) (k : Nat) (a : Int) : Prop :=
  (a = -1 ∧ ∀ (j : Nat) p, k ≤ j → l[j]? = some p → mt q p = false) ∨
  (∃ (j : Nat) (p : Pg), a = j ∧ k ≤ j ∧ l[j]? = some p ∧ mt q p = true ∧ ∀ (i : Nat) p', k ≤ i → i < j → l[i]? = some p' → mt q p' = false)
section
variable {l : List Pg} {q a : Int} {k : Nat} {p : Pg}
theorem Sc.start : Sc l q l.length (-1) := .inl ⟨rfl, fun j p hj hp => by rw [List.getElem?_eq_none hj] at hp; cases hp⟩
theorem Sc.hit (hp : l[k]? = some p) (hm : mt q p = true) : Sc l q k (k : Int) := .inr ⟨k, p, rfl, Nat.le_refl _, hp, hm, fun i p' h1 h2 _ => by omega⟩
theorem Sc.miss (h : Sc l q (k + 1) a) (hp : l[k]? = some p) (hm : mt q p = false) : Sc l q k a := by
  rcases h with ⟨rfl, h⟩ | ⟨j, x, rfl, hj, hx, hmx, h⟩
  · refine .inl ⟨rfl, fun j x hj hx => ?_⟩
    rcases Nat.lt_or_ge k j with h1 | h1
    · exact h j x h1 hx
    · obtain rfl : j = k := by omega
      rw [hp] at hx; cases hx; exact hm
  · refine .inr ⟨j, x, rfl, by omega, hx, hmx, fun i y h1 h2 hy => ?_⟩
    rcases Nat.lt_or_ge k i with h3 | h3
    · exact h i y h3 h2 hy
    · obtain rfl : i = k := by omega
      rw [hp] at hy; cases hy; exact hm
theorem Sc.done (h : Sc l q 0 a) : (a = -1 ∧ fi l q = none) ∨ ∃ (j : Nat) (p : Pg), a = j ∧ l[j]? = some p ∧ fi l q = some p := by
  rcases h with ⟨rfl, h⟩ | ⟨j, x, rfl, _, hx, hmx, h⟩
  · refine .inl ⟨rfl, List.find?_eq_none.2 fun p hp he => ?_⟩
    obtain ⟨j, hj⟩ := List.getElem?_of_mem hp
    rw [h j p (Nat.zero_le _) hj] at he; cases he
  · refine .inr ⟨j, x, rfl, hx, ?_⟩
    obtain ⟨hj, hx'⟩ := List.getElem?_eq_some_iff.1 hx
    unfold fi
    rw [List.find?_eq_some_iff_getElem]
    refine ⟨hmx, j, hj, hx', fun i hi => ?_⟩
    rw [h i l[i] (Nat.zero_le _) hi (List.getElem?_eq_getElem (by omega))]; rfl
end
/-! ### pages as they are written -/
def wpg (k : Nat) (p : Pg) : Pg := ⟨(k : Int), p.n, p.d, true⟩
def wrt (l : List Pg) : List Pg := l.mapIdx wpg
theorem wrt_length (l : List Pg) : (wrt l).length = l.length := List.length_mapIdx
theorem wrt_get (l : List Pg) (k : Nat) : (wrt l)[k]? = l[k]?.map (wpg k) := List.getElem?_mapIdx
theorem wrt_next {l : List Pg} {k : Nat} {p : Pg} (h : l[k]? = some p) : wrt (l.take (k + 1)) = wrt (l.take k) ++ [wpg k p] := by
  have hk := (List.getElem?_eq_some_iff.1 h).1
  rw [take_next h]
  unfold wrt
  rw [List.mapIdx_append, List.length_take, Nat.min_eq_left (by omega)]
  simp
theorem wrt_all (l : List Pg) : allN (wrt l) = allN l := by
  cases h : allN l
  · cases h2 : allN (wrt l)
    · rfl
    · have h3 : allN l = true := allN_iff.2 fun p hp => by
        obtain ⟨k, hk⟩ := List.getElem?_of_mem hp
        have h4 := allN_iff.1 h2 (wpg k p) (List.mem_of_getElem? (i := k) (by rw [wrt_get, hk]; rfl))
        exact h4
      rw [h] at h3; cases h3
  · refine allN_iff.2 fun p hp => ?_
    obtain ⟨k, hk⟩ := List.getElem?_of_mem hp
    rw [wrt_get] at hk
    obtain ⟨x, hx, rfl⟩ := Option.map_eq_some_iff.1 hk
    exact allN_iff.1 h x (List.mem_of_getElem? hx)
theorem wrt_form {l : List Pg} {p : Pg} (hp : p ∈ wrt l) : p.w = true ∧ ∃ k : Nat, p.q = k ∧ (wrt l)[k]? = some p := by
  obtain ⟨k, hk⟩ := List.getElem?_of_mem hp
  have hk' := hk
  rw [wrt_get] at hk'
  obtain ⟨x, hx, rfl⟩ := Option.map_eq_some_iff.1 hk'
  exact ⟨rfl, k, rfl, hk⟩
theorem wrt_one {l : List Pg} {a b : Pg} (ha : a ∈ wrt l) (hb : b ∈ wrt l) (h : a.q = b.q) : a = b := by
  obtain ⟨_, i, hi, ei⟩ := wrt_form ha
  obtain ⟨_, j, hj, ej⟩ := wrt_form hb
  have : i = j := by omega
  subst this
  rw [ei] at ej; cases ej; rfl
/-- Whatever holds the same whole pages holds the written ones from each number on. -/
theorem sq_same {f : List Pg} {l : List Pg} (h1 : ∀ p, p ∈ f → p.w = true → p ∈ wrt l) (h2 : ∀ p, p ∈ wrt l → p ∈ f) (k : Nat) (hk : k ≤ l.length) : sq f k = (wrt l).drop k := by
  refine sq_of (fun j p hp => ?_) ?_
  · rw [List.getElem?_drop] at hp
    have hm := List.mem_of_getElem? hp
    obtain ⟨hw, i, hi, ei⟩ := wrt_form hm
    have hq : p.q = (k : Int) + (j : Int) := by
      have hp2 := hp
      rw [wrt_get] at hp2
      obtain ⟨x, _, rfl⟩ := Option.map_eq_some_iff.1 hp2
      show ((k + j : Nat) : Int) = _
      omega
    exact fi_mem (h2 p hm) hw hq fun x hx hxw hxq => wrt_one (h1 x hx hxw) hm (by rw [hxq, hq])
  · refine fi_none fun p hp hw he => ?_
    obtain ⟨_, i, hi, ei⟩ := wrt_form (h1 p hp hw)
    have := (List.getElem?_eq_some_iff.1 ei).1
    rw [wrt_length] at this
    rw [List.length_drop, wrt_length] at he
    omega
/-- Without one of them, those ahead of it. -/
theorem sq_lost {l : List Pg} {m : Nat} (hm : m < l.length) : sq ((wrt l).eraseIdx m) 0 = (wrt l).take m := by
  have hf : ∀ p, p ∈ (wrt l).eraseIdx m → ∃ i, i ≠ m ∧ (wrt l)[i]? = some p := fun p hp => by
    obtain ⟨i, hi⟩ := List.getElem?_of_mem hp
    rw [List.getElem?_eraseIdx] at hi
    split at hi
    · exact ⟨i, by omega, hi⟩
    · exact ⟨i + 1, by omega, hi⟩
  refine sq_of (fun j p hp => ?_) ?_
  · have hj : j < m := by
      have := (List.getElem?_eq_some_iff.1 hp).1
      rw [List.length_take] at this; omega
    rw [List.getElem?_take, if_pos hj] at hp
    have hm' := List.mem_of_getElem? hp
    obtain ⟨hw, i, hi, ei⟩ := wrt_form hm'
    have hq : p.q = (0 : Int) + (j : Int) := by
      rw [wrt_get] at hp
      obtain ⟨x, _, rfl⟩ := Option.map_eq_some_iff.1 hp
      show ((j : Nat) : Int) = _
      omega
    refine fi_mem (List.mem_of_getElem? (i := j) (by rw [List.getElem?_eraseIdx, if_pos hj]; exact hp)) hw hq fun x hx hxw hxq => ?_
    obtain ⟨y, _, hy⟩ := hf x hx
    exact wrt_one (List.mem_of_getElem? hy) hm' (by rw [hxq, hq])
  · refine fi_none fun p hp hw he => ?_
    obtain ⟨i, hne, hi⟩ := hf p hp
    have hl : ((wrt l).take m).length = m := by rw [List.length_take, wrt_length]; omega
    rw [hl] at he
    rw [wrt_get] at hi
    obtain ⟨x, _, rfl⟩ := Option.map_eq_some_iff.1 hi
    have : ((i : Nat) : Int) = 0 + (m : Int) := he
    omega
end Go.Proofs.Ytiiadclcfbghkaa.Mnt
