/-
  Records one behind the other: what is written, what is read of it; torn, spoilt, joined. No program.
-/
import Derived.Test.YtdckhfgfmkggiaaCPlain
namespace Go.Proofs.Ytdckhfgfmkggiaa.Jrn
open Crc (sum sealed_ sealed_length sum_sealed sum_zero_iff hi lo sealed_of byte_lt)
set_option linter.unusedVariables false

abbrev Bytes := List UInt8
def hd (r : Bytes) : UInt8 := UInt8.ofNat r.length
theorem hd_nat {r : Bytes} (h : r.length ≤ 255) : (hd r).toNat = r.length := by unfold hd; rw [UInt8.toNat_ofNat']; exact Nat.mod_eq_of_lt (by omega)
/-- A record in the journal. -/
def enc (r : Bytes) : Bytes := sealed_ (hd r :: r)
theorem enc_length (r : Bytes) : (enc r).length = r.length + 3 := by unfold enc; rw [sealed_length]; rfl
def tot : List Bytes → Nat
  | [] => 0
  | r :: l => (r.length + 3) + tot l
def flat (l : List Bytes) : Bytes := l.flatMap enc
theorem flat_cons (r : Bytes) (l : List Bytes) : flat (r :: l) = enc r ++ flat l := rfl
theorem flat_append (a b : List Bytes) : flat (a ++ b) = flat a ++ flat b := List.flatMap_append
theorem flat_length (l : List Bytes) : (flat l).length = tot l := by
  induction l with
  | nil => rfl
  | cons r l ih => rw [flat_cons, List.length_append, enc_length, ih]; rfl
theorem tot_append (a b : List Bytes) : tot (a ++ b) = tot a + tot b := by rw [← flat_length, flat_append, List.length_append, flat_length, flat_length]
def okR (r : Bytes) : Bool := decide (r.length ≤ 255)
theorem okR_iff {r : Bytes} : okR r = true ↔ r.length ≤ 255 := by unfold okR; rw [decide_eq_true_eq]
def writeR (r : Bytes) : Bytes × Int := if r.length ≤ 255 then (enc r, 0) else ([], 2)
def foldR (l : List Bytes) : Bytes × Int := if l.all okR then (flat l, 0) else ([], 2)
theorem tot_le {l : List Bytes} (h : l.all okR = true) : tot l ≤ 258 * l.length := by
  induction l with
  | nil => exact Nat.le_refl _
  | cons r l ih =>
    rw [List.all_cons, Bool.and_eq_true] at h
    have := ih h.2
    have := okR_iff.1 h.1
    simp only [tot, List.length_cons]
    omega
theorem all_take {l : List Bytes} (h : l.all okR = true) (k : Nat) : (l.take k).all okR = true := by
  rw [List.all_eq_true] at *
  exact fun x hx => h x (List.mem_of_mem_take hx)
theorem all_get {l : List Bytes} (h : l.all okR = true) {k : Nat} {r : Bytes} (hr : l[k]? = some r) : r.length ≤ 255 := okR_iff.1 (List.all_eq_true.1 h r (List.mem_iff_getElem?.2 ⟨k, hr⟩))
/-! ### the first record -/
/-- The first record, if it is whole. -/
def one (b : Bytes) : Option Bytes :=
  match b with
  | [] => none
  | n :: t => if n.toNat + 2 ≤ t.length ∧ enc (t.take n.toNat) = (n :: t).take (n.toNat + 3) then some (t.take n.toNat) else none
theorem one_nil : one [] = none := rfl
theorem one_enc {r : Bytes} (h : r.length ≤ 255) (b : Bytes) : one (enc r ++ b) = some r := by
  have e : enc r ++ b = hd r :: (r ++ ([hi (sum 65535 (hd r :: r)), lo (sum 65535 (hd r :: r))] ++ b)) := by
    unfold enc sealed_
    simp
  have hn := hd_nat h
  have ht : (r ++ ([hi (sum 65535 (hd r :: r)), lo (sum 65535 (hd r :: r))] ++ b)).take (hd r).toNat = r := by rw [hn]; simp
  have hc : enc r = (enc r ++ b).take (r.length + 3) := by rw [← enc_length r]; simp
  rw [e]
  unfold one
  simp only
  rw [ht, ← e, hn]
  rw [if_pos ⟨by simp, hc⟩]
theorem one_some {b r : Bytes} (h : one b = some r) : r.length ≤ 255 ∧ b = enc r ++ b.drop (r.length + 3) := by
  unfold one at h
  cases b with
  | nil => cases h
  | cons n t =>
    simp only at h
    split at h
    · rename_i hc
      injection h with h
      subst h
      have hl : (t.take n.toNat).length = n.toNat := by rw [List.length_take]; omega
      refine ⟨by rw [hl]; have := byte_lt n; omega, ?_⟩
      rw [hc.2, hl]
      exact (List.take_append_drop _ _).symm
    · cases h
/-! ### all records -/
def recs : Nat → Bytes → List Bytes
  | 0, _ => []
  | f + 1, b => match one b with
    | none => []
    | some r => r :: recs f (b.drop (r.length + 3))
def jr (b : Bytes) : List Bytes := recs b.length b
theorem recs_none {b : Bytes} (h : one b = none) (f : Nat) : recs f b = [] := by
  cases f with
  | zero => rfl
  | succ f => rw [recs, h]
theorem recs_enc {r : Bytes} (h : r.length ≤ 255) (f : Nat) (b : Bytes) : recs (f + 1) (enc r ++ b) = r :: recs f b := by
  rw [recs, one_enc h]
  simp only
  congr 2
  rw [← enc_length r]; simp
/-- Enough turns are enough. -/
theorem recs_more : ∀ (f : Nat) (b : Bytes), b.length ≤ f → recs f b = jr b := by
  intro f
  induction f using Nat.strongRecOn with
  | _ f ih =>
    intro b hb
    cases ho : one b with
    | none => rw [recs_none ho]; unfold jr; rw [recs_none ho]
    | some r =>
      obtain ⟨hr, he⟩ := one_some ho
      have hl : b.length = r.length + 3 + (b.drop (r.length + 3)).length := by
        have := congrArg List.length he
        rw [List.length_append, enc_length] at this
        exact this
      generalize b.drop (r.length + 3) = t at *
      subst he
      obtain ⟨f', rfl⟩ : ∃ f', f = f' + 1 := ⟨f - 1, by omega⟩
      unfold jr
      obtain ⟨m, hm⟩ : ∃ m, (enc r ++ t).length = m + 1 := ⟨(enc r ++ t).length - 1, by omega⟩
      rw [hm, recs_enc hr, recs_enc hr, ih f' (by omega) t (by omega), ih m (by omega) t (by omega)]
theorem jr_none {b : Bytes} (h : one b = none) : jr b = [] := recs_none h _
theorem jr_nil : jr [] = [] := rfl
theorem jr_cons {r : Bytes} (h : r.length ≤ 255) (b : Bytes) : jr (enc r ++ b) = r :: jr b := by
  have hl : (enc r ++ b).length = (r.length + 2 + b.length) + 1 := by rw [List.length_append, enc_length]; omega
  unfold jr
  rw [hl, recs_enc h, recs_more _ b (by omega)]
  rfl
theorem jr_flat {l : List Bytes} (h : l.all okR = true) (b : Bytes) : jr (flat l ++ b) = l ++ jr b := by
  induction l with
  | nil => rfl
  | cons r l ih =>
    rw [List.all_cons, Bool.and_eq_true] at h
    rw [flat_cons, List.append_assoc, jr_cons (okR_iff.1 h.1), ih h.2]
    rfl
/-- What is read stands there so, and nothing can be read behind it. -/
theorem jr_spec (b : Bytes) : (jr b).all okR = true ∧ ∃ t, b = flat (jr b) ++ t ∧ one t = none := by
  obtain ⟨n, hn⟩ : ∃ n, b.length = n := ⟨_, rfl⟩
  induction n using Nat.strongRecOn generalizing b with
  | _ n ih =>
    cases ho : one b with
    | none => rw [jr_none ho]; exact ⟨rfl, b, rfl, ho⟩
    | some r =>
      obtain ⟨hr, he⟩ := one_some ho
      have hl : b.length = r.length + 3 + (b.drop (r.length + 3)).length := by
        have := congrArg List.length he
        rw [List.length_append, enc_length] at this
        exact this
      generalize b.drop (r.length + 3) = t at *
      subst he
      obtain ⟨h1, t', h2, h3⟩ := ih t.length (by omega) t rfl
      rw [jr_cons hr]
      refine ⟨by rw [List.all_cons, okR_iff.2 hr, h1]; rfl, t', ?_, h3⟩
      rw [flat_cons, List.append_assoc, ← h2]
theorem jr_tot (b : Bytes) : tot (jr b) ≤ b.length := by
  obtain ⟨_, t, h, _⟩ := jr_spec b
  have := congrArg List.length h
  rw [List.length_append, flat_length] at this
  omega
theorem count_tot (l : List Bytes) : 3 * l.length ≤ tot l := by
  induction l with
  | nil => exact Nat.le_refl _
  | cons r l ih => simp only [tot, List.length_cons]; omega
theorem jr_count (b : Bytes) : 3 * (jr b).length ≤ b.length := Nat.le_trans (count_tot _) (jr_tot b)
/-- What is read, by its own mark: it stands in front, and nothing can be read behind it. -/
theorem jr_unique {b t : Bytes} {l : List Bytes} (h : l.all okR = true) (he : b = flat l ++ t) (ho : one t = none) : jr b = l := by
  rw [he, jr_flat h, jr_none ho, List.append_nil]
theorem jr_only (b : Bytes) : flat (jr b) = b.take (tot (jr b)) ∧ jr (b.drop (tot (jr b))) = [] := by
  obtain ⟨_, t, h, ho⟩ := jr_spec b
  have hl := flat_length (jr b)
  generalize jr b = l at *
  subst h
  constructor
  · rw [← hl]; simp
  · have e : (flat l ++ t).drop (tot l) = t := by rw [← hl]; simp
    rw [e]; exact jr_none ho
/-! ### a journal that was torn -/
theorem one_torn {r : Bytes} {m : Nat} (h : r.length ≤ 255) (hm : m < r.length + 3) : one ((enc r).take m) = none := by
  cases m with
  | zero => rfl
  | succ m =>
    have e : (enc r).take (m + 1) = hd r :: (r ++ [hi (sum 65535 (hd r :: r)), lo (sum 65535 (hd r :: r))]).take m := by
      unfold enc sealed_
      simp
    rw [e]
    unfold one
    simp only
    rw [hd_nat h, if_neg]
    rintro ⟨h1, _⟩
    rw [List.length_take, List.length_append] at h1
    simp at h1
    omega
theorem jr_torn {l : List Bytes} (h : l.all okR = true) {k n : Nat} (hk : k ≤ l.length) (h1 : tot (l.take k) ≤ n) (h2 : ∀ r, l[k]? = some r → n < tot (l.take k) + (r.length + 3)) (hn : n ≤ tot l) : jr ((flat l).take n) = l.take k := by
  have hs : flat l = flat (l.take k) ++ flat (l.drop k) := by rw [← flat_append, List.take_append_drop]
  have hl := flat_length (l.take k)
  have e : (flat l).take n = flat (l.take k) ++ (flat (l.drop k)).take (n - tot (l.take k)) := by
    rw [hs, List.take_append, hl, List.take_of_length_le (by omega)]
  rw [e]
  refine jr_unique (all_take h k) rfl ?_
  cases hg : l[k]? with
  | none =>
    have : l.drop k = [] := List.drop_eq_nil_of_le (by rw [List.getElem?_eq_none_iff] at hg; exact hg)
    rw [this]
    simp [flat, one_nil]
  | some r =>
    have hd2 : l.drop k = r :: l.drop (k + 1) := by
      obtain ⟨hlt, rfl⟩ := List.getElem?_eq_some_iff.1 hg
      exact List.drop_eq_getElem_cons hlt
    have h3 := h2 r hg
    rw [hd2, flat_cons, List.take_append_of_le_length (by rw [enc_length]; omega)]
    exact one_torn (all_get h hg) (by omega)
/-! ### a record that was spoilt -/
theorem one_spoilt {r x b : Bytes} (h : r.length ≤ 255) (hl : x.length = r.length + 3) (h0 : x[0]? = some (hd r)) (hs : sum 65535 x ≠ 0) : one (x ++ b) = none := by
  cases x with
  | nil => simp at h0
  | cons n t =>
    simp at h0
    subst h0
    simp at hl
    show one (hd r :: (t ++ b)) = none
    unfold one
    simp only
    rw [hd_nat h, if_neg]
    rintro ⟨_, h2⟩
    have e1 : (t ++ b).take r.length = t.take r.length := List.take_append_of_le_length (by omega)
    have e2 : (hd r :: (t ++ b)).take (r.length + 3) = hd r :: t := by
      have : (hd r :: (t ++ b)) = (hd r :: t) ++ b := rfl
      rw [this, List.take_append_of_le_length (by simp; omega), List.take_of_length_le (by simp; omega)]
    rw [e1, e2] at h2
    apply hs
    rw [← h2]
    exact sum_sealed _
theorem jr_spoilt {l : List Bytes} (h : l.all okR = true) {k : Nat} {r x : Bytes} (hr : l[k]? = some r) (hl : x.length = r.length + 3) (h0 : x[0]? = some (hd r)) (hs : sum 65535 x ≠ 0) :
    jr (flat (l.take k) ++ (x ++ flat (l.drop (k + 1)))) = l.take k :=
  jr_unique (all_take h k) rfl (one_spoilt (all_get h hr) hl h0 hs)
theorem flat_split {l : List Bytes} {k : Nat} {r : Bytes} (hr : l[k]? = some r) : flat l = flat (l.take k) ++ (enc r ++ flat (l.drop (k + 1))) := by
  have hd2 : l.drop k = r :: l.drop (k + 1) := by
    obtain ⟨hlt, rfl⟩ := List.getElem?_eq_some_iff.1 hr
    exact List.drop_eq_getElem_cons hlt
  rw [← flat_cons, ← hd2, ← flat_append, List.take_append_drop]
end Go.Proofs.Ytdckhfgfmkggiaa.Jrn
