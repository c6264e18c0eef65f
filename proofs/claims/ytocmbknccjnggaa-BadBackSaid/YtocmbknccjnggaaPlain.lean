/-
  Package bad in plain words: the good blocks of a flash in their order, past the bad ones. No program here.
-/
namespace Go.Proofs.Ytocmbknccjnggaa.Bad

/-- The elements lie in [lo, bl) and rise. -/
def incr (bl : Int) : Int → List Int → Bool
  | _, [] => true
  | lo, b :: r => (decide (lo ≤ b) && decide (b < bl)) && incr bl (b + 1) r
/-- The number of blocks and the list of the bad ones are valid. -/
def right (bl : Int) (l : List Int) : Bool := (decide (0 ≤ bl) && decide (bl ≤ 4096)) && incr bl 0 l
/-- The block with the number n. -/
def find : Int → List Int → Int
  | n, [] => n
  | n, b :: r => if n < b then n else find (n + 1) r
/-- x put into its place. -/
def ins (x : Int) : List Int → List Int
  | [] => [x]
  | b :: r => if x < b then x :: b :: r else b :: ins x r
/-- How many elements lie below x. -/
def cnt (x : Int) (l : List Int) : Nat := l.countP (fun b => decide (b < x))
def ferr (bl : Int) (l : List Int) (n : Int) : Int := if right bl l = false then 1 else if n < 0 ∨ bl - l.length ≤ n then 3 else 0
def fval (bl : Int) (l : List Int) (n : Int) : Int := if ferr bl l n = 0 then find n l else 0
def cerr (bl : Int) (l : List Int) (x : Int) : Int := if right bl l = false then 1 else if x < 0 ∨ bl ≤ x then 2 else 0
def nerr (bl : Int) (l : List Int) (x : Int) : Int := if cerr bl l x ≠ 0 then cerr bl l x else if x ∈ l then 8 else 0
def nval (bl : Int) (l : List Int) (x : Int) : Int := if nerr bl l x = 0 then x - cnt x l else 0
def merr (bl : Int) (l : List Int) (x : Int) : Int := if cerr bl l x ≠ 0 then cerr bl l x else if x ∈ l then 6 else 0
def mval (bl : Int) (l : List Int) (x : Int) : List Int := if merr bl l x = 0 then ins x l else []

theorem incr_cons {bl lo b : Int} {r : List Int} : incr bl lo (b :: r) = true ↔ (lo ≤ b ∧ b < bl) ∧ incr bl (b + 1) r = true := by
  simp [incr]
theorem incr_low {bl lo lo' : Int} {l : List Int} (h : incr bl lo l = true) (hl : lo' ≤ lo) : incr bl lo' l = true := by
  cases l with
  | nil => rfl
  | cons b r => rw [incr_cons] at h ⊢; exact ⟨⟨by omega, h.1.2⟩, h.2⟩
theorem incr_mem {bl lo : Int} {l : List Int} (h : incr bl lo l = true) {b : Int} (hb : b ∈ l) : lo ≤ b ∧ b < bl := by
  induction l generalizing lo with
  | nil => cases hb
  | cons c r ih =>
    rw [incr_cons] at h
    rcases List.mem_cons.1 hb with rfl | hr
    · exact h.1
    · have := ih h.2 hr; omega
theorem incr_len {bl lo : Int} {l : List Int} (h : incr bl lo l = true) (hlo : lo ≤ bl) : lo + l.length ≤ bl := by
  induction l generalizing lo with
  | nil => simp; omega
  | cons c r ih =>
    rw [incr_cons] at h
    have := ih h.2 (by omega)
    rw [List.length_cons]
    omega
theorem incr_pair {bl lo : Int} {l : List Int} (h : incr bl lo l = true) : l.Pairwise (· < ·) := by
  induction l generalizing lo with
  | nil => exact .nil
  | cons c r ih =>
    rw [incr_cons] at h
    exact .cons (fun b hb => by have := incr_mem h.2 hb; omega) (ih h.2)
/-- The list's rise from its k-th place on. -/
theorem incr_drop {bl : Int} {l : List Int} {k : Nat} {x lo : Int} (hx : l[k]? = some x) : incr bl lo (l.drop k) = ((decide (lo ≤ x) && decide (x < bl)) && incr bl (x + 1) (l.drop (k + 1))) := by
  obtain ⟨hk, he⟩ := List.getElem?_eq_some_iff.1 hx
  rw [List.drop_eq_getElem_cons hk, he]
  rfl
theorem find_drop {l : List Int} {k : Nat} {x n : Int} (hx : l[k]? = some x) : find n (l.drop k) = if n < x then n else find (n + 1) (l.drop (k + 1)) := by
  obtain ⟨hk, he⟩ := List.getElem?_eq_some_iff.1 hx
  rw [List.drop_eq_getElem_cons hk, he]
  rfl
theorem right_iff {bl : Int} {l : List Int} : right bl l = true ↔ (0 ≤ bl ∧ bl ≤ 4096) ∧ incr bl 0 l = true := by simp [right]
theorem right_len {bl : Int} {l : List Int} (h : right bl l = true) : (l.length : Int) ≤ bl := by
  have := incr_len (right_iff.1 h).2 (right_iff.1 h).1.1
  omega
/-! ### Find -/
theorem find_ge (n : Int) (l : List Int) : n ≤ find n l ∧ find n l ≤ n + l.length := by
  induction l generalizing n with
  | nil => simp [find]
  | cons b r ih =>
    rw [find, List.length_cons]
    split
    · omega
    · have := ih (n + 1); omega
theorem find_mono (l : List Int) {n m : Int} (h : n < m) : find n l < find m l := by
  induction l generalizing n m with
  | nil => exact h
  | cons b r ih =>
    rw [find, find]
    split
    · split
      · exact h
      · have := (find_ge (m + 1) r).1; omega
    · rw [if_neg (by omega)]; exact ih (by omega)
theorem find_same (l : List Int) (n m : Int) : (find n l = find m l ↔ n = m) ∧ (find n l < find m l ↔ n < m) := by
  rcases Int.lt_trichotomy n m with h | h | h
  · have := find_mono l h; omega
  · subst h; omega
  · have := find_mono l h; omega
theorem cnt_cons (x b : Int) (r : List Int) : cnt x (b :: r) = (if b < x then 1 else 0) + cnt x r := by
  unfold cnt
  rw [List.countP_cons, Nat.add_comm]
  by_cases h : b < x <;> simp [h]
theorem cnt_low {bl lo x : Int} {l : List Int} (h : incr bl lo l = true) (hx : x ≤ lo) : cnt x l = 0 := by
  unfold cnt
  rw [List.countP_eq_zero]
  intro b hb
  have := incr_mem h hb
  simp; omega
theorem cnt_all {bl lo x : Int} {l : List Int} (h : incr bl lo l = true) (hx : bl ≤ x) : cnt x l = l.length := by
  unfold cnt
  rw [List.countP_eq_length]
  intro b hb
  have := incr_mem h hb
  simp; omega
theorem find_spec {bl lo : Int} {l : List Int} (h : incr bl lo l = true) (n : Int) : find n l ∉ l ∧ find n l - cnt (find n l) l = n := by
  induction l generalizing n lo with
  | nil => exact ⟨by simp, by simp [find, cnt]⟩
  | cons b r ih =>
    have h' := incr_cons.1 h
    rw [find]
    by_cases hb : n < b
    · rw [if_pos hb]
      refine ⟨fun hm => ?_, ?_⟩
      · have h2 : incr bl b (b :: r) = true := incr_cons.2 ⟨⟨by omega, h'.1.2⟩, h'.2⟩
        have := incr_mem h2 hm
        omega
      · rw [cnt_low (bl := bl) (lo := b) (incr_cons.2 ⟨⟨by omega, h'.1.2⟩, h'.2⟩) (by omega)]
        simp
    · rw [if_neg hb]
      obtain ⟨i1, i2⟩ := ih h'.2 (n + 1)
      have hge := (find_ge (n + 1) r).1
      refine ⟨fun hm => ?_, ?_⟩
      · rcases List.mem_cons.1 hm with he | hr
        · omega
        · exact i1 hr
      · rw [cnt_cons, if_pos (by omega)]
        omega
theorem find_zero {bl : Int} {l : List Int} {n : Int} (h : ferr bl l n = 0) : right bl l = true ∧ 0 ≤ n ∧ n < bl - l.length := by
  unfold ferr at h
  split at h
  · omega
  · rename_i h1
    split at h
    · omega
    · exact ⟨by simpa using h1, by omega, by omega⟩
theorem ferr_ok {bl : Int} {l : List Int} {n : Int} (h : right bl l = true) (h0 : 0 ≤ n) (h1 : n < bl - l.length) : ferr bl l n = 0 := by
  unfold ferr
  rw [if_neg (by simp [h]), if_neg (by omega)]
theorem ferr_form {bl : Int} {l : List Int} {n : Int} (h : right bl l = false) : ferr bl l n = 1 := by unfold ferr; rw [if_pos h]
theorem ferr_none {bl : Int} {l : List Int} {n : Int} (h : right bl l = true) (hn : n < 0 ∨ bl - l.length ≤ n) : ferr bl l n = 3 := by
  unfold ferr
  rw [if_neg (by simp [h]), if_pos hn]
theorem fval_ok {bl : Int} {l : List Int} {n : Int} (h : ferr bl l n = 0) : fval bl l n = find n l := by unfold fval; rw [if_pos h]
theorem fval_no {bl : Int} {l : List Int} {n : Int} (h : ferr bl l n ≠ 0) : fval bl l n = 0 := by unfold fval; rw [if_neg h]
theorem find_in {bl : Int} {l : List Int} {n : Int} (h : ferr bl l n = 0) : 0 ≤ find n l ∧ find n l < bl ∧ find n l ∉ l ∧ find n l - cnt (find n l) l = n := by
  obtain ⟨hr, h0, h1⟩ := find_zero h
  have := find_ge n l
  obtain ⟨s1, s2⟩ := find_spec (right_iff.1 hr).2 n
  exact ⟨by omega, by omega, s1, s2⟩
/-! ### Number, Mark -/
theorem cerr_cases {bl : Int} {l : List Int} {x : Int} : (right bl l = false ∧ cerr bl l x = 1) ∨ (right bl l = true ∧ (x < 0 ∨ bl ≤ x) ∧ cerr bl l x = 2) ∨ (right bl l = true ∧ 0 ≤ x ∧ x < bl ∧ cerr bl l x = 0) := by
  unfold cerr
  cases h : right bl l with
  | false => exact .inl ⟨rfl, if_pos rfl⟩
  | true =>
    rw [if_neg (by simp)]
    by_cases hx : x < 0 ∨ bl ≤ x
    · exact .inr (.inl ⟨rfl, hx, if_pos hx⟩)
    · exact .inr (.inr ⟨rfl, by omega, by omega, if_neg hx⟩)
theorem cerr_zero {bl : Int} {l : List Int} {x : Int} (h : cerr bl l x = 0) : right bl l = true ∧ 0 ≤ x ∧ x < bl := by
  rcases cerr_cases (bl := bl) (l := l) (x := x) with ⟨_, hc⟩ | ⟨_, _, hc⟩ | ⟨h1, h2, h3, _⟩
  · omega
  · omega
  · exact ⟨h1, h2, h3⟩
theorem cerr_ok {bl : Int} {l : List Int} {x : Int} (h : right bl l = true) (h0 : 0 ≤ x) (h1 : x < bl) : cerr bl l x = 0 := by
  rcases cerr_cases (bl := bl) (l := l) (x := x) with ⟨hc, _⟩ | ⟨_, hc, _⟩ | ⟨_, _, _, hc⟩
  · simp [h] at hc
  · omega
  · exact hc
theorem nerr_of {bl : Int} {l : List Int} {x : Int} (h : cerr bl l x ≠ 0) : nerr bl l x = cerr bl l x := by unfold nerr; rw [if_pos h]
theorem merr_of {bl : Int} {l : List Int} {x : Int} (h : cerr bl l x ≠ 0) : merr bl l x = cerr bl l x := by unfold merr; rw [if_pos h]
theorem nerr_in {bl : Int} {l : List Int} {x : Int} (h : cerr bl l x = 0) : nerr bl l x = if x ∈ l then 8 else 0 := by unfold nerr; rw [if_neg (by omega)]
theorem merr_in {bl : Int} {l : List Int} {x : Int} (h : cerr bl l x = 0) : merr bl l x = if x ∈ l then 6 else 0 := by unfold merr; rw [if_neg (by omega)]
theorem merr_zero {bl : Int} {l : List Int} {x : Int} (h : merr bl l x = 0) : right bl l = true ∧ 0 ≤ x ∧ x < bl ∧ x ∉ l := by
  by_cases hc : cerr bl l x = 0
  · rw [merr_in hc] at h
    obtain ⟨h1, h2, h3⟩ := cerr_zero hc
    refine ⟨h1, h2, h3, fun hm => ?_⟩
    rw [if_pos hm] at h
    omega
  · rw [merr_of hc] at h
    exact absurd h hc
theorem merr_ok {bl : Int} {l : List Int} {x : Int} (h : right bl l = true) (h0 : 0 ≤ x) (h1 : x < bl) (hm : x ∉ l) : merr bl l x = 0 := by
  rw [merr_in (cerr_ok h h0 h1), if_neg hm]
theorem nerr_ok {bl : Int} {l : List Int} {x : Int} (h : right bl l = true) (h0 : 0 ≤ x) (h1 : x < bl) (hm : x ∉ l) : nerr bl l x = 0 := by
  rw [nerr_in (cerr_ok h h0 h1), if_neg hm]
theorem mval_ok {bl : Int} {l : List Int} {x : Int} (h : merr bl l x = 0) : mval bl l x = ins x l := by unfold mval; rw [if_pos h]
theorem mval_no {bl : Int} {l : List Int} {x : Int} (h : merr bl l x ≠ 0) : mval bl l x = [] := by unfold mval; rw [if_neg h]
theorem nval_ok {bl : Int} {l : List Int} {x : Int} (h : nerr bl l x = 0) : nval bl l x = x - cnt x l := by unfold nval; rw [if_pos h]
theorem nval_no {bl : Int} {l : List Int} {x : Int} (h : nerr bl l x ≠ 0) : nval bl l x = 0 := by unfold nval; rw [if_neg h]
theorem mem_ins {x y : Int} {l : List Int} : y ∈ ins x l ↔ y = x ∨ y ∈ l := by
  induction l with
  | nil => simp [ins]
  | cons b r ih =>
    rw [ins]
    split
    · simp
    · simp [ih]; constructor
      · rintro (h | h | h) <;> simp [h]
      · rintro (h | h | h) <;> simp [h]
theorem ins_length (x : Int) (l : List Int) : (ins x l).length = l.length + 1 := by
  induction l with
  | nil => rfl
  | cons b r ih =>
    rw [ins]
    split
    · rfl
    · simp [ih]
theorem ins_perm (x : Int) (l : List Int) : (ins x l).Perm (l ++ [x]) := by
  induction l with
  | nil => exact .refl _
  | cons b r ih =>
    rw [ins]
    split
    · exact (List.perm_append_comm (l₁ := b :: r) (l₂ := [x])).symm
    · exact ih.cons b
theorem ins_incr {bl lo x : Int} {l : List Int} (h : incr bl lo l = true) (hx : x ∉ l) (h0 : lo ≤ x) (h1 : x < bl) : incr bl lo (ins x l) = true := by
  induction l generalizing lo with
  | nil => simp [ins, incr, h0, h1]
  | cons b r ih =>
    have h' := incr_cons.1 h
    have hne : x ≠ b := fun e => hx (by simp [e])
    rw [ins]
    split
    · exact incr_cons.2 ⟨⟨h0, h1⟩, incr_cons.2 ⟨⟨by omega, h'.1.2⟩, h'.2⟩⟩
    · exact incr_cons.2 ⟨h'.1, ih h'.2 (fun e => hx (by simp [e])) (by omega)⟩
theorem ins_right {bl x : Int} {l : List Int} (h : merr bl l x = 0) : right bl (ins x l) = true := by
  obtain ⟨hr, h0, h1, hm⟩ := merr_zero h
  obtain ⟨hb, hi⟩ := right_iff.1 hr
  exact right_iff.2 ⟨hb, ins_incr hi hm h0 h1⟩
theorem ins_comm {a b : Int} (h : a ≠ b) (l : List Int) : ins a (ins b l) = ins b (ins a l) := by
  induction l with
  | nil =>
    simp only [ins]
    by_cases hab : a < b
    · rw [if_pos hab, if_neg (by omega)]
    · rw [if_neg hab, if_pos (by omega)]
  | cons c r ih =>
    by_cases hac : a < c
    · by_cases hbc : b < c
      · by_cases hab : a < b
        · simp only [ins, if_pos hac, if_pos hbc, if_pos hab, if_neg (show ¬ b < a by omega)]
        · simp only [ins, if_pos hac, if_pos hbc, if_neg hab, if_pos (show b < a by omega)]
      · simp only [ins, if_pos hac, if_neg hbc, if_neg (show ¬ b < a by omega)]
    · by_cases hbc : b < c
      · simp only [ins, if_neg hac, if_pos hbc, if_neg (show ¬ a < b by omega)]
      · simp only [ins, if_neg hac, if_neg hbc, ih]
theorem ins_cut {bl lo x : Int} {l : List Int} (h : incr bl lo l = true) (hx : x ∉ l) : ins x l = l.take (cnt x l) ++ ([x] ++ l.drop (cnt x l)) := by
  induction l generalizing lo with
  | nil => rfl
  | cons b r ih =>
    have h' := incr_cons.1 h
    have hne : x ≠ b := fun e => hx (by simp [e])
    rw [ins]
    by_cases hb : x < b
    · have : cnt x (b :: r) = 0 := cnt_low (bl := bl) (lo := b) (incr_cons.2 ⟨⟨by omega, h'.1.2⟩, h'.2⟩) (by omega)
      rw [if_pos hb, this]
      rfl
    · have : cnt x (b :: r) = cnt x r + 1 := by rw [cnt_cons, if_pos (by omega)]; omega
      rw [if_neg hb, this, List.take_succ_cons, List.drop_succ_cons, ih h'.2 (fun e => hx (by simp [e]))]
      rfl
theorem find_ins (x : Int) (l : List Int) (n : Int) : (find n l < x → find n (ins x l) = find n l) ∧ (x ≤ find n l → find n l < find n (ins x l)) := by
  induction l generalizing n with
  | nil =>
    simp only [ins, find]
    constructor
    · intro h; rw [if_pos h]
    · intro h; rw [if_neg (by omega)]; omega
  | cons b r ih =>
    rw [ins]
    by_cases hx : x < b
    · rw [if_pos hx, find.eq_2 n x]
      by_cases hn : n < x
      · rw [if_pos hn, find, if_pos (by omega)]
        exact ⟨fun _ => rfl, fun h => by omega⟩
      · rw [if_neg hn]
        have h1 := (find_ge n (b :: r)).1
        have h2 := find_mono (b :: r) (show n < n + 1 by omega)
        exact ⟨fun h => by omega, fun _ => h2⟩
    · rw [if_neg hx, find, find]
      by_cases hn : n < b
      · rw [if_pos hn, if_pos hn]
        exact ⟨fun _ => rfl, fun h => by omega⟩
      · rw [if_neg hn, if_neg hn]
        exact ih (n + 1)
/-! ### sorted -/
theorem pair_cnt {bl lo x : Int} {l : List Int} (h : incr bl lo l = true) {k : Nat} (hk : k ≤ l.length) (h1 : ∀ j y, j < k → l[j]? = some y → y < x) (h2 : ∀ j y, k ≤ j → l[j]? = some y → x ≤ y) : cnt x l = k := by
  induction l generalizing lo k with
  | nil => simp at hk; subst hk; rfl
  | cons b r ih =>
    have h' := incr_cons.1 h
    rw [cnt_cons]
    cases k with
    | zero =>
      have hb := h2 0 b (Nat.le_refl _) rfl
      rw [if_neg (by omega), cnt_low h'.2 (by omega)]
    | succ k =>
      have hb := h1 0 b (by omega) rfl
      rw [if_pos hb, ih h'.2 (by simpa using hk) (fun j y hj hy => h1 (j + 1) y (by omega) (by simpa using hy)) (fun j y hj hy => h2 (j + 1) y (by omega) (by simpa using hy))]
      omega
theorem get_lt {bl lo : Int} {l : List Int} (h : incr bl lo l = true) {i j : Nat} {x y : Int} (hij : i < j) (hi : l[i]? = some x) (hj : l[j]? = some y) : x < y := by
  obtain ⟨hi', rfl⟩ := List.getElem?_eq_some_iff.1 hi
  obtain ⟨hj', rfl⟩ := List.getElem?_eq_some_iff.1 hj
  exact List.pairwise_iff_getElem.1 (incr_pair h) _ _ _ _ hij
/-- What lies at its place tells whether it is there. -/
theorem mem_at {bl lo x : Int} {l : List Int} (h : incr bl lo l = true) {k : Nat} (h1 : ∀ j y, j < k → l[j]? = some y → y < x) (h2 : ∀ j y, k ≤ j → l[j]? = some y → x ≤ y) : x ∈ l ↔ l[k]? = some x := by
  constructor
  · intro hm
    obtain ⟨j, hj⟩ := List.mem_iff_getElem?.1 hm
    have hjk : k ≤ j := by
      rcases Nat.lt_or_ge j k with h3 | h3
      · have := h1 j x h3 hj; omega
      · exact h3
    have hk : k < l.length := by have := (List.getElem?_eq_some_iff.1 hj).1; omega
    rcases Nat.eq_or_lt_of_le hjk with rfl | hlt
    · exact hj
    · have hy := List.getElem?_eq_getElem hk
      have a1 := h2 k _ (Nat.le_refl _) hy
      have a2 := get_lt h hlt hy hj
      omega
  · exact fun hk => List.mem_iff_getElem?.2 ⟨k, hk⟩
theorem sort_ins {bl lo x : Int} {l : List Int} (h : incr bl lo l = true) (hx : x ∉ l) (h0 : lo ≤ x) (h1 : x < bl) : (l ++ [x]).mergeSort (fun a b => decide (a ≤ b)) = ins x l := by
  refine List.Perm.eq_of_pairwise (le := fun a b => a ≤ b) (fun a b _ _ hab hba => by omega) ?_ ?_ ((List.mergeSort_perm _ _).trans (ins_perm x l).symm)
  · have := List.pairwise_mergeSort (le := fun a b : Int => decide (a ≤ b)) (fun a b c h1 h2 => by simp at *; omega) (fun a b => by simp; omega) (l ++ [x])
    exact this.imp (fun h => by simpa using h)
  · exact (incr_pair (ins_incr h hx h0 h1)).imp (fun h => by omega)
/-! ### the good blocks -/
def goods (k : Nat) (l : List Int) : List Int := ((List.range k).map Int.ofNat).filter (fun b => !l.contains b)
theorem goods_zero (l : List Int) : goods 0 l = [] := rfl
theorem goods_succ (k : Nat) (l : List Int) : goods (k + 1) l = goods k l ++ (if l.contains (k : Int) then [] else [(k : Int)]) := by
  unfold goods
  rw [List.range_succ, List.map_append, List.filter_append]
  congr 1
  cases h : l.contains (k : Int) <;> simp_all
theorem cnt_succ {bl lo x : Int} {l : List Int} (h : incr bl lo l = true) : cnt (x + 1) l = cnt x l + (if x ∈ l then 1 else 0) := by
  induction l generalizing lo with
  | nil => rfl
  | cons b r ih =>
    have h' := incr_cons.1 h
    rw [cnt_cons, cnt_cons, ih h'.2]
    by_cases hb : x = b
    · subst hb
      have : x ∉ r := fun hm => by have := incr_mem h'.2 hm; omega
      rw [if_pos (by omega), if_neg (show ¬ x < x by omega), if_neg this, if_pos (by simp)]
      omega
    · have : (x ∈ b :: r) ↔ x ∈ r := by simp [hb]
      simp only [this]
      by_cases hlt : b < x
      · rw [if_pos hlt, if_pos (by omega)]; omega
      · rw [if_neg hlt, if_neg (by omega)]; omega
theorem goods_length {bl : Int} {l : List Int} (h : incr bl 0 l = true) (k : Nat) : ((goods k l).length : Int) = k - cnt k l := by
  induction k with
  | zero => rw [goods_zero, show ((0 : Nat) : Int) = 0 from rfl, cnt_low h (Int.le_refl _)]; rfl
  | succ k ih =>
    rw [goods_succ, List.length_append, Int.natCast_add, Int.natCast_add, ih, show ((k : Int) + ((1 : Nat) : Int)) = (k : Int) + 1 from rfl, cnt_succ h]
    by_cases hm : (k : Int) ∈ l
    · have : l.contains (k : Int) = true := by simpa using hm
      rw [if_pos this, if_pos hm]
      simp; omega
    · have : l.contains (k : Int) = false := by simpa using hm
      rw [this, if_neg hm]
      simp; omega
theorem goods_all {bl : Int} {l : List Int} (h : right bl l = true) : ((goods bl.toNat l).length : Int) = bl - l.length := by
  obtain ⟨⟨hb, _⟩, hi⟩ := right_iff.1 h
  have e : ((bl.toNat : Nat) : Int) = bl := Int.toNat_of_nonneg hb
  rw [goods_length hi, e, cnt_all hi (Int.le_refl _)]
theorem goods_mem {k : Nat} {l : List Int} {x : Int} (h : x ∈ goods k l) : 0 ≤ x ∧ x < k := by
  unfold goods at h
  obtain ⟨hm, _⟩ := List.mem_filter.1 h
  obtain ⟨n, hn, rfl⟩ := List.mem_map.1 hm
  have := List.mem_range.1 hn
  simp only [Int.ofNat_eq_natCast]
  omega
theorem goods_split {l : List Int} {k : Nat} {x : Nat} (hx : (x : Int) ∉ l) (hk : x < k) : ∃ suf, goods k l = goods x l ++ (x : Int) :: suf := by
  induction k with
  | zero => omega
  | succ k ih =>
    rw [goods_succ]
    rcases Nat.lt_or_ge x k with h | h
    · obtain ⟨suf, hs⟩ := ih h
      exact ⟨suf ++ _, by rw [hs, List.append_assoc, List.cons_append]⟩
    · obtain rfl : x = k := by omega
      have : l.contains (x : Int) = false := by simpa using hx
      exact ⟨[], by rw [this]; rfl⟩
/-- The block's place among the good ones is its number: the first place where it is met. -/
theorem goods_at {bl : Int} {l : List Int} (h : incr bl 0 l = true) {k : Nat} {x : Int} (h0 : 0 ≤ x) (hk : x < k) (hx : x ∉ l) :
    ∃ i : Nat, (i : Int) = x - cnt x l ∧ (goods k l)[i]? = some x ∧ ∀ j, j < i → (goods k l)[j]? ≠ some x := by
  obtain ⟨m, rfl⟩ := Int.eq_ofNat_of_zero_le h0
  obtain ⟨suf, hs⟩ := goods_split hx (show m < k by omega)
  refine ⟨(goods m l).length, goods_length h m, ?_, fun j hj he => ?_⟩
  · rw [hs, List.getElem?_append_right (Nat.le_refl _), Nat.sub_self]; rfl
  · rw [hs, List.getElem?_append_left hj] at he
    have := goods_mem (List.mem_of_getElem? he)
    omega
theorem goods_find {bl : Int} {l : List Int} {n : Int} (h : ferr bl l n = 0) : (goods bl.toNat l)[n.toNat]? = some (find n l) := by
  obtain ⟨hr, h0, h1⟩ := find_zero h
  obtain ⟨⟨hb, _⟩, hi⟩ := right_iff.1 hr
  obtain ⟨f0, f1, f2, f3⟩ := find_in h
  have e : ((bl.toNat : Nat) : Int) = bl := Int.toNat_of_nonneg hb
  obtain ⟨i, hi1, hi2, _⟩ := goods_at hi f0 (k := bl.toNat) (by omega) f2
  have : i = n.toNat := by omega
  rw [← this]
  exact hi2
end Go.Proofs.Ytocmbknccjnggaa.Bad
