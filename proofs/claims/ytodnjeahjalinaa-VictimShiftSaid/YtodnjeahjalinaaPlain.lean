/-
  Blocks to be erased, plainly: which lists are valid, the smallest and the largest wear, which block is picked, what a run of erasures leaves, and how far the wear spreads. No program is named here.
-/
import Derived.Test.YtodnjeahjalinaaStSort
namespace Go.Proofs.Ytodnjeahjalinaa.Vic
open Go.Proofs.Ytodnjeahjalinaa.Stab
set_option linter.unusedVariables false

/-- A block: its live pages, its programmed pages, how often it was erased. -/
structure Fil where
  need : Int
  fill : Int
  wear : Int
deriving DecidableEq
instance : Inhabited Fil := ⟨⟨0, 0, 0⟩⟩
theorem Fil.ext' {a b : Fil} (h1 : a.need = b.need) (h2 : a.fill = b.fill) (h3 : a.wear = b.wear) : a = b := by cases a; cases b; simp at *; exact ⟨h1, h2, h3⟩

/-! ### places -/
def nth (l : List Fil) (k : Nat) : Fil := l.getD k ⟨0, 0, 0⟩
theorem nth_get {l : List Fil} {k : Nat} (h : k < l.length) : l[k]? = some (nth l k) := by simp [nth, List.getD, List.getElem?_eq_getElem h]
theorem nth_of {l : List Fil} {k : Nat} {x : Fil} (h : l[k]? = some x) : nth l k = x := by simp [nth, List.getD, h]
theorem nth_eq {l : List Fil} {k : Nat} (h : k < l.length) : nth l k = l[k] := nth_of (List.getElem?_eq_getElem h)
theorem nth_mem {l : List Fil} {k : Nat} (h : k < l.length) : nth l k ∈ l := List.mem_of_getElem? (nth_get h)
theorem mem_nth {l : List Fil} {x : Fil} (h : x ∈ l) : ∃ k, k < l.length ∧ nth l k = x := by
  obtain ⟨k, hk, e⟩ := List.mem_iff_getElem.1 h
  exact ⟨k, hk, by rw [nth_eq hk, e]⟩
theorem nth_set {l : List Fil} {i k : Nat} {x : Fil} (h : k < l.length) : nth (l.set i x) k = if i = k then x else nth l k := by
  simp only [nth, List.getD, List.getElem?_set]
  split
  · rename_i e; subst e; simp [h]
  · rfl
theorem take_succ_nth {l : List Fil} {k : Nat} (h : k < l.length) : l.take (k + 1) = l.take k ++ [nth l k] := by
  rw [List.take_add_one, nth_get h]; rfl

/-! ### valid lists -/
def okB (b : Fil) : Bool := decide (0 ≤ b.need) && decide (b.need ≤ b.fill) && decide (b.fill ≤ 4) && decide (0 ≤ b.wear) && decide (b.wear ≤ 1048576)
theorem okB_iff {b : Fil} : okB b = true ↔ 0 ≤ b.need ∧ b.need ≤ b.fill ∧ b.fill ≤ 4 ∧ 0 ≤ b.wear ∧ b.wear ≤ 1048576 := by
  unfold okB
  simp only [Bool.and_eq_true, decide_eq_true_eq]
  omega
def right (l : List Fil) : Bool := decide (l.length ≤ 4096) && l.all okB
theorem right_iff {l : List Fil} : right l = true ↔ l.length ≤ 4096 ∧ ∀ x ∈ l, okB x = true := by
  unfold right
  rw [Bool.and_eq_true, decide_eq_true_eq, List.all_eq_true]
theorem right_len {l : List Fil} (h : right l = true) : l.length ≤ 4096 := (right_iff.1 h).1
theorem right_mem {l : List Fil} (h : right l = true) {x : Fil} (hx : x ∈ l) : 0 ≤ x.need ∧ x.need ≤ x.fill ∧ x.fill ≤ 4 ∧ 0 ≤ x.wear ∧ x.wear ≤ 1048576 := okB_iff.1 ((right_iff.1 h).2 x hx)
theorem right_nth {l : List Fil} (h : right l = true) {k : Nat} (hk : k < l.length) : 0 ≤ (nth l k).need ∧ (nth l k).need ≤ (nth l k).fill ∧ (nth l k).fill ≤ 4 ∧ 0 ≤ (nth l k).wear ∧ (nth l k).wear ≤ 1048576 := right_mem h (nth_mem hk)
theorem right_set {l : List Fil} (h : right l = true) {k : Nat} {x : Fil} (hx : okB x = true) : right (l.set k x) = true := by
  rw [right_iff] at *
  refine ⟨by rw [List.length_set]; exact h.1, fun y hy => ?_⟩
  rcases List.mem_or_eq_of_mem_set hy with hy | hy
  · exact h.2 y hy
  · subst hy; exact hx
theorem right_nil : right [] = true := by decide

/-! ### the smallest and the largest wear -/
def lw (l : List Fil) : Int := l.foldl (fun a x => if x.wear < a then x.wear else a) (nth l 0).wear
def mw (l : List Fil) : Int := l.foldl (fun a x => if a < x.wear then x.wear else a) (nth l 0).wear
def IsLw (l : List Fil) (v : Int) : Prop := (∃ x ∈ l, x.wear = v) ∧ ∀ x ∈ l, v ≤ x.wear
def IsMw (l : List Fil) (v : Int) : Prop := (∃ x ∈ l, x.wear = v) ∧ ∀ x ∈ l, x.wear ≤ v
theorem fold_lw (l : List Fil) : ∀ a : Int, (l.foldl (fun a x => if x.wear < a then x.wear else a) a ≤ a ∧ ∀ x ∈ l, l.foldl (fun a x => if x.wear < a then x.wear else a) a ≤ x.wear) ∧
    (l.foldl (fun a x => if x.wear < a then x.wear else a) a = a ∨ ∃ x ∈ l, x.wear = l.foldl (fun a x => if x.wear < a then x.wear else a) a) := by
  induction l with
  | nil => intro a; simp
  | cons y l ih =>
    intro a
    simp only [List.foldl_cons]
    obtain ⟨⟨h1, h2⟩, h3⟩ := ih (if y.wear < a then y.wear else a)
    have h4 : (if y.wear < a then y.wear else a) ≤ a ∧ (if y.wear < a then y.wear else a) ≤ y.wear := by split <;> omega
    refine ⟨⟨by omega, ?_⟩, ?_⟩
    · intro x hx
      rcases List.mem_cons.1 hx with e | hx
      · subst e
        omega
      · exact h2 x hx
    · rcases h3 with e | ⟨x, hx, e⟩
      · by_cases c : y.wear < a
        · simp only [c, if_true] at e ⊢
          exact .inr ⟨y, List.mem_cons_self, e.symm⟩
        · simp only [c, if_false] at e ⊢
          exact .inl e
      · exact .inr ⟨x, List.mem_cons_of_mem _ hx, e⟩
theorem fold_mw (l : List Fil) : ∀ a : Int, (a ≤ l.foldl (fun a x => if a < x.wear then x.wear else a) a ∧ ∀ x ∈ l, x.wear ≤ l.foldl (fun a x => if a < x.wear then x.wear else a) a) ∧
    (l.foldl (fun a x => if a < x.wear then x.wear else a) a = a ∨ ∃ x ∈ l, x.wear = l.foldl (fun a x => if a < x.wear then x.wear else a) a) := by
  induction l with
  | nil => intro a; simp
  | cons y l ih =>
    intro a
    simp only [List.foldl_cons]
    obtain ⟨⟨h1, h2⟩, h3⟩ := ih (if a < y.wear then y.wear else a)
    have h4 : (if a < y.wear then y.wear else a) ≥ a ∧ (if a < y.wear then y.wear else a) ≥ y.wear := by split <;> omega
    refine ⟨⟨by omega, ?_⟩, ?_⟩
    · intro x hx
      rcases List.mem_cons.1 hx with e | hx
      · subst e
        omega
      · exact h2 x hx
    · rcases h3 with e | ⟨x, hx, e⟩
      · by_cases c : a < y.wear
        · simp only [c, if_true] at e ⊢
          exact .inr ⟨y, List.mem_cons_self, e.symm⟩
        · simp only [c, if_false] at e ⊢
          exact .inl e
      · exact .inr ⟨x, List.mem_cons_of_mem _ hx, e⟩
theorem isLw_lw {l : List Fil} (h : 0 < l.length) : IsLw l (lw l) := by
  obtain ⟨⟨h1, h2⟩, h3⟩ := fold_lw l (nth l 0).wear
  refine ⟨?_, h2⟩
  rcases h3 with e | e
  · exact ⟨nth l 0, nth_mem h, e.symm⟩
  · exact e
theorem isMw_mw {l : List Fil} (h : 0 < l.length) : IsMw l (mw l) := by
  obtain ⟨⟨h1, h2⟩, h3⟩ := fold_mw l (nth l 0).wear
  refine ⟨?_, h2⟩
  rcases h3 with e | e
  · exact ⟨nth l 0, nth_mem h, e.symm⟩
  · exact e
theorem len_pos {l : List Fil} {x : Fil} (h : x ∈ l) : 0 < l.length := List.length_pos_of_mem h
theorem IsLw.eq {l : List Fil} {v : Int} (h : IsLw l v) : v = lw l := by
  obtain ⟨x, hx, e⟩ := h.1
  have h2 := isLw_lw (len_pos hx)
  obtain ⟨y, hy, e2⟩ := h2.1
  have := h.2 y hy
  have := h2.2 x hx
  omega
theorem IsMw.eq {l : List Fil} {v : Int} (h : IsMw l v) : v = mw l := by
  obtain ⟨x, hx, e⟩ := h.1
  have h2 := isMw_mw (len_pos hx)
  obtain ⟨y, hy, e2⟩ := h2.1
  have := h.2 y hy
  have := h2.2 x hx
  omega
theorem lw_le {l : List Fil} {x : Fil} (h : x ∈ l) : lw l ≤ x.wear := (isLw_lw (len_pos h)).2 x h
theorem le_mw {l : List Fil} {x : Fil} (h : x ∈ l) : x.wear ≤ mw l := (isMw_mw (len_pos h)).2 x h
theorem lw_range {l : List Fil} (h : right l = true) (hn : 0 < l.length) : 0 ≤ lw l ∧ lw l ≤ 1048576 := by
  obtain ⟨x, hx, e⟩ := (isLw_lw hn).1
  have := right_mem h hx
  omega
theorem mw_range {l : List Fil} (h : right l = true) (hn : 0 < l.length) : 0 ≤ mw l ∧ mw l ≤ 1048576 := by
  obtain ⟨x, hx, e⟩ := (isMw_mw hn).1
  have := right_mem h hx
  omega
theorem lw_le_mw {l : List Fil} (hn : 0 < l.length) : lw l ≤ mw l := by
  obtain ⟨x, hx, e⟩ := (isMw_mw hn).1
  have := lw_le hx
  omega
/-- By how much the most worn block exceeds the least worn one. -/
def spr (l : List Fil) : Int := if l.length = 0 then 0 else mw l - lw l
theorem spr_nil : spr [] = 0 := rfl
theorem spr_pos {l : List Fil} (h : 0 < l.length) : spr l = mw l - lw l := by unfold spr; rw [if_neg (by omega)]
theorem spr_range {l : List Fil} (h : right l = true) : 0 ≤ spr l ∧ spr l ≤ 1048576 := by
  rcases Nat.eq_zero_or_pos l.length with e | e
  · unfold spr; rw [if_pos e]; omega
  · rw [spr_pos e]; have := lw_range h e; have := mw_range h e; have := lw_le_mw e; omega
theorem spr_le {l : List Fil} {v : Int} (h0 : 0 ≤ v) (h : ∀ x ∈ l, ∀ y ∈ l, x.wear - y.wear ≤ v) : spr l ≤ v := by
  rcases Nat.eq_zero_or_pos l.length with e | e
  · unfold spr; rw [if_pos e]; exact h0
  · rw [spr_pos e]
    obtain ⟨x, hx, e1⟩ := (isMw_mw e).1
    obtain ⟨y, hy, e2⟩ := (isLw_lw e).1
    have := h x hx y hy
    omega
theorem le_spr {l : List Fil} {x y : Fil} (hx : x ∈ l) (hy : y ∈ l) : x.wear - y.wear ≤ spr l := by
  rw [spr_pos (len_pos hx)]
  have := le_mw hx
  have := lw_le hy
  omega

/-! ### which block is picked -/
/-- a costs less than b. -/
def better (a b : Fil) : Bool := if a.need = b.need then decide (a.wear < b.wear) else decide (a.need < b.need)
theorem better_iff {a b : Fil} : better a b = true ↔ a.need < b.need ∨ (a.need = b.need ∧ a.wear < b.wear) := by
  unfold better
  split <;> simp <;> omega
theorem better_no {a b : Fil} : better a b = false ↔ ¬ (a.need < b.need ∨ (a.need = b.need ∧ a.wear < b.wear)) := by
  rw [← better_iff]; simp
def cand (l : List Fil) (lim : Int) (k : Nat) : Prop := (nth l k).fill = 4 ∧ (nth l k).wear < lim
instance (l : List Fil) (lim : Int) (k : Nat) : Decidable (cand l lim k) := by unfold cand; infer_instance
/-- Place i comes before place j. -/
def before (l : List Fil) (i j : Nat) : Prop := (nth l i).need < (nth l j).need ∨ ((nth l i).need = (nth l j).need ∧ ((nth l i).wear < (nth l j).wear ∨ ((nth l i).wear = (nth l j).wear ∧ i < j)))
/-- What has been chosen of the first k blocks. -/
def chs (l : List Fil) (lim : Int) : Nat → Nat × Bool
  | 0 => (0, false)
  | k + 1 => if ¬ cand l lim k then chs l lim k else if (chs l lim k).2 = false ∨ better (nth l k) (nth l (chs l lim k).1) = true then (k, true) else chs l lim k
theorem chs_skip {l : List Fil} {lim : Int} {k : Nat} (h : ¬ cand l lim k) : chs l lim (k + 1) = chs l lim k := by
  show (if _ then _ else _) = _
  rw [if_pos h]
theorem chs_take {l : List Fil} {lim : Int} {k : Nat} (h : cand l lim k) (h2 : (chs l lim k).2 = false ∨ better (nth l k) (nth l (chs l lim k).1) = true) : chs l lim (k + 1) = (k, true) := by
  show (if _ then _ else _) = _
  rw [if_neg (by simpa using h), if_pos h2]
theorem chs_keep {l : List Fil} {lim : Int} {k : Nat} (h : cand l lim k) (h1 : (chs l lim k).2 = true) (h2 : better (nth l k) (nth l (chs l lim k).1) = false) : chs l lim (k + 1) = chs l lim k := by
  show (if _ then _ else _) = _
  rw [if_neg (by simpa using h), if_neg (by rw [h1, h2]; simp)]
structure Best (l : List Fil) (lim : Int) (k : Nat) (p : Nat × Bool) : Prop where
  none_ : p.2 = false → p.1 = 0 ∧ ∀ j, j < k → ¬ cand l lim j
  lt : p.2 = true → p.1 < k
  is : p.2 = true → cand l lim p.1
  best : p.2 = true → ∀ j, j < k → cand l lim j → j ≠ p.1 → before l p.1 j
theorem chs_best (l : List Fil) (lim : Int) : ∀ k, Best l lim k (chs l lim k)
  | 0 => ⟨fun _ => ⟨rfl, fun j hj => absurd hj (Nat.not_lt_zero _)⟩, (fun h => by cases h), (fun h => by cases h), (fun h => by cases h)⟩
  | k + 1 => by
    have ih := chs_best l lim k
    by_cases hc : cand l lim k
    · by_cases h2 : (chs l lim k).2 = false ∨ better (nth l k) (nth l (chs l lim k).1) = true
      · rw [chs_take hc h2]
        refine ⟨(fun h => by cases h), fun _ => Nat.lt_succ_self _, fun _ => hc, fun _ j hj hcj hne => ?_⟩
        have hjk : j < k := by
          have : j ≠ k := hne
          omega
        show before l k j
        cases hf : (chs l lim k).2 with
        | false => exact absurd hcj ((ih.none_ hf).2 j hjk)
        | true =>
          rcases h2 with h2 | h2
          · rw [hf] at h2; cases h2
          · rw [better_iff] at h2
            by_cases e : j = (chs l lim k).1
            · subst e
              unfold before
              omega
            · have := ih.best hf j hjk hcj e
              unfold before at *
              omega
      · have h1 : (chs l lim k).2 = true := by
          cases hf : (chs l lim k).2 with
          | true => rfl
          | false => exact absurd (.inl hf) h2
        have h3 : better (nth l k) (nth l (chs l lim k).1) = false := by
          cases hf : better (nth l k) (nth l (chs l lim k).1) with
          | false => rfl
          | true => exact absurd (.inr hf) h2
        rw [chs_keep hc h1 h3]
        refine ⟨(fun h => by rw [h1] at h; cases h), fun h => Nat.lt_succ_of_lt (ih.lt h), ih.is, fun h j hj hcj hne => ?_⟩
        by_cases e : j < k
        · exact ih.best h j e hcj hne
        · obtain rfl : j = k := by omega
          rw [better_no] at h3
          have := ih.lt h
          unfold before
          omega
    · rw [chs_skip hc]
      refine ⟨fun h => ⟨(ih.none_ h).1, fun j hj => ?_⟩, fun h => Nat.lt_succ_of_lt (ih.lt h), ih.is, fun h j hj hcj hne => ?_⟩
      · by_cases e : j < k
        · exact (ih.none_ h).2 j e
        · obtain rfl : j = k := by omega
          exact hc
      · by_cases e : j < k
        · exact ih.best h j e hcj hne
        · obtain rfl : j = k := by omega
          exact absurd hcj hc
def pick (l : List Fil) (s : Int) : Nat × Bool := if l.length = 0 then (0, false) else chs l (lw l + s) l.length
theorem pick_nil {l : List Fil} {s : Int} (h : l.length = 0) : pick l s = (0, false) := by unfold pick; rw [if_pos h]
theorem pick_pos {l : List Fil} {s : Int} (h : 0 < l.length) : pick l s = chs l (lw l + s) l.length := by unfold pick; rw [if_neg (by omega)]
theorem pick_best (l : List Fil) (s : Int) : Best l (lw l + s) l.length (pick l s) := by
  rcases Nat.eq_zero_or_pos l.length with h | h
  · rw [pick_nil h, h]
    exact ⟨fun _ => ⟨rfl, fun j hj => absurd hj (Nat.not_lt_zero _)⟩, (fun h => by cases h), (fun h => by cases h), (fun h => by cases h)⟩
  · rw [pick_pos h]
    exact chs_best _ _ _
theorem before_asymm {l : List Fil} {i j : Nat} (h : before l i j) : ¬ before l j i := by unfold before at *; omega
theorem best_unique {l : List Fil} {lim : Int} {k : Nat} {p q : Nat × Bool} (hp : Best l lim k p) (hq : Best l lim k q) : p = q := by
  obtain ⟨i, f⟩ := p
  obtain ⟨j, g⟩ := q
  cases f with
  | false =>
    have h1 := hp.none_ rfl
    cases g with
    | false => have h2 := hq.none_ rfl; simp at h1 h2 ⊢; omega
    | true => exact absurd (hq.is rfl) (h1.2 _ (hq.lt rfl))
  | true =>
    cases g with
    | false => exact absurd (hp.is rfl) ((hq.none_ rfl).2 _ (hp.lt rfl))
    | true =>
      by_cases e : i = j
      · rw [e]
      · exact absurd (hp.best rfl j (hq.lt rfl) (hq.is rfl) (fun x => e x.symm)) (before_asymm (hq.best rfl i (hp.lt rfl) (hp.is rfl) e))

/-! ### the document's own way: all that may, sorted -/
def mayB (l : List Fil) (s : Int) (x : Fil) : Bool := decide (x.fill = 4) && l.all fun g => decide (x.wear < g.wear + s)
theorem mayB_cand {l : List Fil} {s : Int} {k : Nat} (h : k < l.length) : mayB l s (nth l k) = decide (cand l (lw l + s) k) := by
  rw [Bool.eq_iff_iff, decide_eq_true_iff]
  unfold mayB cand
  rw [Bool.and_eq_true, decide_eq_true_eq, List.all_eq_true]
  constructor
  · rintro ⟨h1, h2⟩
    refine ⟨h1, ?_⟩
    obtain ⟨y, hy, e⟩ := (isLw_lw (by omega : 0 < l.length)).1
    have := h2 y hy
    rw [decide_eq_true_eq] at this
    omega
  · rintro ⟨h1, h2⟩
    refine ⟨h1, fun y hy => ?_⟩
    rw [decide_eq_true_eq]
    have := lw_le hy
    omega
/-- The places of the blocks that may, among the first k. -/
def mays (l : List Fil) (s : Int) (k : Nat) : List Int := ((List.range k).filter fun j => mayB l s (nth l j)).map fun j : Nat => (j : Int)
theorem mays_yes {l : List Fil} {s : Int} {k : Nat} (h : mayB l s (nth l k) = true) : mays l s (k + 1) = mays l s k ++ [(k : Int)] := by
  unfold mays
  rw [List.range_succ, List.filter_append, List.map_append]
  simp [h]
theorem mays_no {l : List Fil} {s : Int} {k : Nat} (h : mayB l s (nth l k) = false) : mays l s (k + 1) = mays l s k := by
  unfold mays
  rw [List.range_succ, List.filter_append, List.map_append]
  simp [h]
theorem mays_length (l : List Fil) (s : Int) (k : Nat) : (mays l s k).length ≤ k := by
  unfold mays
  rw [List.length_map]
  have := List.length_filter_le (fun j => mayB l s (nth l j)) (List.range k)
  rwa [List.length_range] at this
theorem mem_mays {l : List Fil} {s : Int} {k : Nat} {x : Int} : x ∈ mays l s k ↔ ∃ j : Nat, x = j ∧ j < k ∧ mayB l s (nth l j) = true := by
  unfold mays
  rw [List.mem_map]
  constructor
  · rintro ⟨j, hj, rfl⟩
    rw [List.mem_filter, List.mem_range] at hj
    exact ⟨j, rfl, hj.1, hj.2⟩
  · rintro ⟨j, rfl, h1, h2⟩
    exact ⟨j, List.mem_filter.2 ⟨List.mem_range.2 h1, h2⟩, rfl⟩
def at_ (l : List Fil) (x : Int) : Fil := nth l x.toNat
/-- By live pages, by wear, by place. -/
def ltI (l : List Fil) (x y : Int) : Bool := decide ((at_ l x).need < (at_ l y).need ∨ ((at_ l x).need = (at_ l y).need ∧ ((at_ l x).wear < (at_ l y).wear ∨ ((at_ l x).wear = (at_ l y).wear ∧ x < y))))
theorem ltI_tot (l : List Fil) : Tot (ltI l) := by
  refine ⟨fun x => ?_, fun x y z h1 h2 => ?_, fun x y h => ?_⟩
  · unfold ltI; rw [decide_eq_false_iff_not]; omega
  · unfold ltI at *; rw [decide_eq_true_eq] at *; omega
  · unfold ltI; rw [decide_eq_true_eq, decide_eq_true_eq]; omega
/-- What the document's comparison returns. -/
def cfI (l : List Fil) (x y : Int) : Int := if (at_ l x).need = (at_ l y).need then (at_ l x).wear - (at_ l y).wear else (at_ l x).need - (at_ l y).need
theorem mays_agr (l : List Fil) (s : Int) (k : Nat) : (mays l s k).Pairwise fun x y => decide (cfI l y x < 0) = ltI l y x := by
  unfold mays
  rw [List.pairwise_map]
  refine (List.Pairwise.filter _ List.pairwise_lt_range).imp ?_
  intro i j hij
  rw [Bool.eq_iff_iff, decide_eq_true_iff]
  unfold ltI cfI
  rw [decide_eq_true_eq]
  have : (i : Int) < (j : Int) := by omega
  split <;> omega
/-- The head of the sorted places is the place that is picked. -/
theorem head_pick {l : List Fil} {s : Int} (h : 0 < (mays l s l.length).length) : pick l s = ((nti (sortT (ltI l) (mays l s l.length)) 0).toNat, true) ∧ 0 ≤ nti (sortT (ltI l) (mays l s l.length)) 0 := by
  have hl : 0 < (sortT (ltI l) (mays l s l.length)).length := by rw [sortT_length]; exact h
  have hm : nti (sortT (ltI l) (mays l s l.length)) 0 ∈ mays l s l.length := (sortT_perm _ _).mem_iff.1 (nti_mem hl)
  obtain ⟨r, hr, hrl, hrm⟩ := mem_mays.1 hm
  rw [hr]
  refine ⟨?_, by omega⟩
  rw [mayB_cand hrl, decide_eq_true_iff] at hrm
  refine best_unique (pick_best l s) ⟨(fun h => by cases h), fun _ => by simpa using hrl, fun _ => by simpa using hrm, fun _ j hj hcj hne => ?_⟩
  have hne' : j ≠ r := by simpa using hne
  show before l ((r : Int)).toNat j
  rw [Int.toNat_natCast]
  have hjm : (j : Int) ∈ sortT (ltI l) (mays l s l.length) := (sortT_perm _ _).mem_iff.2 (mem_mays.2 ⟨j, rfl, hj, by rw [mayB_cand hj, decide_eq_true_iff]; exact hcj⟩)
  obtain ⟨i, hi, e⟩ := List.mem_iff_getElem.1 hjm
  have hi0 : 0 < i := by
    rcases Nat.eq_zero_or_pos i with h0 | h0
    · subst h0
      rw [nti_eq hl, e] at hr
      omega
    · exact h0
  have := List.pairwise_iff_getElem.1 (sortT_srt (ltI_tot l) (mays l s l.length)) 0 i hl hi hi0
  rw [e, ← nti_eq hl, hr] at this
  unfold ltI at_ at this
  rw [decide_eq_false_iff_not, Int.toNat_natCast, Int.toNat_natCast] at this
  unfold before
  omega
theorem none_pick {l : List Fil} {s : Int} (h : (mays l s l.length).length = 0) : pick l s = (0, false) := by
  refine best_unique (pick_best l s) ⟨fun _ => ⟨rfl, fun j hj hc => ?_⟩, (fun h => by cases h), (fun h => by cases h), (fun h => by cases h)⟩
  have hm : (j : Int) ∈ mays l s l.length := mem_mays.2 ⟨j, rfl, hj, by rw [mayB_cand hj, decide_eq_true_iff]; exact hc⟩
  rw [List.eq_nil_of_length_eq_zero h] at hm
  cases hm

/-! ### answers -/
def chk (l : List Fil) (s : Int) : Int := if right l = false then 1 else if s < 1 ∨ 1048576 < s then 2 else 0
theorem chk_form {l : List Fil} {s : Int} (h : right l = false) : chk l s = 1 := by unfold chk; rw [if_pos h]
theorem chk_range {l : List Fil} {s : Int} (h : right l = true) (h2 : s < 1 ∨ 1048576 < s) : chk l s = 2 := by unfold chk; rw [if_neg (by rw [h]; simp), if_pos h2]
theorem chk_ok {l : List Fil} {s : Int} (h : right l = true) (h2 : ¬ (s < 1 ∨ 1048576 < s)) : chk l s = 0 := by unfold chk; rw [if_neg (by rw [h]; simp), if_neg h2]
theorem chk_zero {l : List Fil} {s : Int} (h : chk l s = 0) : right l = true ∧ 1 ≤ s ∧ s ≤ 1048576 := by
  unfold chk at h
  cases hr : right l with
  | false => rw [hr, if_pos rfl] at h; omega
  | true =>
    rw [hr, if_neg (by simp)] at h
    refine ⟨rfl, ?_⟩
    by_cases h2 : s < 1 ∨ 1048576 < s
    · rw [if_pos h2] at h; omega
    · omega
theorem chk_cases (l : List Fil) (s : Int) : chk l s = 0 ∨ chk l s = 1 ∨ chk l s = 2 := by
  unfold chk
  split
  · omega
  · split <;> omega
def gerr (l : List Fil) (s : Int) : Int := if chk l s = 0 then (if (pick l s).2 = true then 0 else 3) else chk l s
def gidx (l : List Fil) (s : Int) : Int := if chk l s = 0 then (pick l s).1 else 0
theorem gerr_bad {l : List Fil} {s : Int} (h : chk l s ≠ 0) : gerr l s = chk l s := by unfold gerr; rw [if_neg h]
theorem gidx_bad {l : List Fil} {s : Int} (h : chk l s ≠ 0) : gidx l s = 0 := by unfold gidx; rw [if_neg h]
theorem gerr_none {l : List Fil} {s : Int} (h : chk l s = 0) (h2 : (pick l s).2 = false) : gerr l s = 3 := by unfold gerr; rw [if_pos h, if_neg (by rw [h2]; simp)]
theorem gidx_none {l : List Fil} {s : Int} (h2 : (pick l s).2 = false) : gidx l s = 0 := by
  unfold gidx
  split
  · rw [((pick_best l s).none_ h2).1]; rfl
  · rfl
theorem gerr_ok {l : List Fil} {s : Int} (h : chk l s = 0) (h2 : (pick l s).2 = true) : gerr l s = 0 := by unfold gerr; rw [if_pos h, if_pos h2]
theorem gidx_ok {l : List Fil} {s : Int} (h : chk l s = 0) : gidx l s = (pick l s).1 := by unfold gidx; rw [if_pos h]
theorem gerr_zero {l : List Fil} {s : Int} (h : gerr l s = 0) : chk l s = 0 ∧ (pick l s).2 = true := by
  unfold gerr at h
  by_cases c : chk l s = 0
  · rw [if_pos c] at h
    refine ⟨c, ?_⟩
    cases e : (pick l s).2 with
    | true => rfl
    | false => rw [e] at h; simp at h
  · rw [if_neg c] at h; exact absurd h c
theorem gidx_err {l : List Fil} {s : Int} (h : gerr l s ≠ 0) : gidx l s = 0 := by
  by_cases c : chk l s = 0
  · cases e : (pick l s).2 with
    | true => exact absurd (gerr_ok c e) h
    | false => exact gidx_none e
  · exact gidx_bad c

/-! ### a run of erasures -/
def bump (l : List Fil) (k : Nat) : List Fil := l.set k ⟨0, 4, (nth l k).wear + 1⟩
theorem bump_length (l : List Fil) (k : Nat) : (bump l k).length = l.length := List.length_set
/-- Whether a block is erased in this round. -/
def goes (l : List Fil) (s : Int) : Bool := (pick l s).2 && !decide ((nth l (pick l s).1).wear = 1048576)
def pl (s : Int) : Nat → List Fil → List Int × List Fil
  | 0, l => ([], l)
  | t + 1, l => if goes l s = true then (((pick l s).1 : Int) :: (pl s t (bump l (pick l s).1)).1, (pl s t (bump l (pick l s).1)).2) else ([], l)
theorem pl_zero (s : Int) (l : List Fil) : pl s 0 l = ([], l) := rfl
theorem pl_go {s : Int} {t : Nat} {l : List Fil} (h : goes l s = true) : pl s (t + 1) l = (((pick l s).1 : Int) :: (pl s t (bump l (pick l s).1)).1, (pl s t (bump l (pick l s).1)).2) := by
  show (if _ then _ else _) = _
  rw [if_pos h]
theorem pl_stop {s : Int} {t : Nat} {l : List Fil} (h : goes l s = false) : pl s t l = ([], l) := by
  cases t with
  | zero => rfl
  | succ t =>
    show (if _ then _ else _) = _
    rw [if_neg (by rw [h]; simp)]
theorem goes_iff {l : List Fil} {s : Int} : goes l s = true ↔ (pick l s).2 = true ∧ (nth l (pick l s).1).wear ≠ 1048576 := by
  unfold goes
  simp
theorem goes_lt {l : List Fil} {s : Int} (h : goes l s = true) : (pick l s).1 < l.length := (pick_best l s).lt (goes_iff.1 h).1
theorem bump_right {l : List Fil} {s : Int} (hr : right l = true) (h : goes l s = true) : right (bump l (pick l s).1) = true := by
  have h1 := goes_lt h
  have h2 := (goes_iff.1 h).2
  have h3 := right_nth hr h1
  exact right_set hr (by rw [okB_iff]; simp only; omega)
/-- The program's loop, and the document's: what has been gathered, and what is still to come. -/
structure Run (s : Int) (l0 : List Fil) (t0 : Nat) (i : Nat) (c : List Int) (l : List Fil) : Prop where
  le : i ≤ t0
  rt : right l = true
  len : l.length = l0.length
  got : c.length = i
  all : ((c ++ (pl s (t0 - i) l).1, (pl s (t0 - i) l).2) : List Int × List Fil) = pl s t0 l0
theorem Run.start {s : Int} {l0 : List Fil} (h : right l0 = true) (t0 : Nat) : Run s l0 t0 0 [] l0 := ⟨Nat.zero_le _, h, rfl, rfl, by simp⟩
theorem Run.next {s : Int} {l0 l : List Fil} {t0 i : Nat} {c : List Int} (h : Run s l0 t0 i c l) (hi : i < t0) (hg : goes l s = true) : Run s l0 t0 (i + 1) (c ++ [((pick l s).1 : Int)]) (bump l (pick l s).1) := by
  refine ⟨hi, bump_right h.rt hg, by rw [bump_length, h.len], by rw [List.length_append, h.got]; rfl, ?_⟩
  have := h.all
  obtain ⟨m, hm⟩ : ∃ m, t0 - i = m + 1 := ⟨t0 - i - 1, by omega⟩
  rw [hm, pl_go hg] at this
  rw [show t0 - (i + 1) = m by omega, List.append_assoc]
  exact this
theorem Run.stop {s : Int} {l0 l : List Fil} {t0 i : Nat} {c : List Int} (h : Run s l0 t0 i c l) (hg : goes l s = false) : (c, l) = pl s t0 l0 := by
  have := h.all
  rw [pl_stop hg] at this
  simpa using this
theorem Run.fin {s : Int} {l0 l : List Fil} {t0 i : Nat} {c : List Int} (h : Run s l0 t0 i c l) (hi : ¬ i < t0) : (c, l) = pl s t0 l0 := by
  have := h.all
  rw [show t0 - i = 0 by omega, pl_zero] at this
  simpa using this
def perr (l : List Fil) (s t : Int) : Int := if chk l s = 0 then (if t < 0 ∨ 400 < t then 2 else 0) else chk l s
theorem perr_bad {l : List Fil} {s t : Int} (h : chk l s ≠ 0) : perr l s t = chk l s := by unfold perr; rw [if_neg h]
theorem perr_range {l : List Fil} {s t : Int} (h : chk l s = 0) (h2 : t < 0 ∨ 400 < t) : perr l s t = 2 := by unfold perr; rw [if_pos h, if_pos h2]
theorem perr_ok {l : List Fil} {s t : Int} (h : chk l s = 0) (h2 : ¬ (t < 0 ∨ 400 < t)) : perr l s t = 0 := by unfold perr; rw [if_pos h, if_neg h2]
theorem perr_zero {l : List Fil} {s t : Int} (h : perr l s t = 0) : chk l s = 0 ∧ 0 ≤ t ∧ t ≤ 400 := by
  by_cases c : chk l s = 0
  · by_cases h2 : t < 0 ∨ 400 < t
    · rw [perr_range c h2] at h; omega
    · exact ⟨c, by omega⟩
  · rw [perr_bad c] at h; exact absurd h c
def pch (l : List Fil) (s t : Int) : List Int := if perr l s t = 0 then (pl s t.toNat l).1 else []
def pls (l : List Fil) (s t : Int) : List Fil := if perr l s t = 0 then (pl s t.toNat l).2 else []
theorem pch_ok {l : List Fil} {s t : Int} (h : perr l s t = 0) : pch l s t = (pl s t.toNat l).1 := by unfold pch; rw [if_pos h]
theorem pls_ok {l : List Fil} {s t : Int} (h : perr l s t = 0) : pls l s t = (pl s t.toNat l).2 := by unfold pls; rw [if_pos h]
theorem pch_no {l : List Fil} {s t : Int} (h : perr l s t ≠ 0) : pch l s t = [] := by unfold pch; rw [if_neg h]
theorem pls_no {l : List Fil} {s t : Int} (h : perr l s t ≠ 0) : pls l s t = [] := by unfold pls; rw [if_neg h]

/-! ### how far the wear spreads -/
theorem mem_bump {l : List Fil} {k : Nat} {x : Fil} (h : x ∈ bump l k) : x ∈ l ∨ x = ⟨0, 4, (nth l k).wear + 1⟩ := List.mem_or_eq_of_mem_set h
theorem bump_spread {l : List Fil} {s : Int} (h : goes l s = true) (hs : 1 ≤ s) {v : Int} (hv : s ≤ v) (hl : spr l ≤ v) : spr (bump l (pick l s).1) ≤ v := by
  have hk := goes_lt h
  have hc := ((pick_best l s).is (goes_iff.1 h).1).2
  refine spr_le (by omega) fun x hx y hy => ?_
  rcases mem_bump hx with hx | hx <;> rcases mem_bump hy with hy | hy
  · have := le_spr hx hy; omega
  · subst hy
    have := le_spr hx (nth_mem hk)
    simp only
    omega
  · subst hx
    have := lw_le hy
    simp only
    omega
  · subst hx hy; simp only; omega
theorem pl_spread {s : Int} (hs : 1 ≤ s) {v : Int} (hv : s ≤ v) : ∀ (t : Nat) (l : List Fil), spr l ≤ v → spr (pl s t l).2 ≤ v
  | 0, l, h => h
  | t + 1, l, h => by
    cases hg : goes l s with
    | false => rw [pl_stop hg]; exact h
    | true => rw [pl_go hg]; exact pl_spread hs hv t _ (bump_spread hg hs hv h)
theorem pl_right {s : Int} : ∀ (t : Nat) (l : List Fil), right l = true → right (pl s t l).2 = true
  | 0, l, h => h
  | t + 1, l, h => by
    cases hg : goes l s with
    | false => rw [pl_stop hg]; exact h
    | true => rw [pl_go hg]; exact pl_right t _ (bump_right h hg)
theorem pl_length {s : Int} : ∀ (t : Nat) (l : List Fil), (pl s t l).2.length = l.length
  | 0, l => rfl
  | t + 1, l => by
    cases hg : goes l s with
    | false => rw [pl_stop hg]
    | true => rw [pl_go hg]; exact (pl_length t _).trans (bump_length _ _)

/-! ### full blocks -/
def sumW (l : List Fil) : Int := (l.map Fil.wear).sum
theorem sumW_set {l : List Fil} {k : Nat} (h : k < l.length) (x : Fil) : sumW (l.set k x) = sumW l + x.wear - (nth l k).wear := by
  induction l generalizing k with
  | nil => simp at h
  | cons y l ih =>
    cases k with
    | zero => simp [sumW, nth]; omega
    | succ k =>
      have := ih (k := k) (by simpa using h)
      simp only [sumW, List.set_cons_succ, List.map_cons, List.sum_cons] at *
      rw [this]
      have e : nth (y :: l) (k + 1) = nth l k := by simp [nth]
      rw [e]
      omega
def Full (l : List Fil) : Prop := ∀ x ∈ l, x.fill = 4
theorem full_pick {l : List Fil} {s : Int} (hf : Full l) (hn : 0 < l.length) (hs : 1 ≤ s) : (pick l s).2 = true := by
  cases h : (pick l s).2 with
  | true => rfl
  | false =>
    obtain ⟨x, hx, e⟩ := (isLw_lw hn).1
    obtain ⟨k, hk, rfl⟩ := mem_nth hx
    exact absurd ⟨hf _ hx, by omega⟩ (((pick_best l s).none_ h).2 k hk)
theorem full_bump {l : List Fil} (hf : Full l) (k : Nat) : Full (bump l k) := fun x hx => by
  rcases mem_bump hx with h | h
  · exact hf x h
  · rw [h]
theorem bump_sum {l : List Fil} {k : Nat} (hk : k < l.length) : sumW (bump l k) = sumW l + 1 := by
  unfold bump
  rw [sumW_set hk]
  simp only
  omega
/-- Of full blocks with room in their wear, each round erases one. -/
theorem full_run {s : Int} (hs : 1 ≤ s) {N : Int} (hN : N ≤ 1048576) : ∀ (t : Nat) (l : List Fil), Full l → 0 < l.length → (∀ x ∈ l, x.wear + t ≤ N) → (pl s t l).1.length = t ∧ sumW (pl s t l).2 = sumW l + t
  | 0, l, _, _, _ => by simp [pl_zero]
  | t + 1, l, hf, hn, hw => by
    have hp := full_pick (s := s) hf hn hs
    have hlt := (pick_best l s).lt hp
    have hg : goes l s = true := goes_iff.2 ⟨hp, fun e => by have := hw _ (nth_mem hlt); rw [e] at this; omega⟩
    rw [pl_go hg]
    obtain ⟨h1, h2⟩ := full_run hs hN t (bump l (pick l s).1) (full_bump hf _) (by rw [bump_length]; exact hn) (fun x hx => by
      rcases mem_bump hx with h | h
      · have := hw x h; omega
      · have := hw _ (nth_mem hlt); rw [h]; simp only; omega)
    simp only [List.length_cons]
    refine ⟨by omega, ?_⟩
    rw [h2, bump_sum hlt]
    omega
theorem sumW_le {l : List Fil} {v : Int} (h : ∀ x ∈ l, x.wear ≤ v) : sumW l ≤ l.length * v := by
  induction l with
  | nil => simp [sumW]
  | cons y l ih =>
    have h1 := ih fun x hx => h x (List.mem_cons_of_mem _ hx)
    have h2 := h y List.mem_cons_self
    simp only [sumW, List.map_cons, List.sum_cons, List.length_cons] at *
    have : ((l.length + 1 : Nat) : Int) * v = l.length * v + v := by rw [Int.natCast_add, Int.add_mul]; simp
    omega
theorem sumW_lt {l : List Fil} {v : Int} (h : ∀ x ∈ l, x.wear ≤ v) {x : Fil} (hx : x ∈ l) (hv : x.wear < v) : sumW l < l.length * v := by
  induction l with
  | nil => cases hx
  | cons y l ih =>
    have h2 := h y List.mem_cons_self
    have h0 : ∀ x ∈ l, x.wear ≤ v := fun x hx => h x (List.mem_cons_of_mem _ hx)
    have : ((l.length + 1 : Nat) : Int) * v = l.length * v + v := by rw [Int.natCast_add, Int.add_mul]; simp
    rcases List.mem_cons.1 hx with e | hx
    · subst e
      have h1 := sumW_le h0
      simp only [sumW, List.map_cons, List.sum_cons, List.length_cons] at *
      omega
    · have h1 := ih h0 hx
      simp only [sumW, List.map_cons, List.sum_cons, List.length_cons] at *
      omega
/-- Where one block was never erased and the wear spreads by s at most, fewer than n * s rounds were made. -/
theorem none_fresh {l : List Fil} {s : Int} (hs : 1 ≤ s) (hsp : spr l ≤ s) {x : Fil} (hx : x ∈ l) (h0 : x.wear = 0) : sumW l < l.length * s :=
  sumW_lt (v := s) (fun y hy => by have := le_spr hy hx; omega) hx (by omega)
theorem full_replicate (n : Nat) : Full (List.replicate n ⟨1, 4, 0⟩) := fun x hx => by rw [List.eq_of_mem_replicate hx]
theorem sumW_replicate (n : Nat) : sumW (List.replicate n ⟨1, 4, 0⟩) = 0 := by simp [sumW]
theorem right_replicate {n : Nat} (hn : n ≤ 4096) : right (List.replicate n ⟨1, 4, 0⟩) = true := right_iff.2 ⟨by rw [List.length_replicate]; exact hn, fun x hx => by rw [List.eq_of_mem_replicate hx]; decide⟩
theorem spr_replicate (n : Nat) : spr (List.replicate n ⟨1, 4, 0⟩) ≤ 0 := spr_le (Int.le_refl _) fun x hx y hy => by rw [List.eq_of_mem_replicate hx, List.eq_of_mem_replicate hy]; simp

/-! ### more wear for all -/
def more (m : Int) (x : Fil) : Fil := ⟨x.need, x.fill, x.wear + m⟩
theorem nth_more {l : List Fil} {k : Nat} {m : Int} (h : k < l.length) : nth (l.map (more m)) k = more m (nth l k) := by
  refine nth_of ?_
  rw [List.getElem?_map, nth_get h]
  rfl
theorem lw_more {l : List Fil} {m : Int} (h : 0 < l.length) : lw (l.map (more m)) = lw l + m := by
  refine (IsLw.eq ⟨?_, ?_⟩).symm
  · obtain ⟨x, hx, e⟩ := (isLw_lw h).1
    exact ⟨more m x, List.mem_map_of_mem hx, by simp only [more]; omega⟩
  · intro x hx
    obtain ⟨y, hy, rfl⟩ := List.mem_map.1 hx
    have := lw_le hy
    simp only [more]
    omega
theorem pick_more (l : List Fil) (s m : Int) : pick (l.map (more m)) s = pick l s := by
  rcases Nat.eq_zero_or_pos l.length with h | h
  · rw [pick_nil h, pick_nil (by rw [List.length_map]; exact h)]
  · have B := pick_best l s
    have C := pick_best (l.map (more m)) s
    rw [lw_more h, List.length_map] at C
    have hc : ∀ j, j < l.length → (cand (l.map (more m)) (lw l + m + s) j ↔ cand l (lw l + s) j) := fun j hj => by
      unfold cand
      rw [nth_more hj]
      simp only [more]
      omega
    have hb : ∀ i j, i < l.length → j < l.length → (before (l.map (more m)) i j ↔ before l i j) := fun i j hi hj => by
      unfold before
      rw [nth_more hi, nth_more hj]
      simp only [more]
      omega
    refine best_unique C ⟨fun h0 => ⟨(B.none_ h0).1, fun j hj => by rw [hc j hj]; exact (B.none_ h0).2 j hj⟩, B.lt, fun h0 => (hc _ (B.lt h0)).2 (B.is h0), fun h0 j hj hcj hne => ?_⟩
    exact (hb _ _ (B.lt h0) hj).2 (B.best h0 j hj ((hc j hj).1 hcj) hne)
/-- What is told of both lists, where both are valid. -/
theorem shift_same {l : List Fil} {s m : Int} (h1 : gerr l s ≠ 1) (h2 : gerr (l.map (more m)) s ≠ 1) : gerr l s = gerr (l.map (more m)) s ∧ gidx l s = gidx (l.map (more m)) s := by
  have hp := pick_more l s m
  have hr : ∀ l : List Fil, gerr l s ≠ 1 → right l = true := fun l h => by
    cases e : right l with
    | true => rfl
    | false => exact absurd (by rw [gerr_bad (by rw [chk_form e]; omega), chk_form e]) h
  have hc : chk (l.map (more m)) s = chk l s := by unfold chk; rw [hr _ h1, hr _ h2]
  unfold gerr gidx
  rw [hc, hp]
  exact ⟨rfl, rfl⟩
end Go.Proofs.Ytodnjeahjalinaa.Vic
