/-
  Chapter 4 in plain mathematics: blocks, flashes, which of them are valid, what an operation does, and what a list of operations leaves. No program here.
-/
namespace Go.Proofs.Ytfohihdpohjmcaa.Nand

/-- A block: four pages, how many were programmed, how often it was erased. -/
structure Blk where
  d0 : Int
  d1 : Int
  d2 : Int
  d3 : Int
  done : Int
  wear : Int
/-- An operation. -/
structure Nop where
  kind : Int
  block : Int
  page : Int
  data : Int
def blank (k : Int) : Blk := ⟨0, 0, 0, 0, 0, k⟩
theorem Blk.same {a b : Blk} (h0 : a.d0 = b.d0) (h1 : a.d1 = b.d1) (h2 : a.d2 = b.d2) (h3 : a.d3 = b.d3) (h4 : a.done = b.done) (h5 : a.wear = b.wear) : a = b := by
  cases a; cases b; simp_all
def Blk.pages (b : Blk) : List Int := [b.d0, b.d1, b.d2, b.d3]
def Blk.nums (b : Blk) : List Int := [b.d0, b.d1, b.d2, b.d3, b.done, b.wear]
theorem nums_inj {a b : Blk} (h : a.nums = b.nums) : a = b := by
  cases a; cases b; simpa [Blk.nums] using h
def Blk.put (b : Blk) (k : Nat) (x : Int) : Blk :=
  match k with
  | 0 => { b with d0 := x }
  | 1 => { b with d1 := x }
  | 2 => { b with d2 := x }
  | _ => { b with d3 := x }
def Blk.at (b : Blk) (k : Nat) : Int := b.pages.getD k 0
/-- No operations leave a block like it. -/
def wrongB (b : Blk) : Bool := decide (b.done < 0) || decide (4 < b.done) || (decide (b.wear < 0) || decide (1048576 < b.wear)) || (b.pages.drop b.done.toNat).any (· != 0)
def okB (b : Blk) : Bool := !wrongB b
theorem okB_iff {b : Blk} : okB b = true ↔ (0 ≤ b.done ∧ b.done ≤ 4 ∧ 0 ≤ b.wear ∧ b.wear ≤ 1048576 ∧ ∀ x ∈ b.pages.drop b.done.toNat, x = 0) := by
  unfold okB wrongB
  simp only [Bool.not_or, Bool.and_eq_true, Bool.not_eq_true', decide_eq_false_iff_not, List.any_eq_false, bne_iff_ne, ne_eq, Classical.not_not]
  constructor
  · rintro ⟨⟨⟨h1, h2⟩, h3, h4⟩, h5⟩
    exact ⟨by omega, by omega, by omega, by omega, h5⟩
  · rintro ⟨h1, h2, h3, h4, h5⟩
    exact ⟨⟨⟨by omega, by omega⟩, by omega, by omega⟩, h5⟩
/-- The same in numbers. -/
theorem okB_nums {b : Blk} : okB b = true ↔ (0 ≤ b.done ∧ b.done ≤ 4 ∧ 0 ≤ b.wear ∧ b.wear ≤ 1048576 ∧ (b.d0 = 0 ∨ 0 < b.done) ∧ (b.d1 = 0 ∨ 1 < b.done) ∧ (b.d2 = 0 ∨ 2 < b.done) ∧ (b.d3 = 0 ∨ 3 < b.done)) := by
  rw [okB_iff]
  constructor
  · rintro ⟨h1, h2, h3, h4, h5⟩
    refine ⟨h1, h2, h3, h4, ?_⟩
    have : b.done = 0 ∨ b.done = 1 ∨ b.done = 2 ∨ b.done = 3 ∨ b.done = 4 := by omega
    rcases this with h | h | h | h | h <;> rw [h] at h5 ⊢ <;> simp [Blk.pages] at h5 <;> simp_all
  · rintro ⟨h1, h2, h3, h4, h5, h6, h7, h8⟩
    refine ⟨h1, h2, h3, h4, ?_⟩
    have : b.done = 0 ∨ b.done = 1 ∨ b.done = 2 ∨ b.done = 3 ∨ b.done = 4 := by omega
    rcases this with h | h | h | h | h <;> rw [h] at h5 h6 h7 h8 ⊢ <;> simp at h5 h6 h7 h8 <;> simp [Blk.pages] <;> simp_all
def right (l : List Blk) : Bool := decide (l.length = 8) && l.all okB
theorem right_len {l : List Blk} (h : right l = true) : l.length = 8 := by
  unfold right at h; simp at h; exact h.1
theorem right_get {l : List Blk} (h : right l = true) {i : Nat} {b : Blk} (hb : l[i]? = some b) : okB b = true := by
  unfold right at h
  simp only [Bool.and_eq_true, List.all_eq_true] at h
  exact h.2 b (List.mem_iff_getElem?.2 ⟨i, hb⟩)
theorem right_mk {l : List Blk} (h8 : l.length = 8) (h : ∀ (i : Nat) (b : Blk), l[i]? = some b → okB b = true) : right l = true := by
  unfold right
  simp only [Bool.and_eq_true, decide_eq_true_eq, List.all_eq_true]
  refine ⟨h8, fun b hb => ?_⟩
  obtain ⟨i, hi⟩ := List.mem_iff_getElem?.1 hb
  exact h i b hi

/-! ### operations -/
def kindOk (k : Int) : Bool := k == 1 || k == 2 || k == 3
def betw (x lo hi : Int) : Bool := decide (lo ≤ x) && decide (x ≤ hi)
def within (o : Nop) : Bool := betw o.block 0 7 && (o.kind == 2 || betw o.page 0 3)
/-- Why a block refuses the operation. -/
def blkErr (b : Blk) (o : Nop) : Int :=
  if o.kind = 1 ∧ o.page < b.done then 6 else if o.kind = 1 ∧ b.done < o.page then 3 else if o.kind = 2 ∧ b.wear = 1048576 then 8 else if o.kind = 3 ∧ b.done ≤ o.page then 3 else 0
def errOf (l : List Blk) (o : Nop) : Int :=
  if right l = false then 1 else if kindOk o.kind = false then 5 else if within o = false then 2 else match l[o.block.toNat]? with | some b => blkErr b o | none => 0
/-- What the operation makes of its block. -/
def doB (b : Blk) (o : Nop) : Blk :=
  if o.kind = 1 then { b.put o.page.toNat o.data with done := b.done + 1 } else if o.kind = 2 then blank (b.wear + 1) else b
def datum (b : Blk) (o : Nop) : Int := if o.kind = 3 then b.at o.page.toNat else 0
def upd (l : List Blk) (o : Nop) : List Blk := match l[o.block.toNat]? with | some b => l.set o.block.toNat (doB b o) | none => l
def readOf (l : List Blk) (o : Nop) : Int := match l[o.block.toNat]? with | some b => datum b o | none => 0
def nextOf (l : List Blk) (o : Nop) : List Blk := if errOf l o = 0 then upd l o else []
def dataOf (l : List Blk) (o : Nop) : Int := if errOf l o = 0 then readOf l o else 0

/-- What is known where there is no error. -/
theorem err_zero {l : List Blk} {o : Nop} (h : errOf l o = 0) : right l = true ∧ kindOk o.kind = true ∧ within o = true ∧ ∃ (i : Nat) (b : Blk), i < 8 ∧ o.block = (i : Int) ∧ l[i]? = some b ∧ blkErr b o = 0 := by
  unfold errOf at h
  cases hr : right l with
  | false => rw [hr] at h; simp at h
  | true =>
    rw [hr] at h
    cases hk : kindOk o.kind with
    | false => rw [hk] at h; simp at h
    | true =>
      rw [hk] at h
      cases hw : within o with
      | false => rw [hw] at h; simp at h
      | true =>
        rw [hw] at h
        have h8 := right_len hr
        have hb : 0 ≤ o.block ∧ o.block ≤ 7 := by
          unfold within betw at hw
          simp at hw
          exact hw.1
        refine ⟨rfl, rfl, rfl, o.block.toNat, ?_⟩
        have hlt : o.block.toNat < l.length := by omega
        rw [List.getElem?_eq_getElem hlt] at h ⊢
        refine ⟨_, by omega, by omega, rfl, ?_⟩
        simpa using h
theorem err_of {l : List Blk} {o : Nop} (h1 : right l = true) (h2 : kindOk o.kind = true) (h3 : within o = true) {i : Nat} {b : Blk} (hi : o.block = (i : Int)) (hb : l[i]? = some b) : errOf l o = blkErr b o := by
  have : o.block.toNat = i := by omega
  unfold errOf
  rw [h1, h2, h3, this, hb]
  simp
theorem upd_of {l : List Blk} {o : Nop} {i : Nat} {b : Blk} (hi : o.block = (i : Int)) (hb : l[i]? = some b) : upd l o = l.set i (doB b o) ∧ readOf l o = datum b o := by
  have : o.block.toNat = i := by omega
  unfold upd readOf
  rw [this, hb]
  exact ⟨rfl, rfl⟩
theorem doB_ok {b : Blk} {o : Nop} (hb : okB b = true) (hk : kindOk o.kind = true) (hw : within o = true) (he : blkErr b o = 0) : okB (doB b o) = true := by
  rw [okB_nums] at hb ⊢
  obtain ⟨h1, h2, h3, h4, h5, h6, h7, h8⟩ := hb
  unfold kindOk at hk
  simp only [Bool.or_eq_true, beq_iff_eq] at hk
  unfold doB
  rcases hk with (hk | hk) | hk
  · rw [if_pos hk]
    unfold blkErr at he
    by_cases a1 : o.page < b.done
    · rw [if_pos ⟨hk, a1⟩] at he; omega
    · rw [if_neg (by omega)] at he
      by_cases a2 : b.done < o.page
      · rw [if_pos ⟨hk, a2⟩] at he; omega
      · have hd : o.page = b.done := by omega
        have hp : o.page ≤ 3 := by
          unfold within betw at hw
          simp at hw
          omega
        have : o.page = 0 ∨ o.page = 1 ∨ o.page = 2 ∨ o.page = 3 := by omega
        rcases this with h | h | h | h <;> rw [h] <;> simp [Blk.put] <;> rw [h] at hd <;> omega
  · rw [if_neg (by omega), if_pos hk]
    unfold blkErr at he
    rw [if_neg (by omega), if_neg (by omega)] at he
    by_cases a : b.wear = 1048576
    · rw [if_pos ⟨hk, a⟩] at he; omega
    · simp [blank]; omega
  · rw [if_neg (by omega), if_neg (by omega)]
    exact ⟨h1, h2, h3, h4, h5, h6, h7, h8⟩
theorem upd_length (l : List Blk) (o : Nop) : (upd l o).length = l.length := by
  unfold upd; split <;> simp
theorem upd_right {l : List Blk} {o : Nop} (h : errOf l o = 0) : right (upd l o) = true := by
  obtain ⟨hr, hk, hw, i, b, hi, hbl, hb, he⟩ := err_zero h
  refine right_mk (by rw [upd_length, right_len hr]) fun j c hc => ?_
  rw [(upd_of hbl hb).1, List.getElem?_set] at hc
  by_cases e : i = j
  · rw [if_pos e, if_pos (by rw [right_len hr]; exact hi)] at hc
    injection hc with hc
    subst hc
    exact doB_ok (right_get hr hb) hk hw he
  · rw [if_neg e] at hc
    exact right_get hr hc
theorem next_right {l : List Blk} {o : Nop} (h : errOf l o = 0) : right (nextOf l o) = true := by
  unfold nextOf; rw [if_pos h]; exact upd_right h

/-! ### one behind the other -/
structure St where
  l : List Blk
  errs : List Int
  read : List Int
def fresh : List Blk := List.replicate 8 (blank 0)
theorem fresh_right : right fresh = true := by decide
def St.step (s : St) (o : Nop) : St :=
  if errOf s.l o = 0 then ⟨upd s.l o, s.errs ++ [0], if o.kind = 3 then s.read ++ [readOf s.l o] else s.read⟩ else ⟨s.l, s.errs ++ [errOf s.l o], s.read⟩
def run (ops : List Nop) : St := ops.foldl St.step ⟨fresh, [], []⟩
def runTo (ops : List Nop) (k : Nat) : St := run (ops.take k)
theorem runTo_zero (ops : List Nop) : runTo ops 0 = ⟨fresh, [], []⟩ := rfl
theorem runTo_succ {ops : List Nop} {k : Nat} {o : Nop} (h : ops[k]? = some o) : runTo ops (k + 1) = (runTo ops k).step o := by
  unfold runTo run
  rw [List.take_add_one, h, List.foldl_append]; rfl
theorem runTo_all (ops : List Nop) : runTo ops ops.length = run ops := by unfold runTo; rw [List.take_length]
theorem runTo_right (ops : List Nop) (k : Nat) : right (runTo ops k).l = true := by
  unfold runTo
  generalize ops.take k = l
  suffices ∀ (l : List Nop) (s : St), right s.l = true → right (l.foldl St.step s).l = true from this l _ fresh_right
  intro l
  induction l with
  | nil => exact fun s h => h
  | cons o l ih =>
    intro s h
    refine ih _ ?_
    unfold St.step
    split
    · rename_i he; exact upd_right he
    · exact h
theorem runTo_errs (ops : List Nop) (k : Nat) (hk : k ≤ ops.length) : (runTo ops k).errs.length = k ∧ (runTo ops k).read.length ≤ k := by
  induction k with
  | zero => exact ⟨rfl, by simp [runTo_zero]⟩
  | succ k ih =>
    have h : ops[k]? = some ops[k] := List.getElem?_eq_getElem (by omega)
    obtain ⟨h1, h2⟩ := ih (by omega)
    rw [runTo_succ h]
    unfold St.step
    split
    · split <;> simp [h1] <;> omega
    · simp [h1]; omega
end Go.Proofs.Ytfohihdpohjmcaa.Nand
