/-
  What the two loops of NandCount go by: the wear of the blocks as a row of numbers.
-/
import Derived.Test.YtellfblfalpdiaaAlive
namespace Go.Proofs.Ytellfblfalpdiaa.Nand
open Go.ChangeShapes Go.WideShapes Go.ChangeAt Go.RowKit Words

/-! ### a block that is known whole -/
def Whole (w : World) (g : Nat) (t : TypeId) (cs : Array Value) : Prop := w.heap[g]? = some (.cells cs t (0, 0))
section
variable {w w' : World} {g : Nat} {t : TypeId} {cs : Array Value}
theorem Whole.lt (h : Whole w g t cs) : g < w.heap.size := by
  rcases Nat.lt_or_ge g w.heap.size with hlt | hge
  · exact hlt
  · unfold Whole at h; rw [Array.getElem?_eq_none hge] at h; cases h
theorem Whole.cell (h : Whole w g t cs) (i : Nat) : w.cell? ⟨g, i, none⟩ = cs[i]? := cell_of_row w g i cs t (0, 0) h
theorem Whole.frozen (h : Whole w g t cs) (i : Nat) : w.frozen? ⟨g, i, none⟩ = false := by
  unfold Whole at h
  simp [World.frozen?, h]
theorem Whole.new (w : World) (t : TypeId) (cs : Array Value) : Whole (w.alloc (.cells cs t)) w.heap.size t cs := heap_alloc_new w _
theorem Whole.drewN (h : Whole w g t cs) (n : Nat) : Whole (w.drewN n) g t cs := h
theorem Whole.alloc (h : Whole w g t cs) (o : Obj) : Whole (w.alloc o) g t cs := (Below.heap_alloc w o g h.lt).trans h
theorem Whole.set_ (h : Whole w g t cs) (i : Nat) (u : Value) : Whole (w.setCell ⟨g, i, none⟩ u) g t (cs.setIfInBounds i u) := by
  unfold Whole at h ⊢
  simp [World.setCell, Array.getElem?_modify, h]
end
/-! ### the wear as a row -/
def wv (l : List Blk) : Array Value := (l.map fun b => Value.int .i64 b.wear).toArray
theorem wv_get {l : List Blk} {i : Nat} {b : Blk} (h : l[i]? = some b) : (wv l)[i]? = some (.int .i64 b.wear) := by simp [wv, h]
theorem wv_fresh : wv fresh = #[.int .i64 0, .int .i64 0, .int .i64 0, .int .i64 0, .int .i64 0, .int .i64 0, .int .i64 0, .int .i64 0] := by kernel_rfl
theorem wv_set (l : List Blk) (i : Nat) (b : Blk) : wv (l.set i b) = (wv l).setIfInBounds i (.int .i64 b.wear) := by simp [wv, List.map_set]
theorem wv_keep {l : List Blk} {i : Nat} {b c : Blk} (h : l[i]? = some b) (hc : c.wear = b.wear) : wv (l.set i c) = wv l := by
  obtain ⟨hlt, rfl⟩ := List.getElem?_eq_some_iff.1 h
  unfold wv
  rw [List.map_set, hc, show Value.int .i64 l[i].wear = (l.map fun b => Value.int .i64 b.wear)[i]'(by simpa using hlt) by simp, List.set_getElem_self]
theorem wear_put (b : Blk) (x : Int) (p : Nat) : (b.put p x).wear = b.wear := by unfold Blk.put; split <;> rfl
/-- One operation, as the law counts it. -/
theorem count_err {s : St} {o : Nop} (h : ¬ errOf s.l o = 0) : wv (s.step o).l = wv s.l ∧ (s.step o).read.length = s.read.length := by rw [step_no h]; exact ⟨rfl, rfl⟩
theorem count_other {s : St} {o : Nop} (h : errOf s.l o = 0) (hk : o.kind = 1) : wv (s.step o).l = wv s.l ∧ (s.step o).read.length = s.read.length := by
  rw [step_yes h (by omega)]
  refine ⟨?_, rfl⟩
  obtain ⟨_, _, _, i, b, _, hib, hb, _⟩ := err_zero h
  unfold nextOf
  rw [if_pos h, (upd_of hib hb).1]
  refine wv_keep hb ?_
  unfold doB
  rw [if_pos hk]
  exact wear_put _ _ _
theorem count_read {s : St} {o : Nop} (h : errOf s.l o = 0) (hk : o.kind = 3) : wv (s.step o).l = wv s.l ∧ (s.step o).read.length = s.read.length + 1 := by
  rw [step_read h hk]
  refine ⟨?_, by simp⟩
  obtain ⟨_, _, _, i, b, _, hib, hb, _⟩ := err_zero h
  unfold nextOf
  rw [if_pos h, (upd_of hib hb).1]
  refine wv_keep hb ?_
  unfold doB
  rw [if_neg (by omega), if_neg (by omega)]
theorem count_erase {s : St} {o : Nop} {i : Nat} {b : Blk} (h : errOf s.l o = 0) (hk : o.kind = 2) (hi : o.block = (i : Int)) (hb : s.l[i]? = some b) : wv (s.step o).l = (wv s.l).setIfInBounds i (.int .i64 (b.wear + 1)) ∧ (s.step o).read.length = s.read.length := by
  rw [step_yes h (by omega)]
  refine ⟨?_, rfl⟩
  unfold nextOf
  rw [if_pos h, (upd_of hi hb).1, wv_set]
  unfold doB
  rw [if_neg (by omega), if_pos hk]
  rfl
theorem step_errs (s : St) (o : Nop) : (s.step o).errs = s.errs ++ [errOf s.l o] := by
  by_cases h : errOf s.l o = 0
  · by_cases hk : o.kind = 3
    · rw [step_read h hk, h]
    · rw [step_yes h hk, h]
  · rw [step_no h]
theorem errs_at {ops : List Nop} {k j : Nat} {o : Nop} (ho : ops[k]? = some o) (hkj : k < j) (hj : j ≤ ops.length) : (runTo ops j).errs[k]? = some (errOf (runTo ops k).l o) := by
  induction j with
  | zero => omega
  | succ j ih =>
    obtain ⟨q, hq⟩ : ∃ q, ops[j]? = some q := ⟨_, List.getElem?_eq_getElem (by omega)⟩
    rw [runTo_succ hq, step_errs]
    have hlen := (runTo_errs ops j (by omega)).1
    by_cases hlt : k < j
    · rw [List.getElem?_append_left (by omega)]
      exact ih hlt (by omega)
    · obtain rfl : k = j := by omega
      rw [ho] at hq
      injection hq with hq
      subst hq
      rw [List.getElem?_append_right (by omega), hlen]
      simp
theorem errs_run {ops : List Nop} {k : Nat} {o : Nop} (ho : ops[k]? = some o) : (run ops).errs[k]? = some (errOf (runTo ops k).l o) := by
  rw [← runTo_all]
  exact errs_at ho (List.getElem?_eq_some_iff.1 ho).1 (Nat.le_refl _)
/-- What both loops keep. -/
structure Cnt (w x wr : World) (h : Nat) (l : List Blk) : Prop where
  bel : Below x.heap.size x wr
  row : Whole wr h 45 (wv l)
end Go.Proofs.Ytellfblfalpdiaa.Nand
