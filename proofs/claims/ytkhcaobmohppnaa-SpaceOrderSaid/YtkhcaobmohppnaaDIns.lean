/-
  A row of the call's own as a block of cells; many cells copied into it; one gap put in between: the plain mathematics.
-/
import Derived.Test.YtkhcaobmohppnaaDCells
import Derived.Test.YtkhcaobmohppnaaCopies
import Derived.Lib.AppendZerosOnto
import Derived.Lib.Overlaps
import Derived.Laws.Externs
namespace Go.Proofs.Ytkhcaobmohppnaa.Spc
open Go.ChangeShapes Go.WideShapes Go.ChangeAt Go.RowKit Words
set_option linter.unusedVariables false

theorem size36 : (Try.prog.info? 36).map (·.size) = some 2 := by kernel_rfl
theorem sizeOf36 (w : World) : (Go.sizeOf 36).run Try.prog w = .ok 2 w := by kernel_rfl
/-- The block of an owned row. -/
theorem own_block {w : World} {base g n c : Nat} {l : List Gp} (h : OwnGp w base (some ⟨g, 0, none⟩) n c l) : ∃ cur : List Value, w.heap[g]? = some (.cells cur.toArray 36 (0, 0)) ∧ cur.length = c * 2 ∧ cur.take (n * 2) = lcells l ∧ n ≤ c ∧ c ≤ maxLen ∧ base ≤ g := by
  rcases h.2 with ⟨h', _⟩ | ⟨g', cap', cur, h', hb, hg, hnc, hcm, hcs, htake⟩
  · simp at h'
  · injection h' with h1 h2 h3
    subst h3
    injection h1 with h1
    injection h1 with h1
    subst h1
    exact ⟨cur.toList, by simpa using hg, by simpa using hcs, htake, hnc, hcm, hb⟩
theorem own_make {w : World} {base g n c : Nat} {l : List Gp} {cur : List Value} (hg : w.heap[g]? = some (.cells cur.toArray 36 (0, 0))) (hl : cur.length = c * 2) (ht : cur.take (n * 2) = lcells l) (hn : l.length = n) (hnc : n ≤ c) (hcm : c ≤ maxLen) (hb : base ≤ g) :
    OwnGp w base (some ⟨g, 0, none⟩) n c l :=
  ⟨by rw [lcells_length, hn], .inr ⟨g, c, cur.toArray, rfl, hb, hg, hnc, hcm, by simpa using hl, by simpa using ht⟩⟩
theorem zeros_length (k : Nat) : (Builtin.zeroCells (Value.agg #[.int .i64 0, .int .i64 0]).cells k).size = k * 2 := by
  simp [Builtin.zeroCells, Value.cells]
/-! ### copy, the world told -/
section
variable {P : Program} {w : World} {ops : Array Oper} {rest : List Oper} {o : Oper} {a : Act} {K : Act → World → Prop} {Q : Exit → Act → World → Prop} {E : Prop}
theorem copy_row (d s : Operand) (dT sT ty elem : TypeId) (hu : P.underlying dT = some (.slice elem)) (sz : Nat) (hsz : (P.info? elem).map (·.size) = some sz)
    (dLen dCap sLen sCap : Nat) (ad : Addr) (g off : Nat) (cur : List Value) (t : TypeId) (hg : w.heap[g]? = some (.cells cur.toArray t (0, 0))) (cs : List Value) (q : Nat) (hq : Nat.min sLen dLen = q) (hn : cs.length = q * sz)
    (hsrc : ∀ j v, cs[j]? = some v → w.cell? (ad.add j) = some v) (hfit : off + cs.length ≤ cur.length) (h1 : ∀ v ∈ cs, v.oneCell' = true) :
    (Builtin.copy_ #[dT, sT] ty #[.slice (some ⟨g, off, none⟩) dLen dCap, .slice (some ad) sLen sCap]).run P w = .ok (goInt q) (w.setRow g (splice cur off cs).toArray) := by
  subst hq
  have hrun := run_copy_many (P := P) w dT sT ty elem g off dLen dCap ad sLen sCap cur.toArray t cs sz hu hsz hg hn hsrc (by simpa using hfit) h1
  rw [hrun]
  simp [splice]
theorem wpList_copy_at (hgd : o.guard = none) (d s : Operand) (dT sT : TypeId) (ho : o.op = .call { callee := .builtin .copy, args := #[d, s], argTypes := #[dT, sT] }) (u v : Value) (hd : a.eval d = u) (hs : a.eval s = v)
    {v' : Value} {w' : World} (hr : (Builtin.copy_ #[dT, sT] o.type #[u, v]).run P w = .ok v' w') (h : wpList P ops Q rest (a.put o.dst v') w') : wpList P ops Q (o :: rest) a w := by
  refine wpList_plain hgd fun K hK => ?_
  unfold Oper.wp
  simp [execOp, ho, resolve, invoke, builtin, hd, hs, hr, Result.andThen]
  exact hK _ _ h
theorem step_copy_at (hgd : o.guard = none) (d s : Operand) (dT sT : TypeId) (ho : o.op = .call { callee := .builtin .copy, args := #[d, s], argTypes := #[dT, sT] }) (u v : Value) (hd : a.eval d = u) (hs : a.eval s = v)
    {v' : Value} {w' : World} (hr : (Builtin.copy_ #[dT, sT] o.type #[u, v]).run P w = .ok v' w') (h : K (a.put o.dst v') w') : if Region.wanted o (yielded ops a.tmps) = true then Oper.wp P o a w K Q else E := by
  have hw : Region.wanted o (yielded ops a.tmps) = true := by simp [Region.wanted, hgd]
  rw [if_pos hw]
  unfold Oper.wp
  simp [execOp, ho, resolve, invoke, builtin, hd, hs, hr, Result.andThen]
  exact h
end
theorem heap_row (w : World) {g : Nat} {t : TypeId} {cur : List Value} (hg : w.heap[g]? = some (.cells cur.toArray t (0, 0))) (cs : List Value) : (w.setRow g cs.toArray).heap[g]? = some (.cells cs.toArray t (0, 0)) := setRow_heap w g _ _ t _ hg
theorem whole_row {w : World} {g k : Nat} {t : TypeId} {cs : Array Value} (h : Whole w k t cs) (xs : Array Value) (hne : k ≠ g) : Whole (w.setRow g xs) k t cs := by
  unfold Whole at *
  simp only [World.setRow, Array.getElem?_modify]
  rw [if_neg (Ne.symm hne)]
  exact h
theorem length_splice' {α : Type} {cur cs : List α} {off : Nat} (h : off + cs.length ≤ cur.length) : (splice cur off cs).length = cur.length := length_splice _ _ _ h
/-- What lies ahead of the piece stays, then the piece. -/
theorem take_splice {α : Type} {cur cs : List α} {off : Nat} (h : off ≤ cur.length) : (splice cur off cs).take (off + cs.length) = cur.take off ++ cs := splice_grow rfl h
theorem take_splice_lo {α : Type} {cur cs : List α} {off k : Nat} (h : k ≤ off) (h2 : off ≤ cur.length) : (splice cur off cs).take k = cur.take k := by
  unfold splice
  rw [List.take_append_of_le_length (by rw [List.length_take]; omega), List.take_take, Nat.min_eq_left h]
theorem drop_splice_hi {α : Type} {cur cs : List α} {off k : Nat} (h : off + cs.length ≤ k) (h2 : off ≤ cur.length) : (splice cur off cs).drop k = cur.drop k := by
  have e : (cur.take off).length = off := by rw [List.length_take]; omega
  unfold splice
  rw [← List.append_assoc, List.drop_append, List.drop_eq_nil_of_le (by rw [List.length_append, e]; exact h), List.nil_append, List.length_append, e, List.drop_drop]
  congr 1
  omega
theorem head_take {l : List Gp} {cur : List Value} {n i : Nat} (h : cur.take (n * 2) = lcells l) (hi : i ≤ n) : cur.take (i * 2) = lcells (l.take i) := by
  rw [← lc_take, ← h, List.take_take, Nat.min_eq_left (by omega)]
/-- Into the room that there is: the elements from i on one place on, then the new one. -/
theorem put_room {cur : List Value} {l : List Gp} {p : Gp} {n c i : Nat} (hl : cur.length = c * 2) (hn : l.length = n) (hc : n + 1 ≤ c) (hi : i ≤ n) (ht : cur.take (n * 2) = lcells l) :
    (splice (splice cur ((i + 1) * 2) (lcells (l.drop i))) (i * 2) (gcells p)).length = c * 2 ∧ (splice (splice cur ((i + 1) * 2) (lcells (l.drop i))) (i * 2) (gcells p)).take ((n + 1) * 2) = lcells (l.take i ++ p :: l.drop i) := by
  have e1 : (lcells (l.drop i)).length = (n - i) * 2 := by rw [lcells_length, List.length_drop, hn]
  have l1 : (splice cur ((i + 1) * 2) (lcells (l.drop i))).length = c * 2 := by rw [length_splice _ _ _ (by omega)]; exact hl
  have l2 : (splice (splice cur ((i + 1) * 2) (lcells (l.drop i))) (i * 2) (gcells p)).length = c * 2 := by rw [length_splice _ _ _ (by rw [gcells_length]; omega)]; exact l1
  refine ⟨l2, ?_⟩
  have t1 : (splice cur ((i + 1) * 2) (lcells (l.drop i))).take ((n + 1) * 2) = cur.take ((i + 1) * 2) ++ lcells (l.drop i) := by
    have := take_splice (cur := cur) (cs := lcells (l.drop i)) (off := (i + 1) * 2) (by omega)
    rwa [e1, show (i + 1) * 2 + (n - i) * 2 = (n + 1) * 2 by omega] at this
  have t2 : (splice (splice cur ((i + 1) * 2) (lcells (l.drop i))) (i * 2) (gcells p)).take ((i + 1) * 2) = lcells (l.take i) ++ gcells p := by
    have := take_splice (cur := splice cur ((i + 1) * 2) (lcells (l.drop i))) (cs := gcells p) (off := i * 2) (by omega)
    rw [gcells_length, take_splice_lo (show i * 2 ≤ (i + 1) * 2 by omega) (by omega), head_take ht hi, show i * 2 + 2 = (i + 1) * 2 by omega] at this
    exact this
  have t3 : ((splice (splice cur ((i + 1) * 2) (lcells (l.drop i))) (i * 2) (gcells p)).take ((n + 1) * 2)).drop ((i + 1) * 2) = lcells (l.drop i) := by
    have e5 : ∀ (X : List Value) (a b : Nat), (X.take b).drop a = (X.drop a).take (b - a) := fun X a b => List.drop_take
    rw [e5, drop_splice_hi (by rw [gcells_length]; omega) (by omega), ← e5, t1]
    exact List.drop_left' (by rw [List.length_take]; omega)
  rw [← List.take_append_drop ((i + 1) * 2) ((splice (splice cur ((i + 1) * 2) (lcells (l.drop i))) (i * 2) (gcells p)).take ((n + 1) * 2)), List.take_take, Nat.min_eq_left (by omega), t2, t3, lcells_append, List.append_assoc]
  rfl
/-- Into a row of zeros: the new one, then the elements from i on. -/
theorem put_grow {cur : List Value} {l : List Gp} {p : Gp} {n c i : Nat} (hl : cur.length = c * 2) (hn : l.length = n) (hc : n + 1 ≤ c) (hi : i ≤ n) (ht : cur.take (i * 2) = lcells (l.take i)) :
    (splice (splice cur (i * 2) (gcells p)) ((i + 1) * 2) (lcells (l.drop i))).length = c * 2 ∧ (splice (splice cur (i * 2) (gcells p)) ((i + 1) * 2) (lcells (l.drop i))).take ((n + 1) * 2) = lcells (l.take i ++ p :: l.drop i) := by
  have e1 : (lcells (l.drop i)).length = (n - i) * 2 := by rw [lcells_length, List.length_drop, hn]
  have l1 : (splice cur (i * 2) (gcells p)).length = c * 2 := by rw [length_splice _ _ _ (by rw [gcells_length]; omega)]; exact hl
  refine ⟨by rw [length_splice _ _ _ (by omega)]; exact l1, ?_⟩
  have h1 := splice_grow (cur := cur) (A := lcells (l.take i)) (B := gcells p) (k := i * 2) ht (by omega)
  rw [gcells_length, show i * 2 + 2 = (i + 1) * 2 by omega] at h1
  have h2 := splice_grow (cur := splice cur (i * 2) (gcells p)) (B := lcells (l.drop i)) (k := (i + 1) * 2) h1 (by omega)
  rw [e1, show (i + 1) * 2 + (n - i) * 2 = (n + 1) * 2 by omega] at h2
  rw [h2, lcells_append, List.append_assoc]
  rfl
end Go.Proofs.Ytkhcaobmohppnaa.Spc
