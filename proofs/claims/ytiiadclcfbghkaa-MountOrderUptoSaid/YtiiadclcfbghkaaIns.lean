/-
  slices.Insert of one page ahead of a row of the call's own.
-/
import Derived.Test.YtiiadclcfbghkaaCells
import Derived.Test.YtiiadclcfbghkaaCopies
import Derived.Lib.AppendZerosOnto
import Derived.Lib.Overlaps
import Derived.Laws.Externs
namespace Go.Proofs.Ytiiadclcfbghkaa.Mnt
open Go.ChangeShapes Go.WideShapes Go.ChangeAt Go.RowKit Words
set_option linter.unusedVariables false

theorem size36 : (Try.prog.info? 36).map (·.size) = some 4 := by kernel_rfl
theorem sizeOf36 (w : World) : (Go.sizeOf 36).run Try.prog w = .ok 4 w := by kernel_rfl
/-- The block of an owned row. -/
theorem own_block {w : World} {base g n c : Nat} {l : List Pg} (h : OwnPg w base (some ⟨g, 0, none⟩) n c l) : ∃ cur : List Value, w.heap[g]? = some (.cells cur.toArray 36 (0, 0)) ∧ cur.length = c * 4 ∧ cur.take (n * 4) = lcells l ∧ n ≤ c ∧ c ≤ maxLen ∧ base ≤ g := by
  rcases h.2 with ⟨h', _⟩ | ⟨g', cap', cur, h', hb, hg, hnc, hcm, hcs, htake⟩
  · simp at h'
  · injection h' with h1 h2 h3
    subst h3
    injection h1 with h1
    injection h1 with h1
    subst h1
    exact ⟨cur.toList, by simpa using hg, by simpa using hcs, htake, hnc, hcm, hb⟩
theorem own_make {w : World} {base g n c : Nat} {l : List Pg} {cur : List Value} (hg : w.heap[g]? = some (.cells cur.toArray 36 (0, 0))) (hl : cur.length = c * 4) (ht : cur.take (n * 4) = lcells l) (hn : l.length = n) (hnc : n ≤ c) (hcm : c ≤ maxLen) (hb : base ≤ g) :
    OwnPg w base (some ⟨g, 0, none⟩) n c l :=
  ⟨by rw [lcells_length, hn], .inr ⟨g, c, cur.toArray, rfl, hb, hg, hnc, hcm, by simpa using hl, by simpa using ht⟩⟩
/-- Into the room that there is: the elements one place on, then the new one. -/
theorem put_room {cur : List Value} {l : List Pg} {p : Pg} {n c : Nat} (hl : cur.length = c * 4) (hn : l.length = n) (hc : n + 1 ≤ c) :
    (splice (splice cur 4 (lcells l)) 0 (pcells p)).length = c * 4 ∧ (splice (splice cur 4 (lcells l)) 0 (pcells p)).take ((n + 1) * 4) = lcells (p :: l) := by
  have e1 : (lcells l).length = n * 4 := by rw [lcells_length, hn]
  have l1 : (splice cur 4 (lcells l)).length = c * 4 := by rw [length_splice _ _ _ (by omega)]; exact hl
  refine ⟨by rw [length_splice _ _ _ (by rw [pcells_length]; omega)]; exact l1, ?_⟩
  unfold splice
  rw [List.take_zero, List.nil_append, pcells_length, Nat.zero_add]
  have e4 : (cur.take 4).length = 4 := by rw [List.length_take]; omega
  rw [List.drop_left' e4, ← List.append_assoc]
  exact List.take_left' (by rw [List.length_append, e1, pcells_length]; omega)
/-- Into a row of zeros: the new one, then the elements. -/
theorem put_grow {cur : List Value} {l : List Pg} {p : Pg} {n c : Nat} (hl : cur.length = c * 4) (hn : l.length = n) (hc : n + 1 ≤ c) :
    (splice (splice cur 0 (pcells p)) 4 (lcells l)).length = c * 4 ∧ (splice (splice cur 0 (pcells p)) 4 (lcells l)).take ((n + 1) * 4) = lcells (p :: l) := by
  have e1 : (lcells l).length = n * 4 := by rw [lcells_length, hn]
  have l1 : (splice cur 0 (pcells p)).length = c * 4 := by rw [length_splice _ _ _ (by rw [pcells_length]; omega)]; exact hl
  refine ⟨by rw [length_splice _ _ _ (by omega)]; exact l1, ?_⟩
  have h1 := splice_grow (cur := cur) (A := []) (B := pcells p) (k := 0) rfl (Nat.zero_le _)
  rw [pcells_length, Nat.zero_add, List.nil_append] at h1
  have h2 := splice_grow (cur := splice cur 0 (pcells p)) (B := lcells l) (k := 4) h1 (by omega)
  rw [e1] at h2
  rw [show (n + 1) * 4 = 4 + n * 4 by omega]
  exact h2
theorem zeros_length (k : Nat) : (Builtin.zeroCells (Value.agg #[.int .i64 0, .int .i64 0, .int .i64 0, .bool false]).cells k).size = k * 4 := by
  simp [Builtin.zeroCells, Value.cells]
/-! ### copy, the world told -/
section
variable {P : Program} {w : World} {ops : Array Oper} {rest : List Oper} {o : Oper} {a : Act} {K : Act → World → Prop} {Q : Exit → Act → World → Prop} {E : Prop}
theorem copy_row (d s : Operand) (dT sT ty elem : TypeId) (hu : P.underlying dT = some (.slice elem)) (sz : Nat) (hsz : (P.info? elem).map (·.size) = some sz)
    (dLen dCap sLen sCap : Nat) (ad : Addr) (g off : Nat) (cur : List Value) (t : TypeId) (hg : w.heap[g]? = some (.cells cur.toArray t (0, 0))) (cs : List Value) (q : Nat) (hq : Nat.min sLen dLen = q) (hn : cs.length = q * sz)
    (hsrc : ∀ j v, cs[j]? = some v → w.cell? (ad.add j) = some v) (hfit : off + cs.length ≤ cur.length) (h1 : ∀ v ∈ cs, v.oneCell' = true) :
    (Builtin.copy_ #[dT, sT] ty #[.slice (some ⟨g, off, none⟩) dLen dCap, .slice (some ad) sLen sCap]).run P w = .ok (goInt q) (w.setRow g (splice cur off cs).toArray) := by
  subst hq
  have hrun := run_copy_many (P := P) w dT sT ty elem g off dLen dCap ad sLen sCap cur.toArray t cs sz hu hsz hg hn hsrc (by simpa using hfit) h1
  rw [hrun]
  simp [splice]
theorem wpList_copy_at (hgd : o.guard = none) (d s : Operand) (dT sT : TypeId) (ho : o.op = .call { callee := .builtin .copy, args := #[d, s], argTypes := #[dT, sT] }) (u v : Value) (hd : a.eval d = u) (hs : a.eval s = v)
    {v' : Value} {w' : World} (hr : (Builtin.copy_ #[dT, sT] o.type #[u, v]).run P w = .ok v' w') (h : wpList P ops Q rest (a.put o.dst v') w') : wpList P ops Q (o :: rest) a w := by
  refine wpList_plain hgd fun K hK => ?_
  unfold Oper.wp
  simp [execOp, ho, resolve, invoke, builtin, hd, hs, hr, Result.andThen]
  exact hK _ _ h
theorem step_copy_at (hgd : o.guard = none) (d s : Operand) (dT sT : TypeId) (ho : o.op = .call { callee := .builtin .copy, args := #[d, s], argTypes := #[dT, sT] }) (u v : Value) (hd : a.eval d = u) (hs : a.eval s = v)
    {v' : Value} {w' : World} (hr : (Builtin.copy_ #[dT, sT] o.type #[u, v]).run P w = .ok v' w') (h : K (a.put o.dst v') w') : if Region.wanted o (yielded ops a.tmps) = true then Oper.wp P o a w K Q else E := by
  have hw : Region.wanted o (yielded ops a.tmps) = true := by simp [Region.wanted, hgd]
  rw [if_pos hw]
  unfold Oper.wp
  simp [execOp, ho, resolve, invoke, builtin, hd, hs, hr, Result.andThen]
  exact h
end
theorem heap_row (w : World) {g : Nat} {t : TypeId} {cur : List Value} (hg : w.heap[g]? = some (.cells cur.toArray t (0, 0))) (cs : List Value) : (w.setRow g cs.toArray).heap[g]? = some (.cells cs.toArray t (0, 0)) := setRow_heap w g _ _ t _ hg
theorem whole_row {w : World} {g k : Nat} {t : TypeId} {cs : Array Value} (h : Whole w k t cs) (xs : Array Value) (hne : k ≠ g) : Whole (w.setRow g xs) k t cs := by
  unfold Whole at *
  simp only [World.setRow, Array.getElem?_modify]
  rw [if_neg (Ne.symm hne)]
  exact h
end Go.Proofs.Ytiiadclcfbghkaa.Mnt
