/-
  Words for the laws: sixteen numbers by value against each other; an array loaded whole out of its box; what is kept from call to call.
-/
import Derived.Test.YtiiadclcfbghkaaLMount
import Derived.Test.YtiiadclcfbghkaaFrame
import Derived.Test.YtiiadclcfbghkaaWritten
namespace Go.Proofs.Ytiiadclcfbghkaa.Mnt
open Go.ChangeShapes Go.WideShapes Go.ChangeAt Go.RowKit Words
set_option linter.unusedVariables false

theorem info3 : (Try.prog.info? 3).map (fun i => (i.zero, i.size, i.bytes)) = some (some (.int .i64 0), 1, 8) := by kernel_rfl
set_option maxRecDepth 100000 in
theorem eq16 {l : List Int} (h : l.length = 16) (w : World) : (binOp .eql 22 (.agg (icells l).toArray) (.agg (icells l).toArray)).run Try.prog w = .ok (.bool true) w := by
  match l, h with
  | [x0, x1, x2, x3, x4, x5, x6, x7, x8, x9, xa, xb, xc, xd, xe, xf], _ =>
    obtain ⟨i3, hi3, _, hz3, _⟩ := info_parts info3
    simp only [binOp, Op.equal, Op.maxDepth, Sem.run_bind]
    show ((Op.equalIn (9999 + 1) 22 _ _).run Try.prog w).andThen _ = _
    unfold Op.equalIn
    simp only [Sem.run_bind, run_underlying Try.underlying22, Result.andThen_ok]
    simp [icells, List.range', sizeOf, typeInfo, hi3, hz3, go_sem]
set_option maxRecDepth 100000 in
theorem eq16' {l : List Int} (h : l.length = 16) (w : World) : (Op.equalIn 10000 22 (.agg (icells l).toArray) (.agg (icells l).toArray)).run Try.prog w = .ok true w := by
  match l, h with
  | [x0, x1, x2, x3, x4, x5, x6, x7, x8, x9, xa, xb, xc, xd, xe, xf], _ =>
    obtain ⟨i3, hi3, _, hz3, _⟩ := info_parts info3
    show (Op.equalIn (9999 + 1) 22 _ _).run Try.prog w = _
    unfold Op.equalIn
    simp only [Sem.run_bind, run_underlying Try.underlying22, Result.andThen_ok]
    simp [icells, List.range', sizeOf, typeInfo, hi3, hz3, go_sem]
theorem wpList_load_guard {P : Program} {ops : Array Oper} {rest : List Oper} {o : Oper} {a : Act} {w : World} {Q : Exit → Act → World → Prop} (hw : Region.wanted o (yielded ops a.tmps) = true) (ty : TypeId) (x : Operand) (ho : o.op = .load ty x)
    (b of : Nat) (hx : a.eval x = .pointer (some ⟨b, of, none⟩)) (cs : List Value) (d : TypeDesc) (hc : w.rangeAt b of cs)
    (hu : P.underlying ty = some d) (hd : d.isRow = true) (hi : (P.info? ty).map (·.size) = some cs.length)
    (h : wpList P ops Q rest (a.put o.dst (.agg cs.toArray)) w) : wpList P ops Q (o :: rest) a w := by
  unfold wpList
  rw [if_pos hw]
  exact .inl (wp_load_mid ty x ho b of hx cs d hc hu hd hi h)
/-- What is kept from call to call. -/
theorem box_wi {x y : World} {l : List Int} (h : Below (x.alloc (.cells (icells l).toArray 22)).heap.size (x.alloc (.cells (icells l).toArray 22)) y) : WI y x.heap.size 22 l := (WI.new x 22 l).below h
theorem next_below {w x y : World} {B : Nat} (h : Below B w x) (hb : Below x.heap.size x y) (hB : B ≤ x.heap.size) : Below B w y := h.trans (hb.mono hB)
theorem wi_next {x y : World} {b : Nat} {l : List Int} (h : WI x b 22 l) (hb : Below x.heap.size x y) : WI y b 22 l := h.below hb
theorem boxed (x : World) (o : Obj) : Below x.heap.size x (x.alloc o) := (Below.refl _ _).alloc (Nat.le_refl _) o
end Go.Proofs.Ytiiadclcfbghkaa.Mnt
