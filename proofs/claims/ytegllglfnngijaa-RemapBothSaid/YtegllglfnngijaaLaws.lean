/-
  Words for the laws: an array loaded whole out of its box.
-/
import Derived.Test.YtegllglfnngijaaAlive
import Derived.Test.YtegllglfnngijaaFrame
import Derived.Test.YtegllglfnngijaaEqs
namespace Go.Proofs.Ytegllglfnngijaa.Rem
open Go.ChangeShapes Go.WideShapes Go.ChangeAt Go.RowKit Words

theorem load16 {y : World} {b : Nat} {l : List Int} (h : WI y b 25 l) (hl : l.length = 16) : (Instr.loadAt 25 (.pointer (some ⟨b, 0, none⟩))).run Try.prog y = .ok (.agg (icells l).toArray) y :=
  run_loadAt_mid y b 0 25 (icells l) _ h.range Try.underlying25 rfl (size25_len hl)
theorem wpList_load_guard {P : Program} {ops : Array Oper} {rest : List Oper} {o : Oper} {a : Act} {w : World} {Q : Exit → Act → World → Prop} (hw : Region.wanted o (yielded ops a.tmps) = true) (ty : TypeId) (x : Operand) (ho : o.op = .load ty x)
    (b of : Nat) (hx : a.eval x = .pointer (some ⟨b, of, none⟩)) (cs : List Value) (d : TypeDesc) (hc : w.rangeAt b of cs)
    (hu : P.underlying ty = some d) (hd : d.isRow = true) (hi : (P.info? ty).map (·.size) = some cs.length)
    (h : wpList P ops Q rest (a.put o.dst (.agg cs.toArray)) w) : wpList P ops Q (o :: rest) a w := by
  unfold wpList
  rw [if_pos hw]
  exact .inl (wp_load_mid ty x ho b of hx cs d hc hu hd hi h)
/-- What is kept from call to call. -/
theorem box_new {x y : World} (o : Obj) (h : Below (x.alloc o).heap.size (x.alloc o) y) : Below x.heap.size x y := ((Below.refl _ _).alloc (Nat.le_refl _) o).trans (h.mono (by rw [World.size_alloc]; omega))
theorem box_wi {x y : World} {l : List Int} (h : Below (x.alloc (.cells (icells l).toArray 25)).heap.size (x.alloc (.cells (icells l).toArray 25)) y) : WI y x.heap.size 25 l := (WI.new x 25 l).below h
theorem next_below {w x y : World} {B : Nat} (h : Below B w x) (hb : Below x.heap.size x y) (hB : B ≤ x.heap.size) : Below B w y := h.trans (hb.mono hB)
theorem wi_next {x y : World} {b : Nat} {l : List Int} (h : WI x b 25 l) (hb : Below x.heap.size x y) : WI y b 25 l := h.below hb
theorem ints_next {x y : World} {A : Option Addr} {n c : Nat} {l : List Int} (h : Ints x x.heap.size A n c l) (hb : Below x.heap.size x y) : Ints y y.heap.size A n c l := Words.Rd.more (Words.Rd.below h hb (Nat.le_refl _)) hb.size
end Go.Proofs.Ytegllglfnngijaa.Rem
