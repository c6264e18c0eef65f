/-
  Words for functions that return a list, a block and an error code.
-/
import Derived.Test.YtkkmfeclondlpaaPush
import Derived.Laws.ResultCell
namespace Go.Proofs.Ytkkmfeclondlpaa.Heap
open Go.ChangeShapes Go.WideShapes Go.ChangeAt Go.RowKit Words Go.Sort
set_option linter.unusedVariables false

theorem results_mid {fn : Func} {t p u : Tmp} {ty : TypeId} (h : fn.results = #[.tmp t, .cell p ty, .tmp u]) (tmps : Array Value) (P : Program) (w : World) :
    (results fn tmps).run P w =
      ((asAddr (tmps.getD p undef)).run P w).andThen fun a w₁ => ((loadVar ty a).run P w₁).andThen fun v w₂ => .ok (.tuple #[tmps.getD t undef, v, tmps.getD u undef]) w₂ := by
  simp only [results, h]
  simp [Sem.run_bind, Result.andThen]
theorem results_wn {fn : Func} {t p u : Tmp} (h : fn.results = #[.tmp t, .cell p 24, .tmp u]) {tmps : Array Value} {w : World} {b : Nat} {x : Wn} (hp : tmps.getD p undef = .pointer (some ⟨b, 0, none⟩))
    (c0 : w.cell? ⟨b, 0, none⟩ = some (.int .i64 x.id)) (c1 : w.cell? ⟨b, 1, none⟩ = some (.int .i64 x.wear)) :
    (results fn tmps).run Try.prog w = .ok (.tuple #[tmps.getD t undef, wval x, tmps.getD u undef]) w := by
  rw [results_mid h, hp]
  simp [go_sem, loadVar, c0, c1, wval]
/-- The error code of Pop, what is left, and what was taken. -/
def terr (l : List Wn) : Int := if right l = false then 1 else if l.length = 0 then 3 else 0
def tlist (l : List Wn) : List Wn := if terr l = 0 then popped l else []
def tval (l : List Wn) : Wn := if terr l = 0 then nth l 0 else ⟨0, 0⟩
theorem terr_form {l : List Wn} (h : right l = false) : terr l = 1 := by unfold terr; rw [if_pos h]
theorem terr_none {l : List Wn} (h : right l = true) (hn : l.length = 0) : terr l = 3 := by unfold terr; rw [if_neg (by rw [h]; simp), if_pos hn]
theorem terr_ok {l : List Wn} (h : right l = true) (hn : ¬ l.length = 0) : terr l = 0 := by unfold terr; rw [if_neg (by rw [h]; simp), if_neg hn]
theorem terr_zero {l : List Wn} (h : terr l = 0) : right l = true ∧ 0 < l.length := by
  unfold terr at h
  cases hr : right l with
  | false => rw [hr, if_pos rfl] at h; omega
  | true =>
    rw [hr, if_neg (by simp)] at h
    refine ⟨rfl, ?_⟩
    by_cases h2 : l.length = 0
    · rw [if_pos h2] at h; omega
    · omega
theorem tlist_ok {l : List Wn} (h : terr l = 0) : tlist l = popped l := by unfold tlist; rw [if_pos h]
theorem tval_ok {l : List Wn} (h : terr l = 0) : tval l = nth l 0 := by unfold tval; rw [if_pos h]
theorem tlist_no {l : List Wn} (h : terr l ≠ 0) : tlist l = [] := by unfold tlist; rw [if_neg h]
theorem tval_no {l : List Wn} (h : terr l ≠ 0) : tval l = ⟨0, 0⟩ := by unfold tval; rw [if_neg h]
/-- A list of the call's own, a block and an error code; nothing that was there has changed. -/
def MadeP (w : World) (l : List Wn) (x : Wn) (k : Int) (e : Ending) (w' : World) : Prop :=
  ∃ A c m, e = .returned (.tuple #[.slice A m c, wval x, .int .i64 k]) ∧ OwnHp w' w.heap.size A m c l ∧ Below w.heap.size w w'
theorem madeP_nil {w w' : World} {l : List Wn} {k : Int} (hk : terr l = k) (h0 : k ≠ 0) (hb : Below w.heap.size w w') : MadeP w (tlist l) (tval l) (terr l) (.returned (.tuple #[.slice none 0 0, wval ⟨0, 0⟩, .int .i64 k])) w' := by
  subst hk
  rw [tlist_no h0, tval_no h0]
  exact ⟨none, 0, 0, rfl, w'.ownsRow_nil _ _ _, hb⟩
/-- The box of the result, before anything is put into it. -/
theorem zero_box {w x1 : World} (hb : Below (w.alloc (.cells #[.int .i64 0, .int .i64 0] 24)).heap.size (w.alloc (.cells #[.int .i64 0, .int .i64 0] 24)) x1) :
    x1.cell? ⟨w.heap.size, 0, none⟩ = some (.int .i64 0) ∧ x1.cell? ⟨w.heap.size, 1, none⟩ = some (.int .i64 0) ∧ x1.frozen? ⟨w.heap.size, 0, none⟩ = false ∧ x1.frozen? ⟨w.heap.size, 1, none⟩ = false := by
  have hw : Whole x1 w.heap.size 24 #[.int .i64 0, .int .i64 0] := by
    unfold Whole
    rw [hb.block _ (by simp)]
    exact heap_alloc_new w _
  exact ⟨hw.cell 0, hw.cell 1, hw.frozen 0, hw.frozen 1⟩
/-- .. and it stays a whole block, for as long as nothing is put into it. -/
theorem zero_whole {w x1 : World} (hb : Below (w.alloc (.cells #[.int .i64 0, .int .i64 0] 24)).heap.size (w.alloc (.cells #[.int .i64 0, .int .i64 0] 24)) x1) : Whole x1 w.heap.size 24 #[.int .i64 0, .int .i64 0] := by
  unfold Whole
  rw [hb.block _ (by simp)]
  exact heap_alloc_new w _
theorem whole_below {D : Nat} {a b : World} {g : Nat} {t : TypeId} {cs : Array Value} (h : Whole a g t cs) (hb : Below D a b) (hg : g < D) : Whole b g t cs := by
  unfold Whole at *
  rw [hb.block _ hg]
  exact h
theorem whole_grown {a b : World} {b0 g : Nat} {t : TypeId} {cs : Array Value} (h : Whole a b0 t cs) (hg : a.grownBy b (some g)) (hne : b0 ≠ g) : Whole b b0 t cs := by
  unfold Whole at *
  rw [hg.block b0 (Array.getElem?_eq_some_iff.1 h).1 (by simpa using hne)]
  exact h
/-- A row of the call's own, behind a store elsewhere. -/
theorem own_set {w : World} {base b j : Nat} {A : Option Addr} {n c : Nat} {l : List Wn} (h : OwnHp w base A n c l) (hb : b < base) (u : Value) : OwnHp (w.setCell ⟨b, j, none⟩ u) base A n c l := by
  refine ⟨h.1, ?_⟩
  rcases h.2 with hn | ⟨g, cap, cur, hv, h1, hgg, rest⟩
  · exact .inl hn
  · exact .inr ⟨g, cap, cur, hv, h1, (heap_setCell_other w ⟨b, j, none⟩ g u (by show g ≠ b; omega)).trans hgg, rest⟩
/-- The result's box filled. -/
def fillW (w : World) (b : Nat) (x : Wn) : World := (w.setCell ⟨b, 0, none⟩ (.int .i64 x.id)).setCell ⟨b, 1, none⟩ (.int .i64 x.wear)
theorem fill_cells {w : World} {b : Nat} {x : Wn} {t : TypeId} (h : Whole w b t #[.int .i64 0, .int .i64 0]) : (fillW w b x).cell? ⟨b, 0, none⟩ = some (.int .i64 x.id) ∧ (fillW w b x).cell? ⟨b, 1, none⟩ = some (.int .i64 x.wear) := by
  have h2 := (h.set_ 0 (.int .i64 x.id)).set_ 1 (.int .i64 x.wear)
  exact ⟨h2.cell 0, h2.cell 1⟩
theorem fill_next {w : World} {b : Nat} {x : Wn} {t : TypeId} (h : Whole w b t #[.int .i64 0, .int .i64 0]) : (w.setCell ⟨b, 0, none⟩ (.int .i64 x.id)).cell? ⟨b, 1, none⟩ = some (.int .i64 0) := (h.set_ 0 (.int .i64 x.id)).cell 1
theorem fill_below {B : Nat} {a w : World} {b : Nat} (x : Wn) (h : Below B a w) (hb : B ≤ b) : Below B a (fillW w b x) := (h.setCell hb _).setCell hb _
theorem fill_own {w : World} {base b : Nat} {A : Option Addr} {n c : Nat} {l : List Wn} (h : OwnHp w base A n c l) (hb : b < base) (x : Wn) : OwnHp (fillW w b x) base A n c l := own_set (own_set h hb _) hb _
theorem madeP_ok {w w' : World} {l l' : List Wn} {x x' : Wn} {k : Int} {A : Option Addr} {m c base : Nat} (hl : l' = l) (hx : x' = x) (hk : k = 0) (ho : OwnHp w' base A m c l) (hbase : w.heap.size ≤ base) (hb : Below w.heap.size w w') :
    MadeP w l' x' k (.returned (.tuple #[.slice A m c, wval x, .int .i64 0])) w' := by
  subst hl hx hk
  exact ⟨A, c, m, rfl, own_base ho hbase, hb⟩
theorem hcells_take (l : List Wn) (m : Nat) : (hcells l).take (m * 2) = hcells (l.take m) := flat_take wcells_length l m
theorem Hp.head {w : World} {B : Nat} {A : Option Addr} {n c m : Nat} {l : List Wn} (h : Hp w B A n c l) (hm : m ≤ n) : Hp w B A m c (l.take m) := by
  have := Words.Rd.head h hm
  rwa [hcells_take] at this
end Go.Proofs.Ytkkmfeclondlpaa.Heap
