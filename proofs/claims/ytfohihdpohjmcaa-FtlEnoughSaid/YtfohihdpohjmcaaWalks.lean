/-
  Operations and answers in memory; the map of the document's own store.
-/
import Derived.Test.YtfohihdpohjmcaaProg
import Derived.Test.YtfohihdpohjmcaaPlain
import Derived.Deep.QuietTactic
import Derived.BigQuiet
import Derived.RegionTactic
import Derived.ChangeAlike
import Derived.Deep.RegionWith
import Derived.Deep.CutBlock
import Derived.Deep.DeepCutAuto
import Derived.Maps.OwnSet
namespace Go.Proofs.Ytfohihdpohjmcaa.Ftl
open Go.ChangeShapes Go.WideShapes Go.ChangeAt Go.RowKit Words
set_option linter.unusedVariables false

theorem info3 : (Try.prog.info? 3).map (fun i => (i.zero, i.size, i.bytes)) = some (some (.int .i64 0), 1, 8) := by kernel_rfl
theorem info32 : (Try.prog.info? 32).map (fun i => (i.zero, i.size, i.bytes)) = some (some (.agg #[.int .i64 0, .int .i64 0]), 2, 16) := by kernel_rfl
theorem info37 : (Try.prog.info? 37).map (fun i => (i.zero, i.size, i.bytes)) = some (some (.agg #[.int .i64 0, .int .i64 0, .int .i64 0]), 3, 24) := by kernel_rfl
/-! ### operations in a list -/
def ocells (o : Fop) : List Value := [.int .i64 o.kind, .int .i64 o.n, .int .i64 o.data]
theorem ocells_length (o : Fop) : (ocells o).length = 3 := rfl
def pcells (l : List Fop) : List Value := l.flatMap ocells
theorem pcells_length (l : List Fop) : (pcells l).length = l.length * 3 := flat_length ocells_length l
theorem pcells_append (a b : List Fop) : pcells (a ++ b) = pcells a ++ pcells b := List.flatMap_append
theorem pcells_one (l : List Fop) : ∀ u ∈ pcells l, u.oneCell' = true := by
  intro u hu
  obtain ⟨o, _, ho⟩ := List.mem_flatMap.1 hu
  simp [ocells] at ho
  rcases ho with rfl | rfl | rfl <;> rfl
def oval (o : Fop) : Value := .agg #[.int .i64 o.kind, .int .i64 o.n, .int .i64 o.data]
/-- The []FtlOp value reads as the operations. -/
def Ops (w : World) (B : Nat) (A : Option Addr) (n c : Nat) (l : List Fop) : Prop := Words.Rd w B 3 A n c (pcells l)
theorem Ops.len {w : World} {B : Nat} {A : Option Addr} {n c : Nat} {l : List Fop} (h : Ops w B A n c l) : l.length = n := by
  have := Words.Rd.len h
  rw [pcells_length] at this
  omega
theorem Ops.cells {w : World} {B : Nat} {A : Option Addr} {n c : Nat} {l : List Fop} (h : Ops w B A n c l) {b o : Nat} (e : A = some ⟨b, o, none⟩) {k : Nat} {x : Fop} (hx : l[k]? = some x) :
    w.cell? ⟨b, o + k * 3, none⟩ = some (.int .i64 x.kind) ∧ w.cell? ⟨b, o + k * 3 + 1, none⟩ = some (.int .i64 x.n) ∧ w.cell? ⟨b, o + k * 3 + 2, none⟩ = some (.int .i64 x.data) := by
  have hk := (List.getElem?_eq_some_iff.1 hx).1
  have hl := h.len
  have hc : ∀ j, j < 3 → ∀ u, (ocells x)[j]? = some u → w.cell? ⟨b, o + k * 3 + j, none⟩ = some u := fun j hj u hu => by
    have := Words.Rd.cellAt h e (by omega) (k * 3 + j) u (by rw [pcells, flat_get ocells_length hx hj, hu])
    rwa [← Nat.add_assoc] at this
  exact ⟨hc 0 (by omega) _ rfl, hc 1 (by omega) _ rfl, hc 2 (by omega) _ rfl⟩
/-! ### answers in a list -/
def fcells (a : Fan) : List Value := [.int .i64 a.err, .int .i64 a.data]
theorem fcells_length (a : Fan) : (fcells a).length = 2 := rfl
def acells (l : List Fan) : List Value := l.flatMap fcells
theorem acells_length (l : List Fan) : (acells l).length = l.length * 2 := flat_length fcells_length l
theorem acells_append (a b : List Fan) : acells (a ++ b) = acells a ++ acells b := List.flatMap_append
theorem acells_one (l : List Fan) : ∀ u ∈ acells l, u.oneCell' = true := by
  intro u hu
  obtain ⟨o, _, ho⟩ := List.mem_flatMap.1 hu
  simp [fcells] at ho
  rcases ho with rfl | rfl <;> rfl
/-- The []FtlAns value reads as the answers. -/
def Fans (w : World) (B : Nat) (A : Option Addr) (n c : Nat) (l : List Fan) : Prop := Words.Rd w B 2 A n c (acells l)
theorem Fans.len {w : World} {B : Nat} {A : Option Addr} {n c : Nat} {l : List Fan} (h : Fans w B A n c l) : l.length = n := by
  have := Words.Rd.len h
  rw [acells_length] at this
  omega
theorem Fans.cells {w : World} {B : Nat} {A : Option Addr} {n c : Nat} {l : List Fan} (h : Fans w B A n c l) {b o : Nat} (e : A = some ⟨b, o, none⟩) {k : Nat} {x : Fan} (hx : l[k]? = some x) :
    w.cell? ⟨b, o + k * 2, none⟩ = some (.int .i64 x.err) ∧ w.cell? ⟨b, o + k * 2 + 1, none⟩ = some (.int .i64 x.data) := by
  have hk := (List.getElem?_eq_some_iff.1 hx).1
  have hl := h.len
  have hc : ∀ j, j < 2 → ∀ u, (fcells x)[j]? = some u → w.cell? ⟨b, o + k * 2 + j, none⟩ = some u := fun j hj u hu => by
    have := Words.Rd.cellAt h e (by omega) (k * 2 + j) u (by rw [acells, flat_get fcells_length hx hj, hu])
    rwa [← Nat.add_assoc] at this
  exact ⟨hc 0 (by omega) _ rfl, hc 1 (by omega) _ rfl⟩
theorem one_fan (w : World) (a : Fan) : Words.Rd (w.alloc (.cells #[.int .i64 a.err, .int .i64 a.data] 32)) (w.heap.size + 1) 2 (some ⟨w.heap.size, 0, none⟩) 1 1 (acells [a]) :=
  Words.Rd.new w 32 _ (0, 0) _ 1 rfl rfl (by unfold maxLen; omega)
def Wf (o : Fop) : Prop := (Lit.int .i64 o.kind).wf = true ∧ (Lit.int .i64 o.n).wf = true ∧ (Lit.int .i64 o.data).wf = true
/-! ### the map -/
theorem law3 : Go.Maps.Keyed Try.prog 3 := Go.Maps.int_keyed Try.underlying3
theorem zero3 (w : World) : (zeroValue 3).run Try.prog w = .ok (.int .i64 0) w := by kernel_rfl
abbrev Dm := DataW Unit
def key (x : Int) : Lit := .int .i64 x
def num (x : Int) : Dm := .lit (.int .i64 x)
theorem key_ne {x y : Int} (h : x ≠ y) : key x ≠ key y := fun e => by injection e with _ e; exact h e
theorem num_inj {x y : Int} (h : num x = num y) : x = y := by injection h with h; injection h
/-- The map says what the store holds. -/
structure Tie (D : Dm) (s : Sto) : Prop where
  map : Go.Maps.IsMap D
  has : ∀ x, Go.Maps.has D (key x) = (s x).isSome
  val : ∀ x, D.atKey (key x) (num 0) = num ((s x).getD 0)
theorem tie0 : Tie (.map []) sto0 := ⟨Go.Maps.isMap_empty, fun x => rfl, fun x => rfl⟩
theorem isKey (x : Int) : Go.WideAt.IsKeyLit (key x) := by trivial
theorem Tie.put {D : Dm} {s : Sto} (h : Tie D s) (n v : Int) : Tie (D.put (key n) (num v)) (upd s n (some v)) := by
  refine ⟨h.map.put _ _, fun x => ?_, fun x => ?_⟩
  · by_cases e : x = n
    · subst e; rw [Go.Maps.has_put_same h.map (isKey x), upd_same]; rfl
    · rw [Go.Maps.has_put_other (key_ne e), upd_other _ _ e]; exact h.has x
  · by_cases e : x = n
    · subst e; rw [Go.Maps.atKey_put_same h.map (isKey x), upd_same]; rfl
    · rw [Go.Maps.atKey_put_other (key_ne e), upd_other _ _ e]; exact h.val x
theorem Tie.del {D : Dm} {s : Sto} (h : Tie D s) (n : Int) : Tie (D.del (key n)) (upd s n none) := by
  refine ⟨h.map.del _, fun x => ?_, fun x => ?_⟩
  · by_cases e : x = n
    · subst e; rw [Go.Maps.has_del_same, upd_same]; rfl
    · rw [Go.Maps.has_del_other (key_ne e), upd_other _ _ e]; exact h.has x
  · by_cases e : x = n
    · subst e; rw [Go.Maps.atKey_del_same, upd_same]; rfl
    · rw [Go.Maps.atKey_del_other (key_ne e), upd_other _ _ e]; exact h.val x
def Own (w : World) (b n : Nat) (D : Dm) : Prop := w.ownsMap Try.prog 3 (plainElem (H := Unit) Try.prog 3) b n D
/-- What the walk keeps: the map, the answers so far. -/
structure IS (w wr : World) (A2 : Option Addr) (k c2 : Nat) (an : List Fan) (D : Dm) (s : Sto) : Prop where
  bel : Below w.heap.size w wr
  row : wr.ownsRow (w.heap.size + 1) 32 2 (.slice A2 k c2) k (acells an)
  map : Own wr w.heap.size k D
  tie : Tie D s
theorem row_ne {w : World} {b : Nat} {e : TypeId} {sz : Nat} {v : Value} {n : Nat} {xs : List Value} (h : w.ownsRow (b + 1) e sz v n xs) : v.ownBlock = none ∨ v.ownBlock ≠ some b := by
  cases hv : v.ownBlock with
  | none => exact .inl rfl
  | some g =>
    refine .inr fun e2 => ?_
    injection e2 with e2
    have := (h.lt g hv).1
    omega
theorem grown_cell' {a b : World} {row : Option Nat} (hg : a.grownBy b row) {p : Addr} (hp : p.block < a.heap.size) (hne : some p.block ≠ row) : b.cell? p = a.cell? p :=
  World.cell?_of_block (hg.block p.block hp hne)
section
variable {w wr x : World} {A2 : Option Addr} {k c2 : Nat} {an : List Fan} {D : Dm} {s : Sto}
theorem IS.size (h : IS w wr A2 k c2 an D s) : w.heap.size + 1 ≤ wr.heap.size := World.ownsMap.lt h.map
theorem IS.alloc (h : IS w wr A2 k c2 an D s) (o : Obj) : IS w (wr.alloc o) A2 k c2 an D s :=
  ⟨h.bel.alloc h.bel.size o, Go.World.ownsRow.alloc h.row o, World.ownsMap.alloc h.map o, h.tie⟩
theorem IS.len (h : IS w wr A2 k c2 an D s) : an.length = k := by have := h.row.1; rw [acells_length] at this; omega
/-- The map turned: a number stored. -/
theorem IS.put {n v : Int} (h : IS w wr A2 k c2 an D s) (ho : Own x w.heap.size (k + 1) (D.put (key n) (num v))) (ht : wr.mapTurned x w.heap.size) :
    Below w.heap.size w x ∧ x.ownsRow (w.heap.size + 1) 32 2 (.slice A2 k c2) k (acells an) ∧ Own x w.heap.size (k + 1) (D.put (key n) (num v)) ∧ Tie (D.put (key n) (num v)) (upd s n (some v)) :=
  ⟨h.bel.grown ht.grown h.bel.size (fun k hk => by injection hk with hk; omega), Go.World.ownsRow.kept h.row ht.grown (row_ne h.row), ho, h.tie.put n v⟩
theorem IS.del {n : Int} (h : IS w wr A2 k c2 an D s) (ho : Own x w.heap.size k (D.del (key n))) (ht : wr.mapTurned x w.heap.size) :
    Below w.heap.size w x ∧ x.ownsRow (w.heap.size + 1) 32 2 (.slice A2 k c2) k (acells an) ∧ Own x w.heap.size (k + 1) (D.del (key n)) ∧ Tie (D.del (key n)) (upd s n none) :=
  ⟨h.bel.grown ht.grown h.bel.size (fun k hk => by injection hk with hk; omega), Go.World.ownsRow.kept h.row ht.grown (row_ne h.row), World.ownsMap.mono ho (Nat.le_succ _), h.tie.del n⟩
/-- The round's world, ready for the answer. -/
structure IR (w wr : World) (A2 : Option Addr) (k c2 : Nat) (an : List Fan) (D : Dm) (s : Sto) : Prop where
  bel : Below w.heap.size w wr
  row : wr.ownsRow (w.heap.size + 1) 32 2 (.slice A2 k c2) k (acells an)
  map : Own wr w.heap.size (k + 1) D
  tie : Tie D s
theorem IR.alloc (h : IR w wr A2 k c2 an D s) (o : Obj) : IR w (wr.alloc o) A2 k c2 an D s :=
  ⟨h.bel.alloc h.bel.size o, Go.World.ownsRow.alloc h.row o, World.ownsMap.alloc h.map o, h.tie⟩
theorem IS.ready (h : IS w wr A2 k c2 an D s) : IR w wr A2 k c2 an D s := ⟨h.bel, h.row, World.ownsMap.mono h.map (Nat.le_succ _), h.tie⟩
theorem IR.size (h : IR w wr A2 k c2 an D s) : w.heap.size + 1 ≤ wr.heap.size := World.ownsMap.lt h.map
/-- The answer told. -/
theorem IR.next {A3 c3} (h : IR w wr A2 k c2 an D s) {a : Fan} {an' : List Fan} (ho : x.ownsRow (w.heap.size + 1) 32 2 (.slice A3 (k + 1) c3) (k + 1) (acells an ++ acells [a])) (hg : wr.grownBy x (Value.slice A2 k c2).ownBlock) (e : an' = an ++ [a]) :
    IS w x A3 (k + 1) c3 an' D s := by
  subst e
  refine ⟨below_grown h.bel h.row hg h.bel.size (by omega), by rw [acells_append]; exact ho, World.ownsMap.kept h.map hg (fun e => ?_), h.tie⟩
  have := (h.row.lt _ e.symm).1
  omega
end
end Go.Proofs.Ytfohihdpohjmcaa.Ftl
