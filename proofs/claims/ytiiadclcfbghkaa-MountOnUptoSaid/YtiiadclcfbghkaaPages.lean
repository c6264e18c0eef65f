/-
  Pages in memory: rows of them that are read, rows of the call's own, one in a box; a map of them by their numbers.
-/
import Derived.Test.YtiiadclcfbghkaaProg
import Derived.Test.YtiiadclcfbghkaaRows1
import Derived.Test.YtiiadclcfbghkaaMPlain
import Derived.Deep.QuietTactic
import Derived.BigQuiet
import Derived.RegionTactic
import Derived.ChangeAlike
import Derived.Deep.RegionWith
import Derived.Deep.CutBlock
import Derived.Laws.CopyOwn
import Derived.Deep.DeepCutAuto
import Derived.StillTailTactics
import Derived.Maps.OwnSet
namespace Go.Proofs.Ytiiadclcfbghkaa.Mnt
open Go.ChangeShapes Go.WideShapes Go.ChangeAt Go.RowKit Words
set_option linter.unusedVariables false

def pcells (x : Pg) : List Value := [.int .i64 x.q, .int .i64 x.n, .int .i64 x.d, .bool x.w]
def pval (x : Pg) : Value := .agg #[.int .i64 x.q, .int .i64 x.n, .int .i64 x.d, .bool x.w]
theorem pcells_length (x : Pg) : (pcells x).length = 4 := rfl
def lcells (l : List Pg) : List Value := l.flatMap pcells
theorem lcells_length (l : List Pg) : (lcells l).length = l.length * 4 := flat_length pcells_length l
theorem lcells_append (a b : List Pg) : lcells (a ++ b) = lcells a ++ lcells b := List.flatMap_append
theorem pcells_one (x : Pg) : ∀ u ∈ pcells x, u.oneCell' = true := by
  intro u hu
  simp [pcells] at hu
  rcases hu with rfl | rfl | rfl | rfl <;> rfl
theorem lcells_one (l : List Pg) : ∀ u ∈ lcells l, u.oneCell' = true := by
  intro u hu
  obtain ⟨b, _, hb⟩ := List.mem_flatMap.1 hu
  exact pcells_one b u hb
/-- The []api.Page value reads as the list. -/
def Pgs (w : World) (B : Nat) (A : Option Addr) (n c : Nat) (l : List Pg) : Prop := Words.Rd w B 4 A n c (lcells l)
/-- Each number fits an int. -/
def WfL (l : List Pg) : Prop := ∀ p ∈ l, (Lit.int .i64 p.q).wf = true
theorem wf_of {q : Int} (h0 : -9223372036854775808 ≤ q) (h1 : q ≤ 9223372036854775807) : (Lit.int .i64 q).wf = true := WalkArith.wf_i64 (by omega)
section
variable {w : World} {B : Nat} {A : Option Addr} {n c : Nat} {l : List Pg}
theorem Pgs.len (h : Pgs w B A n c l) : l.length = n := by
  have := Words.Rd.len h
  rw [lcells_length] at this
  omega
structure PAt (w : World) (g o : Nat) (b : Pg) : Prop where
  c0 : w.cell? ⟨g, o, none⟩ = some (.int .i64 b.q)
  c1 : w.cell? ⟨g, o + 1, none⟩ = some (.int .i64 b.n)
  c2 : w.cell? ⟨g, o + 2, none⟩ = some (.int .i64 b.d)
  c3 : w.cell? ⟨g, o + 3, none⟩ = some (.bool b.w)
theorem Pgs.cells (h : Pgs w B A n c l) {g o : Nat} (e : A = some ⟨g, o, none⟩) {i : Nat} {b : Pg} (hb : l[i]? = some b) : PAt w g (o + i * 4) b := by
  have hi := (List.getElem?_eq_some_iff.1 hb).1
  have hl := Pgs.len h
  have hc : ∀ j, j < 4 → ∀ u, (pcells b)[j]? = some u → w.cell? ⟨g, o + i * 4 + j, none⟩ = some u := fun j hj u hu => by
    have := Words.Rd.cellAt h e (by omega) (i * 4 + j) u (by rw [lcells, flat_get pcells_length hb hj, hu])
    rwa [← Nat.add_assoc] at this
  exact ⟨hc 0 (by omega) _ rfl, hc 1 (by omega) _ rfl, hc 2 (by omega) _ rfl, hc 3 (by omega) _ rfl⟩
end
theorem info36 : (Try.prog.info? 36).map (fun i => (i.zero, i.size, i.bytes)) = some (some (.agg #[.int .i64 0, .int .i64 0, .int .i64 0, .bool false]), 4, 32) := by kernel_rfl
/-- A list of the call's own. -/
def OwnPg (w : World) (base : Nat) (A : Option Addr) (n c : Nat) (l : List Pg) : Prop := w.ownsRow base 36 4 (.slice A n c) n (lcells l)
section
variable {w w' : World} {base g : Nat} {A : Option Addr} {n c : Nat} {l : List Pg}
theorem OwnPg.pgs (h : OwnPg w base A n c l) : Pgs w w.heap.size A n c l := Words.Rd.of_own h
theorem OwnPg.len (h : OwnPg w base A n c l) : l.length = n := h.pgs.len
theorem OwnPg.below {D : Nat} (h : OwnPg w base A n c l) (hb : Below D w w') (hD : w.heap.size ≤ D) : OwnPg w' base A n c l := own_below h hb hD
theorem OwnPg.more (h : OwnPg w base A n c l) {base' : Nat} (hb : base' ≤ base) : OwnPg w base' A n c l := own_base h hb
end
/-- A list of the call's own; nothing that was there has changed. -/
def MadePg (w : World) (l : List Pg) (e : Ending) (w' : World) : Prop :=
  ∃ A c, e = .returned (.slice A l.length c) ∧ OwnPg w' w.heap.size A l.length c l ∧ Below w.heap.size w w'
/-- A block that holds one page. -/
def Box (w : World) (g : Nat) (p : Pg) : Prop := Whole w g 36 (pcells p).toArray
theorem box_new (w : World) (p : Pg) : Box (w.alloc (.cells (pcells p).toArray 36)) w.heap.size p := Whole.new w 36 _
theorem Box.at_ {w : World} {g : Nat} {p : Pg} (h : Box w g p) : PAt w g 0 p := by
  refine ⟨?_, ?_, ?_, ?_⟩ <;> rw [Whole.cell h] <;> rfl

/-! ### a map of pages by their numbers -/
def pdat (p : Pg) : DataW Unit := .agg [.lit (.int .i64 p.q), .lit (.int .i64 p.n), .lit (.int .i64 p.d), .lit (.bool p.w)]
theorem pdat_inj {a b : Pg} (h : pdat a = pdat b) : a = b := by
  cases a; cases b
  simp [pdat] at h
  obtain ⟨rfl, rfl, rfl, rfl⟩ := h
  rfl
def cellsPg : List Value → Option Pg
  | [.int .i64 a, .int .i64 b, .int .i64 c, .bool d] => some ⟨a, b, c, d⟩
  | _ => none
def pgElem : Value → Option (DataW Unit × List MemPlace)
  | .agg cs => (cellsPg cs.toList).map fun p => (pdat p, [])
  | _ => none
theorem pgElem_mk (p : Pg) : pgElem (pval p) = some (pdat p, []) := rfl
theorem cellsPg_inv {cs : List Value} {p : Pg} (h : cellsPg cs = some p) : cs = pcells p := by
  unfold cellsPg at h
  split at h
  · cases h; rfl
  · cases h
theorem pgElem_inv {v : Value} {p : Pg} {ps : List MemPlace} (h : pgElem v = some (pdat p, ps)) : v = pval p := by
  unfold pgElem at h
  split at h
  · rename_i cs
    obtain ⟨x, hx, he⟩ := Option.map_eq_some_iff.1 h
    injection he with h1 _
    have := pdat_inj h1
    subst this
    obtain ⟨l⟩ := cs
    have := cellsPg_inv hx
    simp only at this
    subst this
    rfl
  · cases h
theorem key3 : Maps.Keyed Try.prog 3 := Maps.int_keyed Try.underlying3
theorem zero36 (w : World) : (zeroValue 36).run Try.prog w = .ok (pval zeroP) w := by kernel_rfl
/-- Block b is a map of at most n pages: at each number the page that f tells. -/
def MapP (w : World) (b n : Nat) (f : Int → Option Pg) : Prop :=
  ∃ D : DataW Unit, w.ownsMap Try.prog 3 pgElem b n D ∧ ∀ q : Int, Maps.has D (.int .i64 q) = (f q).isSome ∧ D.atKey (.int .i64 q) (pdat zeroP) = pdat ((f q).getD zeroP)
section
variable {w w' : World} {b n : Nat} {f : Int → Option Pg}
theorem MapP.new (w : World) : MapP (w.alloc (.map #[] 0)) w.heap.size 0 (fi []) :=
  ⟨_, World.ownsMap_made w Try.prog 3 pgElem, fun q => ⟨rfl, rfl⟩⟩
theorem MapP.lt (h : MapP w b n f) : b < w.heap.size := by obtain ⟨D, h, _⟩ := h; exact h.lt
theorem MapP.mono (h : MapP w b n f) {n' : Nat} (hn : n ≤ n') : MapP w b n' f := by obtain ⟨D, h, h2⟩ := h; exact ⟨D, h.mono hn, h2⟩
theorem MapP.kept {row : Option Nat} (h : MapP w b n f) (hg : w.grownBy w' row) (hne : some b ≠ row) : MapP w' b n f := by obtain ⟨D, h, h2⟩ := h; exact ⟨D, h.kept hg hne, h2⟩
theorem MapP.alloc (h : MapP w b n f) (o : Obj) : MapP (w.alloc o) b n f := by obtain ⟨D, h, h2⟩ := h; exact ⟨D, h.alloc o, h2⟩
theorem MapP.below {D : Nat} (h : MapP w b n f) (hb : Below D w w') (hD : b < D) : MapP w' b n f := by
  obtain ⟨D', ⟨es, clock, h0, F, hs, hD'⟩, h2⟩ := h
  exact ⟨D', ⟨es, clock, (hb.block b hD).trans h0, F, hs, hD'⟩, h2⟩
theorem MapP.as {f' : Int → Option Pg} (h : MapP w b n f) (e : f' = f) : MapP w b n f' := by subst e; exact h
end
section
variable (w : World) {ops : Array Oper} {rest : List Oper} {o : Oper} {a : Act} {Q : Exit → Act → World → Prop}
theorem wpList_look (hg : o.guard = none) (m x : Operand) (hop : o.op = Op.lookup 44 m x true) (b n : Nat) (f : Int → Option Pg) (hm : a.eval m = .map (some b)) (hown : MapP w b n f)
    (q : Int) (hw : (Lit.int .i64 q).wf = true) (hx : a.eval x = .int .i64 q)
    (r : Pg) (hr : (f q).getD zeroP = r) (t : Bool) (ht : (f q).isSome = t)
    (hK : wpList Try.prog ops Q rest (a.put o.dst (.tuple #[.agg #[.int .i64 r.q, .int .i64 r.n, .int .i64 r.d, .bool r.w], .bool t])) w) : wpList Try.prog ops Q (o :: rest) a w := by
  obtain ⟨D, h, h2⟩ := hown
  refine wpList_lookup_own_ok w hg m x 44 hop 3 36 key3 Try.underlying44 pgElem (zero36 w) (pdat zeroP) [] (pgElem_mk _) b n D hm h _ (.int .i64 q) hx (Maps.keyOf_int_mk Try.underlying3 hw) fun v ps hv => ?_
  rw [(h2 q).2, hr] at hv
  rw [pgElem_inv hv, (h2 q).1, ht]
  exact hK
theorem wpList_keep (hg : o.guard = none) (m x v : Operand) (hop : o.op = Op.mapUpdate 44 m x v) (b n : Nat) (f : Int → Option Pg) (hm : a.eval m = .map (some b)) (hown : MapP w b n f)
    (q : Int) (hw : (Lit.int .i64 q).wf = true) (hx : a.eval x = .int .i64 q) (p : Pg) (hv : a.eval v = pval p) (hn : n < maxLen)
    (hK : ∀ w', MapP w' b (n + 1) (fun y => if y = q then some p else f y) → w.grownBy w' (some b) → wpList Try.prog ops Q rest (a.put o.dst undef) w') : wpList Try.prog ops Q (o :: rest) a w := by
  obtain ⟨D, h, h2⟩ := hown
  refine wpList_mapUpdate_own w hg m x v 44 hop 3 36 key3 Try.underlying44 pgElem b n D hm h hn _ _ (.int .i64 q) hx hv (Maps.keyOf_int_mk Try.underlying3 hw) (pdat p) [] (pgElem_mk p) fun w' h' hg' => ?_
  refine hK w' ⟨_, h', fun y => ?_⟩ hg'
  show _ = (if y = q then some p else f y).isSome ∧ _ = pdat ((if y = q then some p else f y).getD zeroP)
  by_cases hy : y = q
  · subst hy
    rw [if_pos rfl, Maps.has_put_same h.isMap (show WideAt.IsKeyLit (.int .i64 y) from trivial), Maps.atKey_put_same h.isMap (show WideAt.IsKeyLit (.int .i64 y) from trivial)]
    exact ⟨rfl, rfl⟩
  · have hne : (Lit.int .i64 y) ≠ .int .i64 q := fun e => hy (by injection e)
    rw [if_neg hy, Maps.has_put_other hne, Maps.atKey_put_other hne]
    exact h2 y
end
end Go.Proofs.Ytiiadclcfbghkaa.Mnt
