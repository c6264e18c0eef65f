/-
  What the second form's bound gives; a list of writes of the call's own.
-/
import Derived.Test.YtegllglfnngijaaRows
import Derived.Test.YtegllglfnngijaaKeep
namespace Go.Proofs.Ytegllglfnngijaa.Rem
open Go.ChangeShapes Go.WideShapes Go.ChangeAt Go.RowKit Words
set_option linter.unusedVariables false

theorem one_bulk {H : Type} (d : DataW H) : 1 ≤ Rows.uptoBulk d := by
  cases d with
  | lit l => cases l <;> simp [Rows.uptoBulk]
  | _ => simp [Rows.uptoBulk]
theorem bulk_mem {H : Type} {d : DataW H} : ∀ {l : List (DataW H)}, d ∈ l → Rows.uptoBulk d ≤ Rows.uptoBulkAll l
  | x :: r, h => by
    simp only [Rows.uptoBulkAll]
    rcases List.mem_cons.1 h with rfl | h
    · omega
    · have := bulk_mem h; omega
theorem bulk_length {H : Type} : ∀ l : List (DataW H), l.length ≤ Rows.uptoBulkAll l
  | [] => by simp [Rows.uptoBulkAll]
  | x :: r => by have h1 := one_bulk x; have h2 := bulk_length r; simp only [Rows.uptoBulkAll, List.length_cons]; omega
theorem bulk_cap {H : Type} {l : List (DataW H)} (hk : Rows.uptoSmall H l = true) {d : DataW H} (hd : d ∈ l) {cap : Nat} (hc : Datum d cap) : cap ≤ 1048576 := by
  have h : Rows.uptoBulkAll l ≤ 1048576 := of_decide_eq_true hk
  have h1 := bulk_mem hd
  rcases hc with ⟨_, rfl⟩ | ⟨el, sp, rfl, rfl⟩
  · omega
  · have h2 := bulk_length el
    have h3 := bulk_length sp
    simp only [Rows.uptoBulk] at h1
    omega
theorem info37 : (Try.prog.info? 37).map (fun i => (i.zero, i.size, i.bytes)) = some (some (.agg #[.int .i64 0, .int .i64 0]), 2, 16) := by kernel_rfl
theorem wops_next {l : List Int} {k : Nat} {x : Int} (h : l[k]? = some x) : wops (l.take (k + 1)) = wops (l.take k) ++ [⟨1, x⟩] := by
  obtain ⟨hk, rfl⟩ := List.getElem?_eq_some_iff.1 h
  rw [List.take_add_one, List.getElem?_eq_getElem hk, wops_append]; rfl
theorem lasts_take {l : List Int} {m : Nat} : ∀ k, k ≤ m → lasts (l.take m) k = lasts l k
  | 0, _ => rfl
  | k + 1, h => by
    have e : (l.take m).getD k 0 = l.getD k 0 := by
      simp only [List.getD_eq_getElem?_getD, List.getElem?_take]
      rw [if_pos (by omega)]
    rw [lasts, lasts, e, lasts_take k (by omega)]
theorem allN_take {l : List Int} (h : allN l = true) (m : Nat) : allN (l.take m) = true := by
  rw [allN_iff] at *
  exact fun x hx => h x (List.mem_of_mem_take hx)
/-- What is recovered is what was mapped. -/
theorem again_same {P : Nat} {l : List Int} (h : allN l = true) {m : Nat} (hm : m = min l.length P) : aAt (l.take m) = ats (runW P [] (wops l)) ∧ aErr (l.take m) = 0 := by
  obtain ⟨e1, e2⟩ := a_ok (allN_take h m)
  refine ⟨?_, e2⟩
  have := (again_at (P := P) h (Nat.le_refl l.length)).1
  rw [W_all (by rw [wops_length]; exact Nat.le_refl _)] at this
  rw [this, ← hm, e1, List.length_take, show min m l.length = m by omega, lasts_take m (Nat.le_refl _)]
theorem ints_head {w : World} {B : Nat} {A : Option Addr} {n c : Nat} {l : List Int} (h : Ints w B A n c l) {m : Nat} (hm : m ≤ n) : Ints w B A m c (l.take m) := by
  have := Words.Rd.head h hm
  rw [Nat.mul_one] at this
  unfold Ints
  have e : icells (l.take m) = (icells l).take m := by unfold icells; rw [List.map_take]
  rw [e]
  exact this
/-- The writes told so far. -/
structure WInv (w wr : World) (A : Option Addr) (k c : Nat) (l : List Int) : Prop where
  bel : Below w.heap.size w wr
  row : wr.ownsRow w.heap.size 37 2 (.slice A k c) k (lcells (wops (l.take k)))
theorem WInv.alloc {w wr : World} {A : Option Addr} {k c : Nat} {l : List Int} (h : WInv w wr A k c l) (o : Obj) : WInv w (wr.alloc o) A k c l :=
  ⟨h.bel.alloc h.bel.size o, Go.World.ownsRow.alloc h.row o⟩
theorem WInv.next {w wr x : World} {A A' : Option Addr} {k c c' : Nat} {l : List Int} {y : Int} (h : WInv w wr A k c l) (hy : l[k]? = some y)
    (ho : x.ownsRow w.heap.size 37 2 (.slice A' (k + 1) c') (k + 1) (lcells (wops (l.take k)) ++ lcells [⟨1, y⟩])) (hg : wr.grownBy x (Value.slice A k c).ownBlock) : WInv w x A' (k + 1) c' l :=
  ⟨below_grown h.bel h.row hg h.bel.size (Nat.le_refl _), by rw [wops_next hy, lcells_append]; exact ho⟩
theorem WInv.ops {w wr : World} {A : Option Addr} {k c : Nat} {l : List Int} (h : WInv w wr A k c l) : Ops wr wr.heap.size A k c (wops (l.take k)) := Words.Rd.of_own h.row
theorem one_op (w : World) (o : Mop) : Words.Rd (w.alloc (.cells #[.int .i64 o.kind, .int .i64 o.n] 37)) (w.heap.size + 1) 2 (some ⟨w.heap.size, 0, none⟩) 1 1 (lcells [o]) :=
  Words.Rd.new w 37 _ (0, 0) _ 1 rfl rfl (by unfold maxLen; omega)
end Go.Proofs.Ytegllglfnngijaa.Rem
