/-
  append in a region that draws, guarded; a list's head and tail.
-/
import Derived.Test.YtiagbacmjiimpaaEFacts2
import Derived.Deep.RegionLaw
namespace Go.Proofs.Ytiagbacmjiimpaa.Dir
open Go.ChangeShapes Go.WideShapes Go.ChangeAt Go.RowKit Words Go.Sort
set_option linter.unusedVariables false

theorem step_append_rdG {P : Program} (w : World) {ops : Array Oper} {o : Oper} {a : Act} {K : Act → World → Prop} {Q : Exit → Act → World → Prop} {E : Prop}
    (hw : Region.wanted o (yielded ops a.tmps) = true) (s x : Operand) (t : TypeId) (hop : o.op = Op.call { callee := Callee.builtin Builtin.append, args := #[s, x], argTypes := #[t, t] })
    (base : Nat) (e : TypeId) (i : TypeInfo) (z : Value) (size bytes : Nat) (ht : P.underlying t = some (.slice e)) (hi : P.info? e = some i) (hz : i.zero = some z)
    (hsize : i.size = size) (hby : i.bytes = bytes) (hzs : z.cells.size = size) (hsz : 0 < size)
    (v : Value) (n : Nat) (xs : List Value) (hs : a.eval s = v) (hown : w.ownsRow base e size v n xs)
    (B : Nat) (A : Option Addr) (m c : Nat) (news : List Value) (hx : a.eval x = .slice A m c) (hr : Words.Rd w B size A m c news) (h1 : ∀ u ∈ news, u.oneCell' = true)
    (h63 : n + m ≤ maxLen) (hbytes : (n + m) * bytes ≤ 140737488355328) (hbase : base ≤ w.heap.size)
    (hK : ∀ A' c' w', w'.ownsRow base e size (.slice A' (n + m) c') (n + m) (xs ++ news) → w.grownBy w' v.ownBlock → K (a.put o.dst (.slice A' (n + m) c')) w') :
    if Region.wanted o (yielded ops a.tmps) = true then Oper.wp P o a w K Q else E := by
  rw [if_pos hw]
  obtain ⟨v', w', hrun, h2, h3⟩ := run_append_rd (P := P) w base t o.type e i z size bytes ht hi hz hsize hby hzs hsz v n xs hown B A m c news hr h1 h63 hbytes hbase
  obtain ⟨A', c', rfl⟩ := own_form h2
  unfold Oper.wp
  simp [execOp, hop, resolve, invoke, builtin, hs, hx, hrun, Result.andThen]
  exact hK A' c' w' h2 h3
theorem lce_take (l : List En) (k : Nat) : (lcells l).take (k * 2) = lcells (l.take k) := flat_take ecells_length l k
theorem lce_drop (l : List En) : ∀ k : Nat, (lcells l).drop (k * 2) = lcells (l.drop k) := by
  induction l with
  | nil => intro k; simp [lcells]
  | cons x l ih =>
    intro k
    cases k with
    | zero => simp
    | succ k =>
      show (ecells x ++ lcells l).drop ((k + 1) * 2) = lcells (l.drop k)
      rw [← ih k, List.drop_append, ecells_length, List.drop_eq_nil_of_le (by rw [ecells_length]; omega), List.nil_append]
      congr 1
      omega
theorem Ens.head {w : World} {B n c k : Nat} {A : Option Addr} {l : List En} (h : Ens w B A n c l) (hk : k ≤ n) : Ens w B A k c (l.take k) := by
  have := Words.Rd.head h hk
  rw [lce_take] at this
  exact this
/-- The piece from k on. -/
theorem Ens.tail {w : World} {B g o n c k : Nat} {l : List En} (h : Ens w B (some ⟨g, o, none⟩) n c l) (hk : k ≤ n) (hkc : k < c) : Ens w B (some ⟨g, o + k * 2, none⟩) (n - k) (c - k) (l.drop k) := by
  have hl := h.len
  refine ⟨by rw [lcells_length, List.length_drop, hl], by have := Words.Rd.le h; omega, by have := Words.Rd.max h; omega, (fun e => by cases e), fun hn => ?_⟩
  obtain ⟨g', o', e, hg, hc⟩ := Words.Rd.row h (by omega)
  injection e with e
  injection e with e1 e2
  subst e1 e2
  refine ⟨g, o + k * 2, rfl, hg, fun j u hu => ?_⟩
  rw [← lce_drop, List.getElem?_drop] at hu
  have := hc (k * 2 + j) u hu
  rw [Nat.add_assoc]
  exact this
theorem Ens.none_tail {w : World} {B c : Nat} {A : Option Addr} (hm : c ≤ maxLen) (ha : A = none → c = 0) : Ens w B A 0 c [] := ⟨rfl, Nat.zero_le _, hm, ha, fun h => absurd h (by omega)⟩
end Go.Proofs.Ytiagbacmjiimpaa.Dir
