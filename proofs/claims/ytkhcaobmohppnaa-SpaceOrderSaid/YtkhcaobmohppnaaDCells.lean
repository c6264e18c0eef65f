/-
  Many cells stored in a row of the call's own; its head; clear of one gap; slices.Clone of gaps.
-/
import Derived.Test.YtkhcaobmohppnaaSSpec
import Derived.Deep.RegionLaw
import Derived.Laws.IdiomCopy
import Derived.Laws.OwnMore
namespace Go.Proofs.Ytkhcaobmohppnaa.Spc
open Go.ChangeShapes Go.WideShapes Go.ChangeAt Go.RowKit Words
set_option linter.unusedVariables false

def zeroG : Gp := ⟨0, 0⟩
theorem zero36 (w : World) : (zeroValue 36).run Try.prog w = .ok (gval zeroG) w := by kernel_rfl
theorem gcells_one (x : Gp) : ∀ u ∈ gcells x, u.oneCell' = true := by
  intro u hu
  simp [gcells] at hu
  rcases hu with rfl | rfl <;> rfl
theorem lc_take (l : List Gp) (k : Nat) : (lcells l).take (k * 2) = lcells (l.take k) := flat_take gcells_length l k
theorem lc_drop (l : List Gp) : ∀ k : Nat, (lcells l).drop (k * 2) = lcells (l.drop k) := by
  intro k
  induction k generalizing l with
  | zero => simp
  | succ k ih =>
    cases l with
    | nil => simp [lcells]
    | cons x l =>
      show ((gcells x) ++ lcells l).drop ((k + 1) * 2) = lcells (l.drop k)
      rw [show (k + 1) * 2 = (gcells x).length + k * 2 by rw [gcells_length]; omega, ← List.drop_drop, List.drop_left' rfl]
      exact ih l
theorem grown_drew (w : World) (r : Option Nat) : w.grownBy w.drew r := ⟨rfl, rfl, rfl, Nat.le_refl _, fun _ _ _ => rfl⟩
/-- A list made anew that holds l. -/
def MadeGp (w : World) (l : List Gp) (e : Ending) (w' : World) : Prop :=
  ∃ A c, e = .returned (.slice A l.length c) ∧ OwnGp w' w.heap.size A l.length c l ∧ Below w.heap.size w w'
/-- Stored one after another from o on; what lies outside is left out. -/
def setAll : List Value → Nat → List Value → List Value
  | xs, _, [] => xs
  | xs, o, v :: vs => setAll (xs.set o v) (o + 1) vs
theorem setAll_past : ∀ (vs xs : List Value) (o : Nat), xs.length ≤ o → setAll xs o vs = xs
  | [], _, _, _ => rfl
  | v :: vs, xs, o, h => by
    unfold setAll
    rw [List.set_eq_of_length_le h]
    exact setAll_past vs xs (o + 1) (by omega)
theorem setAll_mid : ∀ (vs mid pre post : List Value), mid.length = vs.length → setAll (pre ++ mid ++ post) pre.length vs = pre ++ vs ++ post
  | [], mid, pre, post, h => by
    have : mid = [] := List.eq_nil_of_length_eq_zero (by simpa using h)
    subst this; rfl
  | v :: vs, [], pre, post, h => by simp at h
  | v :: vs, m :: mid, pre, post, h => by
    have ih := setAll_mid vs mid (pre ++ [v]) post (by simpa using h)
    have e1 : (pre ++ m :: mid ++ post).set pre.length v = pre ++ [v] ++ mid ++ post := by
      rw [List.append_assoc, List.set_append_right _ _ (Nat.le_refl _), Nat.sub_self]
      simp
    unfold setAll
    rw [e1]
    rw [List.length_append] at ih
    rw [show pre.length + 1 = pre.length + [v].length from rfl, ih]
    simp
section
variable {w : World} {base g n c sz : Nat} {e : TypeId} {xs : List Value}
theorem own_setCells : ∀ (vs : List Value) (o : Nat) {w : World} {xs : List Value}, w.ownsRow base e sz (.slice (some ⟨g, 0, none⟩) n c) n xs →
    (w.setCells g o vs).ownsRow base e sz (.slice (some ⟨g, 0, none⟩) n c) n (setAll xs o vs) ∧ w.grownBy (w.setCells g o vs) (some g)
  | [], o, w, xs, h => ⟨h, World.grownBy.refl w _⟩
  | v :: vs, o, w, xs, h => by
    have h1 := World.ownsRow.stored h o v
    have h2 := own_setCells vs (o + 1) h1.1
    exact ⟨h2.1, h1.2.trans h2.2⟩
theorem own_head (h : w.ownsRow base e sz (.slice (some ⟨g, 0, none⟩) n c) n xs) {k : Nat} (hk : k ≤ n) : w.ownsRow base e sz (.slice (some ⟨g, 0, none⟩) k c) k (xs.take (k * sz)) := by
  refine ⟨by rw [List.length_take, h.1, Nat.min_eq_left (Nat.mul_le_mul_right _ hk)], ?_⟩
  rcases h.2 with ⟨h', _⟩ | ⟨g', cap', cur, h', hb, hg, hnc, hcm, hcs, htake⟩
  · simp at h'
  · injection h' with h1 h2 h3
    subst h3
    injection h1 with h1
    injection h1 with h1
    subst h1
    refine .inr ⟨g, c, cur, rfl, hb, hg, by omega, hcm, hcs, ?_⟩
    rw [← htake, List.take_take, Nat.min_eq_left (Nat.mul_le_mul_right _ hk)]
/-- Every cell of the row, the spare ones too, is there. -/
theorem own_there (h : w.ownsRow base e sz (.slice (some ⟨g, 0, none⟩) n c) n xs) {j : Nat} (hj : j < c * sz) : (w.cell? ⟨g, j, none⟩).isSome = true ∧ w.frozen? ⟨g, j, none⟩ = false := by
  rcases h.2 with ⟨h', _⟩ | ⟨g', cap', cur, h', hb, hg, hnc, hcm, hcs, htake⟩
  · simp at h'
  · injection h' with h1 h2 h3
    subst h3
    injection h1 with h1
    injection h1 with h1
    subst h1
    exact ⟨by rw [Whole.cell hg, Array.getElem?_eq_getElem (by omega)]; rfl, Whole.frozen hg j⟩
theorem own_cap (h : w.ownsRow base e sz (.slice (some ⟨g, 0, none⟩) n c) n xs) : n ≤ c ∧ c ≤ maxLen := by
  rcases h.2 with ⟨h', _⟩ | ⟨g', cap', cur, h', hb, hg, hnc, hcm, hcs, htake⟩
  · simp at h'
  · injection h' with h1 h2 h3
    subst h3
    exact ⟨hnc, hcm⟩
end
theorem lc_erase (l : List Gp) (i : Nat) : lcells (l.eraseIdx i) = lcells (l.take i) ++ lcells (l.drop (i + 1)) := by
  rw [List.eraseIdx_eq_take_drop_succ, lcells_append]
/-! ### clear of one gap -/
theorem run_clear1 (w : World) (ty : TypeId) (b o c : Nat) (hc : ∀ j, j < 2 → (w.cell? ⟨b, o + j, none⟩).isSome = true) (hf : ∀ j, j < 2 → w.frozen? ⟨b, o + j, none⟩ = false) :
    (Builtin.clear_ #[22] ty #[.slice (some ⟨b, o, none⟩) 1 c]).run Try.prog w = .ok (.tuple #[]) (w.setCells b o (gcells zeroG)) := by
  have hst := run_storeCells_cells (P := Try.prog) b o (gcells zeroG) 0 w (fun j hj => by have := hc j hj; simpa using this) (fun j hj => by have := hf j hj; simpa using this) (gcells_one zeroG)
  have hzc : (Builtin.zeroCells (Value.agg #[.int .i64 0, .int .i64 0]).cells 1).toList = gcells zeroG := by kernel_rfl
  have hz : ∀ w, (zeroValue 36).run Try.prog w = .ok (.agg #[.int .i64 0, .int .i64 0]) w := fun w => zero36 w
  simp only [Nat.add_zero] at hst
  simp [Builtin.clear_, run_underlying Try.underlying22, hz, hzc, hst]
theorem wpList_clear1 (w : World) {ops : Array Oper} {rest : List Oper} {o : Oper} {a : Act} {Q : Exit → Act → World → Prop} (hgd : o.guard = none) (s : Operand)
    (ho : o.op = .call { callee := .builtin .clear, args := #[s], argTypes := #[22] }) (b of n c : Nat) (hs : a.eval s = .slice (some ⟨b, of, none⟩) n c) (hn : n = 1)
    (hc : ∀ j, j < 2 → (w.cell? ⟨b, of + j, none⟩).isSome = true ∧ w.frozen? ⟨b, of + j, none⟩ = false)
    (h : wpList Try.prog ops Q rest (a.put o.dst (.tuple #[])) (w.setCells b of (gcells zeroG))) : wpList Try.prog ops Q (o :: rest) a w := by
  subst hn
  refine wpList_plain hgd fun K' hK' => ?_
  have hr := run_clear1 w o.type b of c (fun j hj => (hc j hj).1) (fun j hj => (hc j hj).2)
  unfold Oper.wp execOp
  simp only [ho, resolve, invoke, builtin, Sem.run_bind, Sem.run_pure, Result.andThen_ok, List.map_toArray, List.map_cons, List.map_nil, hs, hr]
  exact hK' _ _ h
set_option maxHeartbeats 1000000 in
theorem clone27 (B : Nat) (A : Option Addr) (n c : Nat) (l : List Gp) (w : World) (h : Gps w B A n c l) (hB : B ≤ w.heap.size) (hn : n * 16 ≤ 140737488351232) :
    Calls Try.prog 27 #[.slice A n c] w (MadeGp w l) := by
  obtain ⟨i0, hi0, hz0, hz1, hz2⟩ := info_parts info36
  have hl := h.len
  unfold MadeGp
  rw [hl]
  cases A with
  | none =>
    have hc := Words.Rd.none_ h rfl
    have hn0 : n = 0 := by have := Words.Rd.le h; omega
    subst hc hn0
    have hl0 : l = [] := List.eq_nil_of_length_eq_zero hl
    subst hl0
    clear h hl
    have hq := Lib.run_eql_slice_nil (P := Try.prog) w 22 36 none 0 0 0 0 Try.underlying22
    go_enter Try.func27, Try.ntmps27
    go_wp2_with fail
    go_ret
    exact ⟨none, 0, rfl, w.ownsRow_nil _ _ _, Below.refl _ _⟩
  | some a =>
    have H := Lib.hid h
    have hml := Words.Rd.max h
    have hle := Words.Rd.le h
    clear h hl
    have hq := Lib.run_eql_slice_nil (P := Try.prog) w 22 36 (some a) n c 0 0 Try.underlying22
    have hown1 : (w.alloc (.cells #[] 36)).ownsRow w.heap.size 36 2 (.slice (some ⟨w.heap.size, 0, none⟩) 0 0) 0 [] := w.ownsRow_lit #[] 0 (Nat.le_refl _) (by decide) rfl
    have hb1 : Below w.heap.size w (w.alloc (.cells #[] 36)) := (Below.refl _ _).alloc (Nat.le_refl _) _
    have hz1' : w.heap.size ≤ (w.alloc (.cells #[] 36)).heap.size := hb1.size
    have HR := Lib.hid (Words.Rd.alloc H.out hB (.cells #[] 36))
    go_enter Try.func27, Try.ntmps27
    go_wp2_with (first
      | (at_builtin; refine wpList_append_rd _ rfl (.tmp 5) (.tmp 6) 22 rfl w.heap.size 36 i0 _ 2 16 Try.underlying22 hi0 hz0 hz1 hz2 rfl (by decide) _ 0 [] rfl hown1 B (some a) n c (lcells l) rfl HR.out (lcells_one l) (by omega) (by omega) hz1' ?_
         intro A2 c2 w2 hown2 hg2
         have hb2 : Below w.heap.size w w2 := below_grown hb1 hown1 hg2 hz1' (Nat.le_refl _)
         simp only [Nat.zero_add, List.nil_append] at hown2))
    go_ret
    exact ⟨A2, c2, rfl, hown2, hb2⟩
/-- The row without its element i. -/
theorem erased {w : World} {base g i m c : Nat} {l : List Gp} (h : OwnGp w base (some ⟨g, 0, none⟩) (i + 1 + m) c l) :
    OwnGp ((w.setCells g (i * 2) (lcells (l.drop (i + 1)))).setCells g ((i + m) * 2) (gcells zeroG)) base (some ⟨g, 0, none⟩) (i + m) c (l.eraseIdx i) ∧
    w.grownBy ((w.setCells g (i * 2) (lcells (l.drop (i + 1)))).setCells g ((i + m) * 2) (gcells zeroG)) (some g) := by
  have hl := h.len
  have h1 := own_setCells (lcells (l.drop (i + 1))) (i * 2) h
  have e0 : (lcells (l.take i)).length = i * 2 := by rw [lcells_length, List.length_take, Nat.min_eq_left (by omega)]
  have e2 : (lcells (l.drop (i + 1))).length = m * 2 := by rw [lcells_length, List.length_drop]; omega
  have e1 : setAll (lcells l) (i * 2) (lcells (l.drop (i + 1))) = lcells (l.take i) ++ lcells (l.drop (i + 1)) ++ (lcells (l.drop i)).drop (m * 2) := by
    have e3 : lcells l = lcells (l.take i) ++ (lcells (l.drop i)).take (m * 2) ++ (lcells (l.drop i)).drop (m * 2) := by
      rw [List.append_assoc, List.take_append_drop, ← lcells_append, List.take_append_drop]
    have := setAll_mid (lcells (l.drop (i + 1))) ((lcells (l.drop i)).take (m * 2)) (lcells (l.take i)) ((lcells (l.drop i)).drop (m * 2)) (by
      rw [List.length_take, e2, lcells_length, List.length_drop]; omega)
    rw [← e3, e0] at this
    exact this
  rw [e1] at h1
  have h2 := own_head h1.1 (k := i + m) (by omega)
  have e4 : (lcells (l.take i) ++ lcells (l.drop (i + 1)) ++ (lcells (l.drop i)).drop (m * 2)).take ((i + m) * 2) = lcells (l.eraseIdx i) := by
    rw [lc_erase]
    exact List.take_left' (by rw [List.length_append, e0, e2, ← Nat.add_mul])
  rw [e4] at h2
  have h3 := own_setCells (gcells zeroG) ((i + m) * 2) h2
  rw [setAll_past _ _ _ (by rw [h2.1]; exact Nat.le_refl _)] at h3
  exact ⟨h3.1, h1.2.trans h3.2⟩
end Go.Proofs.Ytkhcaobmohppnaa.Spc
