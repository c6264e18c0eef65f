/-
  Rows of records: a list of things of 'sz' cells each, laid one behind the other.
-/
import Derived.Test.YtfohihdpohjmcaaNWalks
namespace Go.Proofs.Ytfohihdpohjmcaa.Nand
open Go.ChangeShapes Go.WideShapes Go.ChangeAt Go.RowKit Words

section
variable {α β : Type} {f : α → List β} {sz : Nat}
theorem flat_length (hf : ∀ x, (f x).length = sz) (l : List α) : (l.flatMap f).length = l.length * sz := by
  induction l with
  | nil => simp
  | cons x l ih => rw [List.flatMap_cons, List.length_append, hf, ih, List.length_cons, Nat.succ_mul]; omega
theorem flat_get (hf : ∀ x, (f x).length = sz) {l : List α} {i : Nat} {x : α} (hx : l[i]? = some x) {j : Nat} (hj : j < sz) : (l.flatMap f)[i * sz + j]? = (f x)[j]? := by
  induction l generalizing i with
  | nil => simp at hx
  | cons y l ih =>
    rw [List.flatMap_cons]
    cases i with
    | zero =>
      simp at hx
      subst hx
      rw [Nat.zero_mul, Nat.zero_add, List.getElem?_append_left (by rw [hf]; exact hj)]
    | succ i =>
      rw [List.getElem?_append_right (by rw [hf, Nat.succ_mul]; omega), hf]
      have e : (i + 1) * sz + j - sz = i * sz + j := by rw [Nat.succ_mul]; omega
      rw [e]
      exact ih (by simpa using hx)
theorem flat_set (hf : ∀ x, (f x).length = sz) {l : List α} {i : Nat} {x y : α} (hx : l[i]? = some x) {j : Nat} (hj : j < sz) {u : β} (hy : f y = (f x).set j u) : (l.flatMap f).set (i * sz + j) u = (l.set i y).flatMap f := by
  induction l generalizing i with
  | nil => simp at hx
  | cons z l ih =>
    cases i with
    | zero =>
      simp at hx
      subst hx
      rw [List.set_cons_zero, List.flatMap_cons, List.flatMap_cons, Nat.zero_mul, Nat.zero_add, List.set_append_left _ _ (by rw [hf]; exact hj), hy]
    | succ i =>
      have e : (i + 1) * sz + j = sz + (i * sz + j) := by rw [Nat.succ_mul]; omega
      rw [List.set_cons_succ, List.flatMap_cons, List.flatMap_cons, List.set_append_right _ _ (by rw [hf, e]; omega), hf]
      have e2 : (i + 1) * sz + j - sz = i * sz + j := by omega
      rw [e2, ih (by simpa using hx)]
theorem flat_take (hf : ∀ x, (f x).length = sz) (l : List α) (k : Nat) : (l.flatMap f).take (k * sz) = (l.take k).flatMap f := by
  induction l generalizing k with
  | nil => simp
  | cons x l ih =>
    cases k with
    | zero => simp
    | succ k =>
      rw [List.flatMap_cons, List.take_succ_cons, List.flatMap_cons, Nat.succ_mul, Nat.add_comm, List.take_append, hf, ← ih]
      rw [List.take_of_length_le (by rw [hf]; omega)]
      have : sz + k * sz - sz = k * sz := by omega
      rw [this]
end
theorem bcells_length (b : Blk) : (bcells b).length = 6 := rfl
def ocells (o : Nop) : List Value := [.int .i64 o.kind, .int .i64 o.block, .int .i64 o.page, .int .i64 o.data]
theorem ocells_length (o : Nop) : (ocells o).length = 4 := rfl
def fcells (l : List Blk) : List Value := l.flatMap bcells
def pcells (l : List Nop) : List Value := l.flatMap ocells
theorem fcells_length (l : List Blk) : (fcells l).length = l.length * 6 := flat_length bcells_length l
theorem pcells_length (l : List Nop) : (pcells l).length = l.length * 4 := flat_length ocells_length l
theorem fcells_one (l : List Blk) : ∀ u ∈ fcells l, u.oneCell' = true := by
  intro u hu
  unfold fcells at hu
  rw [List.mem_flatMap] at hu
  obtain ⟨b, _, hb⟩ := hu
  obtain ⟨_, _, rfl⟩ := List.mem_map.1 hb
  rfl
/-- The []api.Block value reads as the flash. -/
def Fl (w : World) (B : Nat) (A : Option Addr) (n c : Nat) (l : List Blk) : Prop := Words.Rd w B 6 A n c (fcells l)
/-- The []api.NandOp value reads as the operations. -/
def Ops (w : World) (B : Nat) (A : Option Addr) (n c : Nat) (l : List Nop) : Prop := Words.Rd w B 4 A n c (pcells l)
section
variable {w : World} {B : Nat} {A : Option Addr} {n c : Nat}
theorem Fl.len {l : List Blk} (h : Fl w B A n c l) : l.length = n := by
  have := Words.Rd.len h
  rw [fcells_length] at this
  omega
theorem Ops.len {l : List Nop} (h : Ops w B A n c l) : l.length = n := by
  have := Words.Rd.len h
  rw [pcells_length] at this
  omega
/-- The six cells of a block of a flash. -/
theorem Fl.cells {l : List Blk} (h : Fl w B A n c l) {g o : Nat} (e : A = some ⟨g, o, none⟩) {i : Nat} {b : Blk} (hb : l[i]? = some b) :
    w.cell? ⟨g, o + i * 6, none⟩ = some (.int .i64 b.d0) ∧ w.cell? ⟨g, o + i * 6 + 1, none⟩ = some (.int .i64 b.d1) ∧ w.cell? ⟨g, o + i * 6 + 2, none⟩ = some (.int .i64 b.d2) ∧ w.cell? ⟨g, o + i * 6 + 3, none⟩ = some (.int .i64 b.d3) ∧
      w.cell? ⟨g, o + i * 6 + 4, none⟩ = some (.int .i64 b.done) ∧ w.cell? ⟨g, o + i * 6 + 5, none⟩ = some (.int .i64 b.wear) := by
  have hi := (List.getElem?_eq_some_iff.1 hb).1
  have hl := Fl.len h
  have hc : ∀ j, j < 6 → ∀ u, (bcells b)[j]? = some u → w.cell? ⟨g, o + i * 6 + j, none⟩ = some u := fun j hj u hu => by
    have := Words.Rd.cellAt h e (by omega) (i * 6 + j) u (by rw [fcells, flat_get bcells_length hb hj, hu])
    rwa [← Nat.add_assoc] at this
  exact ⟨hc 0 (by omega) _ rfl, hc 1 (by omega) _ rfl, hc 2 (by omega) _ rfl, hc 3 (by omega) _ rfl, hc 4 (by omega) _ rfl, hc 5 (by omega) _ rfl⟩
theorem Ops.cells {l : List Nop} (h : Ops w B A n c l) {g o : Nat} (e : A = some ⟨g, o, none⟩) {i : Nat} {b : Nop} (hb : l[i]? = some b) :
    w.cell? ⟨g, o + i * 4, none⟩ = some (.int .i64 b.kind) ∧ w.cell? ⟨g, o + i * 4 + 1, none⟩ = some (.int .i64 b.block) ∧ w.cell? ⟨g, o + i * 4 + 2, none⟩ = some (.int .i64 b.page) ∧ w.cell? ⟨g, o + i * 4 + 3, none⟩ = some (.int .i64 b.data) := by
  have hi := (List.getElem?_eq_some_iff.1 hb).1
  have hl := Ops.len h
  have hc : ∀ j, j < 4 → ∀ u, (ocells b)[j]? = some u → w.cell? ⟨g, o + i * 4 + j, none⟩ = some u := fun j hj u hu => by
    have := Words.Rd.cellAt h e (by omega) (i * 4 + j) u (by rw [pcells, flat_get ocells_length hb hj, hu])
    rwa [← Nat.add_assoc] at this
  exact ⟨hc 0 (by omega) _ rfl, hc 1 (by omega) _ rfl, hc 2 (by omega) _ rfl, hc 3 (by omega) _ rfl⟩
end
/-- .. and nothing that was there has changed. -/
def IdxB (b : Bool) (w : World) (e : Ending) (w' : World) : Prop := ∃ r : Int, e = .returned (.int .i64 r) ∧ decide (0 ≤ r) = b ∧ Below w.heap.size w w'
theorem index39 (B : Nat) (A : Option Addr) (n c : Nat) (l : List Blk) (w : World) (h : Fl w B A n c l) (hB : B ≤ w.heap.size) :
    Calls Try.prog 39 #[.slice A n c, .func (.func 37) #[] #[]] w (IdxB (l.any wrongB) w) := by
  have hm := Rd.small h
  have H := Lib.hid h
  have L := Lib.hid h.len
  clear h
  go_enter Try.func39, Try.ntmps39
  go_wp2_with fail
  go_loopw [8] (fun i wr => ∃ k : Nat, k ≤ n ∧ i = .int .i64 k ∧ (l.take k).any wrongB = false ∧ Below w.heap.size w wr) (fun i _ => (n - intOf i).toNat)
  case atStart => exact ⟨0, by omega, rfl, rfl, Below.refl _ _⟩
  case round =>
    obtain ⟨k, hk, rfl, hinv, hbel⟩ := hrel
    have HI := Lib.hid hinv
    have HB := Lib.hid hbel
    clear hinv hbel
    by_cases hlt : k < n
    · obtain ⟨g, o, rfl, _, _⟩ := Words.Rd.row H.out (by omega)
      obtain ⟨x, hx⟩ : ∃ x, l[k]? = some x := ⟨_, List.getElem?_eq_getElem (by rw [L.out]; exact hlt)⟩
      obtain ⟨c0, c1, c2, c3, c4, c5⟩ := Fl.cells (Words.Rd.below H.out HB.out hB) rfl hx
      have HX := Lib.hid hx
      have HC := Lib.hid (isWrong37 x wr)
      clear hx
      cases hz : wrongB x with
      | false =>
        rw [hz] at HC
        have HZ := Lib.hid hz
        clear hz
        go_wp2_with fail
        refine (HC.out).mono ?_; rintro e w' ⟨rfl, hb⟩
        have HB2 := Lib.hid (HB.out.trans (hb.mono HB.out.size))
        clear hb c0 c1 c2 c3 c4 c5
        go_wp2_with fail
        go_roundw
        case rel => exact ⟨k + 1, by omega, by go_num, by rw [List.take_add_one, HX.out, List.any_append, HI.out]; simp only [Bool.false_or, Option.toList, List.any_cons, List.any_nil, Bool.or_false]; exact HZ.out, HB2.out⟩
        case measure => simp [intOf]; omega
      | true =>
        rw [hz] at HC
        have HZ := Lib.hid hz
        clear hz
        go_wp2_with fail
        refine (HC.out).mono ?_; rintro e w' ⟨rfl, hb⟩
        have HB2 := Lib.hid (HB.out.trans (hb.mono HB.out.size))
        clear hb c0 c1 c2 c3 c4 c5
        go_wp2_with fail
        go_ret
        refine ⟨_, rfl, ?_, HB2.out⟩
        rw [List.any_eq_true.2 ⟨x, List.mem_iff_getElem?.2 ⟨k, HX.out⟩, HZ.out⟩, decide_eq_true_iff]
        omega
    · obtain rfl : k = n := by omega
      go_wp2_with fail
      go_ret
      refine ⟨_, rfl, ?_, HB.out⟩
      have h := HI.out
      rw [List.take_of_length_le (by rw [L.out]; omega)] at h
      rw [h]
      rfl
theorem contains36 (B : Nat) (A : Option Addr) (n c : Nat) (l : List Blk) (w : World) (h : Fl w B A n c l) (hB : B ≤ w.heap.size) :
    Calls Try.prog 36 #[.slice A n c, .func (.func 37) #[] #[]] w fun e w' => e = .returned (.bool (l.any wrongB)) ∧ Below w.heap.size w w' := by
  have HC := Lib.hid (index39 B A n c l w h hB)
  clear h
  go_enter Try.func36, Try.ntmps36
  go_wp2_with fail
  refine (HC.out).mono ?_; rintro e w' ⟨r, rfl, hr, hb⟩
  have HR := Lib.hid hr
  have HB := Lib.hid hb
  clear hr hb
  go_wp2_with fail
  go_ret
  exact ⟨ret_bool HR.out, HB.out⟩
theorem right_any (l : List Blk) : right l = (decide (l.length = 8) && !l.any wrongB) := by
  unfold right
  rw [List.not_any_eq_all_not]
  rfl
theorem right32 (B : Nat) (A : Option Addr) (n c : Nat) (l : List Blk) (w : World) (h : Fl w B A n c l) (hB : B ≤ w.heap.size) :
    Calls Try.prog 32 #[.slice A n c] w fun e w' => e = .returned (.bool (right l)) ∧ Below w.heap.size w w' := by
  have HC := Lib.hid (contains36 B A n c l w h hB)
  have hl := h.len
  have HR := right_any l
  by_cases h8 : n = 8
  · have ht : ((n : Int) == 8) = true := by rw [beq_iff_eq]; omega
    rw [decide_eq_true (by omega), Bool.true_and] at HR
    have HR := Lib.hid HR
    clear h h8 hl
    go_enter Try.func32, Try.ntmps32
    go_wp2_with fail
    refine (HC.out).mono ?_; rintro e w' ⟨rfl, hb⟩
    have HB := Lib.hid hb
    clear hb
    go_wp2_with fail
    go_ret
    exact ⟨ret_bool HR.out.symm, HB.out⟩
  · have ht : ((n : Int) == 8) = false := by rw [beq_eq_false_iff_ne]; omega
    rw [decide_eq_false (by omega), Bool.false_and] at HR
    have HR := Lib.hid HR
    clear h h8 hl
    go_enter Try.func32, Try.ntmps32
    go_wp2_with fail
    go_ret
    exact ⟨ret_bool HR.out.symm, Below.refl _ _⟩
end Go.Proofs.Ytfohihdpohjmcaa.Nand
