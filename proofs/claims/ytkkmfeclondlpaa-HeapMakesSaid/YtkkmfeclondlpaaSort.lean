/-
  What slices.SortFunc and slices.Reverse leave of a row of blocks that the call owns. Where the program's own copy of the library lies is told by two tables of numbers.
-/
import Derived.Shelf.SlSortCmp.NoneTotal
import Derived.Shelf.SlicesQ.Reverse
import Derived.Test.YtkkmfeclondlpaaMade
namespace Go.Proofs.Ytkkmfeclondlpaa.Heap
open Go.ChangeShapes Go.WideShapes Go.ChangeAt Go.RowKit Words Go.Sort
set_option linter.unusedVariables false

def sortRen : Go.Shelf.Ren := ⟨fun | 6 => 34 | 15 => 41 | 14 => 40 | 28 => 51 | 29 => 52 | 20 => 43 | 21 => 44 | 22 => 45 | 23 => 46 | 24 => 47 | 25 => 48 | 26 => 49 | 27 => 50 | 46 => 54 | 47 => 55 | 48 => 56 | 49 => 57 | 50 => 58 | 57 => 59 | n => n, fun | 22 => 22 | 24 => 24 | 25 => 45 | 3 => 3 | 39 => 51 | 0 => 0 | 53 => 62 | 55 => 64 | 4 => 4 | 46 => 55 | 45 => 54 | 50 => 59 | 5 => 5 | 9 => 9 | 66 => 66 | 70 => 70 | 76 => 72 | 77 => 73 | n => n, fun | n => n⟩
theorem sortWn : Go.Proofs.SlLaysF0.n6 Try.prog sortRen := {
  mixed := by kernel_rfl
  f6 := ⟨Try.f34.name, by decide, Try.func34.trans (congrArg some (by kernel_rfl))⟩
  f14 := ⟨Try.f40.name, by decide, Try.func40.trans (congrArg some (by kernel_rfl))⟩
  f15 := Try.func41.trans (congrArg some (by kernel_rfl))
  f20 := ⟨Try.f43.name, by decide, Try.func43.trans (congrArg some (by kernel_rfl))⟩
  f21 := ⟨Try.f44.name, by decide, Try.func44.trans (congrArg some (by kernel_rfl))⟩
  f22 := ⟨Try.f45.name, by decide, Try.func45.trans (congrArg some (by kernel_rfl))⟩
  f23 := ⟨Try.f46.name, by decide, Try.func46.trans (congrArg some (by kernel_rfl))⟩
  f24 := ⟨Try.f47.name, by decide, Try.func47.trans (congrArg some (by kernel_rfl))⟩
  f25 := ⟨Try.f48.name, by decide, Try.func48.trans (congrArg some (by kernel_rfl))⟩
  f26 := ⟨Try.f49.name, by decide, Try.func49.trans (congrArg some (by kernel_rfl))⟩
  f27 := ⟨Try.f50.name, by decide, Try.func50.trans (congrArg some (by kernel_rfl))⟩
  f28 := Try.func51.trans (congrArg some (by kernel_rfl))
  f29 := Try.func52.trans (congrArg some (by kernel_rfl))
  f46 := ⟨Try.f54.name, by decide, Try.func54.trans (congrArg some (by kernel_rfl))⟩
  f47 := Try.func55.trans (congrArg some (by kernel_rfl))
  f48 := Try.func56.trans (congrArg some (by kernel_rfl))
  f49 := ⟨Try.f57.name, by decide, Try.func57.trans (congrArg some (by kernel_rfl))⟩
  f50 := ⟨Try.f58.name, by decide, Try.func58.trans (congrArg some (by kernel_rfl))⟩
  f57 := ⟨Try.f59.name, by decide, Try.func59.trans (congrArg some (by kernel_rfl))⟩
  t0 := Try.underlying0
  a0 := Try.isAgg0
  z0 := Try.sizeOf0
  v0 := Try.zeroValue0
  t3 := Try.underlying3
  a3 := Try.isAgg3
  z3 := Try.sizeOf3
  v3 := Try.zeroValue3
  t4 := Try.underlying4
  a4 := Try.isAgg4
  z4 := Try.sizeOf4
  v4 := Try.zeroValue4
  t5 := Try.underlying5
  a5 := Try.isAgg5
  z5 := Try.sizeOf5
  v5 := Try.zeroValue5
  t9 := Try.underlying9
  a9 := Try.isAgg9
  z9 := Try.sizeOf9
  v9 := Try.zeroValue9
  t22 := Try.underlying22
  a22 := Try.isAgg22
  z22 := Try.sizeOf22
  v22 := Try.zeroValue22
  t25 := Try.underlying45
  a25 := Try.isAgg45
  z25 := Try.sizeOf45
  v25 := Try.zeroValue45
  t39 := Try.underlying51
  a39 := Try.isAgg51
  z39 := Try.sizeOf51
  v39 := Try.zeroValue51
  t45 := Try.underlying54
  a45 := Try.isAgg54
  z45 := Try.sizeOf54
  v45 := Try.zeroValue54
  t46 := Try.underlying55
  a46 := Try.isAgg55
  z46 := Try.sizeOf55
  v46 := Try.zeroValue55
  t50 := Try.underlying59
  a50 := Try.isAgg59
  z50 := Try.sizeOf59
  v50 := Try.zeroValue59
  t53 := Try.underlying62
  a53 := Try.isAgg62
  z53 := Try.sizeOf62
  v53 := Try.zeroValue62
  t55 := Try.underlying64
  a55 := Try.isAgg64
  z55 := Try.sizeOf64
  v55 := Try.zeroValue64
  t66 := Try.underlying66
  a66 := Try.isAgg66
  z66 := Try.sizeOf66
  v66 := Try.zeroValue66
  t70 := Try.underlying70
  a70 := Try.isAgg70
  z70 := Try.sizeOf70
  v70 := Try.zeroValue70
  t76 := Try.underlying72
  a76 := Try.isAgg72
  z76 := Try.sizeOf72
  v76 := Try.zeroValue72
  t77 := Try.underlying73
  a77 := Try.isAgg73
  z77 := Try.sizeOf73
  v77 := Try.zeroValue73 }
def revRen : Go.Shelf.Ren := ⟨fun | 35 => 27 | n => n, fun | 22 => 22 | 23 => 24 | 3 => 3 | 4 => 4 | 0 => 0 | n => n, fun | n => n⟩
theorem revWn : Go.Proofs.SlLaysE0.n35 Try.prog revRen := {
  mixed := by kernel_rfl
  f35 := ⟨Try.f27.name, by decide, Try.func27.trans (congrArg some (by kernel_rfl))⟩
  t0 := Try.underlying0
  a0 := Try.isAgg0
  z0 := Try.sizeOf0
  v0 := Try.zeroValue0
  t3 := Try.underlying3
  a3 := Try.isAgg3
  z3 := Try.sizeOf3
  v3 := Try.zeroValue3
  t4 := Try.underlying4
  a4 := Try.isAgg4
  z4 := Try.sizeOf4
  v4 := Try.zeroValue4
  t22 := Try.underlying22
  a22 := Try.isAgg22
  z22 := Try.sizeOf22
  v22 := Try.zeroValue22 }

/-! ### rows of two cells an element -/
theorem flat_wn (l : List Wn) : flatK wcells 2 l.toArray = (hcells l).toArray := by
  apply Array.ext
  · rw [size_flatK, List.size_toArray, List.size_toArray, hcells_length]
  · intro t h1 h2
    rw [size_flatK, List.size_toArray] at h1
    rw [← getElem!_pos (flatK wcells 2 l.toArray) t (by rw [size_flatK, List.size_toArray]; exact h1), get_flatK _ _ _ _ (by rw [List.size_toArray]; exact h1)]
    have hi : t / 2 < l.length := by omega
    have e := flat_get (f := wcells) wcells_length (nth_get (l := l) hi) (j := t % 2) (by omega)
    rw [show t / 2 * 2 + t % 2 = t by omega] at e
    have e1 : l.toArray[t / 2]! = nth l (t / 2) := by
      rw [getElem!_pos l.toArray (t / 2) (by rw [List.size_toArray]; exact hi), List.getElem_toArray, nth_eq hi]
    have hw : t % 2 < (wcells (nth l (t / 2))).length := by rw [wcells_length]; omega
    rw [e1, getElem!_pos (wcells (nth l (t / 2))) (t % 2) hw]
    have h3 : (hcells l)[t]? = some (wcells (nth l (t / 2)))[t % 2] := by
      unfold hcells
      rw [e, List.getElem?_eq_getElem hw]
    rw [List.getElem_toArray]
    have h4 : t < (hcells l).length := by rw [List.size_toArray] at h2; exact h2
    rw [List.getElem?_eq_getElem h4] at h3
    injection h3 with h3
    exact h3.symm
theorem OwnHp.holds {w : World} {base g n c : Nat} {l : List Wn} (h : OwnHp w base (some ⟨g, 0, none⟩) n c l) : HoldsK wcells 2 w g 0 l.toArray := by
  intro j hj
  rw [flat_wn] at hj ⊢
  have hj' : j < (hcells l).length := by rw [List.size_toArray] at hj; exact hj
  have hl := h.len
  refine ⟨?_, by rw [Nat.zero_add]; exact h.frozen j⟩
  have hx : (hcells l).toArray[j]! = (hcells l)[j] := by rw [getElem!_pos (hcells l).toArray j hj, List.getElem_toArray]
  rw [hx]
  exact Words.Rd.cellAt h.hp rfl (by rw [hcells_length] at hj'; omega) j _ (List.getElem?_eq_getElem hj')
theorem OwnHp.laid {w : World} {base g n c : Nat} {l : List Wn} (h : OwnHp w base (some ⟨g, 0, none⟩) n c l) (l' : List Wn) (hl : l'.length = n) (m : Nat) (os : Array Obj) : Turned w base g n c l' (grow (putRowK wcells 2 (Sort.ahead w m) g 0 l'.toArray) os) := by
  unfold putRowK
  rw [flat_wn]
  rcases h.2 with ⟨h0, _⟩ | ⟨g', cap', cur, hv, hg, hb, h1, h2, h3, h4⟩
  · cases h0
  cases hv
  have hgs : g < w.heap.size := (Array.getElem?_eq_some_iff.1 hb).1
  have hlen : (hcells l').length = n * 2 := by rw [hcells_length, hl]
  have hsz : n * 2 ≤ cur.size := by rw [h3]; omega
  constructor
  · refine ⟨hlen, .inr ⟨g, c, putCells id 0 (hcells l').toArray cur, rfl, hg, ?_, h1, h2, by simp [putCells, h3], ?_⟩⟩
    · rw [heap_grow_old _ _ (by simpa [putRow, mapBlock] using hgs)]
      simp [putRow, mapBlock, Sort.ahead, Array.getElem?_modify, hb, onCells]
    · apply List.ext_getElem?
      intro j
      by_cases hj : j < n * 2
      · rw [List.getElem?_take_of_lt hj, Array.getElem?_toList]
        have hj2 : j < (hcells l').length := by omega
        have hj3 : j < cur.size := by omega
        simp [putCells, hj2, hj3]
      · rw [List.getElem?_take_eq_none (by omega), List.getElem?_eq_none (by omega)]
  · refine ⟨rfl, rfl, rfl, by simp [putRow, mapBlock], fun k hk hne => ?_⟩
    rw [heap_grow_old _ _ (by simpa [putRow, mapBlock] using hk)]
    have : g ≠ k := fun e => hne (by rw [e])
    simp [putRow, mapBlock, Sort.ahead, Array.getElem?_modify, this]

/-! ### the sort -/
theorem lt_cf : (ltOf cf) = less := by
  funext x y
  exact cf_less x y
theorem swo_less : SWO less where
  irrefl x := less_irrefl x
  trans x y z h1 h2 := less_trans h1 h2
  ntrans x y z h1 h2 := by rw [less_no] at *; omega
theorem wcells_one (x : Wn) : ∀ v ∈ wcells x, v.oneCell' = true := fun v hv => by
  simp [wcells] at hv
  rcases hv with rfl | rfl <;> rfl
/-- What a comparison of the call's own must do: say 'cf', and leave what is there. -/
def Says (f : Nat) (cf : Wn → Wn → Int) : Prop := ∀ (a b : Wn) (w : World), Calls Try.prog f #[wval a, wval b] w fun e w' => e = .returned (.int .i64 (cf a b)) ∧ Laid w w'
theorem sort34 (f : Nat) (cf : Wn → Wn → Int) (hf : Says f cf) (hcf : ltOf cf = less) (ef : ∀ args w, (callFunc f args).run Try.prog w = .ok (.enter f args) w)
    (base g n c : Nat) (l : List Wn) (w : World) (h : OwnHp w base (some ⟨g, 0, none⟩) n c l) (hs : n ≤ 9000000000000) :
    Calls Try.prog 34 #[.slice (some ⟨g, 0, none⟩) n c, .func (.func f) #[] #[]] w fun e w' => e = .returned (.tuple #[]) ∧ Turned w base g n c (sorted l) w' := by
  have hl := h.len
  have hc := AnyQ.slices_SortFunc_total sortWn 2 Try.isAgg24 Try.sizeOf24 wcells (fun _ => rfl) wcells_one cf (by rw [hcf]; exact swo_less) f #[] g 0 c l.toArray w ef (fun _ _ _ _ x y => hf x y _) h.holds h.at_.2 (by rw [List.size_toArray]; omega)
    (by rw [hcf]; exact fun x y h1 h2 => nless_eq h1 h2)
  rw [List.size_toArray, hl, hcf] at hc
  refine Calls.mono hc ?_
  rintro e w' ⟨rfl, m, os, rfl⟩
  exact ⟨rfl, h.laid (sorted l) (by rw [sorted_length, hl]) m os⟩
theorem sort34_nil (f : Nat) (w : World) : Calls Try.prog 34 #[.slice none 0 0, .func (.func f) #[] #[]] w fun e w' => e = .returned (.tuple #[]) ∧ w' = w :=
  AnyF.slices_SortFunc_none sortWn none 0 (.func (.func f) #[] #[]) w
theorem says35 : Says 35 cf := compare35
/-- What the document's own comparison returns. -/
def cf2 (a b : Wn) : Int := if less a b = true then -1 else if less b a = true then 1 else 0
theorem lt_cf2 : ltOf cf2 = less := by
  funext x y
  show decide (cf2 x y < 0) = less x y
  unfold cf2
  cases h : less x y with
  | true => rfl
  | false =>
    cases h2 : less y x with
    | true => rfl
    | false => rfl
theorem two_boxes {w w1 : World} {x y : Wn} (hb : Below ((w.alloc (.cells #[.int .i64 x.id, .int .i64 x.wear] 24)).alloc (.cells #[.int .i64 y.id, .int .i64 y.wear] 24)).heap.size ((w.alloc (.cells #[.int .i64 x.id, .int .i64 x.wear] 24)).alloc (.cells #[.int .i64 y.id, .int .i64 y.wear] 24)) w1) :
    w1.cell? ⟨w.heap.size, 0, none⟩ = some (.int .i64 x.id) ∧ w1.cell? ⟨w.heap.size, 1, none⟩ = some (.int .i64 x.wear) ∧ w1.cell? ⟨w.heap.size + 1, 0, none⟩ = some (.int .i64 y.id) ∧ w1.cell? ⟨w.heap.size + 1, 1, none⟩ = some (.int .i64 y.wear) := by
  have h1 : ∀ j, w1.cell? ⟨w.heap.size, j, none⟩ = #[Value.int .i64 x.id, .int .i64 x.wear][j]? := fun j => by
    rw [hb.cell (p := ⟨w.heap.size, j, none⟩) (by simp; omega), World.cell?_alloc_lt _ _ _ (by simp)]
    exact cell_of_row _ _ _ _ 24 (0, 0) (heap_alloc_new w _)
  have h2 : ∀ j, w1.cell? ⟨w.heap.size + 1, j, none⟩ = #[Value.int .i64 y.id, .int .i64 y.wear][j]? := fun j => by
    rw [hb.cell (p := ⟨w.heap.size + 1, j, none⟩) (by simp)]
    have := heap_alloc_new (w.alloc (.cells #[.int .i64 x.id, .int .i64 x.wear] 24)) (.cells #[.int .i64 y.id, .int .i64 y.wear] 24)
    rw [World.size_alloc] at this
    exact cell_of_row _ _ _ _ 24 (0, 0) this
  exact ⟨h1 0, h1 1, h2 0, h2 1⟩
theorem says36 : Says 36 cf2 := by
  intro a b w
  have H1 := less23 a b
  have H2 := less23 b a
  unfold cf2
  obtain ⟨ai, aw⟩ := a
  obtain ⟨bi, bw⟩ := b
  unfold wval at *
  cases hz : less ⟨ai, aw⟩ ⟨bi, bw⟩ with
  | true =>
    rw [hz] at H1
    have H1 := Lib.hid H1
    clear H2 hz
    go_enter Try.func36, Try.ntmps36
    go_wp2_with fail
    refine (H1.out _).mono ?_; rintro e w1 ⟨rfl, hw⟩
    have HW := Lib.hid hw
    clear hw
    go_wp2_with fail
    go_ret
    exact ⟨rfl, (laid_two _ _ _).trans HW.out⟩
  | false =>
    rw [hz] at H1
    have H1 := Lib.hid H1
    cases hy : less ⟨bi, bw⟩ ⟨ai, aw⟩ with
    | true =>
      rw [hy] at H2
      have H2 := Lib.hid H2
      clear hz hy
      go_enter Try.func36, Try.ntmps36
      go_wp2_with fail
      refine (H1.out _).mono ?_; rintro e w1 ⟨rfl, hw⟩
      obtain ⟨c0, c1, d0, d1⟩ := two_boxes (x := ⟨ai, aw⟩) (y := ⟨bi, bw⟩) hw.below
      have HW := Lib.hid hw
      clear hw
      go_wp2_with fail
      refine (H2.out _).mono ?_; rintro e w2 ⟨rfl, hw⟩
      have HW2 := Lib.hid hw
      clear hw
      go_wp2_with fail
      go_ret
      exact ⟨rfl, ((laid_two _ _ _).trans HW.out).trans HW2.out⟩
    | false =>
      rw [hy] at H2
      have H2 := Lib.hid H2
      clear hz hy
      go_enter Try.func36, Try.ntmps36
      go_wp2_with fail
      refine (H1.out _).mono ?_; rintro e w1 ⟨rfl, hw⟩
      obtain ⟨c0, c1, d0, d1⟩ := two_boxes (x := ⟨ai, aw⟩) (y := ⟨bi, bw⟩) hw.below
      have HW := Lib.hid hw
      clear hw
      go_wp2_with fail
      refine (H2.out _).mono ?_; rintro e w2 ⟨rfl, hw⟩
      have HW2 := Lib.hid hw
      clear hw
      go_wp2_with fail
      go_ret
      exact ⟨rfl, ((laid_two _ _ _).trans HW.out).trans HW2.out⟩
/-! ### the other way round -/
theorem reverse27 (base g n c : Nat) (l : List Wn) (w : World) (h : OwnHp w base (some ⟨g, 0, none⟩) n c l) (hs : n ≤ 9000000000000) :
    Calls Try.prog 27 #[.slice (some ⟨g, 0, none⟩) n c] w fun e w' => e = .returned (.tuple #[]) ∧ Turned w base g n c l.reverse w' := by
  have hl := h.len
  have hc := AnyQ.slices_Reverse revWn 2 Try.isAgg24 Try.sizeOf24 wcells (fun _ => rfl) wcells_one g 0 c l.toArray w h.holds (by rw [List.size_toArray]; omega)
  rw [List.size_toArray, hl] at hc
  refine Calls.mono hc ?_
  rintro e w' ⟨rfl, m, rfl⟩
  have := h.laid l.reverse (by rw [List.length_reverse, hl]) m #[]
  rw [grow_empty] at this
  rw [show l.toArray.reverse = l.reverse.toArray by simp]
  exact ⟨rfl, this⟩
end Go.Proofs.Ytkkmfeclondlpaa.Heap
