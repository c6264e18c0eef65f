/-
  What slices.ContainsFunc says with each of the three tests that the claims hand to it.
-/
import Derived.Shelf.SlicesQ.IndexFunc
import Derived.Test.YtkkmfeclondlpaaAlive
namespace Go.Proofs.Ytkkmfeclondlpaa.Heap
open Go.ChangeShapes Go.WideShapes Go.ChangeAt Go.RowKit Words Go.Sort
set_option linter.unusedVariables false

def hasRen : Go.Shelf.Ren := ⟨fun | 8 => 21 | 6 => 37 | n => n, fun | 22 => 22 | 23 => 24 | 25 => 37 | 4 => 4 | 3 => 3 | 0 => 0 | n => n, fun | n => n⟩
theorem hasWn : Go.Proofs.SlLaysH0.n8 Try.prog hasRen := {
  mixed := by kernel_rfl
  f6 := ⟨Try.f37.name, by decide, Try.func37.trans (congrArg some (by kernel_rfl))⟩
  f8 := ⟨Try.f21.name, by decide, Try.func21.trans (congrArg some (by kernel_rfl))⟩
  t0 := Try.underlying0
  a0 := Try.isAgg0
  z0 := Try.sizeOf0
  v0 := Try.zeroValue0
  t3 := Try.underlying3
  a3 := Try.isAgg3
  z3 := Try.sizeOf3
  v3 := Try.zeroValue3
  t4 := Try.underlying4
  a4 := Try.isAgg4
  z4 := Try.sizeOf4
  v4 := Try.zeroValue4
  t22 := Try.underlying22
  a22 := Try.isAgg22
  z22 := Try.sizeOf22
  v22 := Try.zeroValue22
  t25 := Try.underlying37
  a25 := Try.isAgg37
  z25 := Try.sizeOf37
  v25 := Try.zeroValue37 }

/-- No element, no call. -/
theorem index37_none (A : Option Addr) (c : Nat) (fv : Value) (w : World) : Calls Try.prog 37 #[.slice A 0 c, fv] w fun e w' => e = .returned (.int .i64 (-1)) ∧ w' = w := by
  go_enter Try.func37, Try.ntmps37
  go_wp2_with fail
  go_loopw [8] (fun i wr => i = .int .i64 0 ∧ wr = w) (fun i _ => 0)
  case atStart => exact ⟨rfl, rfl⟩
  case round =>
    obtain ⟨rfl, rfl⟩ := hrel
    go_wp2_with fail
    go_ret
    exact ⟨rfl, rfl⟩
theorem has21_none (A : Option Addr) (c : Nat) (fv : Value) (w : World) : Calls Try.prog 21 #[.slice A 0 c, fv] w fun e w' => e = .returned (.bool false) ∧ w' = w := by
  have HC := Lib.hid (index37_none A c fv w)
  go_enter Try.func21, Try.ntmps21
  go_wp2_with fail
  refine (HC.out).mono ?_; rintro e w' ⟨rfl, rfl⟩
  go_wp2_with fail
  go_ret
  exact ⟨rfl, rfl⟩
/-- What a test of the call's own must do. -/
def Tells (g : Nat) (cb : Array Value) (p : Wn → Bool) (w : World) : Prop := PredBelow Try.prog g cb (fun x => .agg (wcells x).toArray) p w
theorem has21 (g : Nat) (cb : Array Value) (p : Wn → Bool) (eg : ∀ args w, (callFunc g args).run Try.prog w = .ok (.enter g args) w) (A : Option Addr) (n c : Nat) (l : List Wn) (w : World) (hp : 0 < n → Tells g cb p w) (h : Hp w w.heap.size A n c l) :
    Calls Try.prog 21 #[.slice A n c, .func (.func g) #[] cb] w fun e w' => e = .returned (.bool (l.any p)) ∧ Below w.heap.size w w' := by
  have hl := h.len
  rcases Nat.eq_zero_or_pos n with hn | hn
  · subst hn
    have : l = [] := List.eq_nil_of_length_eq_zero hl
    subst this
    refine (has21_none A c _ w).mono ?_
    rintro e w' ⟨rfl, rfl⟩
    exact ⟨rfl, Below.refl _ _⟩
  · obtain ⟨b, o, rfl, hb, _⟩ := Words.Rd.row h hn
    have hc := AnyQ.slices_ContainsFunc hasWn 2 Try.isAgg24 Try.sizeOf24 wcells (fun _ => rfl) p g cb eg b o n c l w (hp hn) (by omega) (Words.Rd.small h) hb (fun j hj i v hi => by
      have e1 : l[j]! = nth l j := by rw [getElem!_pos l j hj, nth_eq hj]
      rw [e1] at hi
      have hi2 : i < 2 := by
        have := (List.getElem?_eq_some_iff.1 hi).1
        rwa [wcells_length] at this
      have := Words.Rd.cellAt h rfl hn (j * 2 + i) v (by unfold hcells; rw [flat_get wcells_length (nth_get hj) hi2]; exact hi)
      rwa [← Nat.add_assoc] at this)
    rw [List.take_of_length_le (by omega)] at hc
    exact hc
theorem enter22 : ∀ args w, (callFunc 22 args).run Try.prog w = .ok (.enter 22 args) w := enters_of Try.func22 (by kernel_rfl) rfl
theorem enter24 : ∀ args w, (callFunc 24 args).run Try.prog w = .ok (.enter 24 args) w := enters_of Try.func24 (by kernel_rfl) rfl
theorem enter28 : ∀ args w, (callFunc 28 args).run Try.prog w = .ok (.enter 28 args) w := enters_of Try.func28 (by kernel_rfl) rfl
theorem laid_one (W : World) (a : Obj) : Laid W (W.alloc a) := ⟨0, #[a], by rw [alloc_eq_grow]; rfl⟩
/-- The box of one block, in a world that came of w by growth alone; and the new box behind it. -/
theorem tells24 (b : Nat) (u : Wn) (w : World) (hb : b < w.heap.size) (c0 : w.cell? ⟨b, 0, none⟩ = some (.int .i64 u.id)) (c1 : w.cell? ⟨b, 1, none⟩ = some (.int .i64 u.wear)) :
    Tells 24 #[.pointer (some ⟨b, 0, none⟩)] (fun x => less x u) w := by
  intro W x hW
  have d0 := (hW.cell (p := ⟨b, 0, none⟩) hb).trans c0
  have d1 := (hW.cell (p := ⟨b, 1, none⟩) hb).trans c1
  have hlt : b < W.heap.size := Nat.lt_of_lt_of_le hb hW.size
  have hne : b ≠ W.heap.size := by omega
  have HL := Lib.hid (less23 x u)
  have HW := Lib.hid hW
  clear c0 c1 hW hb
  unfold wval at HL
  show Calls Try.prog 24 #[.agg #[.int .i64 x.id, .int .i64 x.wear], .pointer (some ⟨b, 0, none⟩)] W _
  go_enter Try.func24, Try.ntmps24
  go_wp2_with fail
  refine (HL.out _).mono ?_; rintro e w2 ⟨rfl, hw⟩
  have HW2 := Lib.hid (HW.out.trans (((laid_one W _).trans hw).below.mono HW.out.size))
  clear hw
  go_wp2_with fail
  go_ret
  exact ⟨rfl, HW2.out⟩
theorem tells28 (b : Nat) (u : Wn) (w : World) (hb : b < w.heap.size) (c0 : w.cell? ⟨b, 0, none⟩ = some (.int .i64 u.id)) (c1 : w.cell? ⟨b, 1, none⟩ = some (.int .i64 u.wear)) :
    Tells 28 #[.pointer (some ⟨b, 0, none⟩)] (fun x => !less u x) w := by
  intro W x hW
  have d0 := (hW.cell (p := ⟨b, 0, none⟩) hb).trans c0
  have d1 := (hW.cell (p := ⟨b, 1, none⟩) hb).trans c1
  have hlt : b < W.heap.size := Nat.lt_of_lt_of_le hb hW.size
  have hne : b ≠ W.heap.size := by omega
  have HL := less23 u x
  obtain ⟨r, hr⟩ : ∃ r, r = less u x := ⟨_, rfl⟩
  rw [← hr] at HL
  have HR := Lib.hid hr
  have HL := Lib.hid HL
  have HW := Lib.hid hW
  clear c0 c1 hW hb hr
  unfold wval at HL
  show Calls Try.prog 28 #[.agg #[.int .i64 x.id, .int .i64 x.wear], .pointer (some ⟨b, 0, none⟩)] W _
  go_enter Try.func28, Try.ntmps28
  go_wp2_with fail
  refine (HL.out _).mono ?_; rintro e w2 ⟨rfl, hw⟩
  have HW2 := Lib.hid (HW.out.trans (((laid_one W _).trans hw).below.mono HW.out.size))
  clear hw
  go_wp2_with fail
  go_ret
  exact ⟨ret_bool (by rw [HR.out]), HW2.out⟩
set_option maxHeartbeats 1000000 in
theorem tells22 (b g m c : Nat) (a : List Wn) (w : World) (hb : b < w.heap.size) (c0 : w.cell? ⟨b, 0, none⟩ = some (.slice (some ⟨g, 0, none⟩) m c)) (h : Hp w w.heap.size (some ⟨g, 0, none⟩) m c a) (hm : 0 < m) :
    Tells 22 #[.pointer (some ⟨b, 0, none⟩)] (fun x => less x (nth a 0)) w := by
  intro W x hW
  have mx := mixedO
  have hlt : b < W.heap.size := Nat.lt_of_lt_of_le hb hW.size
  have hl := h.len
  obtain ⟨g', o', e', hg, _⟩ := Words.Rd.row h hm
  injection e' with e'
  injection e' with e1 e2
  subst e1 e2
  have hlg : g < W.heap.size := Nat.lt_of_lt_of_le hg hW.size
  obtain ⟨q0, q1⟩ := Hp.cells h rfl (nth_get (l := a) (k := 0) (by omega))
  rw [Nat.zero_mul, Nat.zero_add] at q0 q1
  have d0 := fun n os => cell_grown (w := W.alloc (.cells #[.int .i64 x.id, .int .i64 x.wear] 24)) (a := ⟨b, 0, none⟩) (by simp; omega) ((World.cell?_alloc_lt W _ _ hlt).trans ((hW.cell (p := ⟨b, 0, none⟩) hb).trans c0)) n os
  have e0 := fun n os => cell_grown (w := W.alloc (.cells #[.int .i64 x.id, .int .i64 x.wear] 24)) (a := ⟨g, 0, none⟩) (by simp; omega) ((World.cell?_alloc_lt W _ _ hlg).trans ((hW.cell (p := ⟨g, 0, none⟩) hg).trans q0)) n os
  have e1 := fun n os => cell_grown (w := W.alloc (.cells #[.int .i64 x.id, .int .i64 x.wear] 24)) (a := ⟨g, 1, none⟩) (by simp; omega) ((World.cell?_alloc_lt W _ _ hlg).trans ((hW.cell (p := ⟨g, 1, none⟩) hg).trans q1)) n os
  have hbx : ∀ j, (W.alloc (.cells #[.int .i64 x.id, .int .i64 x.wear] 24)).cell? ⟨W.heap.size, j, none⟩ = #[Value.int .i64 x.id, .int .i64 x.wear][j]? := fun j => cell_of_row _ _ _ _ 24 (0, 0) (heap_alloc_new W _)
  have b0 := fun n os => cell_grown (w := W.alloc (.cells #[.int .i64 x.id, .int .i64 x.wear] 24)) (a := ⟨W.heap.size, 0, none⟩) (by simp) (hbx 0) n os
  have b1 := fun n os => cell_grown (w := W.alloc (.cells #[.int .i64 x.id, .int .i64 x.wear] 24)) (a := ⟨W.heap.size, 1, none⟩) (by simp) (hbx 1) n os
  have HL := less23 x (nth a 0)
  generalize nth a 0 = y at *
  have HL := Lib.hid HL
  have HW := Lib.hid hW
  have hmi : (0 : Int) < (m : Int) := by omega
  have HB := Lib.hid (HW.out.alloc HW.out.size (.cells #[.int .i64 x.id, .int .i64 x.wear] 24))
  clear c0 hW hb q0 q1 hbx h hl
  unfold wval at HL
  show Calls Try.prog 22 #[.agg #[.int .i64 x.id, .int .i64 x.wear], .pointer (some ⟨b, 0, none⟩)] W _
  go_enter Try.func22, Try.ntmps22
  go_wp2_with fail
  refine wp_region_quiet_grown (by assumption) (by kernel_rfl) ?_
  repeat (go_big_quiet_step (first | (go_at_call 23; exact Calls.grown_of (HL.out _))))
  refine wpQuiet_nil ?_
  intro _ hw2
  obtain ⟨⟨nq, osq⟩, hw3⟩ := hw2
  subst hw3
  have HB2 := Lib.hid (below_grow HB.out HB.out.size nq osq)
  clear d0 e0 e1 b0 b1
  go_wp2_with fail
  go_ret
  exact ⟨rfl, HB2.out⟩
end Go.Proofs.Ytkkmfeclondlpaa.Heap
