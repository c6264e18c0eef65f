/-
  The small test that package remap is not empty returns true.
-/
import Derived.Test.YtegllglfnngijaaPlay8
import Derived.Deep.WholeRow
namespace Go.Proofs.Ytegllglfnngijaa.Rem
open Go.ChangeShapes Go.WideShapes Go.ChangeAt Go.RowKit Words
set_option linter.unusedVariables false

/-- An array by value into the box that was made last. -/
theorem wpList_store_new {P : Program} {ops : Array Oper} {rest : List Oper} {o : Oper} {a : Act} {Q : Exit → Act → World → Prop} (hgd : o.guard = none) (ty : TypeId) (x y : Operand) (ho : o.op = .store ty x y)
    (w : World) (cells : Array Value) (hx : a.eval x = .pointer (some ⟨w.heap.size, 0, none⟩)) (hy : a.eval y = .agg cells)
    (t : TypeId) (old : Array Value) (hi : (P.info? ty).map (·.size) = some cells.size)
    (hold : old.size = cells.size) (h1 : cells.all (·.oneCell') = true)
    (h : wpList P ops Q rest (a.put o.dst undef) (w.alloc (.cells cells t))) : wpList P ops Q (o :: rest) a (w.alloc (.cells old t)) := by
  refine wpList_store_row hgd ty x y ho w.heap.size cells hx hy t old (heap_alloc_new w _) hi hold h1 ?_
  rw [World.setRow_alloc_new]
  exact h
theorem z16_size {l : List Int} (h : l.length = 16) : (icells zero16).toArray.size = (icells l).toArray.size := by simp [icells_length, h]; rfl
def five : List Mop := [⟨1, 5⟩, ⟨1, 5⟩, ⟨1, 2⟩, ⟨1, 2⟩, ⟨2, 2⟩]
def fiveCells : Array Value := #[.int .i64 1, .int .i64 5, .int .i64 1, .int .i64 5, .int .i64 1, .int .i64 2, .int .i64 1, .int .i64 2, .int .i64 2, .int .i64 2]
theorem five_e : pErrs 3 five = [0, 0, 0, 4, 0] := by decide +kernel
theorem five_a : pAt 3 five = [-1, -1, -1, -1, -1, 1, -1, -1, -1, -1, -1, -1, -1, -1, -1, -1] := by decide +kernel
theorem five_n : pNo 3 five = [-1, 5, -1] := by decide +kernel
theorem lit_ops (w : World) (xs : List Mop) (cs : Array Value) (n : Nat) (hc : cs.toList = lcells xs) (hn : xs.length = n) (hm : n ≤ 100) : Ops (w.alloc (.cells cs 37)) (w.heap.size + 1) (some ⟨w.heap.size, 0, none⟩) n n xs :=
  Words.Rd.new w 37 cs (0, 0) (lcells xs) n hc (by rw [lcells_length]; omega) (by simp only [maxLen]; omega)
theorem alive_e (W x : World) (pages : Int) (l : List Mop) {e1 : List Int} {a1 : List Int} {n1 : List Int} (h1 : pErrs pages l = e1) (h2 : pAt pages l = a1) (h3 : pNo pages l = n1) {e : Ending} (h : Played W pages l e x) :
    ∃ A1 c1 A2 c2, e = .returned (.tuple #[.slice A1 e1.length c1, av a1, .slice A2 n1.length c2, .int .i64 (perr pages)]) ∧ Ints x x.heap.size A1 e1.length c1 e1 ∧ Ints x x.heap.size A2 n1.length c2 n1 ∧ Below W.heap.size W x := by
  subst h1 h2 h3
  exact h
set_option maxHeartbeats 4000000 in
theorem alive14 (w : World) : Calls Try.prog 14 #[] w fun e w' => e = .returned (.bool true) ∧ Below w.heap.size w w' := by
  have B0 : Hid (Below w.heap.size w (w.alloc (.cells fiveCells 37))) := Lib.hid ((Below.refl _ _).alloc (Nat.le_refl _) _)
  have F0 : Ops (w.alloc (.cells fiveCells 37)) (w.heap.size + 1) (some ⟨w.heap.size, 0, none⟩) 5 5 five := lit_ops w five fiveCells 5 rfl rfl (by omega)
  have HP := Lib.hid (play8 _ _ 5 5 five 3 _ F0 (by simp) (by omega))
  have HX := Lib.hid (fun e x h => alive_e (w.alloc (.cells fiveCells 37)) x 3 five five_e five_a five_n (e := e) h)
  have E12 := Lib.hid (fun B1 B2 A1 A2 n1 n2 c1 c2 a b w h1 h2 => equal12 B1 B2 A1 A2 n1 n2 c1 c2 a b w h1 h2)
  have E13 := Lib.hid (fun B1 B2 A1 A2 n1 n2 c1 c2 a b w h1 h2 => equal13 B1 B2 A1 A2 n1 n2 c1 c2 a b w h1 h2)
  clear F0
  unfold fiveCells at HP HX B0
  go_enter Try.func14, Try.ntmps14
  go_wp2_with fail
  refine (HP.out).mono ?_; rintro e x1 hx
  obtain ⟨A1, c1, A2, c2, rfl, hi1, hi2, hb1⟩ := HX.out _ _ hx
  have X1 := Lib.hid hi1
  have X2 := Lib.hid hi2
  have B1 := Lib.hid (B0.out.trans (hb1.mono B0.out.size))
  clear hx hi1 hi2 hb1
  have hi16 := size25_of (l := [-1, -1, -1, -1, -1, 1, -1, -1, -1, -1, -1, -1, -1, -1, -1, -1]) rfl
  have ha16 := arr_all [-1, -1, -1, -1, -1, 1, -1, -1, -1, -1, -1, -1, -1, -1, -1, -1]
  go_wp2_with (refine wpList_store_new rfl 25 (.tmp 2) (.tmp 14) rfl x1 (icells [-1, -1, -1, -1, -1, 1, -1, -1, -1, -1, -1, -1, -1, -1, -1, -1]).toArray rfl rfl 25 (icells zero16).toArray hi16 (z16_size rfl) ha16 ?_)
  have Y1 : Hid (Below x1.heap.size x1 ((x1.alloc (.cells (icells [-1, -1, -1, -1, -1, 1, -1, -1, -1, -1, -1, -1, -1, -1, -1, -1]).toArray 25)).alloc (.cells #[.int .i64 0, .int .i64 0, .int .i64 0, .int .i64 4, .int .i64 0] 26))) := Lib.hid (two_blocks x1 _ _)
  have hl1 := ints_lit (x1.alloc (.cells (icells [-1, -1, -1, -1, -1, 1, -1, -1, -1, -1, -1, -1, -1, -1, -1, -1]).toArray 25)) 26 [0, 0, 0, 4, 0] #[.int .i64 0, .int .i64 0, .int .i64 0, .int .i64 4, .int .i64 0] 5 rfl rfl (by omega)
  rw [World.size_alloc] at hl1
  refine (E12.out _ _ _ _ _ _ _ _ _ _ _ (Words.Rd.below X1.out Y1.out (Nat.le_refl _)) hl1).mono ?_; rintro e w2 he
  obtain ⟨rfl, q, rfl⟩ := he.yes rfl
  have k0 : WI ((x1.alloc (.cells (icells [-1, -1, -1, -1, -1, 1, -1, -1, -1, -1, -1, -1, -1, -1, -1, -1]).toArray 25)).alloc (.cells #[.int .i64 0, .int .i64 0, .int .i64 0, .int .i64 4, .int .i64 0] 26)) x1.heap.size 25 [-1, -1, -1, -1, -1, 1, -1, -1, -1, -1, -1, -1, -1, -1, -1, -1] := (WI.new x1 25 _).alloc _
  have k5 := k0.cell (i := 5) (x := 1) rfl
  have k2 := k0.cell (i := 2) (x := -1) rfl
  clear k0 he hl1
  go_wp2_with fail
  have Y2 : Hid (Below x1.heap.size x1 ((((x1.alloc (.cells (icells [-1, -1, -1, -1, -1, 1, -1, -1, -1, -1, -1, -1, -1, -1, -1, -1]).toArray 25)).alloc (.cells #[.int .i64 0, .int .i64 0, .int .i64 0, .int .i64 4, .int .i64 0] 26)).drewN q).alloc (.cells #[.int .i64 (-1), .int .i64 5, .int .i64 (-1)] 3))) := Lib.hid ((below_drewN Y1.out q).alloc Y1.out.size _)
  have hl2 := ints_lit (((x1.alloc (.cells (icells [-1, -1, -1, -1, -1, 1, -1, -1, -1, -1, -1, -1, -1, -1, -1, -1]).toArray 25)).alloc (.cells #[.int .i64 0, .int .i64 0, .int .i64 0, .int .i64 4, .int .i64 0] 26)).drewN q) 3 [-1, 5, -1] #[.int .i64 (-1), .int .i64 5, .int .i64 (-1)] 3 rfl rfl (by omega)
  have hsz : (((x1.alloc (.cells (icells [-1, -1, -1, -1, -1, 1, -1, -1, -1, -1, -1, -1, -1, -1, -1, -1]).toArray 25)).alloc (.cells #[.int .i64 0, .int .i64 0, .int .i64 0, .int .i64 4, .int .i64 0] 26)).drewN q).heap.size = x1.heap.size + 1 + 1 := by show ((x1.alloc (.cells (icells [-1, -1, -1, -1, -1, 1, -1, -1, -1, -1, -1, -1, -1, -1, -1, -1]).toArray 25)).alloc (.cells #[.int .i64 0, .int .i64 0, .int .i64 0, .int .i64 4, .int .i64 0] 26)).heap.size = _; rw [World.size_alloc, World.size_alloc]
  rw [hsz] at hl2
  have BF := Lib.hid (B1.out.trans (Y2.out.mono B1.out.size))
  refine (E13.out _ _ _ _ _ _ _ _ _ _ _ (Words.Rd.below X2.out Y2.out (Nat.le_refl _)) hl2).mono ?_; rintro e w2 he
  obtain ⟨rfl, q2, rfl⟩ := he.yes rfl
  clear he hl2
  go_wp2_with fail
  go_ret
  exact ⟨rfl, below_drewN BF.out _⟩
end Go.Proofs.Ytegllglfnngijaa.Rem
