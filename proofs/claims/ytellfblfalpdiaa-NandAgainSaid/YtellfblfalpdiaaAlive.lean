/-
  The small test that package nand is not empty returns true.
-/
import Derived.Test.YtellfblfalpdiaaPlay
namespace Go.Proofs.Ytellfblfalpdiaa.Nand
open Go.ChangeShapes Go.WideShapes Go.ChangeAt Go.RowKit Words

def aliveOps : List Nop := [⟨1, 0, 0, 7⟩, ⟨1, 0, 2, 0⟩, ⟨3, 0, 0, 0⟩, ⟨1, 0, 0, 8⟩, ⟨2, 0, 0, 0⟩, ⟨3, 0, 0, 0⟩]
theorem alive_errs : (run aliveOps).errs = [0, 3, 0, 6, 0, 3] := by kernel_rfl
theorem alive_read : (run aliveOps).read = [7] := by kernel_rfl
theorem alive_l : (run aliveOps).l[0]? = some (blank 1) := by kernel_rfl
theorem alive_right : right (run aliveOps).l = true := by rw [← runTo_all]; exact runTo_right _ _
theorem EqB.yes {b : Prop} {w w' : World} {e : Ending} (h : EqB b w e w') (hb : b) : e = .returned (.bool true) ∧ ∃ n, w' = w.drewN n := by
  obtain ⟨t, n, rfl, ht, rfl⟩ := h
  rw [ht.2 hb]
  exact ⟨rfl, n, rfl⟩
theorem Inv.fl_ {w wr : World} {s : St} {A5 A6 A7 : Option Addr} {c5 k c6 m c7 : Nat} (h : Inv w wr s A5 c5 A6 k c6 A7 m c7) : Fl wr wr.heap.size A5 8 c5 s.l := h.fl.fl
theorem Inv.errs_ {w wr : World} {s : St} {A5 A6 A7 : Option Addr} {c5 k c6 m c7 : Nat} (h : Inv w wr s A5 c5 A6 k c6 A7 m c7) : Ints wr wr.heap.size A6 k c6 s.errs := Words.Rd.of_own h.errs
theorem Inv.read_ {w wr : World} {s : St} {A5 A6 A7 : Option Addr} {c5 k c6 m c7 : Nat} (h : Inv w wr s A5 c5 A6 k c6 A7 m c7) : Ints wr wr.heap.size A7 m c7 s.read := Words.Rd.of_own h.read
theorem ints_lit (w : World) (t : TypeId) (xs : List Int) (cs : Array Value) (n : Nat) (hc : cs.toList = icells xs) (hn : xs.length = n) (hm : n ≤ 100) : Ints (w.alloc (.cells cs t)) (w.heap.size + 1) (some ⟨w.heap.size, 0, none⟩) n n xs :=
  Words.Rd.new w t cs (0, 0) (icells xs) n hc (by rw [icells_length, Nat.mul_one]; exact hn) (by simp only [maxLen]; omega)
theorem ops_lit (w : World) (xs : List Nop) (cs : Array Value) (n : Nat) (hc : cs.toList = pcells xs) (hn : xs.length = n) (hm : n ≤ 100) : Ops (w.alloc (.cells cs 24)) (w.heap.size + 1) (some ⟨w.heap.size, 0, none⟩) n n xs :=
  Words.Rd.new w 24 cs (0, 0) (pcells xs) n hc (by rw [pcells_length]; omega) (by simp only [maxLen]; omega)
set_option maxHeartbeats 2000000 in
theorem alive19 (w : World) : Calls Try.prog 19 #[] w fun e w' => e = .returned (.bool true) ∧ Below w.heap.size w w' := by
  have B0 : Hid (Below w.heap.size w (w.alloc (.cells (pcells aliveOps).toArray 24))) := Lib.hid ((Below.refl _ _).alloc (Nat.le_refl _) _)
  have HP := Lib.hid (play15 _ _ 6 6 aliveOps _ (ops_lit w aliveOps (pcells aliveOps).toArray 6 (by simp) rfl (by omega)) (by simp) (by omega))
  have hcs : (pcells aliveOps).toArray = #[.int .i64 1, .int .i64 0, .int .i64 0, .int .i64 7, .int .i64 1, .int .i64 0, .int .i64 2, .int .i64 0, .int .i64 3, .int .i64 0, .int .i64 0, .int .i64 0, .int .i64 1, .int .i64 0, .int .i64 0, .int .i64 8, .int .i64 2, .int .i64 0, .int .i64 0, .int .i64 0, .int .i64 3, .int .i64 0, .int .i64 0, .int .i64 0] := by kernel_rfl
  rw [hcs] at HP B0
  clear hcs
  go_enter Try.func19, Try.ntmps19
  go_wp2_with fail
  refine (HP.out).mono ?_; rintro e w1 hp; obtain ⟨A5, c5, A6, c6, A7, m, c7, rfl, hm, I⟩ := hp
  have BI := Lib.hid (B0.out.trans (I.bel.mono B0.out.size))
  have I1 := Lib.hid I
  have hm1 : m = 1 := by have := I.read_.len; rw [alive_read] at this; exact this.symm
  subst hm1
  have HQ1 := Lib.hid (equal17 _ _ _ _ 6 6 _ _ (run aliveOps).errs [0, 3, 0, 6, 0, 3] _ (I.alloc (.cells #[.int .i64 0, .int .i64 3, .int .i64 0, .int .i64 6, .int .i64 0, .int .i64 3] 25)).errs_ (ints_lit w1 25 [0, 3, 0, 6, 0, 3] #[.int .i64 0, .int .i64 3, .int .i64 0, .int .i64 6, .int .i64 0, .int .i64 3] 6 rfl rfl (by omega)))
  clear I hm
  go_wp2_with fail
  refine (HQ1.out).mono ?_; rintro e w2 hq; obtain ⟨rfl, nd, hw2⟩ := EqB.yes hq alive_errs
  have bw2 : Below w1.heap.size w1 w2 := by rw [hw2]; exact below_drewN ((Below.refl _ _).alloc (Nat.le_refl _) _) _
  have I2 := Lib.hid (I1.out.below bw2)
  have BI2 := Lib.hid (BI.out.trans (bw2.mono BI.out.size))
  have HQ2 := Lib.hid (equal18 _ _ _ _ 1 1 _ _ (run aliveOps).read [7] _ (I2.out.alloc (.cells #[.int .i64 7] 3)).read_ (ints_lit w2 3 [7] #[.int .i64 7] 1 rfl rfl (by omega)))
  clear hw2 hq bw2
  go_wp2_with fail
  refine (HQ2.out).mono ?_; rintro e w3 hq; obtain ⟨rfl, nd, hw3⟩ := EqB.yes hq alive_read
  have bw3 : Below w2.heap.size w2 w3 := by rw [hw3]; exact below_drewN ((Below.refl _ _).alloc (Nat.le_refl _) _) _
  have I3 := Lib.hid (I2.out.below bw3)
  have BI3 := Lib.hid (BI2.out.trans (bw3.mono BI2.out.size))
  obtain ⟨g, rfl, _, _⟩ := I3.out.fl.addr (by omega)
  obtain ⟨_, _, _, _, _, cw⟩ := I3.out.fl.cells alive_l
  rw [Nat.zero_mul, Nat.zero_add] at cw
  have HR := Lib.hid (right13 _ _ _ _ _ w3 I3.out.fl_ (Nat.le_refl _))
  rw [alive_right] at HR
  clear hw3 hq bw3
  unfold blank at cw
  go_wp2_with fail
  refine (HR.out).mono ?_; rintro e w4 ⟨rfl, hb4⟩
  have BI4 := Lib.hid (BI3.out.trans (hb4.mono BI3.out.size))
  clear hb4
  go_wp2_with fail
  go_ret
  exact ⟨rfl, BI4.out⟩
end Go.Proofs.Ytellfblfalpdiaa.Nand
