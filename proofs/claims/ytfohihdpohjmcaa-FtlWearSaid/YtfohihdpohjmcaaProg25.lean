/-
  What read and program return.
-/
import Derived.Test.YtfohihdpohjmcaaDev
namespace Go.Proofs.Ytfohihdpohjmcaa.Ftl
open Go.ChangeShapes Go.WideShapes Go.ChangeAt Go.RowKit Words
open Nand (Blk Nop OwnFl errOf nextOf dataOf oval)
set_option linter.unusedVariables false

theorem at26_ring (T : Nat) (w : World) : Calls Try.prog 26 #[.int .i64 (T % 32 : Nat)] w fun e w' => e = .returned (oval ⟨0, (T / 4 % 8 : Nat), (T % 4 : Nat), 0⟩) ∧ Below w.heap.size w w' := by
  have h := at26 (T % 32) w (by omega)
  have e1 : T % 32 / 4 = T / 4 % 8 := by omega
  have e2 : T % 32 % 4 = T % 4 := by omega
  rw [e1, e2] at h
  exact h
set_option maxHeartbeats 2000000 in
theorem read22 (base g : Nat) (l : List Blk) (pl : List Int) (h : Int) (n t : Nat) (w : World) (d : DV w base g l pl h) (hs : base ≤ w.heap.size) (hn : pl[n]? = some ((t % 32 : Nat) : Int)) (he : errOf l (opR t 0) = 0) (hx : nextOf l (opR t 0) = l) :
    Calls Try.prog 22 #[.pointer (some ⟨g, 0, none⟩), .int .i64 n] w fun e w' => e = .returned (.int .i64 (dataOf l (opR t 0))) ∧ DV w' base g l pl h ∧ Fr base g w w' := by
  have HS := Lib.hid (fun x (dx : DV x base g l pl h) (hz : base ≤ x.heap.size) => step27 base g l pl h (opR t 0) x dx hz he)
  rw [hx] at HS
  have HA := Lib.hid (at26_ring t)
  obtain ⟨r, c, d⟩ := d
  have hn16 : n < 16 := by have := (List.getElem?_eq_some_iff.1 hn).1; rw [d.len] at this; exact this
  have c0 := d.at_ hn
  have D0 := Lib.hid d
  unfold opR at HS ⊢
  generalize dataOf l _ = v at *
  clear d he hx hn
  generalize t / 4 % 8 = bk at *
  generalize t % 4 = pg at *
  generalize t % 32 = p at *
  unfold oval at HS HA
  simp only at HS HA
  go_enter Try.func22, Try.ntmps22
  go_wp2_with fail
  refine (HA.out _).mono ?_; rintro e x1 ⟨rfl, b1⟩
  have F1 := Lib.hid ((Fr.refl base g w).below hs b1)
  have D1 := Lib.hid (D0.out.below b1)
  clear b1 c0
  go_wp2_with fail
  have F2 : Hid (Fr base g w (x1.alloc (.cells #[.int .i64 3, .int .i64 bk, .int .i64 pg, .int .i64 0] 62))) := Lib.hid (F1.out.alloc hs _)
  refine (HS.out _ ⟨r, c, D1.out.alloc _⟩ (Nat.le_trans hs F2.out.size)).mono ?_; rintro e x2 ⟨rfl, d2, f2⟩
  have D2 := Lib.hid d2
  have F3 := Lib.hid (F2.out.trans f2)
  clear d2 f2
  go_wp2_with fail
  go_ret
  exact ⟨rfl, D2.out, F3.out⟩
set_option maxHeartbeats 4000000 in
theorem program25 (base g : Nat) (l : List Blk) (pl : List Int) (T n : Nat) (v : Int) (w : World) (d : DV w base g l pl ((T % 32 : Nat) : Int)) (hs : base ≤ w.heap.size) (hn : n < 16) (he : errOf l (opP T v) = 0) :
    Calls Try.prog 25 #[.pointer (some ⟨g, 0, none⟩), .int .i64 n, .int .i64 v] w fun e w' => e = .returned (.tuple #[]) ∧ DV w' base g (nextOf l (opP T v)) (pl.set n ((T % 32 : Nat) : Int)) (((T + 1) % 32 : Nat) : Int) ∧ Fr base g w w' := by
  have HS := Lib.hid (fun x (dx : DV x base g l pl ((T % 32 : Nat) : Int)) (hz : base ≤ x.heap.size) => step27 base g l pl _ (opP T v) x dx hz he)
  have HA := Lib.hid (at26_ring T)
  have hT : (T + 1) % 32 = (T % 32 + 1) % 32 := by omega
  have hp : T % 32 < 32 := by omega
  rw [hT]
  obtain ⟨r, c, d⟩ := d
  have c0 := d.head
  have D0 := Lib.hid d
  generalize nextOf l _ = l' at *
  generalize dataOf l _ = v2 at *
  unfold opP at HS
  clear d he hT
  generalize T / 4 % 8 = bk at *
  generalize T % 4 = pg at *
  generalize T % 32 = p at *
  have hc : (((p + 1) % 32 : Nat) : Int) = ((p : Int) + 1) % 32 := by omega
  rw [hc]
  clear hc
  unfold oval at HS HA
  simp only at HS HA
  go_enter Try.func25, Try.ntmps25
  go_wp2_with fail
  refine (HA.out _).mono ?_; rintro e x1 ⟨rfl, b1⟩
  have F1 := Lib.hid ((Fr.refl base g w).below hs b1)
  have D1 := Lib.hid (D0.out.below b1)
  clear b1 c0
  go_wp2_with fail
  have F2 : Hid (Fr base g w (x1.alloc (.cells #[.int .i64 1, .int .i64 bk, .int .i64 pg, .int .i64 v] 62))) := Lib.hid (F1.out.alloc hs _)
  refine (HS.out _ ⟨r, c, D1.out.alloc _⟩ (Nat.le_trans hs F2.out.size)).mono ?_; rintro e x2 ⟨rfl, ⟨r2, k2, d2⟩, f2⟩
  have F3 := Lib.hid (F2.out.trans f2)
  obtain ⟨y, hy⟩ : ∃ y, pl[n]? = some y := ⟨_, List.getElem?_eq_getElem (by rw [d2.len]; exact hn)⟩
  have a1 := d2.head
  have a2 := d2.at_ hy
  have a3 := d2.fro (1 + n)
  have d3 := d2.setAt hn (p : Int)
  have e1 := d3.head
  have e2 := d3.fro 17
  have D4 := Lib.hid (d3.setHead (((p : Int) + 1) % 32))
  have F4 := Lib.hid ((F3.out.setG d2.bg (1 + n) (.int .i64 p)).setG d2.bg 17 (.int .i64 (((p : Int) + 1) % 32)))
  clear d2 f2 hy d3
  go_wp2_with fail
  go_region
  go_wp2_with fail
  go_end0
  refine ⟨rfl, ⟨r2, k2, ?_⟩, ?_⟩
  · exact D4.out.drew
  · exact F4.out.drew
end Go.Proofs.Ytfohihdpohjmcaa.Ftl
