/-
  A step: the program's own.
-/
import Derived.Test.YtkhcaobmohppnaaDGive
import Derived.Test.YtkhcaobmohppnaaDStep
namespace Go.Proofs.Ytkhcaobmohppnaa.Spc
open Go.ChangeShapes Go.WideShapes Go.ChangeAt Go.RowKit Words Go.Sort
set_option linter.unusedVariables false

theorem ns_no {w w' : World} {s : Int} {l : List Gp} {o : Sp} (h : ser s l o ≠ 0) (b : Below w.heap.size w w') : NS w s l o (.returned (.tuple #[.slice none 0 0, aval (ser s l o) (sat s l o)])) w' := by
  obtain ⟨h1, h2⟩ := sgl_no h
  unfold NS
  rw [h1]
  exact ⟨none, 0, rfl, Go.World.ownsRow_nil w' _ 36 2, b⟩
theorem ns_yes {w w' : World} {s : Int} {l : List Gp} {o : Sp} {A : Option Addr} {m c : Nat} (ho : OwnGp w' w.heap.size A m c (sgl s l o)) (b : Below w.heap.size w w') : NS w s l o (.returned (.tuple #[.slice A m c, aval (ser s l o) (sat s l o)])) w' := by
  have := ho.len
  subst this
  exact ⟨A, c, rfl, ho, b⟩
set_option maxHeartbeats 4000000 in
set_option maxRecDepth 100000 in
theorem step_form (B : Nat) (A : Option Addr) (n c : Nat) (l : List Gp) (s k a m : Int) (w : World) (h : Gps w B A n c l) (hwf : WfG l) (hB : B ≤ w.heap.size) (hok : okRow s l = false) :
    Calls Try.prog 9 #[.int .i64 s, .slice A n c, .agg #[.int .i64 k, .int .i64 a, .int .i64 m]] w (NS w s l ⟨k, a, m⟩) := by
  obtain ⟨wb, hwb⟩ : ∃ wb, (w.alloc (.cells #[.int .i64 k, .int .i64 a, .int .i64 m] 24)).alloc (.cells #[.int .i64 0, .int .i64 0] 27) = wb := ⟨_, rfl⟩
  have bx : Below w.heap.size w wb := by rw [← hwb]; exact two_blocks w _ _
  have gy : Whole wb (w.heap.size + 1) 27 #[.int .i64 0, .int .i64 0] := by
    rw [← hwb]
    have := Whole.new (w.alloc (.cells #[.int .i64 k, .int .i64 a, .int .i64 m] 24)) 27 #[.int .i64 0, .int .i64 0]
    rwa [World.size_alloc] at this
  have HNS := Lib.hid (fun (w' : World) (b : Below w.heap.size w w') => ns_err (ser_form ⟨k, a, m⟩ hok) (by decide) b)
  have HB : Hid (∀ x : World, Below wb.heap.size wb x → Whole x (w.heap.size + 1) 27 #[.int .i64 0, .int .i64 0] ∧ Below w.heap.size w x ∧ Gps x B A n c l ∧ B ≤ x.heap.size) := Lib.hid fun x b => ⟨whole_below2 gy b, bx.trans (b.mono bx.size), Words.Rd.below h (bx.trans (b.mono bx.size)) hB, Nat.le_trans hB (bx.trans (b.mono bx.size)).size⟩
  have HS := Lib.hid (size25 s wb)
  have HR := Lib.hid (fun (x : World) (b : Below wb.heap.size wb x) => right12 B A n c l x (HB.out x b).2.2.1 hwf (HB.out x b).2.2.2)
  have HE := Lib.hid (fun (h0 : szOk s = true) (h1 : va 4096 l = true) (x : World) (b : Below wb.heap.size wb x) => ends26 B A n c l s x (HB.out x b).2.2.1 (HB.out x b).2.2.2 h0 h1)
  have B0 := Lib.hid (Below.refl wb.heap.size wb)
  clear h hwf hB bx gy
  cases h0 : szOk s with
  | false =>
    rw [h0] at HS
    obtain ⟨g2, b2, _, _⟩ := HB.out wb B0.out
    have u0 := g2.cell 0
    have u1 := g2.cell 1
    have u2 := g2.frozen 0
    have u3 := g2.frozen 1
    simp at u0 u1
    have X5 := Lib.hid (fill_an g2 rfl 1 0)
    have P5 := Lib.hid (HNS.out _ (fill_below b2 (show w.heap.size ≤ w.heap.size + 1 by omega) 1 0))
    clear g2 b2 h0
    go_enter Try.func9, Try.ntmps9
    go_wp2_with fail
    refine (HS.out).mono ?_; rintro e w2 ⟨rfl, rfl⟩
    go_wp2_with fail
    refine bodyPost_ret (results_two rfl rfl X5.out) rfl ?_
    exact P5.out
  | true =>
    rw [h0] at HS
    cases h1 : va 4096 l with
    | false =>
      rw [h1] at HR
      have HR2 := Lib.hid (HR.out wb B0.out)
      clear h0 h1
      go_enter Try.func9, Try.ntmps9
      go_wp2_with fail
      refine (HS.out).mono ?_; rintro e w2 ⟨rfl, rfl⟩
      go_wp2_with fail
      refine (HR2.out).mono ?_; rintro e w3 ⟨rfl, b3⟩
      obtain ⟨g2, b2, _, _⟩ := HB.out w3 b3
      have u0 := g2.cell 0
      have u1 := g2.cell 1
      have u2 := g2.frozen 0
      have u3 := g2.frozen 1
      simp at u0 u1
      have X5 := Lib.hid (fill_an g2 rfl 1 0)
      have P5 := Lib.hid (HNS.out _ (fill_below b2 (show w.heap.size ≤ w.heap.size + 1 by omega) 1 0))
      clear g2 b2 b3
      go_wp2_with fail
      refine bodyPost_ret (results_two rfl rfl X5.out) rfl ?_
      exact P5.out
    | true =>
      rw [h1] at HR
      have HE := Lib.hid (HE.out h0 h1)
      rw [hok] at HE
      have HR2 := Lib.hid (HR.out wb B0.out)
      clear h0 h1
      go_enter Try.func9, Try.ntmps9
      go_wp2_with fail
      refine (HS.out).mono ?_; rintro e w2 ⟨rfl, rfl⟩
      go_wp2_with fail
      refine (HR2.out).mono ?_; rintro e w3 ⟨rfl, b3⟩
      have HE2 := Lib.hid (HE.out w3 b3)
      have B3 := Lib.hid b3
      clear b3
      go_wp2_with fail
      refine (HE2.out).mono ?_; rintro e w4 ⟨rfl, b4⟩
      obtain ⟨g2, b2, _, _⟩ := HB.out w4 (B3.out.trans (b4.mono B3.out.size))
      have u0 := g2.cell 0
      have u1 := g2.cell 1
      have u2 := g2.frozen 0
      have u3 := g2.frozen 1
      simp at u0 u1
      have X5 := Lib.hid (fill_an g2 rfl 1 0)
      have P5 := Lib.hid (HNS.out _ (fill_below b2 (show w.heap.size ≤ w.heap.size + 1 by omega) 1 0))
      clear g2 b2 b4
      go_wp2_with fail
      refine bodyPost_ret (results_two rfl rfl X5.out) rfl ?_
      exact P5.out
theorem ok_both {s : Int} {l : List Gp} (h : okRow s l = true) : szOk s = true ∧ va 4096 l = true := by
  refine ⟨?_, va_of h⟩
  obtain ⟨h1, h2, _⟩ := ok_ch h
  unfold szOk
  simp [h1, h2]
set_option maxHeartbeats 4000000 in
set_option maxRecDepth 100000 in
theorem step_ok (B : Nat) (A : Option Addr) (n c : Nat) (l : List Gp) (s k a m : Int) (w : World) (h : Gps w B A n c l) (hwf : WfG l) (hB : B ≤ w.heap.size) (hok : okRow s l = true) :
    Calls Try.prog 9 #[.int .i64 s, .slice A n c, .agg #[.int .i64 k, .int .i64 a, .int .i64 m]] w (NS w s l ⟨k, a, m⟩) := by
  have mx := mixedO
  obtain ⟨h0, h1⟩ := ok_both hok
  have hlen := ok_len hok
  have hll := h.len
  obtain ⟨wb, hwb⟩ : ∃ wb, (w.alloc (.cells #[.int .i64 k, .int .i64 a, .int .i64 m] 24)).alloc (.cells #[.int .i64 0, .int .i64 0] 27) = wb := ⟨_, rfl⟩
  have bx : Below w.heap.size w wb := by rw [← hwb]; exact two_blocks w _ _
  have gx : Whole wb w.heap.size 24 #[.int .i64 k, .int .i64 a, .int .i64 m] := by rw [← hwb]; exact (Whole.new w 24 _).alloc _
  have gy : Whole wb (w.heap.size + 1) 27 #[.int .i64 0, .int .i64 0] := by
    rw [← hwb]
    have := Whole.new (w.alloc (.cells #[.int .i64 k, .int .i64 a, .int .i64 m] 24)) 27 #[.int .i64 0, .int .i64 0]
    rwa [World.size_alloc] at this
  have HB : Hid (∀ x : World, Below wb.heap.size wb x → Whole x w.heap.size 24 #[.int .i64 k, .int .i64 a, .int .i64 m] ∧ Whole x (w.heap.size + 1) 27 #[.int .i64 0, .int .i64 0] ∧ Below w.heap.size w x ∧ Gps x B A n c l ∧ B ≤ x.heap.size) := Lib.hid fun x b => ⟨whole_below2 gx b, whole_below2 gy b, bx.trans (b.mono bx.size), Words.Rd.below h (bx.trans (b.mono bx.size)) hB, Nat.le_trans hB (bx.trans (b.mono bx.size)).size⟩
  have HS := size25 s wb
  have HR := right12 B A n c l wb (HB.out wb (Below.refl _ _)).2.2.2.1 hwf (HB.out wb (Below.refl _ _)).2.2.2.2
  have HE := fun (x : World) (b : Below wb.heap.size wb x) => ends26 B A n c l s x (HB.out x b).2.2.2.1 (HB.out x b).2.2.2.2 h0 h1
  have HC := fun (x : World) (b : Below wb.heap.size wb x) => clone27 B A n c l x (HB.out x b).2.2.2.1 (HB.out x b).2.2.2.2 (by omega)
  rw [h0] at HS
  rw [h1] at HR
  rw [hok] at HE
  have HS := Lib.hid HS
  have HR := Lib.hid HR
  have HE := Lib.hid HE
  have HC := Lib.hid HC
  have HP := fun (x : World) (g : Nat) (A2 : Option Addr) (n2 c2 : Nat) (d : RD x w.heap.size g s A2 n2 c2 l) (hx : w.heap.size ≤ x.heap.size) => perform28 w.heap.size g n2 c2 s A2 l ⟨k, a, m⟩ x d hok hx
  have HNO := Lib.hid (fun (x : World) => @ns_no w x s l ⟨k, a, m⟩)
  have HYES := Lib.hid (fun (x : World) (A2 : Option Addr) (n2 c2 : Nat) => @ns_yes w x s l ⟨k, a, m⟩ A2 n2 c2)
  unfold sval PF at HP
  simp only at HP
  clear h hwf hB bx gx gy h0 h1 hok hlen hll
  generalize ser s l ⟨k, a, m⟩ = en at *
  generalize sat s l ⟨k, a, m⟩ = an at *
  generalize sgl s l ⟨k, a, m⟩ = L at *
  unfold aval at HP
  have HP := Lib.hid HP
  go_enter Try.func9, Try.ntmps9
  go_wp2_with fail
  refine (HS.out).mono ?_; rintro e w2 ⟨rfl, rfl⟩
  go_wp2_with fail
  refine (HR.out).mono ?_; rintro e w3 ⟨rfl, b3⟩
  have HE2 := Lib.hid (HE.out w3 b3)
  have B3 := Lib.hid b3
  clear b3
  go_wp2_with fail
  refine (HE2.out).mono ?_; rintro e w4 ⟨rfl, b4⟩
  have B4 := Lib.hid (B3.out.trans (b4.mono B3.out.size))
  have HC2 := HC.out w4 B4.out
  unfold MadeGp at HC2
  have HC2 := Lib.hid HC2
  clear b4
  obtain ⟨q, hq⟩ : ∃ q, q = l.length := ⟨_, rfl⟩
  rw [← hq] at HC2
  clear hq
  go_wp2_with fail
  refine (HC2.out).mono ?_; rintro e w5 ⟨A5, c5, rfl, o5, b5⟩
  have B5 := Lib.hid (B4.out.trans (b5.mono B4.out.size))
  have S4 := Lib.hid (HB.out w4 B4.out).2.2.1.size
  have bd := boxed w5 (.cells #[.int .i64 s, .slice A5 q c5] 60)
  have S5 := Lib.hid (HB.out w5 B5.out).2.2.1.size
  have d6 : RD (w5.alloc (.cells #[.int .i64 s, .slice A5 q c5] 60)) w.heap.size w5.heap.size s A5 q c5 l := ⟨Whole.new w5 60 _, (o5.more S4.out).below bd (Nat.le_refl _), S5.out⟩
  obtain ⟨w6, hw6⟩ : ∃ w6, w5.alloc (.cells #[.int .i64 s, .slice A5 q c5] 60) = w6 := ⟨_, rfl⟩
  rw [hw6] at d6 bd
  have B6 := Lib.hid (B5.out.trans (bd.mono B5.out.size))
  obtain ⟨gx6, gy6, f6, _, _⟩ := HB.out w6 B6.out
  have q0 := gx6.cell 0
  have q1 := gx6.cell 1
  have q2 := gx6.cell 2
  simp at q0 q1 q2
  have H7 := Lib.hid (HP.out w6 w5.heap.size A5 q c5 d6 f6.size)
  have GY := Lib.hid gy6
  have F6 := Lib.hid f6
  obtain ⟨g, hg⟩ : ∃ g, g = w5.heap.size := ⟨_, rfl⟩
  have hgs : w5.heap.size = g := hg.symm
  rw [← hg] at H7
  clear o5 b5 bd d6 gx6 gy6 f6 hg
  go_wp2_with fail
  refine (H7.out).mono ?_; rintro e w7 ⟨rfl, ⟨A7, n7, c7, d7⟩, f7⟩
  have g7 := whole_K f7.kp GY.out
  have b8 := boxed w7 (.cells #[.int .i64 en, .int .i64 an] 27)
  have d8 := d7.below b8
  have g8 := whole_below2 g7 b8
  have t8 := Whole.new w7 27 #[.int .i64 en, .int .i64 an]
  have f8 : Below w.heap.size w (w7.alloc (.cells #[.int .i64 en, .int .i64 an] 27)) := (F6.out.trans f7.bel).trans (b8.mono (Nat.le_trans F6.out.size f7.bel.size))
  obtain ⟨w8, hw8⟩ : ∃ w8, w7.alloc (.cells #[.int .i64 en, .int .i64 an] 27) = w8 := ⟨_, rfl⟩
  rw [hw8] at d8 g8 t8 f8
  have t0 := t8.cell 0
  have t1 := t8.cell 1
  have u0 := g8.cell 0
  have u1 := g8.cell 1
  have u2 := g8.frozen 0
  have u3 := g8.frozen 1
  have v1 := d8.gaps
  simp at t0 t1 u0 u1
  have X9 := Lib.hid (whole_below2 (fill_an g8 rfl en an) (Below.refl _ _).drew)
  have F9 := Lib.hid (fill_below f8 (show w.heap.size ≤ w.heap.size + 1 by omega) en an).drew
  have D9 := Lib.hid (((d8.fill g8 0 (.int .i64 en)).fill (g8.set_ 0 (.int .i64 en)) 1 (.int .i64 an)).below (Below.refl _ _).drew)
  by_cases he : en = 0
  · have P9 := Lib.hid (HYES.out _ A7 n7 c7 (by have := D9.out.row; rw [if_pos he] at this; exact this) F9.out)
    have he1 : (en != 0) = false := by rw [he]; rfl
    clear d7 f7 g7 b8 d8 g8 t8 f8 he
    go_wp2_with fail
    go_region
    go_wp2_with fail
    refine bodyPost_ret (results_two rfl rfl X9.out) rfl ?_
    exact P9.out
  · have P9 := Lib.hid (HNO.out _ he F9.out)
    have he1 : (en != 0) = true := by rw [bne_iff_ne]; exact he
    clear d7 f7 g7 b8 d8 g8 t8 f8 he
    go_wp2_with fail
    go_region
    go_wp2_with fail
    refine bodyPost_ret (results_two rfl rfl X9.out) rfl ?_
    exact P9.out
theorem step9 (B : Nat) (A : Option Addr) (n c : Nat) (l : List Gp) (s : Int) (o : Sp) (w : World) (h : Gps w B A n c l) (hwf : WfG l) (hB : B ≤ w.heap.size) : Calls Try.prog 9 #[.int .i64 s, .slice A n c, sval o] w (NS w s l o) := by
  obtain ⟨k, a, m⟩ := o
  unfold sval
  cases hok : okRow s l with
  | false => exact step_form B A n c l s k a m w h hwf hB hok
  | true => exact step_ok B A n c l s k a m w h hwf hB hok
end Go.Proofs.Ytkhcaobmohppnaa.Spc
