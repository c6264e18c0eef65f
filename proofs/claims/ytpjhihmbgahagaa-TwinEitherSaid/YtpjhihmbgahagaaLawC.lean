/-
  TwinEither, walked under what is asked of the program's three functions.
-/
import Derived.Test.YtpjhihmbgahagaaCon
namespace Go.Proofs.Ytpjhihmbgahagaa.Twn
open Go.ChangeShapes Go.WideShapes Go.ChangeAt Go.RowKit Words
set_option linter.unusedVariables false
set_option linter.unusedSimpArgs false

/-- What is read behind a write that went well. -/
theorem either_key {s : St} {data : Int} {br : Bool} (h : (writeR s data br).2 = 0) : readR (writeR s data br).1 = if br then readR s else (data, 0) := by
  cases br with
  | true => exact (write_broken h).2
  | false => exact (write_whole h).2
set_option maxHeartbeats 4000000 in
theorem either_walk (HW : WriteC) (HR : ReadC) (HT : RightC) (s : St) (data : Int) (br : Bool) (w : World) :
    Calls Try.prog 5 #[sv s, .int .i64 data, .bool br] w fun e w' => e = .returned (.bool true) ∧ Below w.heap.size w w' := by
  have HA := Lib.hid (alive13 HW HR HT (w.alloc (sbox s)))
  have HX := Lib.hid (fun x (b : Below (w.alloc (sbox s)).heap.size (w.alloc (sbox s)) x) =>
    (show Below w.heap.size w x ∧ Whole x w.heap.size 24 (scs s) ∧ w.heap.size < x.heap.size from
      ⟨((Below.refl w.heap.size w).alloc (Nat.le_refl _) _).trans (b.mono (by simp)), whole_below (Whole.new w 24 (scs s)) b (by simp), by have h9 := b.size; rw [World.size_alloc] at h9; omega⟩))
  have H1 := Lib.hid (HR s)
  have H2 := Lib.hid (HW s data br)
  have H3 := Lib.hid (HR (writeR s data br).1)
  have key : (writeR s data br).2 = 0 → readR (writeR s data br).1 = if br then readR s else (data, 0) := either_key
  clear HW HR HT
  obtain ⟨⟨wa, ca, da⟩, ⟨wb, cb, db⟩⟩ := s
  generalize readR (writeR ⟨⟨wa, ca, da⟩, ⟨wb, cb, db⟩⟩ data br).1 = n at H3 key
  generalize readR ⟨⟨wa, ca, da⟩, ⟨wb, cb, db⟩⟩ = o at H1 key
  generalize writeR ⟨⟨wa, ca, da⟩, ⟨wb, cb, db⟩⟩ data br = t at H2 H3 key
  obtain ⟨⟨⟨ta, tc, td⟩, ⟨ua, uc, ud⟩⟩, er⟩ := t
  obtain ⟨n0, n1⟩ := n
  obtain ⟨o0, o1⟩ := o
  unfold Wrote sv scs at H2
  unfold sv scs at H1 H3 ⊢
  unfold sbox at HA HX
  unfold scs at HA HX
  simp only at H1 H2 H3 key
  by_cases he : er = 0
  · subst he
    have key := key rfl
    cases br with
    | false =>
      obtain ⟨rfl, rfl⟩ : n0 = data ∧ n1 = 0 := by simpa using key
      clear key
      go_enter Try.func5, Try.ntmps5
      go_wp2_with fail
      refine (HA.out).mono ?_; rintro e x0 ⟨rfl, b0⟩
      obtain ⟨B0, W0, hs⟩ := HX.out _ b0
      obtain ⟨p0, p1, p2, p3, p4, p5⟩ := six (s := ⟨⟨wa, ca, da⟩, ⟨wb, cb, db⟩⟩) W0
      simp only at p0 p1 p2 p3 p4 p5
      have B0' := Lib.hid B0
      have W0' := Lib.hid W0
      have hs' := Lib.hid hs
      clear b0 B0 W0 hs
      go_wp2_with fail
      refine (H1.out _).mono ?_; rintro e x1 ⟨rfl, b1⟩
      clear p0 p1 p2 p3 p4 p5
      obtain ⟨p0, p1, p2, p3, p4, p5⟩ := six (s := ⟨⟨wa, ca, da⟩, ⟨wb, cb, db⟩⟩) (whole_below W0'.out b1 hs'.out)
      simp only at p0 p1 p2 p3 p4 p5
      have B1 := Lib.hid (B0'.out.trans (b1.mono B0'.out.size))
      clear b1
      go_wp2_with fail
      refine (H2.out _).mono ?_; rintro e x2 ⟨rfl, b2⟩
      clear p0 p1 p2 p3 p4 p5
      have B2 := Lib.hid ((B1.out.trans (b2.mono B1.out.size)))
      clear b2
      go_wp2_with fail
      refine (H3.out _).mono ?_; rintro e x3 ⟨rfl, b3⟩
      have B3 := Lib.hid ((B2.out.alloc B2.out.size _).trans (b3.mono (Nat.le_trans B2.out.size (by simp))))
      clear b3
      go_wp2_with fail
      go_ret
      exact ⟨rfl, B3.out⟩
    | true =>
      obtain ⟨rfl, rfl⟩ : n0 = o0 ∧ n1 = o1 := by simpa using key
      clear key
      go_enter Try.func5, Try.ntmps5
      go_wp2_with fail
      refine (HA.out).mono ?_; rintro e x0 ⟨rfl, b0⟩
      obtain ⟨B0, W0, hs⟩ := HX.out _ b0
      obtain ⟨p0, p1, p2, p3, p4, p5⟩ := six (s := ⟨⟨wa, ca, da⟩, ⟨wb, cb, db⟩⟩) W0
      simp only at p0 p1 p2 p3 p4 p5
      have B0' := Lib.hid B0
      have W0' := Lib.hid W0
      have hs' := Lib.hid hs
      clear b0 B0 W0 hs
      go_wp2_with fail
      refine (H1.out _).mono ?_; rintro e x1 ⟨rfl, b1⟩
      clear p0 p1 p2 p3 p4 p5
      obtain ⟨p0, p1, p2, p3, p4, p5⟩ := six (s := ⟨⟨wa, ca, da⟩, ⟨wb, cb, db⟩⟩) (whole_below W0'.out b1 hs'.out)
      simp only at p0 p1 p2 p3 p4 p5
      have B1 := Lib.hid (B0'.out.trans (b1.mono B0'.out.size))
      clear b1
      go_wp2_with fail
      refine (H2.out _).mono ?_; rintro e x2 ⟨rfl, b2⟩
      clear p0 p1 p2 p3 p4 p5
      have B2 := Lib.hid ((B1.out.trans (b2.mono B1.out.size)))
      clear b2
      go_wp2_with fail
      refine (H3.out _).mono ?_; rintro e x3 ⟨rfl, b3⟩
      have B3 := Lib.hid ((B2.out.alloc B2.out.size _).trans (b3.mono (Nat.le_trans B2.out.size (by simp))))
      clear b3
      go_wp2_with fail
      go_ret
      exact ⟨rfl, B3.out⟩
  · clear key
    have he' : (er == 0) = false := by rw [beq_eq_false_iff_ne]; exact he
    clear he
    go_enter Try.func5, Try.ntmps5
    go_wp2_with fail
    refine (HA.out).mono ?_; rintro e x0 ⟨rfl, b0⟩
    obtain ⟨B0, W0, hs⟩ := HX.out _ b0
    obtain ⟨p0, p1, p2, p3, p4, p5⟩ := six (s := ⟨⟨wa, ca, da⟩, ⟨wb, cb, db⟩⟩) W0
    simp only at p0 p1 p2 p3 p4 p5
    have B0' := Lib.hid B0
    have W0' := Lib.hid W0
    have hs' := Lib.hid hs
    clear b0 B0 W0 hs
    go_wp2_with fail
    refine (H1.out _).mono ?_; rintro e x1 ⟨rfl, b1⟩
    clear p0 p1 p2 p3 p4 p5
    obtain ⟨p0, p1, p2, p3, p4, p5⟩ := six (s := ⟨⟨wa, ca, da⟩, ⟨wb, cb, db⟩⟩) (whole_below W0'.out b1 hs'.out)
    simp only at p0 p1 p2 p3 p4 p5
    have B1 := Lib.hid (B0'.out.trans (b1.mono B0'.out.size))
    clear b1
    go_wp2_with fail
    refine (H2.out _).mono ?_; rintro e x2 ⟨rfl, b2⟩
    clear p0 p1 p2 p3 p4 p5
    have B2 := Lib.hid ((B1.out.trans (b2.mono B1.out.size)))
    clear b2
    go_wp2_with fail
    refine (H3.out _).mono ?_; rintro e x3 ⟨rfl, b3⟩
    have B3 := Lib.hid ((B2.out.alloc B2.out.size _).trans (b3.mono (Nat.le_trans B2.out.size (by simp))))
    clear b3
    go_wp2_with fail
    go_ret
    exact ⟨rfl, B3.out⟩
end Go.Proofs.Ytpjhihmbgahagaa.Twn
