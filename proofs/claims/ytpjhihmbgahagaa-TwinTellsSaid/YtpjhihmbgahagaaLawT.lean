/-
  TwinTells, walked under what is asked of the program's three functions.
-/
import Derived.Test.YtpjhihmbgahagaaCon
import Derived.BigFrame
import Derived.Deep.RegionHeld3
namespace Go.Proofs.Ytpjhihmbgahagaa.Twn
open Go.ChangeShapes Go.WideShapes Go.ChangeAt Go.RowKit Words
set_option linter.unusedVariables false
set_option linter.unusedSimpArgs false

/-- What the last line's calls leave: the parameter's box and both answers' boxes. -/
structure TS (w : World) (g1 g2 : Nat) (s t : St) (x : World) : Prop where
  bel : Below w.heap.size w x
  par : Whole x w.heap.size 24 (scs s)
  one : Whole x g1 24 (scs t)
  two : Whole x g2 24 (scs t)
  l0 : w.heap.size < x.heap.size
  l1 : g1 < x.heap.size
  l2 : g2 < x.heap.size
theorem TS.next {w x y : World} {g1 g2 : Nat} {s t : St} (h : TS w g1 g2 s t x) (b : Below x.heap.size x y) : TS w g1 g2 s t y :=
  ⟨h.bel.trans (b.mono h.bel.size), whole_below h.par b h.l0, whole_below h.one b h.l1, whole_below h.two b h.l2, Nat.lt_of_lt_of_le h.l0 b.size, Nat.lt_of_lt_of_le h.l1 b.size, Nat.lt_of_lt_of_le h.l2 b.size⟩
theorem TS.drew {w x : World} {g1 g2 : Nat} {s t : St} (h : TS w g1 g2 s t x) : TS w g1 g2 s t x.drew := ⟨h.bel.drew, h.par, h.one, h.two, h.l0, h.l1, h.l2⟩
/-- What the document's law wants of Read. -/
def wantR (s : St) : Int × Int := if right s then (if newer s < 0 then (0, 3) else (if newer s = 0 then s.a.d else s.b.d, 0)) else (0, 1)
theorem want_is (s : St) : wantR s = readR s := by
  unfold wantR readR cur
  rcases newer_cases s with h | h | h <;> rw [h] <;> simp
/-- The box's cells, one by one. -/
theorem TS.full {w x : World} {g1 g2 : Nat} {wa wb ta ua : Bool} {ca da cb db tc td uc ud : Int} (h : TS w g1 g2 ⟨⟨wa, ca, da⟩, ⟨wb, cb, db⟩⟩ ⟨⟨ta, tc, td⟩, ⟨ua, uc, ud⟩⟩ x) : TS w g1 g2 ⟨⟨wa, ca, da⟩, ⟨wb, cb, db⟩⟩ ⟨⟨ta, tc, td⟩, ⟨ua, uc, ud⟩⟩ x ∧ x.cell? ⟨w.heap.size, 0, none⟩ = some (Value.bool wa) ∧ x.cell? ⟨w.heap.size, 1, none⟩ = some (Value.int .i64 ca) ∧ x.cell? ⟨w.heap.size, 2, none⟩ = some (Value.int .i64 da) ∧ x.cell? ⟨w.heap.size, 3, none⟩ = some (Value.bool wb) ∧ x.cell? ⟨w.heap.size, 4, none⟩ = some (Value.int .i64 cb) ∧ x.cell? ⟨w.heap.size, 5, none⟩ = some (Value.int .i64 db) ∧ x.cell? ⟨g1, 0, none⟩ = some (Value.bool ta) ∧ x.cell? ⟨g1, 1, none⟩ = some (Value.int .i64 tc) ∧ x.cell? ⟨g1, 2, none⟩ = some (Value.int .i64 td) ∧ x.cell? ⟨g1, 3, none⟩ = some (Value.bool ua) ∧ x.cell? ⟨g1, 4, none⟩ = some (Value.int .i64 uc) ∧ x.cell? ⟨g1, 5, none⟩ = some (Value.int .i64 ud) ∧ x.cell? ⟨g2, 0, none⟩ = some (Value.bool ta) ∧ x.cell? ⟨g2, 1, none⟩ = some (Value.int .i64 tc) ∧ x.cell? ⟨g2, 2, none⟩ = some (Value.int .i64 td) ∧ x.cell? ⟨g2, 3, none⟩ = some (Value.bool ua) ∧ x.cell? ⟨g2, 4, none⟩ = some (Value.int .i64 uc) ∧ x.cell? ⟨g2, 5, none⟩ = some (Value.int .i64 ud) := by
  obtain ⟨p0, p1, p2, p3, p4, p5⟩ := six h.par
  obtain ⟨q0, q1, q2, q3, q4, q5⟩ := six h.one
  obtain ⟨r0, r1, r2, r3, r4, r5⟩ := six h.two
  exact ⟨h, p0, p1, p2, p3, p4, p5, q0, q1, q2, q3, q4, q5, r0, r1, r2, r3, r4, r5⟩
theorem eq_int (t : TypeId) (k : Int) (x : World) : (binOp .eql t (.int .i64 k) (.int .i64 k)).run Try.prog x = .ok (.bool true) x := by
  simp [binOp, Op.intCmp]
theorem eq_bool (r : Bool) (x : World) : (binOp .eql 4 (.bool r) (.bool r)).run Try.prog x = .ok (.bool true) x := by
  have h := run_equalIn_bool' (P := Try.prog) x 9999 4 r r Try.underlying4
  simp only [binOp, Op.equal, Op.maxDepth, Sem.run_bind, h, Result.andThen_ok, Sem.run_pure, beq_self_eq_true]
set_option maxHeartbeats 8000000 in
theorem tells_walk (HW : WriteC) (HR : ReadC) (HT : RightC) (s : St) (data : Int) (br : Bool) (w : World) :
    Calls Try.prog 3 #[sv s, .int .i64 data, .bool br] w fun e w' => e = .returned (.bool true) ∧ Below w.heap.size w w' := by
  have HX := Lib.hid (fun x (b : Below (w.alloc (sbox s)).heap.size (w.alloc (sbox s)) x) =>
    (show Below w.heap.size w x ∧ Whole x w.heap.size 24 (scs s) ∧ w.heap.size < x.heap.size from
      ⟨((Below.refl w.heap.size w).alloc (Nat.le_refl _) _).trans (b.mono (by simp)), whole_below (Whole.new w 24 (scs s)) b (by simp), by have h9 := b.size; rw [World.size_alloc] at h9; omega⟩))
  have H1 := Lib.hid (HW s data br (w.alloc (sbox s)))
  have H2 := Lib.hid (kwrite8 s data br)
  have H3 := Lib.hid (HR s)
  have H4 := Lib.hid (newer10 s)
  have H5 := Lib.hid (right11 s)
  have H6 := Lib.hid (HT s)
  have hw := want_is s
  unfold wantR at hw
  clear HW HR HT
  obtain ⟨⟨wa, ca, da⟩, ⟨wb, cb, db⟩⟩ := s
  generalize writeR ⟨⟨wa, ca, da⟩, ⟨wb, cb, db⟩⟩ data br = t at H1 H2
  obtain ⟨⟨⟨ta, tc, td⟩, ⟨ua, uc, ud⟩⟩, er⟩ := t
  generalize readR ⟨⟨wa, ca, da⟩, ⟨wb, cb, db⟩⟩ = o at H3 hw
  obtain ⟨o0, o1⟩ := o
  generalize hr : right ⟨⟨wa, ca, da⟩, ⟨wb, cb, db⟩⟩ = R at H5 H6 hw
  clear hr
  unfold Wrote at H1 H2
  have HC := eq_st ⟨⟨ta, tc, td⟩, ⟨ua, uc, ud⟩⟩ ⟨⟨ta, tc, td⟩, ⟨ua, uc, ud⟩⟩ rfl
  unfold sv scs at H1 H2 H3 H4 H5 H6 HC ⊢
  unfold sbox at H1 HX H4
  unfold scs at H1 HX H4
  simp only at H1 H2 H3 H4 H5 H6 HC hw
  cases R with
  | true =>
    rw [if_pos rfl] at hw
    rcases newer_cases ⟨⟨wa, ca, da⟩, ⟨wb, cb, db⟩⟩ with h | h | h
    · rw [h] at H4 hw
      obtain ⟨rfl, rfl⟩ : o0 = 0 ∧ o1 = 3 := by simpa using hw.symm
      clear hw h
      go_enter Try.func3, Try.ntmps3
      go_wp2_with fail
      refine (H1.out).mono ?_; rintro e x1 ⟨rfl, b1⟩
      obtain ⟨B1, W1, hs1⟩ := HX.out _ b1
      have W1' := Lib.hid (W1.alloc (.cells #[Value.bool ta, Value.int .i64 tc, Value.int .i64 td, Value.bool ua, Value.int .i64 uc, Value.int .i64 ud] 24))
      obtain ⟨p0, p1, p2, p3, p4, p5⟩ := six (s := ⟨⟨wa, ca, da⟩, ⟨wb, cb, db⟩⟩) W1'.out
      simp only at p0 p1 p2 p3 p4 p5
      have N1 := Lib.hid (Whole.new x1 24 #[Value.bool ta, Value.int .i64 tc, Value.int .i64 td, Value.bool ua, Value.int .i64 uc, Value.int .i64 ud])
      have B1' := Lib.hid (B1.alloc B1.size (.cells #[Value.bool ta, Value.int .i64 tc, Value.int .i64 td, Value.bool ua, Value.int .i64 uc, Value.int .i64 ud] 24))
      have S1 := Lib.hid hs1
      clear b1 B1 W1 hs1
      go_wp2_with fail
      refine (H2.out _).mono ?_; rintro e x2 ⟨rfl, b2⟩
      have TS0 : Hid (TS w x1.heap.size x2.heap.size ⟨⟨wa, ca, da⟩, ⟨wb, cb, db⟩⟩ ⟨⟨ta, tc, td⟩, ⟨ua, uc, ud⟩⟩ (x2.alloc (.cells #[Value.bool ta, Value.int .i64 tc, Value.int .i64 td, Value.bool ua, Value.int .i64 uc, Value.int .i64 ud] 24))) := Lib.hid
        ⟨(B1'.out.trans (b2.mono B1'.out.size)).alloc (B1'.out.trans (b2.mono B1'.out.size)).size _, (whole_below W1'.out b2 (by simp; exact Nat.lt_succ_of_lt S1.out)).alloc _, (whole_below N1.out b2 (by simp)).alloc _, Whole.new x2 24 _,
          by have h9 := b2.size; have := S1.out; simp at h9 ⊢; omega, by have h9 := b2.size; simp at h9 ⊢; omega, by simp⟩
      clear p0 p1 p2 p3 p4 p5 b2 W1' N1 B1' S1
      obtain ⟨p0, p1, p2, p3, p4, p5⟩ := six TS0.out.par
      simp only at p0 p1 p2 p3 p4 p5
      go_wp2_with fail
      refine (H3.out _).mono ?_; rintro e x3 ⟨rfl, b3⟩
      have TS3 := Lib.hid (TS0.out.next b3)
      clear p0 p1 p2 p3 p4 p5 b3 TS0
      obtain ⟨p0, p1, p2, p3, p4, p5⟩ := six TS3.out.par
      simp only at p0 p1 p2 p3 p4 p5
      go_wp2_with fail
      refine (H4.out _).mono ?_; rintro e x4 ⟨rfl, rfl⟩
      have TS4 := Lib.hid (TS3.out.next ((Below.refl _ _).alloc (Nat.le_refl _) (.cells #[Value.bool wa, Value.int .i64 ca, Value.int .i64 da, Value.bool wb, Value.int .i64 cb, Value.int .i64 db] 24)))
      clear p0 p1 p2 p3 p4 p5 TS3
      obtain ⟨p0, p1, p2, p3, p4, p5⟩ := six TS4.out.par
      simp only at p0 p1 p2 p3 p4 p5
      go_wp2_with fail
      refine (H5.out _).mono ?_; rintro e x5 ⟨rfl, b5⟩
      have TS5 := Lib.hid (TS4.out.next b5)
      clear p0 p1 p2 p3 p4 p5 b5 TS4
      go_wp2_with fail
      generalize x1.heap.size = g1 at *
      generalize x2.heap.size = g2 at *
      have S0 := TS5.out.drew.full
      have e25 := eq_int 25
      have e3 := eq_int 3
      have e4 := eq_bool
      have HRs := Lib.hid (fun x (h : TS w g1 g2 ⟨⟨wa, ca, da⟩, ⟨wb, cb, db⟩⟩ ⟨⟨ta, tc, td⟩, ⟨ua, uc, ud⟩⟩ x ∧ x.cell? ⟨w.heap.size, 0, none⟩ = some (Value.bool wa) ∧ x.cell? ⟨w.heap.size, 1, none⟩ = some (Value.int .i64 ca) ∧ x.cell? ⟨w.heap.size, 2, none⟩ = some (Value.int .i64 da) ∧ x.cell? ⟨w.heap.size, 3, none⟩ = some (Value.bool wb) ∧ x.cell? ⟨w.heap.size, 4, none⟩ = some (Value.int .i64 cb) ∧ x.cell? ⟨w.heap.size, 5, none⟩ = some (Value.int .i64 db) ∧ x.cell? ⟨g1, 0, none⟩ = some (Value.bool ta) ∧ x.cell? ⟨g1, 1, none⟩ = some (Value.int .i64 tc) ∧ x.cell? ⟨g1, 2, none⟩ = some (Value.int .i64 td) ∧ x.cell? ⟨g1, 3, none⟩ = some (Value.bool ua) ∧ x.cell? ⟨g1, 4, none⟩ = some (Value.int .i64 uc) ∧ x.cell? ⟨g1, 5, none⟩ = some (Value.int .i64 ud) ∧ x.cell? ⟨g2, 0, none⟩ = some (Value.bool ta) ∧ x.cell? ⟨g2, 1, none⟩ = some (Value.int .i64 tc) ∧ x.cell? ⟨g2, 2, none⟩ = some (Value.int .i64 td) ∧ x.cell? ⟨g2, 3, none⟩ = some (Value.bool ua) ∧ x.cell? ⟨g2, 4, none⟩ = some (Value.int .i64 uc) ∧ x.cell? ⟨g2, 5, none⟩ = some (Value.int .i64 ud)) => (H6.out x).mono fun e y ⟨he, hb⟩ => (⟨he, (h.1.next hb).full⟩ : e = Ending.returned _ ∧ (TS w g1 g2 ⟨⟨wa, ca, da⟩, ⟨wb, cb, db⟩⟩ ⟨⟨ta, tc, td⟩, ⟨ua, uc, ud⟩⟩ y ∧ y.cell? ⟨w.heap.size, 0, none⟩ = some (Value.bool wa) ∧ y.cell? ⟨w.heap.size, 1, none⟩ = some (Value.int .i64 ca) ∧ y.cell? ⟨w.heap.size, 2, none⟩ = some (Value.int .i64 da) ∧ y.cell? ⟨w.heap.size, 3, none⟩ = some (Value.bool wb) ∧ y.cell? ⟨w.heap.size, 4, none⟩ = some (Value.int .i64 cb) ∧ y.cell? ⟨w.heap.size, 5, none⟩ = some (Value.int .i64 db) ∧ y.cell? ⟨g1, 0, none⟩ = some (Value.bool ta) ∧ y.cell? ⟨g1, 1, none⟩ = some (Value.int .i64 tc) ∧ y.cell? ⟨g1, 2, none⟩ = some (Value.int .i64 td) ∧ y.cell? ⟨g1, 3, none⟩ = some (Value.bool ua) ∧ y.cell? ⟨g1, 4, none⟩ = some (Value.int .i64 uc) ∧ y.cell? ⟨g1, 5, none⟩ = some (Value.int .i64 ud) ∧ y.cell? ⟨g2, 0, none⟩ = some (Value.bool ta) ∧ y.cell? ⟨g2, 1, none⟩ = some (Value.int .i64 tc) ∧ y.cell? ⟨g2, 2, none⟩ = some (Value.int .i64 td) ∧ y.cell? ⟨g2, 3, none⟩ = some (Value.bool ua) ∧ y.cell? ⟨g2, 4, none⟩ = some (Value.int .i64 uc) ∧ y.cell? ⟨g2, 5, none⟩ = some (Value.int .i64 ud))))
      have HSs := Lib.hid (fun x (h : TS w g1 g2 ⟨⟨wa, ca, da⟩, ⟨wb, cb, db⟩⟩ ⟨⟨ta, tc, td⟩, ⟨ua, uc, ud⟩⟩ x ∧ x.cell? ⟨w.heap.size, 0, none⟩ = some (Value.bool wa) ∧ x.cell? ⟨w.heap.size, 1, none⟩ = some (Value.int .i64 ca) ∧ x.cell? ⟨w.heap.size, 2, none⟩ = some (Value.int .i64 da) ∧ x.cell? ⟨w.heap.size, 3, none⟩ = some (Value.bool wb) ∧ x.cell? ⟨w.heap.size, 4, none⟩ = some (Value.int .i64 cb) ∧ x.cell? ⟨w.heap.size, 5, none⟩ = some (Value.int .i64 db) ∧ x.cell? ⟨g1, 0, none⟩ = some (Value.bool ta) ∧ x.cell? ⟨g1, 1, none⟩ = some (Value.int .i64 tc) ∧ x.cell? ⟨g1, 2, none⟩ = some (Value.int .i64 td) ∧ x.cell? ⟨g1, 3, none⟩ = some (Value.bool ua) ∧ x.cell? ⟨g1, 4, none⟩ = some (Value.int .i64 uc) ∧ x.cell? ⟨g1, 5, none⟩ = some (Value.int .i64 ud) ∧ x.cell? ⟨g2, 0, none⟩ = some (Value.bool ta) ∧ x.cell? ⟨g2, 1, none⟩ = some (Value.int .i64 tc) ∧ x.cell? ⟨g2, 2, none⟩ = some (Value.int .i64 td) ∧ x.cell? ⟨g2, 3, none⟩ = some (Value.bool ua) ∧ x.cell? ⟨g2, 4, none⟩ = some (Value.int .i64 uc) ∧ x.cell? ⟨g2, 5, none⟩ = some (Value.int .i64 ud)) => (H5.out x).mono fun e y ⟨he, hb⟩ => (⟨he, (h.1.next hb).full⟩ : e = Ending.returned _ ∧ (TS w g1 g2 ⟨⟨wa, ca, da⟩, ⟨wb, cb, db⟩⟩ ⟨⟨ta, tc, td⟩, ⟨ua, uc, ud⟩⟩ y ∧ y.cell? ⟨w.heap.size, 0, none⟩ = some (Value.bool wa) ∧ y.cell? ⟨w.heap.size, 1, none⟩ = some (Value.int .i64 ca) ∧ y.cell? ⟨w.heap.size, 2, none⟩ = some (Value.int .i64 da) ∧ y.cell? ⟨w.heap.size, 3, none⟩ = some (Value.bool wb) ∧ y.cell? ⟨w.heap.size, 4, none⟩ = some (Value.int .i64 cb) ∧ y.cell? ⟨w.heap.size, 5, none⟩ = some (Value.int .i64 db) ∧ y.cell? ⟨g1, 0, none⟩ = some (Value.bool ta) ∧ y.cell? ⟨g1, 1, none⟩ = some (Value.int .i64 tc) ∧ y.cell? ⟨g1, 2, none⟩ = some (Value.int .i64 td) ∧ y.cell? ⟨g1, 3, none⟩ = some (Value.bool ua) ∧ y.cell? ⟨g1, 4, none⟩ = some (Value.int .i64 uc) ∧ y.cell? ⟨g1, 5, none⟩ = some (Value.int .i64 ud) ∧ y.cell? ⟨g2, 0, none⟩ = some (Value.bool ta) ∧ y.cell? ⟨g2, 1, none⟩ = some (Value.int .i64 tc) ∧ y.cell? ⟨g2, 2, none⟩ = some (Value.int .i64 td) ∧ y.cell? ⟨g2, 3, none⟩ = some (Value.bool ua) ∧ y.cell? ⟨g2, 4, none⟩ = some (Value.int .i64 uc) ∧ y.cell? ⟨g2, 5, none⟩ = some (Value.int .i64 ud))))
      go_region_held3 (fun (w' : World) => TS w g1 g2 ⟨⟨wa, ca, da⟩, ⟨wb, cb, db⟩⟩ ⟨⟨ta, tc, td⟩, ⟨ua, uc, ud⟩⟩ w' ∧ w'.cell? ⟨w.heap.size, 0, none⟩ = some (Value.bool wa) ∧ w'.cell? ⟨w.heap.size, 1, none⟩ = some (Value.int .i64 ca) ∧ w'.cell? ⟨w.heap.size, 2, none⟩ = some (Value.int .i64 da) ∧ w'.cell? ⟨w.heap.size, 3, none⟩ = some (Value.bool wb) ∧ w'.cell? ⟨w.heap.size, 4, none⟩ = some (Value.int .i64 cb) ∧ w'.cell? ⟨w.heap.size, 5, none⟩ = some (Value.int .i64 db) ∧ w'.cell? ⟨g1, 0, none⟩ = some (Value.bool ta) ∧ w'.cell? ⟨g1, 1, none⟩ = some (Value.int .i64 tc) ∧ w'.cell? ⟨g1, 2, none⟩ = some (Value.int .i64 td) ∧ w'.cell? ⟨g1, 3, none⟩ = some (Value.bool ua) ∧ w'.cell? ⟨g1, 4, none⟩ = some (Value.int .i64 uc) ∧ w'.cell? ⟨g1, 5, none⟩ = some (Value.int .i64 ud) ∧ w'.cell? ⟨g2, 0, none⟩ = some (Value.bool ta) ∧ w'.cell? ⟨g2, 1, none⟩ = some (Value.int .i64 tc) ∧ w'.cell? ⟨g2, 2, none⟩ = some (Value.int .i64 td) ∧ w'.cell? ⟨g2, 3, none⟩ = some (Value.bool ua) ∧ w'.cell? ⟨g2, 4, none⟩ = some (Value.int .i64 uc) ∧ w'.cell? ⟨g2, 5, none⟩ = some (Value.int .i64 ud))
        (first | (with_reducible exact S0) | (with_reducible assumption))
        (first
          | (go_at_call 12; ((with_reducible refine (HRs.out _ ?_).mono ?_); (with_reducible assumption); rintro e w' ⟨rfl, hs3⟩))
          | (go_at_call 11; ((with_reducible refine (HSs.out _ ?_).mono ?_); (with_reducible assumption); rintro e w' ⟨rfl, hs3⟩)))
      all_goals
        have HB := Lib.hid hs3.1.bel
        clear hs3
        go_wp2_with fail
        go_ret
        exact ⟨rfl, HB.out⟩
    · rw [h] at H4 hw
      obtain ⟨rfl, rfl⟩ : da = o0 ∧ o1 = 0 := by simpa [eq_comm] using hw
      clear hw h
      go_enter Try.func3, Try.ntmps3
      go_wp2_with fail
      refine (H1.out).mono ?_; rintro e x1 ⟨rfl, b1⟩
      obtain ⟨B1, W1, hs1⟩ := HX.out _ b1
      have W1' := Lib.hid (W1.alloc (.cells #[Value.bool ta, Value.int .i64 tc, Value.int .i64 td, Value.bool ua, Value.int .i64 uc, Value.int .i64 ud] 24))
      obtain ⟨p0, p1, p2, p3, p4, p5⟩ := six (s := ⟨⟨wa, ca, da⟩, ⟨wb, cb, db⟩⟩) W1'.out
      simp only at p0 p1 p2 p3 p4 p5
      have N1 := Lib.hid (Whole.new x1 24 #[Value.bool ta, Value.int .i64 tc, Value.int .i64 td, Value.bool ua, Value.int .i64 uc, Value.int .i64 ud])
      have B1' := Lib.hid (B1.alloc B1.size (.cells #[Value.bool ta, Value.int .i64 tc, Value.int .i64 td, Value.bool ua, Value.int .i64 uc, Value.int .i64 ud] 24))
      have S1 := Lib.hid hs1
      clear b1 B1 W1 hs1
      go_wp2_with fail
      refine (H2.out _).mono ?_; rintro e x2 ⟨rfl, b2⟩
      have TS0 : Hid (TS w x1.heap.size x2.heap.size ⟨⟨wa, ca, da⟩, ⟨wb, cb, db⟩⟩ ⟨⟨ta, tc, td⟩, ⟨ua, uc, ud⟩⟩ (x2.alloc (.cells #[Value.bool ta, Value.int .i64 tc, Value.int .i64 td, Value.bool ua, Value.int .i64 uc, Value.int .i64 ud] 24))) := Lib.hid
        ⟨(B1'.out.trans (b2.mono B1'.out.size)).alloc (B1'.out.trans (b2.mono B1'.out.size)).size _, (whole_below W1'.out b2 (by simp; exact Nat.lt_succ_of_lt S1.out)).alloc _, (whole_below N1.out b2 (by simp)).alloc _, Whole.new x2 24 _,
          by have h9 := b2.size; have := S1.out; simp at h9 ⊢; omega, by have h9 := b2.size; simp at h9 ⊢; omega, by simp⟩
      clear p0 p1 p2 p3 p4 p5 b2 W1' N1 B1' S1
      obtain ⟨p0, p1, p2, p3, p4, p5⟩ := six TS0.out.par
      simp only at p0 p1 p2 p3 p4 p5
      go_wp2_with fail
      refine (H3.out _).mono ?_; rintro e x3 ⟨rfl, b3⟩
      have TS3 := Lib.hid (TS0.out.next b3)
      clear p0 p1 p2 p3 p4 p5 b3 TS0
      obtain ⟨p0, p1, p2, p3, p4, p5⟩ := six TS3.out.par
      simp only at p0 p1 p2 p3 p4 p5
      go_wp2_with fail
      refine (H4.out _).mono ?_; rintro e x4 ⟨rfl, rfl⟩
      have TS4 := Lib.hid (TS3.out.next ((Below.refl _ _).alloc (Nat.le_refl _) (.cells #[Value.bool wa, Value.int .i64 ca, Value.int .i64 da, Value.bool wb, Value.int .i64 cb, Value.int .i64 db] 24)))
      clear p0 p1 p2 p3 p4 p5 TS3
      obtain ⟨p0, p1, p2, p3, p4, p5⟩ := six TS4.out.par
      simp only at p0 p1 p2 p3 p4 p5
      go_wp2_with fail
      refine (H5.out _).mono ?_; rintro e x5 ⟨rfl, b5⟩
      have TS5 := Lib.hid (TS4.out.next b5)
      clear p0 p1 p2 p3 p4 p5 b5 TS4
      obtain ⟨p0, p1, p2, p3, p4, p5⟩ := six TS5.out.par
      simp only at p0 p1 p2 p3 p4 p5
      go_wp2_with fail
      clear p0 p1 p2 p3 p4 p5
      generalize x1.heap.size = g1 at *
      generalize x2.heap.size = g2 at *
      have S0 := TS5.out.drew.full
      have e25 := eq_int 25
      have e3 := eq_int 3
      have e4 := eq_bool
      have HRs := Lib.hid (fun x (h : TS w g1 g2 ⟨⟨wa, ca, da⟩, ⟨wb, cb, db⟩⟩ ⟨⟨ta, tc, td⟩, ⟨ua, uc, ud⟩⟩ x ∧ x.cell? ⟨w.heap.size, 0, none⟩ = some (Value.bool wa) ∧ x.cell? ⟨w.heap.size, 1, none⟩ = some (Value.int .i64 ca) ∧ x.cell? ⟨w.heap.size, 2, none⟩ = some (Value.int .i64 da) ∧ x.cell? ⟨w.heap.size, 3, none⟩ = some (Value.bool wb) ∧ x.cell? ⟨w.heap.size, 4, none⟩ = some (Value.int .i64 cb) ∧ x.cell? ⟨w.heap.size, 5, none⟩ = some (Value.int .i64 db) ∧ x.cell? ⟨g1, 0, none⟩ = some (Value.bool ta) ∧ x.cell? ⟨g1, 1, none⟩ = some (Value.int .i64 tc) ∧ x.cell? ⟨g1, 2, none⟩ = some (Value.int .i64 td) ∧ x.cell? ⟨g1, 3, none⟩ = some (Value.bool ua) ∧ x.cell? ⟨g1, 4, none⟩ = some (Value.int .i64 uc) ∧ x.cell? ⟨g1, 5, none⟩ = some (Value.int .i64 ud) ∧ x.cell? ⟨g2, 0, none⟩ = some (Value.bool ta) ∧ x.cell? ⟨g2, 1, none⟩ = some (Value.int .i64 tc) ∧ x.cell? ⟨g2, 2, none⟩ = some (Value.int .i64 td) ∧ x.cell? ⟨g2, 3, none⟩ = some (Value.bool ua) ∧ x.cell? ⟨g2, 4, none⟩ = some (Value.int .i64 uc) ∧ x.cell? ⟨g2, 5, none⟩ = some (Value.int .i64 ud)) => (H6.out x).mono fun e y ⟨he, hb⟩ => (⟨he, (h.1.next hb).full⟩ : e = Ending.returned _ ∧ (TS w g1 g2 ⟨⟨wa, ca, da⟩, ⟨wb, cb, db⟩⟩ ⟨⟨ta, tc, td⟩, ⟨ua, uc, ud⟩⟩ y ∧ y.cell? ⟨w.heap.size, 0, none⟩ = some (Value.bool wa) ∧ y.cell? ⟨w.heap.size, 1, none⟩ = some (Value.int .i64 ca) ∧ y.cell? ⟨w.heap.size, 2, none⟩ = some (Value.int .i64 da) ∧ y.cell? ⟨w.heap.size, 3, none⟩ = some (Value.bool wb) ∧ y.cell? ⟨w.heap.size, 4, none⟩ = some (Value.int .i64 cb) ∧ y.cell? ⟨w.heap.size, 5, none⟩ = some (Value.int .i64 db) ∧ y.cell? ⟨g1, 0, none⟩ = some (Value.bool ta) ∧ y.cell? ⟨g1, 1, none⟩ = some (Value.int .i64 tc) ∧ y.cell? ⟨g1, 2, none⟩ = some (Value.int .i64 td) ∧ y.cell? ⟨g1, 3, none⟩ = some (Value.bool ua) ∧ y.cell? ⟨g1, 4, none⟩ = some (Value.int .i64 uc) ∧ y.cell? ⟨g1, 5, none⟩ = some (Value.int .i64 ud) ∧ y.cell? ⟨g2, 0, none⟩ = some (Value.bool ta) ∧ y.cell? ⟨g2, 1, none⟩ = some (Value.int .i64 tc) ∧ y.cell? ⟨g2, 2, none⟩ = some (Value.int .i64 td) ∧ y.cell? ⟨g2, 3, none⟩ = some (Value.bool ua) ∧ y.cell? ⟨g2, 4, none⟩ = some (Value.int .i64 uc) ∧ y.cell? ⟨g2, 5, none⟩ = some (Value.int .i64 ud))))
      have HSs := Lib.hid (fun x (h : TS w g1 g2 ⟨⟨wa, ca, da⟩, ⟨wb, cb, db⟩⟩ ⟨⟨ta, tc, td⟩, ⟨ua, uc, ud⟩⟩ x ∧ x.cell? ⟨w.heap.size, 0, none⟩ = some (Value.bool wa) ∧ x.cell? ⟨w.heap.size, 1, none⟩ = some (Value.int .i64 ca) ∧ x.cell? ⟨w.heap.size, 2, none⟩ = some (Value.int .i64 da) ∧ x.cell? ⟨w.heap.size, 3, none⟩ = some (Value.bool wb) ∧ x.cell? ⟨w.heap.size, 4, none⟩ = some (Value.int .i64 cb) ∧ x.cell? ⟨w.heap.size, 5, none⟩ = some (Value.int .i64 db) ∧ x.cell? ⟨g1, 0, none⟩ = some (Value.bool ta) ∧ x.cell? ⟨g1, 1, none⟩ = some (Value.int .i64 tc) ∧ x.cell? ⟨g1, 2, none⟩ = some (Value.int .i64 td) ∧ x.cell? ⟨g1, 3, none⟩ = some (Value.bool ua) ∧ x.cell? ⟨g1, 4, none⟩ = some (Value.int .i64 uc) ∧ x.cell? ⟨g1, 5, none⟩ = some (Value.int .i64 ud) ∧ x.cell? ⟨g2, 0, none⟩ = some (Value.bool ta) ∧ x.cell? ⟨g2, 1, none⟩ = some (Value.int .i64 tc) ∧ x.cell? ⟨g2, 2, none⟩ = some (Value.int .i64 td) ∧ x.cell? ⟨g2, 3, none⟩ = some (Value.bool ua) ∧ x.cell? ⟨g2, 4, none⟩ = some (Value.int .i64 uc) ∧ x.cell? ⟨g2, 5, none⟩ = some (Value.int .i64 ud)) => (H5.out x).mono fun e y ⟨he, hb⟩ => (⟨he, (h.1.next hb).full⟩ : e = Ending.returned _ ∧ (TS w g1 g2 ⟨⟨wa, ca, da⟩, ⟨wb, cb, db⟩⟩ ⟨⟨ta, tc, td⟩, ⟨ua, uc, ud⟩⟩ y ∧ y.cell? ⟨w.heap.size, 0, none⟩ = some (Value.bool wa) ∧ y.cell? ⟨w.heap.size, 1, none⟩ = some (Value.int .i64 ca) ∧ y.cell? ⟨w.heap.size, 2, none⟩ = some (Value.int .i64 da) ∧ y.cell? ⟨w.heap.size, 3, none⟩ = some (Value.bool wb) ∧ y.cell? ⟨w.heap.size, 4, none⟩ = some (Value.int .i64 cb) ∧ y.cell? ⟨w.heap.size, 5, none⟩ = some (Value.int .i64 db) ∧ y.cell? ⟨g1, 0, none⟩ = some (Value.bool ta) ∧ y.cell? ⟨g1, 1, none⟩ = some (Value.int .i64 tc) ∧ y.cell? ⟨g1, 2, none⟩ = some (Value.int .i64 td) ∧ y.cell? ⟨g1, 3, none⟩ = some (Value.bool ua) ∧ y.cell? ⟨g1, 4, none⟩ = some (Value.int .i64 uc) ∧ y.cell? ⟨g1, 5, none⟩ = some (Value.int .i64 ud) ∧ y.cell? ⟨g2, 0, none⟩ = some (Value.bool ta) ∧ y.cell? ⟨g2, 1, none⟩ = some (Value.int .i64 tc) ∧ y.cell? ⟨g2, 2, none⟩ = some (Value.int .i64 td) ∧ y.cell? ⟨g2, 3, none⟩ = some (Value.bool ua) ∧ y.cell? ⟨g2, 4, none⟩ = some (Value.int .i64 uc) ∧ y.cell? ⟨g2, 5, none⟩ = some (Value.int .i64 ud))))
      go_region_held3 (fun (w' : World) => TS w g1 g2 ⟨⟨wa, ca, da⟩, ⟨wb, cb, db⟩⟩ ⟨⟨ta, tc, td⟩, ⟨ua, uc, ud⟩⟩ w' ∧ w'.cell? ⟨w.heap.size, 0, none⟩ = some (Value.bool wa) ∧ w'.cell? ⟨w.heap.size, 1, none⟩ = some (Value.int .i64 ca) ∧ w'.cell? ⟨w.heap.size, 2, none⟩ = some (Value.int .i64 da) ∧ w'.cell? ⟨w.heap.size, 3, none⟩ = some (Value.bool wb) ∧ w'.cell? ⟨w.heap.size, 4, none⟩ = some (Value.int .i64 cb) ∧ w'.cell? ⟨w.heap.size, 5, none⟩ = some (Value.int .i64 db) ∧ w'.cell? ⟨g1, 0, none⟩ = some (Value.bool ta) ∧ w'.cell? ⟨g1, 1, none⟩ = some (Value.int .i64 tc) ∧ w'.cell? ⟨g1, 2, none⟩ = some (Value.int .i64 td) ∧ w'.cell? ⟨g1, 3, none⟩ = some (Value.bool ua) ∧ w'.cell? ⟨g1, 4, none⟩ = some (Value.int .i64 uc) ∧ w'.cell? ⟨g1, 5, none⟩ = some (Value.int .i64 ud) ∧ w'.cell? ⟨g2, 0, none⟩ = some (Value.bool ta) ∧ w'.cell? ⟨g2, 1, none⟩ = some (Value.int .i64 tc) ∧ w'.cell? ⟨g2, 2, none⟩ = some (Value.int .i64 td) ∧ w'.cell? ⟨g2, 3, none⟩ = some (Value.bool ua) ∧ w'.cell? ⟨g2, 4, none⟩ = some (Value.int .i64 uc) ∧ w'.cell? ⟨g2, 5, none⟩ = some (Value.int .i64 ud))
        (first | (with_reducible exact S0) | (with_reducible assumption))
        (first
          | (go_at_call 12; ((with_reducible refine (HRs.out _ ?_).mono ?_); (with_reducible assumption); rintro e w' ⟨rfl, hs3⟩))
          | (go_at_call 11; ((with_reducible refine (HSs.out _ ?_).mono ?_); (with_reducible assumption); rintro e w' ⟨rfl, hs3⟩)))
      all_goals
        have HB := Lib.hid hs3.1.bel
        clear hs3
        go_wp2_with fail
        go_ret
        exact ⟨rfl, HB.out⟩
    · rw [h] at H4 hw
      obtain ⟨rfl, rfl⟩ : db = o0 ∧ o1 = 0 := by simpa [eq_comm] using hw
      clear hw h
      go_enter Try.func3, Try.ntmps3
      go_wp2_with fail
      refine (H1.out).mono ?_; rintro e x1 ⟨rfl, b1⟩
      obtain ⟨B1, W1, hs1⟩ := HX.out _ b1
      have W1' := Lib.hid (W1.alloc (.cells #[Value.bool ta, Value.int .i64 tc, Value.int .i64 td, Value.bool ua, Value.int .i64 uc, Value.int .i64 ud] 24))
      obtain ⟨p0, p1, p2, p3, p4, p5⟩ := six (s := ⟨⟨wa, ca, da⟩, ⟨wb, cb, db⟩⟩) W1'.out
      simp only at p0 p1 p2 p3 p4 p5
      have N1 := Lib.hid (Whole.new x1 24 #[Value.bool ta, Value.int .i64 tc, Value.int .i64 td, Value.bool ua, Value.int .i64 uc, Value.int .i64 ud])
      have B1' := Lib.hid (B1.alloc B1.size (.cells #[Value.bool ta, Value.int .i64 tc, Value.int .i64 td, Value.bool ua, Value.int .i64 uc, Value.int .i64 ud] 24))
      have S1 := Lib.hid hs1
      clear b1 B1 W1 hs1
      go_wp2_with fail
      refine (H2.out _).mono ?_; rintro e x2 ⟨rfl, b2⟩
      have TS0 : Hid (TS w x1.heap.size x2.heap.size ⟨⟨wa, ca, da⟩, ⟨wb, cb, db⟩⟩ ⟨⟨ta, tc, td⟩, ⟨ua, uc, ud⟩⟩ (x2.alloc (.cells #[Value.bool ta, Value.int .i64 tc, Value.int .i64 td, Value.bool ua, Value.int .i64 uc, Value.int .i64 ud] 24))) := Lib.hid
        ⟨(B1'.out.trans (b2.mono B1'.out.size)).alloc (B1'.out.trans (b2.mono B1'.out.size)).size _, (whole_below W1'.out b2 (by simp; exact Nat.lt_succ_of_lt S1.out)).alloc _, (whole_below N1.out b2 (by simp)).alloc _, Whole.new x2 24 _,
          by have h9 := b2.size; have := S1.out; simp at h9 ⊢; omega, by have h9 := b2.size; simp at h9 ⊢; omega, by simp⟩
      clear p0 p1 p2 p3 p4 p5 b2 W1' N1 B1' S1
      obtain ⟨p0, p1, p2, p3, p4, p5⟩ := six TS0.out.par
      simp only at p0 p1 p2 p3 p4 p5
      go_wp2_with fail
      refine (H3.out _).mono ?_; rintro e x3 ⟨rfl, b3⟩
      have TS3 := Lib.hid (TS0.out.next b3)
      clear p0 p1 p2 p3 p4 p5 b3 TS0
      obtain ⟨p0, p1, p2, p3, p4, p5⟩ := six TS3.out.par
      simp only at p0 p1 p2 p3 p4 p5
      go_wp2_with fail
      refine (H4.out _).mono ?_; rintro e x4 ⟨rfl, rfl⟩
      have TS4 := Lib.hid (TS3.out.next ((Below.refl _ _).alloc (Nat.le_refl _) (.cells #[Value.bool wa, Value.int .i64 ca, Value.int .i64 da, Value.bool wb, Value.int .i64 cb, Value.int .i64 db] 24)))
      clear p0 p1 p2 p3 p4 p5 TS3
      obtain ⟨p0, p1, p2, p3, p4, p5⟩ := six TS4.out.par
      simp only at p0 p1 p2 p3 p4 p5
      go_wp2_with fail
      refine (H5.out _).mono ?_; rintro e x5 ⟨rfl, b5⟩
      have TS5 := Lib.hid (TS4.out.next b5)
      clear p0 p1 p2 p3 p4 p5 b5 TS4
      obtain ⟨p0, p1, p2, p3, p4, p5⟩ := six TS5.out.par
      simp only at p0 p1 p2 p3 p4 p5
      go_wp2_with fail
      clear p0 p1 p2 p3 p4 p5
      generalize x1.heap.size = g1 at *
      generalize x2.heap.size = g2 at *
      have S0 := TS5.out.drew.full
      have e25 := eq_int 25
      have e3 := eq_int 3
      have e4 := eq_bool
      have HRs := Lib.hid (fun x (h : TS w g1 g2 ⟨⟨wa, ca, da⟩, ⟨wb, cb, db⟩⟩ ⟨⟨ta, tc, td⟩, ⟨ua, uc, ud⟩⟩ x ∧ x.cell? ⟨w.heap.size, 0, none⟩ = some (Value.bool wa) ∧ x.cell? ⟨w.heap.size, 1, none⟩ = some (Value.int .i64 ca) ∧ x.cell? ⟨w.heap.size, 2, none⟩ = some (Value.int .i64 da) ∧ x.cell? ⟨w.heap.size, 3, none⟩ = some (Value.bool wb) ∧ x.cell? ⟨w.heap.size, 4, none⟩ = some (Value.int .i64 cb) ∧ x.cell? ⟨w.heap.size, 5, none⟩ = some (Value.int .i64 db) ∧ x.cell? ⟨g1, 0, none⟩ = some (Value.bool ta) ∧ x.cell? ⟨g1, 1, none⟩ = some (Value.int .i64 tc) ∧ x.cell? ⟨g1, 2, none⟩ = some (Value.int .i64 td) ∧ x.cell? ⟨g1, 3, none⟩ = some (Value.bool ua) ∧ x.cell? ⟨g1, 4, none⟩ = some (Value.int .i64 uc) ∧ x.cell? ⟨g1, 5, none⟩ = some (Value.int .i64 ud) ∧ x.cell? ⟨g2, 0, none⟩ = some (Value.bool ta) ∧ x.cell? ⟨g2, 1, none⟩ = some (Value.int .i64 tc) ∧ x.cell? ⟨g2, 2, none⟩ = some (Value.int .i64 td) ∧ x.cell? ⟨g2, 3, none⟩ = some (Value.bool ua) ∧ x.cell? ⟨g2, 4, none⟩ = some (Value.int .i64 uc) ∧ x.cell? ⟨g2, 5, none⟩ = some (Value.int .i64 ud)) => (H6.out x).mono fun e y ⟨he, hb⟩ => (⟨he, (h.1.next hb).full⟩ : e = Ending.returned _ ∧ (TS w g1 g2 ⟨⟨wa, ca, da⟩, ⟨wb, cb, db⟩⟩ ⟨⟨ta, tc, td⟩, ⟨ua, uc, ud⟩⟩ y ∧ y.cell? ⟨w.heap.size, 0, none⟩ = some (Value.bool wa) ∧ y.cell? ⟨w.heap.size, 1, none⟩ = some (Value.int .i64 ca) ∧ y.cell? ⟨w.heap.size, 2, none⟩ = some (Value.int .i64 da) ∧ y.cell? ⟨w.heap.size, 3, none⟩ = some (Value.bool wb) ∧ y.cell? ⟨w.heap.size, 4, none⟩ = some (Value.int .i64 cb) ∧ y.cell? ⟨w.heap.size, 5, none⟩ = some (Value.int .i64 db) ∧ y.cell? ⟨g1, 0, none⟩ = some (Value.bool ta) ∧ y.cell? ⟨g1, 1, none⟩ = some (Value.int .i64 tc) ∧ y.cell? ⟨g1, 2, none⟩ = some (Value.int .i64 td) ∧ y.cell? ⟨g1, 3, none⟩ = some (Value.bool ua) ∧ y.cell? ⟨g1, 4, none⟩ = some (Value.int .i64 uc) ∧ y.cell? ⟨g1, 5, none⟩ = some (Value.int .i64 ud) ∧ y.cell? ⟨g2, 0, none⟩ = some (Value.bool ta) ∧ y.cell? ⟨g2, 1, none⟩ = some (Value.int .i64 tc) ∧ y.cell? ⟨g2, 2, none⟩ = some (Value.int .i64 td) ∧ y.cell? ⟨g2, 3, none⟩ = some (Value.bool ua) ∧ y.cell? ⟨g2, 4, none⟩ = some (Value.int .i64 uc) ∧ y.cell? ⟨g2, 5, none⟩ = some (Value.int .i64 ud))))
      have HSs := Lib.hid (fun x (h : TS w g1 g2 ⟨⟨wa, ca, da⟩, ⟨wb, cb, db⟩⟩ ⟨⟨ta, tc, td⟩, ⟨ua, uc, ud⟩⟩ x ∧ x.cell? ⟨w.heap.size, 0, none⟩ = some (Value.bool wa) ∧ x.cell? ⟨w.heap.size, 1, none⟩ = some (Value.int .i64 ca) ∧ x.cell? ⟨w.heap.size, 2, none⟩ = some (Value.int .i64 da) ∧ x.cell? ⟨w.heap.size, 3, none⟩ = some (Value.bool wb) ∧ x.cell? ⟨w.heap.size, 4, none⟩ = some (Value.int .i64 cb) ∧ x.cell? ⟨w.heap.size, 5, none⟩ = some (Value.int .i64 db) ∧ x.cell? ⟨g1, 0, none⟩ = some (Value.bool ta) ∧ x.cell? ⟨g1, 1, none⟩ = some (Value.int .i64 tc) ∧ x.cell? ⟨g1, 2, none⟩ = some (Value.int .i64 td) ∧ x.cell? ⟨g1, 3, none⟩ = some (Value.bool ua) ∧ x.cell? ⟨g1, 4, none⟩ = some (Value.int .i64 uc) ∧ x.cell? ⟨g1, 5, none⟩ = some (Value.int .i64 ud) ∧ x.cell? ⟨g2, 0, none⟩ = some (Value.bool ta) ∧ x.cell? ⟨g2, 1, none⟩ = some (Value.int .i64 tc) ∧ x.cell? ⟨g2, 2, none⟩ = some (Value.int .i64 td) ∧ x.cell? ⟨g2, 3, none⟩ = some (Value.bool ua) ∧ x.cell? ⟨g2, 4, none⟩ = some (Value.int .i64 uc) ∧ x.cell? ⟨g2, 5, none⟩ = some (Value.int .i64 ud)) => (H5.out x).mono fun e y ⟨he, hb⟩ => (⟨he, (h.1.next hb).full⟩ : e = Ending.returned _ ∧ (TS w g1 g2 ⟨⟨wa, ca, da⟩, ⟨wb, cb, db⟩⟩ ⟨⟨ta, tc, td⟩, ⟨ua, uc, ud⟩⟩ y ∧ y.cell? ⟨w.heap.size, 0, none⟩ = some (Value.bool wa) ∧ y.cell? ⟨w.heap.size, 1, none⟩ = some (Value.int .i64 ca) ∧ y.cell? ⟨w.heap.size, 2, none⟩ = some (Value.int .i64 da) ∧ y.cell? ⟨w.heap.size, 3, none⟩ = some (Value.bool wb) ∧ y.cell? ⟨w.heap.size, 4, none⟩ = some (Value.int .i64 cb) ∧ y.cell? ⟨w.heap.size, 5, none⟩ = some (Value.int .i64 db) ∧ y.cell? ⟨g1, 0, none⟩ = some (Value.bool ta) ∧ y.cell? ⟨g1, 1, none⟩ = some (Value.int .i64 tc) ∧ y.cell? ⟨g1, 2, none⟩ = some (Value.int .i64 td) ∧ y.cell? ⟨g1, 3, none⟩ = some (Value.bool ua) ∧ y.cell? ⟨g1, 4, none⟩ = some (Value.int .i64 uc) ∧ y.cell? ⟨g1, 5, none⟩ = some (Value.int .i64 ud) ∧ y.cell? ⟨g2, 0, none⟩ = some (Value.bool ta) ∧ y.cell? ⟨g2, 1, none⟩ = some (Value.int .i64 tc) ∧ y.cell? ⟨g2, 2, none⟩ = some (Value.int .i64 td) ∧ y.cell? ⟨g2, 3, none⟩ = some (Value.bool ua) ∧ y.cell? ⟨g2, 4, none⟩ = some (Value.int .i64 uc) ∧ y.cell? ⟨g2, 5, none⟩ = some (Value.int .i64 ud))))
      go_region_held3 (fun (w' : World) => TS w g1 g2 ⟨⟨wa, ca, da⟩, ⟨wb, cb, db⟩⟩ ⟨⟨ta, tc, td⟩, ⟨ua, uc, ud⟩⟩ w' ∧ w'.cell? ⟨w.heap.size, 0, none⟩ = some (Value.bool wa) ∧ w'.cell? ⟨w.heap.size, 1, none⟩ = some (Value.int .i64 ca) ∧ w'.cell? ⟨w.heap.size, 2, none⟩ = some (Value.int .i64 da) ∧ w'.cell? ⟨w.heap.size, 3, none⟩ = some (Value.bool wb) ∧ w'.cell? ⟨w.heap.size, 4, none⟩ = some (Value.int .i64 cb) ∧ w'.cell? ⟨w.heap.size, 5, none⟩ = some (Value.int .i64 db) ∧ w'.cell? ⟨g1, 0, none⟩ = some (Value.bool ta) ∧ w'.cell? ⟨g1, 1, none⟩ = some (Value.int .i64 tc) ∧ w'.cell? ⟨g1, 2, none⟩ = some (Value.int .i64 td) ∧ w'.cell? ⟨g1, 3, none⟩ = some (Value.bool ua) ∧ w'.cell? ⟨g1, 4, none⟩ = some (Value.int .i64 uc) ∧ w'.cell? ⟨g1, 5, none⟩ = some (Value.int .i64 ud) ∧ w'.cell? ⟨g2, 0, none⟩ = some (Value.bool ta) ∧ w'.cell? ⟨g2, 1, none⟩ = some (Value.int .i64 tc) ∧ w'.cell? ⟨g2, 2, none⟩ = some (Value.int .i64 td) ∧ w'.cell? ⟨g2, 3, none⟩ = some (Value.bool ua) ∧ w'.cell? ⟨g2, 4, none⟩ = some (Value.int .i64 uc) ∧ w'.cell? ⟨g2, 5, none⟩ = some (Value.int .i64 ud))
        (first | (with_reducible exact S0) | (with_reducible assumption))
        (first
          | (go_at_call 12; ((with_reducible refine (HRs.out _ ?_).mono ?_); (with_reducible assumption); rintro e w' ⟨rfl, hs3⟩))
          | (go_at_call 11; ((with_reducible refine (HSs.out _ ?_).mono ?_); (with_reducible assumption); rintro e w' ⟨rfl, hs3⟩)))
      all_goals
        have HB := Lib.hid hs3.1.bel
        clear hs3
        go_wp2_with fail
        go_ret
        exact ⟨rfl, HB.out⟩
  | false =>
    obtain ⟨rfl, rfl⟩ : o0 = 0 ∧ o1 = 1 := by simpa using hw.symm
    clear hw
    generalize newer ⟨⟨wa, ca, da⟩, ⟨wb, cb, db⟩⟩ = n at H4
    go_enter Try.func3, Try.ntmps3
    go_wp2_with fail
    refine (H1.out).mono ?_; rintro e x1 ⟨rfl, b1⟩
    obtain ⟨B1, W1, hs1⟩ := HX.out _ b1
    have W1' := Lib.hid (W1.alloc (.cells #[Value.bool ta, Value.int .i64 tc, Value.int .i64 td, Value.bool ua, Value.int .i64 uc, Value.int .i64 ud] 24))
    obtain ⟨p0, p1, p2, p3, p4, p5⟩ := six (s := ⟨⟨wa, ca, da⟩, ⟨wb, cb, db⟩⟩) W1'.out
    simp only at p0 p1 p2 p3 p4 p5
    have N1 := Lib.hid (Whole.new x1 24 #[Value.bool ta, Value.int .i64 tc, Value.int .i64 td, Value.bool ua, Value.int .i64 uc, Value.int .i64 ud])
    have B1' := Lib.hid (B1.alloc B1.size (.cells #[Value.bool ta, Value.int .i64 tc, Value.int .i64 td, Value.bool ua, Value.int .i64 uc, Value.int .i64 ud] 24))
    have S1 := Lib.hid hs1
    clear b1 B1 W1 hs1
    go_wp2_with fail
    refine (H2.out _).mono ?_; rintro e x2 ⟨rfl, b2⟩
    have TS0 : Hid (TS w x1.heap.size x2.heap.size ⟨⟨wa, ca, da⟩, ⟨wb, cb, db⟩⟩ ⟨⟨ta, tc, td⟩, ⟨ua, uc, ud⟩⟩ (x2.alloc (.cells #[Value.bool ta, Value.int .i64 tc, Value.int .i64 td, Value.bool ua, Value.int .i64 uc, Value.int .i64 ud] 24))) := Lib.hid
      ⟨(B1'.out.trans (b2.mono B1'.out.size)).alloc (B1'.out.trans (b2.mono B1'.out.size)).size _, (whole_below W1'.out b2 (by simp; exact Nat.lt_succ_of_lt S1.out)).alloc _, (whole_below N1.out b2 (by simp)).alloc _, Whole.new x2 24 _,
        by have h9 := b2.size; have := S1.out; simp at h9 ⊢; omega, by have h9 := b2.size; simp at h9 ⊢; omega, by simp⟩
    clear p0 p1 p2 p3 p4 p5 b2 W1' N1 B1' S1
    obtain ⟨p0, p1, p2, p3, p4, p5⟩ := six TS0.out.par
    simp only at p0 p1 p2 p3 p4 p5
    go_wp2_with fail
    refine (H3.out _).mono ?_; rintro e x3 ⟨rfl, b3⟩
    have TS3 := Lib.hid (TS0.out.next b3)
    clear p0 p1 p2 p3 p4 p5 b3 TS0
    obtain ⟨p0, p1, p2, p3, p4, p5⟩ := six TS3.out.par
    simp only at p0 p1 p2 p3 p4 p5
    go_wp2_with fail
    refine (H4.out _).mono ?_; rintro e x4 ⟨rfl, rfl⟩
    have TS4 := Lib.hid (TS3.out.next ((Below.refl _ _).alloc (Nat.le_refl _) (.cells #[Value.bool wa, Value.int .i64 ca, Value.int .i64 da, Value.bool wb, Value.int .i64 cb, Value.int .i64 db] 24)))
    clear p0 p1 p2 p3 p4 p5 TS3
    obtain ⟨p0, p1, p2, p3, p4, p5⟩ := six TS4.out.par
    simp only at p0 p1 p2 p3 p4 p5
    go_wp2_with fail
    refine (H5.out _).mono ?_; rintro e x5 ⟨rfl, b5⟩
    have TS5 := Lib.hid (TS4.out.next b5)
    clear p0 p1 p2 p3 p4 p5 b5 TS4
    go_wp2_with fail
    generalize x1.heap.size = g1 at *
    generalize x2.heap.size = g2 at *
    have S0 := TS5.out.drew.full
    have e25 := eq_int 25
    have e3 := eq_int 3
    have e4 := eq_bool
    have HRs := Lib.hid (fun x (h : TS w g1 g2 ⟨⟨wa, ca, da⟩, ⟨wb, cb, db⟩⟩ ⟨⟨ta, tc, td⟩, ⟨ua, uc, ud⟩⟩ x ∧ x.cell? ⟨w.heap.size, 0, none⟩ = some (Value.bool wa) ∧ x.cell? ⟨w.heap.size, 1, none⟩ = some (Value.int .i64 ca) ∧ x.cell? ⟨w.heap.size, 2, none⟩ = some (Value.int .i64 da) ∧ x.cell? ⟨w.heap.size, 3, none⟩ = some (Value.bool wb) ∧ x.cell? ⟨w.heap.size, 4, none⟩ = some (Value.int .i64 cb) ∧ x.cell? ⟨w.heap.size, 5, none⟩ = some (Value.int .i64 db) ∧ x.cell? ⟨g1, 0, none⟩ = some (Value.bool ta) ∧ x.cell? ⟨g1, 1, none⟩ = some (Value.int .i64 tc) ∧ x.cell? ⟨g1, 2, none⟩ = some (Value.int .i64 td) ∧ x.cell? ⟨g1, 3, none⟩ = some (Value.bool ua) ∧ x.cell? ⟨g1, 4, none⟩ = some (Value.int .i64 uc) ∧ x.cell? ⟨g1, 5, none⟩ = some (Value.int .i64 ud) ∧ x.cell? ⟨g2, 0, none⟩ = some (Value.bool ta) ∧ x.cell? ⟨g2, 1, none⟩ = some (Value.int .i64 tc) ∧ x.cell? ⟨g2, 2, none⟩ = some (Value.int .i64 td) ∧ x.cell? ⟨g2, 3, none⟩ = some (Value.bool ua) ∧ x.cell? ⟨g2, 4, none⟩ = some (Value.int .i64 uc) ∧ x.cell? ⟨g2, 5, none⟩ = some (Value.int .i64 ud)) => (H6.out x).mono fun e y ⟨he, hb⟩ => (⟨he, (h.1.next hb).full⟩ : e = Ending.returned _ ∧ (TS w g1 g2 ⟨⟨wa, ca, da⟩, ⟨wb, cb, db⟩⟩ ⟨⟨ta, tc, td⟩, ⟨ua, uc, ud⟩⟩ y ∧ y.cell? ⟨w.heap.size, 0, none⟩ = some (Value.bool wa) ∧ y.cell? ⟨w.heap.size, 1, none⟩ = some (Value.int .i64 ca) ∧ y.cell? ⟨w.heap.size, 2, none⟩ = some (Value.int .i64 da) ∧ y.cell? ⟨w.heap.size, 3, none⟩ = some (Value.bool wb) ∧ y.cell? ⟨w.heap.size, 4, none⟩ = some (Value.int .i64 cb) ∧ y.cell? ⟨w.heap.size, 5, none⟩ = some (Value.int .i64 db) ∧ y.cell? ⟨g1, 0, none⟩ = some (Value.bool ta) ∧ y.cell? ⟨g1, 1, none⟩ = some (Value.int .i64 tc) ∧ y.cell? ⟨g1, 2, none⟩ = some (Value.int .i64 td) ∧ y.cell? ⟨g1, 3, none⟩ = some (Value.bool ua) ∧ y.cell? ⟨g1, 4, none⟩ = some (Value.int .i64 uc) ∧ y.cell? ⟨g1, 5, none⟩ = some (Value.int .i64 ud) ∧ y.cell? ⟨g2, 0, none⟩ = some (Value.bool ta) ∧ y.cell? ⟨g2, 1, none⟩ = some (Value.int .i64 tc) ∧ y.cell? ⟨g2, 2, none⟩ = some (Value.int .i64 td) ∧ y.cell? ⟨g2, 3, none⟩ = some (Value.bool ua) ∧ y.cell? ⟨g2, 4, none⟩ = some (Value.int .i64 uc) ∧ y.cell? ⟨g2, 5, none⟩ = some (Value.int .i64 ud))))
    have HSs := Lib.hid (fun x (h : TS w g1 g2 ⟨⟨wa, ca, da⟩, ⟨wb, cb, db⟩⟩ ⟨⟨ta, tc, td⟩, ⟨ua, uc, ud⟩⟩ x ∧ x.cell? ⟨w.heap.size, 0, none⟩ = some (Value.bool wa) ∧ x.cell? ⟨w.heap.size, 1, none⟩ = some (Value.int .i64 ca) ∧ x.cell? ⟨w.heap.size, 2, none⟩ = some (Value.int .i64 da) ∧ x.cell? ⟨w.heap.size, 3, none⟩ = some (Value.bool wb) ∧ x.cell? ⟨w.heap.size, 4, none⟩ = some (Value.int .i64 cb) ∧ x.cell? ⟨w.heap.size, 5, none⟩ = some (Value.int .i64 db) ∧ x.cell? ⟨g1, 0, none⟩ = some (Value.bool ta) ∧ x.cell? ⟨g1, 1, none⟩ = some (Value.int .i64 tc) ∧ x.cell? ⟨g1, 2, none⟩ = some (Value.int .i64 td) ∧ x.cell? ⟨g1, 3, none⟩ = some (Value.bool ua) ∧ x.cell? ⟨g1, 4, none⟩ = some (Value.int .i64 uc) ∧ x.cell? ⟨g1, 5, none⟩ = some (Value.int .i64 ud) ∧ x.cell? ⟨g2, 0, none⟩ = some (Value.bool ta) ∧ x.cell? ⟨g2, 1, none⟩ = some (Value.int .i64 tc) ∧ x.cell? ⟨g2, 2, none⟩ = some (Value.int .i64 td) ∧ x.cell? ⟨g2, 3, none⟩ = some (Value.bool ua) ∧ x.cell? ⟨g2, 4, none⟩ = some (Value.int .i64 uc) ∧ x.cell? ⟨g2, 5, none⟩ = some (Value.int .i64 ud)) => (H5.out x).mono fun e y ⟨he, hb⟩ => (⟨he, (h.1.next hb).full⟩ : e = Ending.returned _ ∧ (TS w g1 g2 ⟨⟨wa, ca, da⟩, ⟨wb, cb, db⟩⟩ ⟨⟨ta, tc, td⟩, ⟨ua, uc, ud⟩⟩ y ∧ y.cell? ⟨w.heap.size, 0, none⟩ = some (Value.bool wa) ∧ y.cell? ⟨w.heap.size, 1, none⟩ = some (Value.int .i64 ca) ∧ y.cell? ⟨w.heap.size, 2, none⟩ = some (Value.int .i64 da) ∧ y.cell? ⟨w.heap.size, 3, none⟩ = some (Value.bool wb) ∧ y.cell? ⟨w.heap.size, 4, none⟩ = some (Value.int .i64 cb) ∧ y.cell? ⟨w.heap.size, 5, none⟩ = some (Value.int .i64 db) ∧ y.cell? ⟨g1, 0, none⟩ = some (Value.bool ta) ∧ y.cell? ⟨g1, 1, none⟩ = some (Value.int .i64 tc) ∧ y.cell? ⟨g1, 2, none⟩ = some (Value.int .i64 td) ∧ y.cell? ⟨g1, 3, none⟩ = some (Value.bool ua) ∧ y.cell? ⟨g1, 4, none⟩ = some (Value.int .i64 uc) ∧ y.cell? ⟨g1, 5, none⟩ = some (Value.int .i64 ud) ∧ y.cell? ⟨g2, 0, none⟩ = some (Value.bool ta) ∧ y.cell? ⟨g2, 1, none⟩ = some (Value.int .i64 tc) ∧ y.cell? ⟨g2, 2, none⟩ = some (Value.int .i64 td) ∧ y.cell? ⟨g2, 3, none⟩ = some (Value.bool ua) ∧ y.cell? ⟨g2, 4, none⟩ = some (Value.int .i64 uc) ∧ y.cell? ⟨g2, 5, none⟩ = some (Value.int .i64 ud))))
    go_region_held3 (fun (w' : World) => TS w g1 g2 ⟨⟨wa, ca, da⟩, ⟨wb, cb, db⟩⟩ ⟨⟨ta, tc, td⟩, ⟨ua, uc, ud⟩⟩ w' ∧ w'.cell? ⟨w.heap.size, 0, none⟩ = some (Value.bool wa) ∧ w'.cell? ⟨w.heap.size, 1, none⟩ = some (Value.int .i64 ca) ∧ w'.cell? ⟨w.heap.size, 2, none⟩ = some (Value.int .i64 da) ∧ w'.cell? ⟨w.heap.size, 3, none⟩ = some (Value.bool wb) ∧ w'.cell? ⟨w.heap.size, 4, none⟩ = some (Value.int .i64 cb) ∧ w'.cell? ⟨w.heap.size, 5, none⟩ = some (Value.int .i64 db) ∧ w'.cell? ⟨g1, 0, none⟩ = some (Value.bool ta) ∧ w'.cell? ⟨g1, 1, none⟩ = some (Value.int .i64 tc) ∧ w'.cell? ⟨g1, 2, none⟩ = some (Value.int .i64 td) ∧ w'.cell? ⟨g1, 3, none⟩ = some (Value.bool ua) ∧ w'.cell? ⟨g1, 4, none⟩ = some (Value.int .i64 uc) ∧ w'.cell? ⟨g1, 5, none⟩ = some (Value.int .i64 ud) ∧ w'.cell? ⟨g2, 0, none⟩ = some (Value.bool ta) ∧ w'.cell? ⟨g2, 1, none⟩ = some (Value.int .i64 tc) ∧ w'.cell? ⟨g2, 2, none⟩ = some (Value.int .i64 td) ∧ w'.cell? ⟨g2, 3, none⟩ = some (Value.bool ua) ∧ w'.cell? ⟨g2, 4, none⟩ = some (Value.int .i64 uc) ∧ w'.cell? ⟨g2, 5, none⟩ = some (Value.int .i64 ud))
      (first | (with_reducible exact S0) | (with_reducible assumption))
      (first
        | (go_at_call 12; ((with_reducible refine (HRs.out _ ?_).mono ?_); (with_reducible assumption); rintro e w' ⟨rfl, hs3⟩))
        | (go_at_call 11; ((with_reducible refine (HSs.out _ ?_).mono ?_); (with_reducible assumption); rintro e w' ⟨rfl, hs3⟩)))
    all_goals
      have HB := Lib.hid hs3.1.bel
      clear hs3
      go_wp2_with fail
      go_ret
      exact ⟨rfl, HB.out⟩
end Go.Proofs.Ytpjhihmbgahagaa.Twn
