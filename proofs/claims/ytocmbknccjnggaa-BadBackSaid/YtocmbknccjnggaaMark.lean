/-
  What bad.Mark returns.
-/
import Derived.Test.YtocmbknccjnggaaJoins
namespace Go.Proofs.Ytocmbknccjnggaa.Bad
open Go.ChangeShapes Go.WideShapes Go.ChangeAt Go.RowKit Words

/-- A list and an error code. -/
def MarkI (w : World) (l : List Int) (er : Int) (n : Nat) (e : Ending) (w' : World) : Prop :=
  ∃ A c, e = .returned (.tuple #[.slice A n c, .int .i64 er]) ∧ OwnI w' w.heap.size A n c l ∧ Below w.heap.size w w'
theorem mark_no {bl x : Int} {l : List Int} (h : merr bl l x ≠ 0) : (mval bl l x).length = 0 := by rw [mval_no h]; rfl
/-- Three lists, the second of one number that the call wrote down itself. -/
theorem concat_at (B : Nat) (A1 A3 : Option Addr) (n1 k1 n3 k3 : Nat) (x : Int) (l1 l3 : List Int) (w : World) (h1 : Ints w B A1 n1 k1 l1) (h3 : Ints w B A3 n3 k3 l3) (hB : B ≤ w.heap.size) (r1 : n1 ≤ 8192) (r3 : n3 ≤ 8192) :
    Calls Try.prog 21 #[.slice (some ⟨w.heap.size + 1, 0, none⟩) 3 3] ((w.alloc (.cells #[.int .i64 x] 3)).alloc (.cells #[.slice A1 n1 k1, .slice (some ⟨w.heap.size, 0, none⟩) 1 1, .slice A3 n3 k3] 22)).drew
      fun e w' => ∃ A c, e = .returned (.slice A (n1 + 1 + n3) c) ∧ OwnI w' w.heap.size A (n1 + 1 + n3) c (l1 ++ [x] ++ l3) ∧ Below w.heap.size w w' := by
  generalize hw2 : ((w.alloc (.cells #[.int .i64 x] 3)).alloc (.cells #[.slice A1 n1 k1, .slice (some ⟨w.heap.size, 0, none⟩) 1 1, .slice A3 n3 k3] 22)).drew = w2
  have hb : Below w.heap.size w w2 := by rw [← hw2]; exact (two_blocks w _ _).drew
  have hs : w2.heap.size = w.heap.size + 2 := by rw [← hw2]; simp
  have hx : Ints w2 (w.heap.size + 1) (some ⟨w.heap.size, 0, none⟩) 1 1 [x] := by
    rw [← hw2]
    exact Rd.drew (Rd.alloc (one_cell w 3 x) (by simp) _)
  have hc : ∀ i, w2.cell? ⟨w.heap.size + 1, i, none⟩ = (#[Value.slice A1 n1 k1, Value.slice (some ⟨w.heap.size, 0, none⟩) 1 1, Value.slice A3 n3 k3] : Array Value)[i]? := fun i => by
    rw [← hw2]
    have h := Whole.new (w.alloc (.cells #[.int .i64 x] 3)) 22 #[.slice A1 n1 k1, .slice (some ⟨w.heap.size, 0, none⟩) 1 1, .slice A3 n3 k3]
    have hsz : (w.alloc (.cells #[.int .i64 x] 3)).heap.size = w.heap.size + 1 := by simp
    rw [hsz] at h
    exact Whole.cell (w := ((w.alloc (.cells #[.int .i64 x] 3)).alloc (.cells #[.slice A1 n1 k1, .slice (some ⟨w.heap.size, 0, none⟩) 1 1, .slice A3 n3 k3] 22)).drew) h i
  refine (concat21 (w.heap.size + 1) A1 (some ⟨w.heap.size, 0, none⟩) A3 n1 k1 1 1 n3 k3 l1 [x] l3 (w.heap.size + 1) w2 ((h1.below hb hB).more (by omega)) hx ((h3.below hb hB).more (by omega)) (by omega) (by omega) (hc 0) (hc 1) (hc 2) r1 (by omega) r3).mono ?_
  rintro e w' ⟨A, c, rfl, ho, hb2⟩
  exact ⟨A, c, rfl, own_base ho hb.size, hb.trans (hb2.mono hb.size)⟩
set_option maxHeartbeats 2000000 in
theorem mark9 (B : Nat) (A : Option Addr) (n c : Nat) (bl : Int) (l : List Int) (x : Int) (w : World) (h : Ints w B A n c l) (hB : B ≤ w.heap.size) (m : Nat) (hm : (mval bl l x).length = m) :
    Calls Try.prog 9 #[.int .i64 bl, .slice A n c, .int .i64 x] w (MarkI w (mval bl l x) (merr bl l x) m) := by
  obtain ⟨i0, hi0, hz0, hz1, hz2⟩ := info_parts info3
  have HC := Lib.hid (check19 B A n c bl l x w h)
  have HM := Lib.hid hm
  by_cases hc : cerr bl l x = 0
  · obtain ⟨hr, h0, h1⟩ := cerr_zero hc
    have hi := (right_iff.1 hr).2
    have hbl := (right_iff.1 hr).1
    have hl := right_len hr
    rw [h.len] at hl
    have hB20 := bs20 B A n c bl l x w h hi (by omega)
    unfold place at hB20
    have HB := Lib.hid hB20
    have HN : Hid (merr bl l x = if x ∈ l then 6 else 0) := Lib.hid (merr_in hc)
    have hcn : cnt x l ≤ n := by rw [← h.len]; exact List.countP_le_length
    have hnc := h.le
    rw [hc] at HC
    by_cases hx : x ∈ l
    · rw [if_pos hx] at HN
      rw [show decide (x ∈ l) = true by simp [hx]] at HB
      have HZ := Lib.hid (mark_no (bl := bl) (x := x) (l := l) (by rw [HN.out]; decide))
      clear hx h hr hi hc hB20
      go_enter Try.func9, Try.ntmps9
      go_wp2_with fail
      refine (HC.out).mono ?_; rintro e w' ⟨rfl, rfl⟩
      go_wp2_with fail
      refine (HB.out).mono ?_; rintro e w' ⟨rfl, rfl⟩
      go_wp2_with fail
      go_ret2
      obtain rfl : m = 0 := by rw [← HM.out]; exact HZ.out
      rw [HN.out, mval_no (by rw [HN.out]; decide)]
      exact ⟨none, 0, rfl, w.ownsRow_nil _ _ _, Below.refl _ _⟩
    · rw [if_neg hx] at HN
      rw [show decide (x ∈ l) = false by simp [hx]] at HB
      have HV : Hid (mval bl l x = l.take (cnt x l) ++ [x] ++ l.drop (cnt x l)) := Lib.hid (by rw [mval_ok HN.out, ins_cut hi hx, List.append_assoc])
      have HS : Hid (m = cnt x l + 1 + (n - cnt x l)) := Lib.hid (by rw [← hm, HV.out, List.length_append, List.length_append, List.length_take, List.length_drop, h.len, Nat.min_eq_left hcn]; rfl)
      generalize hk : cnt x l = k at *
      have hs1 := fun w => run_head (P := Try.prog) w 22 3 i0 Try.underlying22 hi0 A n c k k rfl (by omega)
      have hs2 := fun w => run_tail (P := Try.prog) w 22 3 i0 Try.underlying22 hi0 hz1 A n c k k rfl hcn
      have H1 : Hid (Ints w B A k c (l.take k)) := Lib.hid (by have := Rd.head h hcn; rw [Nat.mul_one] at this; unfold Ints icells; rw [List.map_take]; exact this)
      have H2 : Hid (Ints w B (if c = k then A else A.map (·.add k)) (n - k) (c - k) (l.drop k)) := Lib.hid (by have := Rd.tail1 h hcn; unfold Ints icells; rw [List.map_drop]; exact this)
      generalize (if c = k then A else A.map (·.add k)) = A2 at *
      have HX := Lib.hid (concat_at B A A2 k c (n - k) (c - k) x (l.take k) (l.drop k) w H1.out H2.out hB (by omega) (by omega))
      clear hx h hr hi hc hB20
      go_enter Try.func9, Try.ntmps9
      go_wp2_with fail
      refine (HC.out).mono ?_; rintro e w' ⟨rfl, rfl⟩
      go_wp2_with fail
      refine (HB.out).mono ?_; rintro e w' ⟨rfl, rfl⟩
      go_wp2_with fail
      go_region_with (go_at_call 21; refine (HX.out).mono ?_; rintro e w' ⟨A3, c3, rfl, ho, hb⟩)
      all_goals
        have O3 := Lib.hid ho
        have B3 := Lib.hid hb
        clear ho hb
        go_wp2_with fail
        go_ret2
        rw [HN.out, HS.out, HV.out]
        exact ⟨A3, c3, rfl, O3.out, B3.out⟩
  · have HN := Lib.hid (merr_of hc)
    have HZ := Lib.hid hc
    have hne : (cerr bl l x != 0) = true := by rw [bne_iff_ne]; exact hc
    have HZ2 := Lib.hid (mark_no (bl := bl) (x := x) (l := l) (by rw [HN.out]; exact hc))
    generalize hz : cerr bl l x = z at *
    clear h hc hz
    go_enter Try.func9, Try.ntmps9
    go_wp2_with fail
    refine (HC.out).mono ?_; rintro e w' ⟨rfl, rfl⟩
    go_wp2_with fail
    go_ret2
    obtain rfl : m = 0 := by rw [← HM.out]; exact HZ2.out
    rw [mval_no (by rw [HN.out]; exact HZ.out)]
    exact ⟨none, 0, by rw [HN.out]; rfl, w.ownsRow_nil _ _ _, Below.refl _ _⟩
end Go.Proofs.Ytocmbknccjnggaa.Bad
