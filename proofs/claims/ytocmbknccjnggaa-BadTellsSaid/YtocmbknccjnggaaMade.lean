/-
  What slices.Clone, slices.Grow and slices.Concat return, and the document's own list of the good blocks.
-/
import Derived.Test.YtocmbknccjnggaaMore
import Derived.Lib.AppendZeros
import Derived.Lib.Walk
import Derived.Lib.MakeNoZero
import Derived.Deep.AppendSrc
namespace Go.Proofs.Ytocmbknccjnggaa.Bad
open Go.ChangeShapes Go.WideShapes Go.ChangeAt Go.RowKit Words

theorem info3 : (Try.prog.info? 3).map (fun i => (i.zero, i.size, i.bytes)) = some (some (.int .i64 0), 1, 8) := by kernel_rfl
/-- A []int of the call's own. -/
def OwnI (w : World) (base : Nat) (A : Option Addr) (n c : Nat) (l : List Int) : Prop := w.ownsRow base 3 1 (.slice A n c) n (icells l)
def MadeI (w : World) (l : List Int) (n : Nat) (e : Ending) (w' : World) : Prop :=
  ∃ A c, e = .returned (.slice A n c) ∧ OwnI w' w.heap.size A n c l ∧ Below w.heap.size w w'
theorem OwnI.ints {w : World} {base : Nat} {A : Option Addr} {n c : Nat} {l : List Int} (h : OwnI w base A n c l) : Ints w w.heap.size A n c l := Rd.of_own h
set_option maxHeartbeats 1000000 in
theorem clone14 (B : Nat) (A : Option Addr) (n c : Nat) (l : List Int) (w : World) (h : Ints w B A n c l) (hB : B ≤ w.heap.size) (hn : n ≤ 4096) :
    Calls Try.prog 14 #[.slice A n c] w (MadeI w l n) := by
  obtain ⟨i0, hi0, hz0, hz1, hz2⟩ := info_parts info3
  cases A with
  | none =>
    have hc := Rd.none_ h rfl
    have hn0 : n = 0 := by have := Rd.le h; omega
    have hl := h.len
    subst hc hn0
    have hl0 : l = [] := List.eq_nil_of_length_eq_zero hl
    subst hl0
    clear h hl
    have hq := Lib.run_eql_slice_nil (P := Try.prog) w 22 3 none 0 0 0 0 Try.underlying22
    go_enter Try.func14, Try.ntmps14
    go_wp2_with fail
    go_ret
    exact ⟨none, 0, rfl, w.ownsRow_nil _ _ _, Below.refl _ _⟩
  | some a =>
    have H := Lib.hid h
    have HN := Lib.hid h.len
    clear h
    have hq := Lib.run_eql_slice_nil (P := Try.prog) w 22 3 (some a) n c 0 0 Try.underlying22
    have hown1 : (w.alloc (.cells #[] 3)).ownsRow w.heap.size 3 1 (.slice (some ⟨w.heap.size, 0, none⟩) 0 0) 0 [] := w.ownsRow_lit #[] 0 (Nat.le_refl _) (by decide) rfl
    have hb1 : Below w.heap.size w (w.alloc (.cells #[] 3)) := (Below.refl _ _).alloc (Nat.le_refl _) _
    have hz1' : w.heap.size ≤ (w.alloc (.cells #[] 3)).heap.size := hb1.size
    have HR := Lib.hid (Rd.alloc H.out hB (.cells #[] 3))
    go_enter Try.func14, Try.ntmps14
    go_wp2_with (first
      | (at_builtin; refine wpList_append_rd _ rfl (.tmp 5) (.tmp 6) 22 rfl w.heap.size 3 i0 _ 1 8 Try.underlying22 hi0 hz0 hz1 hz2 rfl (by decide) _ 0 [] rfl hown1 B (some a) n c (icells l) rfl HR.out (icells_one l) (by simp only [maxLen]; omega) (by omega) hz1' ?_
         intro A2 c2 w2 hown2 hg2
         have hb2 : Below w.heap.size w w2 := below_grown hb1 hown1 hg2 hz1' (Nat.le_refl _)
         simp only [Nat.zero_add, List.nil_append] at hown2))
    go_ret
    exact ⟨A2, c2, rfl, hown2, hb2⟩
set_option maxHeartbeats 1000000 in
theorem egood12 (B : Nat) (A : Option Addr) (n c : Nat) (m : Nat) (l : List Int) (w : World) (h : Ints w B A n c l) (hB : B ≤ w.heap.size) (hm : m ≤ 4096) :
    Calls Try.prog 12 #[.int .i64 m, .slice A n c] w (MadeI w (goods m l) (goods m l).length) := by
  obtain ⟨i3, hi3, hz30, hz31, hz32⟩ := info_parts info3
  have H := Lib.hid h
  clear h
  go_enter Try.func12, Try.ntmps12
  go_wp2_with fail
  go_loopw [5, 8] (fun v i wr => ∃ (k q : Nat) (A2 : Option Addr) (c2 : Nat), k ≤ m ∧ i = .int .i64 k ∧ v = .slice A2 q c2 ∧ q = (goods k l).length ∧ q ≤ k ∧ OwnI wr w.heap.size A2 q c2 (goods k l) ∧ Below w.heap.size w wr) (fun _ i _ => (m - intOf i).toNat)
  case atStart => exact ⟨0, 0, none, 0, by omega, rfl, rfl, rfl, by omega, w.ownsRow_nil _ _ _, Below.refl _ _⟩
  case round =>
    obtain ⟨k, q, A2, c2, hk, rfl, rfl, hq, hqk, hown, hbel⟩ := hrel
    have O := Lib.hid hown
    have BW := Lib.hid hbel
    have HQ := Lib.hid hq
    have hz : w.heap.size ≤ wr.heap.size := hbel.size
    have HC := Lib.hid (contains13 B A n c l (k : Int) wr (Rd.below H.out hbel hB))
    have HG := Lib.hid (goods_succ k l)
    clear hown hbel hq
    by_cases hlt : k < m
    · by_cases hm : (k : Int) ∈ l
      · rw [show decide ((k : Int) ∈ l) = true by simp [hm]] at HC
        rw [if_pos (by simpa using hm), List.append_nil] at HG
        clear hm
        go_wp2_with fail
        refine (HC.out).mono ?_; rintro e w' ⟨rfl, rfl⟩
        go_wp2_with fail
        go_roundw
        case rel => exact ⟨k + 1, q, A2, c2, by omega, by go_num, rfl, by rw [HG.out]; exact HQ.out, by omega, by rw [HG.out]; exact O.out, BW.out⟩
        case measure => simp [intOf]; omega
      · rw [show decide ((k : Int) ∈ l) = false by simp [hm]] at HC
        rw [if_neg (by simpa using hm)] at HG
        clear hm
        have hown1 : (wr.alloc (.cells #[.int .i64 k] 3)).ownsRow w.heap.size 3 1 (.slice A2 q c2) q (icells (goods k l)) := own_below O.out ((Below.refl _ _).alloc (Nat.le_refl _) _) (Nat.le_refl _)
        have O1 := Lib.hid hown1
        have B1 : Hid (Below w.heap.size w (wr.alloc (.cells #[.int .i64 k] 3))) := Lib.hid (BW.out.alloc hz _)
        have HR := Lib.hid (one_cell wr 3 (k : Int))
        have hs1 : w.heap.size ≤ (wr.alloc (.cells #[.int .i64 k] 3)).heap.size := B1.out.size
        clear hown1
        go_wp2_with fail
        refine (HC.out).mono ?_; rintro e w' ⟨rfl, rfl⟩
        go_wp2_with (first
          | (at_builtin; refine wpList_append_rd _ rfl (.tmp 15) (.tmp 17) 22 rfl w.heap.size 3 i3 (.int .i64 0) 1 8 Try.underlying22 hi3 hz30 hz31 hz32 rfl (by decide) _ q (icells (goods k l)) rfl O1.out (wr.heap.size + 1) (some ⟨wr.heap.size, 0, none⟩) 1 1 (icells [(k : Int)]) rfl HR.out (icells_one _) (by simp only [maxLen]; omega) (by omega) hs1 ?_
             intro A3 c3 w3 hown3 hg3
             have B3 := Lib.hid (below_grown B1.out O1.out hg3 hs1 (Nat.le_refl _))
             rw [← icells_append] at hown3
             have O3 := Lib.hid hown3
             clear hown3 hg3))
        go_roundw
        case rel => exact ⟨k + 1, q + 1, A3, c3, by omega, by go_num, rfl, by rw [HG.out, List.length_append, ← HQ.out]; rfl, by omega, by rw [HG.out]; exact O3.out, B3.out⟩
        case measure => simp [intOf]; omega
    · obtain rfl : k = m := by omega
      go_wp2_with fail
      go_ret
      rw [← HQ.out]
      exact ⟨A2, c2, rfl, O.out, BW.out⟩
end Go.Proofs.Ytocmbknccjnggaa.Bad
