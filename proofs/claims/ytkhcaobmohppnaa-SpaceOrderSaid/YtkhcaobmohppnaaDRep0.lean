/-
  slices.Replace of nothing by one gap: in a row of the call's own.
-/
import Derived.Test.YtkhcaobmohppnaaDIns2
namespace Go.Proofs.Ytkhcaobmohppnaa.Spc
open Go.ChangeShapes Go.WideShapes Go.ChangeAt Go.RowKit Words
set_option linter.unusedVariables false

theorem ins43 (base vb : Nat) (A : Option Addr) (i n c : Nat) (l : List Gp) (p : Gp) (w : World) (h : OwnGp w base A n c l) (hi : i ≤ n) (hn : n ≤ 5000) (hv : Whole w vb 36 (gcells p).toArray) (hne : ∀ g, A = some ⟨g, 0, none⟩ → vb ≠ g) (hb : base ≤ w.heap.size) :
    Calls Try.prog 43 #[.slice A n c, .int .i64 i, .slice (some ⟨vb, 0, none⟩) 1 1] w (RowTo base w (Value.slice A n c).ownBlock (l.take i ++ p :: l.drop i)) := by
  by_cases hin : i = n
  · subst hin
    rw [List.take_of_length_le (by rw [h.len]; exact Nat.le_refl _), List.drop_eq_nil_of_le (by rw [h.len]; exact Nat.le_refl _)]
    exact insA base vb A i c l p w h hv hb hn
  · obtain ⟨g, rfl, _, _⟩ := h.addr (by omega)
    have hnc : n ≤ c := Words.Rd.le h.gps
    by_cases hc : n + 1 ≤ c
    · exact insC base g vb i n c l p w h (by omega) hc hv (hne g rfl) hb
    · obtain rfl : c = n := by omega
      exact insB base g vb i c l p w h (by omega) hn hv hb
set_option maxHeartbeats 8000000 in
set_option maxRecDepth 100000 in
theorem rep0 (base vb : Nat) (A : Option Addr) (i n c : Nat) (l : List Gp) (p : Gp) (w : World) (h : OwnGp w base A n c l) (hi : i ≤ n) (hn : n ≤ 5000) (hv : Whole w vb 36 (gcells p).toArray) (hne : ∀ g, A = some ⟨g, 0, none⟩ → vb ≠ g) (hb : base ≤ w.heap.size) :
    Calls Try.prog 42 #[.slice A n c, .int .i64 i, .int .i64 i, .slice (some ⟨vb, 0, none⟩) 1 1] w (RowTo base w (Value.slice A n c).ownBlock (l.take i ++ p :: l.drop i)) := by
  have HI := Lib.hid (ins43 base vb A i n c l p w h hi hn hv hne hb)
  have hnc : n ≤ c := Words.Rd.le h.gps
  have hic : i ≤ c := by omega
  have hcm := Words.Rd.max h.gps
  clear h hv hne hb
  by_cases hci : c = i
  · subst hci
    go_enter Try.func42, Try.ntmps42
    go_wp2_with fail
    refine (HI.out).mono ?_; rintro e w2 ⟨A2, m2, c2, rfl, l2, o2, g2⟩
    have R2 := Lib.hid (row_to l2 o2 g2)
    clear o2 g2 l2
    go_wp2_with fail
    go_ret
    exact R2.out
  · skip
    go_enter Try.func42, Try.ntmps42
    go_wp2_with fail
    refine (HI.out).mono ?_; rintro e w2 ⟨A2, m2, c2, rfl, l2, o2, g2⟩
    have R2 := Lib.hid (row_to l2 o2 g2)
    clear o2 g2 l2
    go_wp2_with fail
    go_ret
    exact R2.out
end Go.Proofs.Ytkhcaobmohppnaa.Spc
