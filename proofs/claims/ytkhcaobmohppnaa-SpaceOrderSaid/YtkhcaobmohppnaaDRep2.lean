/-
  slices.Replace in the middle of a row.
-/
import Derived.Test.YtkhcaobmohppnaaDRep
namespace Go.Proofs.Ytkhcaobmohppnaa.Spc
open Go.ChangeShapes Go.WideShapes Go.ChangeAt Go.RowKit Words
set_option linter.unusedVariables false

set_option maxHeartbeats 3000000 in
set_option maxRecDepth 100000 in
theorem repMid1 (base g vb i j n c : Nat) (l : List Gp) (p : Gp) (w : World) (h : OwnGp w base (some ⟨g, 0, none⟩) n c l) (hij : j = i + 1) (hjn : j < n) (hv : Whole w vb 36 (gcells p).toArray) (hne : vb ≠ g) (hn : n ≤ 5000) :
    Calls Try.prog 42 #[.slice (some ⟨g, 0, none⟩) n c, .int .i64 i, .int .i64 j, .slice (some ⟨vb, 0, none⟩) 1 1] w (RowTo base w (some g) (l.take i ++ p :: l.drop j)) := by
  obtain ⟨cur, hg, hcl, htk, hnc, hcm, hbg⟩ := own_block h
  have hll := h.len
  obtain ⟨tot, htot⟩ : ∃ tot, tot = i + 1 + (n - j) := ⟨_, rfl⟩
  have e1 : (lcells (l.drop j)).length = (n - j) * 2 := by rw [lcells_length, List.length_drop, hll]
  have HP := put_over (p := p) hcl hll hnc (show i < j by omega) (Nat.le_of_lt hjn) htk
  rw [← htot] at HP
  have hcp1 := Lib.hid (fun ty dc sc => copy_row (P := Try.prog) (w := w.drew) (.tmp 95) (.tmp 96) 22 22 ty 36 Try.underlying22 2 size36 (tot - i) dc 1 sc ⟨vb, 0, none⟩ g (i * 2) cur 36 hg (gcells p) 1 (show min 1 (tot - i) = 1 by omega) rfl
    (fun t u hu => by rw [Addr.add_lit, Nat.zero_add, Whole.cell (w := w.drew) hv, List.getElem?_toArray]; exact hu) (by rw [gcells_length]; omega) (gcells_one p))
  obtain ⟨W1, hW1⟩ : ∃ W1, W1 = w.drew.setRow g (splice cur (i * 2) (gcells p)).toArray := ⟨_, rfl⟩
  have hg1 : W1.heap[g]? = some (.cells (splice cur (i * 2) (gcells p)).toArray 36 (0, 0)) := by rw [hW1]; exact heap_row w.drew hg _
  have l1 : (splice cur (i * 2) (gcells p)).length = c * 2 := by rw [length_splice _ _ _ (by rw [gcells_length]; omega)]; exact hcl
  have hsrc : ∀ t u, (lcells (l.drop j))[t]? = some u → W1.drew.cell? ((⟨g, j * 2, none⟩ : Addr).add t) = some u := fun t u hu => by
    rw [Addr.add_lit]
    show W1.cell? _ = _
    rw [cell_of_row W1 g _ _ 36 (0, 0) hg1, List.getElem?_toArray]
    have ht : t < (n - j) * 2 := by rw [← e1]; exact (List.getElem?_eq_some_iff.1 hu).1
    rw [← lc_drop, ← htk, List.getElem?_drop, List.getElem?_take_of_lt (by omega)] at hu
    rw [← hu, ← List.getElem?_drop, ← List.getElem?_drop, drop_splice_hi (by rw [gcells_length]; omega) (by omega)]
  have hcp2 := Lib.hid (fun ty dc sc => copy_row (P := Try.prog) (w := W1.drew) (.tmp 103) (.tmp 106) 22 22 ty 36 Try.underlying22 2 size36 (n - j) dc (n - j) sc ⟨g, j * 2, none⟩ g ((i + 1) * 2) _ 36 (show W1.drew.heap[g]? = _ from hg1) (lcells (l.drop j)) (n - j) (show min (n - j) (n - j) = n - j by omega) e1
    hsrc (by rw [l1]; omega) (lcells_one _))
  obtain ⟨W2, hW2⟩ : ∃ W2, W2 = W1.drew.setRow g (splice (splice cur (i * 2) (gcells p)) ((i + 1) * 2) (lcells (l.drop j))).toArray := ⟨_, rfl⟩
  have hg2 : W2.heap[g]? = some (.cells (splice (splice cur (i * 2) (gcells p)) ((i + 1) * 2) (lcells (l.drop j))).toArray 36 (0, 0)) := by rw [hW2]; exact heap_row W1.drew hg1 _
  have G2 : w.grownBy W2 (some g) := by
    rw [hW2]
    refine grown_setRow (World.grownBy.trans (b := W1) ?_ (grown_drew W1 _)) _
    rw [hW1]
    exact grown_setRow (grown_drew w _) _
  have HLL : (l.take i ++ p :: l.drop j).length = tot := by rw [List.length_append, List.length_cons, List.length_take, List.length_drop]; omega
  have O2 := own_make hg2 HP.1 HP.2 HLL (show tot ≤ c by omega) hcm hbg
  have HE := Lib.hid (show RowTo base w (some g) (l.take i ++ p :: l.drop j) _ W2 from row_to HLL O2 G2)
  rw [← hW1] at hcp1
  rw [← hW2] at hcp2
  have hne1 : ¬ ((i : Int) = (j : Int)) := by omega
  have hne2 : ¬ ((j : Int) = (n : Int)) := by omega
  have hb1 : (i : Int) ≤ (j : Int) := by omega
  have hb2 : (j : Int) ≤ (n : Int) := by omega
  have hb3 : (i : Int) + 1 ≤ (j : Int) := by omega
  have hb6 : (i : Int) + 1 ≤ (tot : Int) := by omega
  have hb7 : (i : Int) ≤ (tot : Int) := by omega
  have hb8 : (0 : Int) ≤ (i : Int) + 1 := by omega
  have hb9 : (tot : Int) ≤ (n : Int) := by omega
  have hba : (tot : Int) ≤ (c : Int) := by omega
  have hbb : ¬ ((c : Int) < (tot : Int)) := by omega
  have hic : i ≤ c := by omega
  have hjc : j ≤ c := by omega
  have hji : i ≤ j := by omega
  have hjn' : j ≤ n := by omega
  have htc : tot ≤ c := by omega
  have htn : tot ≤ n := by omega
  have hit : i ≤ tot := by omega
  have hw1 : IntKind.i64.wrap ((i : Int) + 1) = (i : Int) + 1 := by rw [IntKind.wrap_i64]; unfold maxLen at hcm; omega
  have hw2 : IntKind.i64.wrap ((i : Int) + 1 + ((n - j : Nat) : Int)) = (tot : Int) := by rw [IntKind.wrap_i64]; omega
  have hcc : c ≤ 9223372036854775807 := by unfold maxLen at hcm; omega
  have e4 : ((i : Int) + 1).toNat = i + 1 := by omega
  have e5 : tot - (i + 1) = n - j := by omega
  have hc1 : ¬ (c = i) := by omega
  have hc2 : ¬ (c = i + 1) := by omega
  have hc3 : ¬ (c = j) := by omega
  have hgb : g < w.heap.size := (Array.getElem?_eq_some_iff.1 hg).1
  have mx : Try.prog.follows .mixedOrders = true := by kernel_rfl
  have e6 : n - tot = 0 := by omega
  clear hW1 hW2 hg1 hg2 hg h hv htk hcm hbg HP O2 G2 HLL hsrc htot hij hll
  by_cases hct : c = tot
  · subst hct
    go_enter Try.func42, Try.ntmps42
    go_wp2_with fail
    go_region
    have hq1 := hcp1.out
    go_wp2_with fail
    go_region_law (refine step_copy_at (P := Try.prog) rfl (.tmp 103) (.tmp 106) 22 22 rfl (.slice (some ⟨g, (i + 1) * 2, none⟩) (n - j) (c - (i + 1))) (.slice (some ⟨g, j * 2, none⟩) (n - j) (c - j)) (by simp [Act.eval, Act.put, e5]) (by simp [Act.eval, Act.put]) (hcp2.out _ (c - (i + 1)) (c - j)) ?_)
    have hcl := fun ty A C => run_clear0 W2 ty A C
    go_wp2_with fail
    go_ret
    exact HE.out
  · skip
    go_enter Try.func42, Try.ntmps42
    go_wp2_with fail
    go_region
    have hq1 := hcp1.out
    go_wp2_with fail
    go_region_law (refine step_copy_at (P := Try.prog) rfl (.tmp 103) (.tmp 106) 22 22 rfl (.slice (some ⟨g, (i + 1) * 2, none⟩) (n - j) (c - (i + 1))) (.slice (some ⟨g, j * 2, none⟩) (n - j) (c - j)) (by simp [Act.eval, Act.put]) (by simp [Act.eval, Act.put]) (hcp2.out _ (c - (i + 1)) (c - j)) ?_)
    have hcl := fun ty A C => run_clear0 W2 ty A C
    go_wp2_with fail
    go_ret
    exact HE.out
set_option maxHeartbeats 3000000 in
set_option maxRecDepth 100000 in
theorem repMid2 (base g vb i j n c : Nat) (l : List Gp) (p : Gp) (w : World) (h : OwnGp w base (some ⟨g, 0, none⟩) n c l) (hij : j = i + 2) (hjn : j < n) (hv : Whole w vb 36 (gcells p).toArray) (hne : vb ≠ g) (hn : n ≤ 5000) :
    Calls Try.prog 42 #[.slice (some ⟨g, 0, none⟩) n c, .int .i64 i, .int .i64 j, .slice (some ⟨vb, 0, none⟩) 1 1] w (RowTo base w (some g) (l.take i ++ p :: l.drop j)) := by
  obtain ⟨cur, hg, hcl, htk, hnc, hcm, hbg⟩ := own_block h
  have hll := h.len
  obtain ⟨tot, htot⟩ : ∃ tot, tot = i + 1 + (n - j) := ⟨_, rfl⟩
  have e1 : (lcells (l.drop j)).length = (n - j) * 2 := by rw [lcells_length, List.length_drop, hll]
  have HP := put_over (p := p) hcl hll hnc (show i < j by omega) (Nat.le_of_lt hjn) htk
  rw [← htot] at HP
  have hcp1 := Lib.hid (fun ty dc sc => copy_row (P := Try.prog) (w := w.drew) (.tmp 95) (.tmp 96) 22 22 ty 36 Try.underlying22 2 size36 (tot - i) dc 1 sc ⟨vb, 0, none⟩ g (i * 2) cur 36 hg (gcells p) 1 (show min 1 (tot - i) = 1 by omega) rfl
    (fun t u hu => by rw [Addr.add_lit, Nat.zero_add, Whole.cell (w := w.drew) hv, List.getElem?_toArray]; exact hu) (by rw [gcells_length]; omega) (gcells_one p))
  obtain ⟨W1, hW1⟩ : ∃ W1, W1 = w.drew.setRow g (splice cur (i * 2) (gcells p)).toArray := ⟨_, rfl⟩
  have hg1 : W1.heap[g]? = some (.cells (splice cur (i * 2) (gcells p)).toArray 36 (0, 0)) := by rw [hW1]; exact heap_row w.drew hg _
  have l1 : (splice cur (i * 2) (gcells p)).length = c * 2 := by rw [length_splice _ _ _ (by rw [gcells_length]; omega)]; exact hcl
  have hsrc : ∀ t u, (lcells (l.drop j))[t]? = some u → W1.drew.cell? ((⟨g, j * 2, none⟩ : Addr).add t) = some u := fun t u hu => by
    rw [Addr.add_lit]
    show W1.cell? _ = _
    rw [cell_of_row W1 g _ _ 36 (0, 0) hg1, List.getElem?_toArray]
    have ht : t < (n - j) * 2 := by rw [← e1]; exact (List.getElem?_eq_some_iff.1 hu).1
    rw [← lc_drop, ← htk, List.getElem?_drop, List.getElem?_take_of_lt (by omega)] at hu
    rw [← hu, ← List.getElem?_drop, ← List.getElem?_drop, drop_splice_hi (by rw [gcells_length]; omega) (by omega)]
  have hcp2 := Lib.hid (fun ty dc sc => copy_row (P := Try.prog) (w := W1.drew) (.tmp 103) (.tmp 106) 22 22 ty 36 Try.underlying22 2 size36 (n - j) dc (n - j) sc ⟨g, j * 2, none⟩ g ((i + 1) * 2) _ 36 (show W1.drew.heap[g]? = _ from hg1) (lcells (l.drop j)) (n - j) (show min (n - j) (n - j) = n - j by omega) e1
    hsrc (by rw [l1]; omega) (lcells_one _))
  obtain ⟨W2, hW2⟩ : ∃ W2, W2 = W1.drew.setRow g (splice (splice cur (i * 2) (gcells p)) ((i + 1) * 2) (lcells (l.drop j))).toArray := ⟨_, rfl⟩
  have hg2 : W2.heap[g]? = some (.cells (splice (splice cur (i * 2) (gcells p)) ((i + 1) * 2) (lcells (l.drop j))).toArray 36 (0, 0)) := by rw [hW2]; exact heap_row W1.drew hg1 _
  have G2 : w.grownBy W2 (some g) := by
    rw [hW2]
    refine grown_setRow (World.grownBy.trans (b := W1) ?_ (grown_drew W1 _)) _
    rw [hW1]
    exact grown_setRow (grown_drew w _) _
  have HLL : (l.take i ++ p :: l.drop j).length = tot := by rw [List.length_append, List.length_cons, List.length_take, List.length_drop]; omega
  have O2 := own_make hg2 HP.1 HP.2 HLL (show tot ≤ c by omega) hcm hbg
  have HC := clear_past O2
  have HE := Lib.hid (show RowTo base w (some g) (l.take i ++ p :: l.drop j) _ (W2.setCells g (tot * 2) (gcells zeroG)) from row_to HLL HC.1 (G2.trans HC.2))
  have HT : Hid (∀ t, t < 2 → (W2.cell? ⟨g, tot * 2 + t, none⟩).isSome = true ∧ W2.frozen? ⟨g, tot * 2 + t, none⟩ = false) := Lib.hid (fun t ht => own_there O2 (by omega))
  rw [← hW1] at hcp1
  rw [← hW2] at hcp2
  have hne1 : ¬ ((i : Int) = (j : Int)) := by omega
  have hne2 : ¬ ((j : Int) = (n : Int)) := by omega
  have hb1 : (i : Int) ≤ (j : Int) := by omega
  have hb2 : (j : Int) ≤ (n : Int) := by omega
  have hb3 : (i : Int) + 1 ≤ (j : Int) := by omega
  have hb6 : (i : Int) + 1 ≤ (tot : Int) := by omega
  have hb7 : (i : Int) ≤ (tot : Int) := by omega
  have hb8 : (0 : Int) ≤ (i : Int) + 1 := by omega
  have hb9 : (tot : Int) ≤ (n : Int) := by omega
  have hba : (tot : Int) ≤ (c : Int) := by omega
  have hbb : ¬ ((c : Int) < (tot : Int)) := by omega
  have hic : i ≤ c := by omega
  have hjc : j ≤ c := by omega
  have hji : i ≤ j := by omega
  have hjn' : j ≤ n := by omega
  have htc : tot ≤ c := by omega
  have htn : tot ≤ n := by omega
  have hit : i ≤ tot := by omega
  have hw1 : IntKind.i64.wrap ((i : Int) + 1) = (i : Int) + 1 := by rw [IntKind.wrap_i64]; unfold maxLen at hcm; omega
  have hw2 : IntKind.i64.wrap ((i : Int) + 1 + ((n - j : Nat) : Int)) = (tot : Int) := by rw [IntKind.wrap_i64]; omega
  have hcc : c ≤ 9223372036854775807 := by unfold maxLen at hcm; omega
  have e4 : ((i : Int) + 1).toNat = i + 1 := by omega
  have e5 : tot - (i + 1) = n - j := by omega
  have hc1 : ¬ (c = i) := by omega
  have hc2 : ¬ (c = i + 1) := by omega
  have hc3 : ¬ (c = j) := by omega
  have hgb : g < w.heap.size := (Array.getElem?_eq_some_iff.1 hg).1
  have mx : Try.prog.follows .mixedOrders = true := by kernel_rfl
  have hc4 : ¬ (c = tot) := by omega
  have e6 : n - tot = 1 := by omega
  clear hW1 hW2 hg1 hg2 hg h hv htk hcm hbg HP O2 G2 HLL hsrc HC htot hij hll
  go_enter Try.func42, Try.ntmps42
  go_wp2_with fail
  go_region
  have hq1 := hcp1.out
  go_wp2_with fail
  go_region_law (refine step_copy_at (P := Try.prog) rfl (.tmp 103) (.tmp 106) 22 22 rfl (.slice (some ⟨g, (i + 1) * 2, none⟩) (n - j) (c - (i + 1))) (.slice (some ⟨g, j * 2, none⟩) (n - j) (c - j)) (by simp [Act.eval, Act.put]) (by simp [Act.eval, Act.put]) (hcp2.out _ (c - (i + 1)) (c - j)) ?_)
  have hcl := fun ty C => run_clear1 W2 ty g (tot * 2) C (fun t ht => (HT.out t ht).1) (fun t ht => (HT.out t ht).2)
  go_wp2_with fail
  go_ret
  exact HE.out
end Go.Proofs.Ytkhcaobmohppnaa.Spc
