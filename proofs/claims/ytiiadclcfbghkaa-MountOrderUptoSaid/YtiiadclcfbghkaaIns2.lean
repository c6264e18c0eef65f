/-
  slices.Insert of one page ahead of a row of the call's own: the three ways.
-/
import Derived.Test.YtiiadclcfbghkaaIns
namespace Go.Proofs.Ytiiadclcfbghkaa.Mnt
open Go.ChangeShapes Go.WideShapes Go.ChangeAt Go.RowKit Words
set_option linter.unusedVariables false

/-- The row with the page ahead; below base nothing has changed. -/
def Ahead (base : Nat) (w : World) (l : List Pg) (p : Pg) (n : Nat) (e : Ending) (w' : World) : Prop :=
  ∃ A c, e = .returned (.slice A (n + 1) c) ∧ OwnPg w' base A (n + 1) c (p :: l) ∧ Below base w w'
set_option maxHeartbeats 1500000 in
set_option maxRecDepth 100000 in
theorem insA (base vb : Nat) (A : Option Addr) (c : Nat) (p : Pg) (w : World) (h : OwnPg w base A 0 c []) (hv : Whole w vb 36 (pcells p).toArray) (hb : base ≤ w.heap.size) :
    Calls Try.prog 15 #[.slice A 0 c, .int .i64 0, .slice (some ⟨vb, 0, none⟩) 1 1] w (Ahead base w [] p 0) := by
  obtain ⟨i0, hi0, hz0, hz1, hz2⟩ := info_parts info36
  have hr : Words.Rd w (vb + 1) 4 (some ⟨vb, 0, none⟩) 1 1 (lcells [p]) := ⟨rfl, Nat.le_refl _, by unfold maxLen; omega, (fun e => by cases e), fun _ => ⟨vb, 0, rfl, Nat.lt_succ_self _, fun j u hu => by
    rw [Nat.zero_add, Whole.cell hv, List.getElem?_toArray]; simpa [lcells] using hu⟩⟩
  have H := Lib.hid h
  have HR := Lib.hid hr
  have hc : c ≤ 9223372036854775807 := by have := Words.Rd.max h.pgs; unfold maxLen at this; omega
  clear hr hv h
  have hA : (if c = 0 then A else A.map fun a => a.add 0) = A := by
    split
    · rfl
    · cases A with
      | none => rfl
      | some a => simp [Addr.add]
  go_enter Try.func15, Try.ntmps15
  go_wp2_with (at_builtin; refine wpList_append_rd _ rfl (.tmp 23) (.tmp 24) 23 rfl base 36 i0 _ 4 32 Try.underlying23 hi0 hz0 hz1 hz2 rfl (by decide) _ 0 [] rfl H.out (vb + 1) _ 1 1 (lcells [p]) rfl HR.out (lcells_one _) (by unfold maxLen; omega) (by omega) hb ?_
               intro A2 c2 w2 hown2 hg2)
  go_ret
  exact ⟨A2, c2, rfl, hown2, below_grown (Below.refl _ _) H.out hg2 hb (Nat.le_refl _)⟩
set_option maxHeartbeats 1500000 in
set_option maxRecDepth 100000 in
theorem insC (base g vb n c : Nat) (l : List Pg) (p : Pg) (w : World) (h : OwnPg w base (some ⟨g, 0, none⟩) n c l) (h0 : 0 < n) (hroom : n + 1 ≤ c) (hv : Whole w vb 36 (pcells p).toArray) (hne : vb ≠ g) (hb : base ≤ w.heap.size) :
    Calls Try.prog 15 #[.slice (some ⟨g, 0, none⟩) n c, .int .i64 0, .slice (some ⟨vb, 0, none⟩) 1 1] w (Ahead base w l p n) := by
  obtain ⟨cur, hg, hcl, htk, hnc, hcm, hbg⟩ := own_block h
  have hll := h.len
  have e1 : (lcells l).length = n * 4 := by rw [lcells_length, hll]
  have hov : ∀ lb cb, (callFunc 17 #[.slice (some ⟨vb, 0, none⟩) 1 1, .slice (some ⟨g, 4, none⟩) lb cb]).run Try.prog w = .ok (.value (.bool false)) w := fun lb cb => by
    rw [run_callFunc_extern Try.func17 (by kernel_rfl) (by kernel_rfl) (by kernel_rfl) (e := Extern.SlicesOverlaps.overlaps #[23, 23] #[4]) (by kernel_rfl),
      Lib.run_overlaps_apart w 23 4 36 Try.underlying23 4 sizeOf36 ⟨vb, 0, none⟩ ⟨g, 4, none⟩ 1 1 lb cb hne 36 36 4 (c * 4) (by unfold World.shape?; rw [hv]; rfl) (by unfold World.shape?; rw [hg]; simp [hcl]) (by omega) (Whole.frozen hv 0) (Whole.frozen hv 4)]
    rfl
  have hsrc1 : Hid (∀ j u, (lcells l)[j]? = some u → w.drew.cell? ((⟨g, 0, none⟩ : Addr).add j) = some u) := Lib.hid (fun j u hu => by
    rw [Addr.add_lit]
    exact Words.Rd.cellAt h.pgs rfl h0 j u hu)
  have hgd : w.drew.heap[g]? = some (.cells cur.toArray 36 (0, 0)) := hg
  have hfit1 : 4 + (lcells l).length ≤ cur.length := by omega
  have hcp1 := Lib.hid (fun ty dc sc => copy_row (P := Try.prog) (w := w.drew) (.tmp 73) (.tmp 76) 23 23 ty 36 Try.underlying23 4 size36 n dc (n + 1) sc ⟨g, 0, none⟩ g 4 cur 36 hgd (lcells l) n (by simp) e1 hsrc1.out hfit1 (lcells_one l))
  have l1 : (splice cur 4 (lcells l)).length = c * 4 := by rw [length_splice _ _ _ (by omega)]; exact hcl
  obtain ⟨W1, hW1⟩ : ∃ W1, W1 = w.drew.setRow g (splice cur 4 (lcells l)).toArray := ⟨_, rfl⟩
  have hg1 : W1.heap[g]? = some (.cells (splice cur 4 (lcells l)).toArray 36 (0, 0)) := by rw [hW1]; exact heap_row w.drew hgd _
  have hv1 : Whole W1 vb 36 (pcells p).toArray := by rw [hW1]; exact whole_row (w := w.drew) hv _ hne
  have hcp2 := Lib.hid (fun ty dc sc => copy_row (P := Try.prog) (w := W1) (.tmp 80) (.tmp 81) 23 23 ty 36 Try.underlying23 4 size36 (n + 1) dc 1 sc ⟨vb, 0, none⟩ g 0 _ 36 hg1 (pcells p) 1 (by simp) rfl
    (fun j u hu => by rw [Addr.add_lit, Nat.zero_add, Whole.cell hv1, List.getElem?_toArray]; exact hu) (by rw [pcells_length, l1]; omega) (pcells_one p))
  have HR := Lib.hid (heap_row W1 hg1 (splice (splice cur 4 (lcells l)) 0 (pcells p)))
  have HB1 : Hid (Below base w (W1.setRow g (splice (splice cur 4 (lcells l)) 0 (pcells p)).toArray)) := Lib.hid (below_setRow (by rw [hW1]; exact below_setRow (Below.refl _ _).drew hbg _) hbg _)
  rw [← hW1] at hcp1
  clear hW1 hg1 hv1
  have HP := Lib.hid (put_room (p := p) hcl hll hroom)
  have HBG := Lib.hid hbg
  have HCM := Lib.hid hcm
  have hz2' : ¬ ((0 : Int) = (n : Int)) := by omega
  have hsp : ¬ ((n : Int) + 1 > (c : Int)) := by omega
  have hcc : c ≤ 9223372036854775807 := by unfold maxLen at hcm; omega
  have hc1 : ¬ (c = 1) := by omega
  have hn1 : n + 1 - 1 = n := by omega
  have hw1 : IntKind.i64.wrap 1 = 1 := by decide
  have hb1 : (1 : Int) ≤ (n : Int) + 1 := by omega
  have hb0 : (0 : Int) ≤ (n : Int) + 1 := by omega
  have hgb : g < w.heap.size := (Array.getElem?_eq_some_iff.1 hg).1
  have mx : Try.prog.follows .mixedOrders = true := by kernel_rfl
  have HL := Lib.hid hll
  clear hll htk hg hv h hcm hbg
  go_enter Try.func15, Try.ntmps15
  go_wp2_with (simp only [hov])
  go_region_law (refine step_copy_at (P := Try.prog) rfl (.tmp 73) (.tmp 76) 23 23 rfl (.slice (some ⟨g, 4, none⟩) n (c - 1)) (.slice (some ⟨g, 0, none⟩) (n + 1) c) (by simp [Act.eval, Act.put]) (by simp [Act.eval, Act.put]) (hcp1.out _ (c - 1) c) ?_)
  have hq2 := hcp2.out
  go_wp2_with fail
  go_ret
  exact ⟨_, c, rfl, own_make HR.out HP.out.1 HP.out.2 (by rw [List.length_cons, HL.out]) hroom HCM.out HBG.out, HB1.out⟩
set_option maxHeartbeats 1500000 in
set_option maxRecDepth 100000 in
theorem insB (base g vb n : Nat) (l : List Pg) (p : Pg) (w : World) (h : OwnPg w base (some ⟨g, 0, none⟩) n n l) (h0 : 0 < n) (hn : n ≤ 4398046511000) (hv : Whole w vb 36 (pcells p).toArray) (hb : base ≤ w.heap.size) :
    Calls Try.prog 15 #[.slice (some ⟨g, 0, none⟩) n n, .int .i64 0, .slice (some ⟨vb, 0, none⟩) 1 1] w (Ahead base w l p n) := by
  obtain ⟨cur0, hg, hcl0, htk, hnc, hcm, hbg⟩ := own_block h
  obtain ⟨i0, hi0, hz0, hzs, hzb⟩ := info_parts info36
  have hll := h.len
  have hgb : g < w.heap.size := (Array.getElem?_eq_some_iff.1 hg).1
  have hvb : vb < w.heap.size := Whole.lt hv
  have e1 : (lcells l).length = n * 4 := by rw [lcells_length, hll]
  have hold : (Builtin.firstCells i0.size 0 (.slice (some ⟨g, 0, none⟩) 0 n)).run Try.prog w.drew = .ok (([] : List Value)).toArray w.drew :=
    run_firstCells_some w.drew i0.size 0 ⟨g, 0, none⟩ 0 n [] (by simp) (fun j v hj => by simp at hj)
  have hrz0 := fun ty => Lib.run_append_grow_zeros w 23 3 ty 36 i0 _ .i64 .i64 Try.underlying23 Try.underlying3 hi0 hz0 (some ⟨g, 0, none⟩) 0 n [] hold (n + 1) (by omega) (by omega) (by omega) (by omega) (by rw [hzb]; omega) (by rw [hzb]; exact growslice_fits (by omega) (by omega))
  have hGn := grownCap_ge w (0 + (n + 1)) n 36
  have hG63 := grownCap_le_maxLen w (0 + (n + 1)) n 36 (by unfold maxLen; omega)
  obtain ⟨G, hG⟩ : ∃ G, G = grownCap w (0 + (n + 1)) n 36 := ⟨_, rfl⟩
  rw [← hG] at hGn hG63
  simp only [← hG] at hrz0
  obtain ⟨ROW, hROW⟩ : ∃ ROW : Array Value, ROW = ([] : List Value).toArray ++ Builtin.zeroCells (Value.agg #[.int .i64 0, .int .i64 0, .int .i64 0, .bool false]).cells (n + 1) ++ Builtin.zeroCells (Value.agg #[.int .i64 0, .int .i64 0, .int .i64 0, .bool false]).cells (G - (0 + (n + 1))) := ⟨_, rfl⟩
  simp only [← hROW] at hrz0
  have hsR : ROW.size = G * 4 := by
    rw [hROW, Array.size_append, Array.size_append, zeros_length, zeros_length]
    simp
    omega
  rw [Nat.zero_add] at hrz0 hGn
  obtain ⟨cur⟩ := ROW
  have hcl : cur.length = G * 4 := by simpa using hsR
  obtain ⟨W0, hW0⟩ : ∃ W0, W0 = w.drew.alloc (.cells cur.toArray 36) := ⟨_, rfl⟩
  rw [← hW0] at hrz0
  have hg0 : W0.heap[w.heap.size]? = some (.cells cur.toArray 36 (0, 0)) := by rw [hW0]; exact heap_alloc_new w.drew _
  have hv0 : Whole W0 vb 36 (pcells p).toArray := by rw [hW0]; exact Whole.alloc (w := w.drew) hv _
  have hB0 : Below w.heap.size w W0 := by rw [hW0]; exact (Below.refl _ _).drew.alloc (Nat.le_refl _) _
  have hP0 := Words.Rd.below h.pgs hB0 (Nat.le_refl _)
  have hcp1 := Lib.hid (fun ty dc sc => copy_row (P := Try.prog) (w := W0) (.tmp 43) (.tmp 44) 23 23 ty 36 Try.underlying23 4 size36 (n + 1) dc 1 sc ⟨vb, 0, none⟩ w.heap.size 0 cur 36 hg0 (pcells p) 1 (by simp) rfl
    (fun j u hu => by rw [Addr.add_lit, Nat.zero_add, Whole.cell hv0, List.getElem?_toArray]; exact hu) (by rw [pcells_length]; omega) (pcells_one p))
  have l1 : (splice cur 0 (pcells p)).length = G * 4 := by rw [length_splice _ _ _ (by rw [pcells_length]; omega)]; exact hcl
  obtain ⟨W1, hW1⟩ : ∃ W1, W1 = W0.setRow w.heap.size (splice cur 0 (pcells p)).toArray := ⟨_, rfl⟩
  have hg1 : W1.heap[w.heap.size]? = some (.cells (splice cur 0 (pcells p)).toArray 36 (0, 0)) := by rw [hW1]; exact heap_row W0 hg0 _
  have hB1 : Below w.heap.size w W1 := by rw [hW1]; exact below_setRow hB0 (Nat.le_refl _) _
  have hP1 := Words.Rd.below h.pgs hB1 (Nat.le_refl _)
  rw [← hW1] at hcp1
  have hcp2 := Lib.hid (fun ty dc sc => copy_row (P := Try.prog) (w := W1.drew) (.tmp 50) (.tmp 53) 23 23 ty 36 Try.underlying23 4 size36 n dc n sc ⟨g, 0, none⟩ w.heap.size 4 _ 36 (show W1.drew.heap[w.heap.size]? = _ from hg1) (lcells l) n (by simp) e1
    (fun j u hu => by rw [Addr.add_lit]; exact Words.Rd.cellAt hP1 rfl h0 j u hu) (by rw [l1, e1]; omega) (lcells_one l))
  have HR := Lib.hid (heap_row W1.drew (show W1.drew.heap[w.heap.size]? = _ from hg1) (splice (splice cur 0 (pcells p)) 4 (lcells l)))
  have HB1 : Hid (Below base w (W1.drew.setRow w.heap.size (splice (splice cur 0 (pcells p)) 4 (lcells l)).toArray)) := Lib.hid ((below_setRow hB1.drew (Nat.le_refl _) _).mono hb)
  have HP := Lib.hid (put_grow (p := p) hcl hll (show n + 1 ≤ G by omega))
  have HRZ := Lib.hid hrz0
  have HL := Lib.hid hll
  have HBW := Lib.hid hb
  have HG1 := Lib.hid hGn
  have HG2 := Lib.hid hG63
  have hGle : n + 1 ≤ G := hGn
  have hG9 : G ≤ 9223372036854775807 := by unfold maxLen at hG63; exact hG63
  have hz2' : ¬ ((0 : Int) = (n : Int)) := by omega
  have hsp : (n : Int) < (n : Int) + 1 := by omega
  have hsw : IntKind.i64.wrap ((n : Int) + 1) = (n : Int) + 1 := by rw [IntKind.wrap_i64]; omega
  have hc0 : ¬ (G = 0) := by omega
  have hc1 : ¬ (G = 1) := by omega
  have hc2 : ¬ (n = 0) := by omega
  have hn1 : n + 1 - 1 = n := by omega
  have hw1 : IntKind.i64.wrap 1 = 1 := by decide
  have hb1 : (1 : Int) ≤ (n : Int) + 1 := by omega
  have hb0 : (0 : Int) ≤ (n : Int) + 1 := by omega
  have mx : Try.prog.follows .mixedOrders = true := by kernel_rfl
  clear hGn hG63 hrz0 hW1 hW0 hg1 hg0 hB0 hB1 hP0 hP1 hv0 hv hg htk hold hG hROW hsR h hll hb hbg hcm hcl0 hnc
  go_enter Try.func15, Try.ntmps15
  have hq1 := hcp1.out
  go_wp2_with (at_builtin; refine Lib.wpList_append_run _ rfl (.tmp 34) (.tmp 39) 23 3 rfl _ _ rfl rfl _ _ (HRZ.out _) ?_)
  go_region_law (refine step_copy_at (P := Try.prog) rfl (.tmp 50) (.tmp 53) 23 23 rfl (.slice (some ⟨w.heap.size, 4, none⟩) n (G - 1)) (.slice (some ⟨g, 0, none⟩) n n) (by simp [Act.eval, Act.put]) (by simp [Act.eval, Act.put]) (hcp2.out _ (G - 1) n) ?_)
  go_wp2_with fail
  go_ret
  exact ⟨_, G, rfl, own_make HR.out HP.out.1 HP.out.2 (by rw [List.length_cons, HL.out]) HG1.out HG2.out HBW.out, HB1.out⟩
end Go.Proofs.Ytiiadclcfbghkaa.Mnt
