/-
  slices.Insert of one gap into a row of the call's own: the three ways.
-/
import Derived.Test.YtkhcaobmohppnaaDIns
namespace Go.Proofs.Ytkhcaobmohppnaa.Spc
open Go.ChangeShapes Go.WideShapes Go.ChangeAt Go.RowKit Words
set_option linter.unusedVariables false

/-- A row of the call's own is left, nothing else has changed but its block. -/
def RowTo (base : Nat) (w : World) (r : Option Nat) (l' : List Gp) (e : Ending) (w' : World) : Prop :=
  ∃ A n c, e = .returned (.slice A n c) ∧ l'.length = n ∧ OwnGp w' base A n c l' ∧ w.grownBy w' r
theorem row_to {base n c : Nat} {w w' : World} {r : Option Nat} {A : Option Addr} {l' : List Gp} (h : l'.length = n) (ho : OwnGp w' base A n c l') (hg : w.grownBy w' r) : RowTo base w r l' (.returned (.slice A n c)) w' := ⟨A, n, c, rfl, h, ho, hg⟩
theorem grown_below {w w' : World} (h : Below w.heap.size w w') (r : Option Nat) : w.grownBy w' r := ⟨h.os, h.tape, h.output, h.size, fun i hi _ => h.block i hi⟩
theorem grown_setRow {w w' : World} {g : Nat} (h : w.grownBy w' (some g)) (cs : Array Value) : w.grownBy (w'.setRow g cs) (some g) := by
  refine h.trans ⟨rfl, rfl, rfl, by simp [World.setRow], fun i hi hne => ?_⟩
  simp only [World.setRow, Array.getElem?_modify]
  rw [if_neg (fun e => hne (by rw [e]))]
set_option maxHeartbeats 1500000 in
set_option maxRecDepth 100000 in
theorem insA (base vb : Nat) (A : Option Addr) (n c : Nat) (l : List Gp) (p : Gp) (w : World) (h : OwnGp w base A n c l) (hv : Whole w vb 36 (gcells p).toArray) (hb : base ≤ w.heap.size) (hn : n ≤ 5000) :
    Calls Try.prog 43 #[.slice A n c, .int .i64 n, .slice (some ⟨vb, 0, none⟩) 1 1] w (RowTo base w (Value.slice A n c).ownBlock (l ++ [p])) := by
  obtain ⟨i0, hi0, hz0, hz1, hz2⟩ := info_parts info36
  have hr : Words.Rd w (vb + 1) 2 (some ⟨vb, 0, none⟩) 1 1 (lcells [p]) := ⟨rfl, Nat.le_refl _, by unfold maxLen; omega, (fun e => by cases e), fun _ => ⟨vb, 0, rfl, Nat.lt_succ_self _, fun j u hu => by
    rw [Nat.zero_add, Whole.cell hv, List.getElem?_toArray]; simpa [lcells] using hu⟩⟩
  have H := Lib.hid h
  have HL := Lib.hid h.len
  have HR := Lib.hid hr
  have hc : c ≤ 9223372036854775807 := by have := Words.Rd.max h.gps; unfold maxLen at this; omega
  have hnc : n ≤ c := Words.Rd.le h.gps
  clear hr hv h
  go_enter Try.func43, Try.ntmps43
  go_wp2_with (at_builtin; refine wpList_append_rd _ rfl (.tmp 23) (.tmp 24) 22 rfl base 36 i0 _ 2 16 Try.underlying22 hi0 hz0 hz1 hz2 rfl (by decide) _ n (lcells l) rfl H.out (vb + 1) _ 1 1 (lcells [p]) rfl HR.out (lcells_one _) (by unfold maxLen; omega) (by omega) hb ?_
               intro A2 c2 w2 hown2 hg2)
  all_goals
    go_ret
    rw [← lcells_append] at hown2
    refine row_to (by rw [List.length_append, HL.out]; rfl) hown2 ?_
    have hg3 : w.grownBy w2 (Value.slice A n c).ownBlock := by simpa [Act.eval] using hg2
    have hoe : ∀ a b : Nat, (Value.slice A n a).ownBlock = (Value.slice A n b).ownBlock := fun a b => by cases A <;> rfl
    first
      | exact hg3
      | (rw [hoe _ c]; exact hg3)
set_option maxHeartbeats 1500000 in
set_option maxRecDepth 100000 in
theorem insC (base g vb i n c : Nat) (l : List Gp) (p : Gp) (w : World) (h : OwnGp w base (some ⟨g, 0, none⟩) n c l) (hi : i < n) (hroom : n + 1 ≤ c) (hv : Whole w vb 36 (gcells p).toArray) (hne : vb ≠ g) (hb : base ≤ w.heap.size) :
    Calls Try.prog 43 #[.slice (some ⟨g, 0, none⟩) n c, .int .i64 i, .slice (some ⟨vb, 0, none⟩) 1 1] w (RowTo base w (some g) (l.take i ++ p :: l.drop i)) := by
  obtain ⟨cur, hg, hcl, htk, hnc, hcm, hbg⟩ := own_block h
  have hll := h.len
  have e1 : (lcells (l.drop i)).length = (n - i) * 2 := by rw [lcells_length, List.length_drop, hll]
  have hov : ∀ lb cb, (callFunc 44 #[.slice (some ⟨vb, 0, none⟩) 1 1, .slice (some ⟨g, (i + 1) * 2, none⟩) lb cb]).run Try.prog w = .ok (.value (.bool false)) w := fun lb cb => by
    rw [run_callFunc_extern Try.func44 (by kernel_rfl) (by kernel_rfl) (by kernel_rfl) (e := Extern.SlicesOverlaps.overlaps #[22, 22] #[4]) (by kernel_rfl),
      Lib.run_overlaps_apart w 22 4 36 Try.underlying22 2 sizeOf36 ⟨vb, 0, none⟩ ⟨g, (i + 1) * 2, none⟩ 1 1 lb cb hne 36 36 2 (c * 2) (by unfold World.shape?; rw [hv]; rfl) (by unfold World.shape?; rw [hg]; simp [hcl]) (by omega) (Whole.frozen hv 0) (Whole.frozen hv 2)]
    rfl
  have hsrc1 : Hid (∀ j u, (lcells (l.drop i))[j]? = some u → w.drew.cell? ((⟨g, i * 2, none⟩ : Addr).add j) = some u) := Lib.hid (fun j u hu => by
    rw [Addr.add_lit]
    rw [← lc_drop, List.getElem?_drop] at hu
    have := Words.Rd.cellAt h.gps rfl (by omega) (i * 2 + j) u hu
    rwa [Nat.zero_add] at this)
  have hgd : w.drew.heap[g]? = some (.cells cur.toArray 36 (0, 0)) := hg
  have hfit1 : (i + 1) * 2 + (lcells (l.drop i)).length ≤ cur.length := by omega
  have hcp1 := Lib.hid (fun ty dc sc => copy_row (P := Try.prog) (w := w.drew) (.tmp 73) (.tmp 76) 22 22 ty 36 Try.underlying22 2 size36 (n - i) dc (n + 1 - i) sc ⟨g, i * 2, none⟩ g ((i + 1) * 2) cur 36 hgd (lcells (l.drop i)) (n - i) (show min (n + 1 - i) (n - i) = n - i by omega) e1 hsrc1.out hfit1 (lcells_one _))
  have l1 : (splice cur ((i + 1) * 2) (lcells (l.drop i))).length = c * 2 := by rw [length_splice _ _ _ (by omega)]; exact hcl
  obtain ⟨W1, hW1⟩ : ∃ W1, W1 = w.drew.setRow g (splice cur ((i + 1) * 2) (lcells (l.drop i))).toArray := ⟨_, rfl⟩
  have hg1 : W1.heap[g]? = some (.cells (splice cur ((i + 1) * 2) (lcells (l.drop i))).toArray 36 (0, 0)) := by rw [hW1]; exact heap_row w.drew hgd _
  have hv1 : Whole W1 vb 36 (gcells p).toArray := by rw [hW1]; exact whole_row (w := w.drew) hv _ hne
  have hcp2 := Lib.hid (fun ty dc sc => copy_row (P := Try.prog) (w := W1) (.tmp 80) (.tmp 81) 22 22 ty 36 Try.underlying22 2 size36 (n + 1 - i) dc 1 sc ⟨vb, 0, none⟩ g (i * 2) _ 36 hg1 (gcells p) 1 (show min 1 (n + 1 - i) = 1 by omega) rfl
    (fun j u hu => by rw [Addr.add_lit, Nat.zero_add, Whole.cell hv1, List.getElem?_toArray]; exact hu) (by rw [gcells_length, l1]; omega) (gcells_one p))
  have HR := Lib.hid (heap_row W1 hg1 (splice (splice cur ((i + 1) * 2) (lcells (l.drop i))) (i * 2) (gcells p)))
  have HB1 : Hid (w.grownBy (W1.setRow g (splice (splice cur ((i + 1) * 2) (lcells (l.drop i))) (i * 2) (gcells p)).toArray) (some g)) := Lib.hid (grown_setRow (by rw [hW1]; exact grown_setRow (grown_drew w _) _) _)
  rw [← hW1] at hcp1
  clear hW1 hg1 hv1
  have HP := Lib.hid (put_room (p := p) hcl hll hroom (Nat.le_of_lt hi) htk)
  have HBG := Lib.hid hbg
  have HCM := Lib.hid hcm
  have HLL : Hid ((l.take i ++ p :: l.drop i).length = n + 1) := Lib.hid (by rw [List.length_append, List.length_cons, List.length_take, List.length_drop]; omega)
  have hz2' : ¬ ((i : Int) = (n : Int)) := by omega
  have hsp : ¬ ((n : Int) + 1 > (c : Int)) := by omega
  have hcc : c ≤ 9223372036854775807 := by unfold maxLen at hcm; omega
  have hc1 : ¬ (c = i + 1) := by omega
  have hc0 : ¬ (c = i) := by omega
  have hn1 : n + 1 - (i + 1) = n - i := by omega
  have e4 : ((i : Int) + 1).toNat = i + 1 := by omega
  have hw1 : IntKind.i64.wrap ((i : Int) + 1) = (i : Int) + 1 := by rw [IntKind.wrap_i64]; omega
  have hw2 : IntKind.i64.wrap ((n : Int) + 1) = (n : Int) + 1 := by rw [IntKind.wrap_i64]; omega
  have hb1 : (i : Int) + 1 ≤ (n : Int) + 1 := by omega
  have hb2 : (i : Int) ≤ (n : Int) + 1 := by omega
  have hb0 : (0 : Int) ≤ (i : Int) + 1 := by omega
  have hb3 : (0 : Int) ≤ (n : Int) + 1 := by omega
  have e5 : ((n : Int) + 1).toNat = n + 1 := by omega
  have hic : i ≤ c := by omega
  have hin : i ≤ n := by omega
  have hin1 : i ≤ n + 1 := by omega
  have hgb : g < w.heap.size := (Array.getElem?_eq_some_iff.1 hg).1
  have mx : Try.prog.follows .mixedOrders = true := by kernel_rfl
  have HL := Lib.hid hll
  clear hll htk hg hv h hcm hbg
  go_enter Try.func43, Try.ntmps43
  go_wp2_with (simp only [hov])
  go_region_law (refine step_copy_at (P := Try.prog) rfl (.tmp 73) (.tmp 76) 22 22 rfl (.slice (some ⟨g, (i + 1) * 2, none⟩) (n - i) (c - (i + 1))) (.slice (some ⟨g, i * 2, none⟩) (n + 1 - i) (c - i)) (by simp [Act.eval, Act.put]) (by simp [Act.eval, Act.put]) (hcp1.out _ (c - (i + 1)) (c - i)) ?_)
  have hq2 := hcp2.out
  go_wp2_with fail
  go_ret
  exact row_to HLL.out (own_make HR.out HP.out.1 HP.out.2 HLL.out hroom HCM.out HBG.out) HB1.out
set_option maxHeartbeats 1500000 in
set_option maxRecDepth 100000 in
theorem insB (base g vb i n : Nat) (l : List Gp) (p : Gp) (w : World) (h : OwnGp w base (some ⟨g, 0, none⟩) n n l) (hi : i < n) (hn : n ≤ 5000) (hv : Whole w vb 36 (gcells p).toArray) (hb : base ≤ w.heap.size) :
    Calls Try.prog 43 #[.slice (some ⟨g, 0, none⟩) n n, .int .i64 i, .slice (some ⟨vb, 0, none⟩) 1 1] w (RowTo base w (some g) (l.take i ++ p :: l.drop i)) := by
  obtain ⟨cur0, hg, hcl0, htk, hnc, hcm, hbg⟩ := own_block h
  obtain ⟨i0, hi0, hz0, hzs, hzb⟩ := info_parts info36
  have hll := h.len
  have hgb : g < w.heap.size := (Array.getElem?_eq_some_iff.1 hg).1
  have hvb : vb < w.heap.size := Whole.lt hv
  have e1 : (lcells (l.drop i)).length = (n - i) * 2 := by rw [lcells_length, List.length_drop, hll]
  have e0 : (lcells (l.take i)).length = i * i0.size := by rw [lcells_length, List.length_take, hzs]; omega
  have hold : (Builtin.firstCells i0.size i (.slice (some ⟨g, 0, none⟩) i n)).run Try.prog w.drew = .ok (lcells (l.take i)).toArray w.drew :=
    run_firstCells_some w.drew i0.size i ⟨g, 0, none⟩ i n (lcells (l.take i)) e0 (fun j v hj => by
      rw [Addr.add_lit]
      rw [← lc_take] at hj
      obtain ⟨hj1, hj2⟩ := List.getElem?_eq_some_iff.1 hj
      rw [List.length_take] at hj1
      rw [List.getElem?_take_of_lt (by omega)] at hj
      exact Words.Rd.cellAt h.gps rfl (by omega) j v hj)
  have hrz0 := fun ty => Lib.run_append_grow_zeros w 22 3 ty 36 i0 _ .i64 .i64 Try.underlying22 Try.underlying3 hi0 hz0 (some ⟨g, 0, none⟩) i n (lcells (l.take i)) hold (n + 1 - i) (by omega) (by omega) (by omega) (by omega) (by rw [hzb]; omega) (by rw [hzb]; exact growslice_fits (by omega) (by omega))
  have hGn := grownCap_ge w (i + (n + 1 - i)) n 36
  have hG63 := grownCap_le_maxLen w (i + (n + 1 - i)) n 36 (by unfold maxLen; omega)
  obtain ⟨G, hG⟩ : ∃ G, G = grownCap w (i + (n + 1 - i)) n 36 := ⟨_, rfl⟩
  rw [← hG] at hGn hG63
  simp only [← hG] at hrz0
  obtain ⟨ROW, hROW⟩ : ∃ ROW : Array Value, ROW = (lcells (l.take i)).toArray ++ Builtin.zeroCells (Value.agg #[.int .i64 0, .int .i64 0]).cells (n + 1 - i) ++ Builtin.zeroCells (Value.agg #[.int .i64 0, .int .i64 0]).cells (G - (i + (n + 1 - i))) := ⟨_, rfl⟩
  simp only [← hROW] at hrz0
  have hsR : ROW.size = G * 2 := by
    rw [hROW, Array.size_append, Array.size_append, zeros_length, zeros_length]
    simp [e0, hzs]
    omega
  have htR : ROW.toList.take (i * 2) = lcells (l.take i) := by
    rw [hROW, Array.toList_append, Array.toList_append, List.append_assoc]
    exact List.take_left' (by rw [hzs] at e0; exact e0)
  rw [show i + (n + 1 - i) = n + 1 by omega] at hrz0 hGn
  obtain ⟨cur⟩ := ROW
  have hcl : cur.length = G * 2 := by simpa using hsR
  obtain ⟨W0, hW0⟩ : ∃ W0, W0 = w.drew.alloc (.cells cur.toArray 36) := ⟨_, rfl⟩
  rw [← hW0] at hrz0
  have hg0 : W0.heap[w.heap.size]? = some (.cells cur.toArray 36 (0, 0)) := by rw [hW0]; exact heap_alloc_new w.drew _
  have hv0 : Whole W0 vb 36 (gcells p).toArray := by rw [hW0]; exact Whole.alloc (w := w.drew) hv _
  have hB0 : Below w.heap.size w W0 := by rw [hW0]; exact (Below.refl _ _).drew.alloc (Nat.le_refl _) _
  have hP0 := Words.Rd.below h.gps hB0 (Nat.le_refl _)
  have hcp1 := Lib.hid (fun ty dc sc => copy_row (P := Try.prog) (w := W0) (.tmp 43) (.tmp 44) 22 22 ty 36 Try.underlying22 2 size36 (n + 1 - i) dc 1 sc ⟨vb, 0, none⟩ w.heap.size (i * 2) cur 36 hg0 (gcells p) 1 (show min 1 (n + 1 - i) = 1 by omega) rfl
    (fun j u hu => by rw [Addr.add_lit, Nat.zero_add, Whole.cell hv0, List.getElem?_toArray]; exact hu) (by rw [gcells_length]; omega) (gcells_one p))
  have l1 : (splice cur (i * 2) (gcells p)).length = G * 2 := by rw [length_splice _ _ _ (by rw [gcells_length]; omega)]; exact hcl
  obtain ⟨W1, hW1⟩ : ∃ W1, W1 = W0.setRow w.heap.size (splice cur (i * 2) (gcells p)).toArray := ⟨_, rfl⟩
  have hg1 : W1.heap[w.heap.size]? = some (.cells (splice cur (i * 2) (gcells p)).toArray 36 (0, 0)) := by rw [hW1]; exact heap_row W0 hg0 _
  have hB1 : Below w.heap.size w W1 := by rw [hW1]; exact below_setRow hB0 (Nat.le_refl _) _
  have hP1 := Words.Rd.below h.gps hB1 (Nat.le_refl _)
  rw [← hW1] at hcp1
  have hcp2 := Lib.hid (fun ty dc sc => copy_row (P := Try.prog) (w := W1.drew) (.tmp 50) (.tmp 53) 22 22 ty 36 Try.underlying22 2 size36 (n - i) dc (n - i) sc ⟨g, i * 2, none⟩ w.heap.size ((i + 1) * 2) _ 36 (show W1.drew.heap[w.heap.size]? = _ from hg1) (lcells (l.drop i)) (n - i) (show min (n - i) (n - i) = n - i by omega) e1
    (fun j u hu => by
      rw [Addr.add_lit]
      rw [← lc_drop, List.getElem?_drop] at hu
      have := Words.Rd.cellAt hP1 rfl (by omega) (i * 2 + j) u hu
      rwa [Nat.zero_add] at this) (by rw [l1, e1]; omega) (lcells_one _))
  have HR := Lib.hid (heap_row W1.drew (show W1.drew.heap[w.heap.size]? = _ from hg1) (splice (splice cur (i * 2) (gcells p)) ((i + 1) * 2) (lcells (l.drop i))))
  have HB1 : Hid (w.grownBy (W1.drew.setRow w.heap.size (splice (splice cur (i * 2) (gcells p)) ((i + 1) * 2) (lcells (l.drop i))).toArray) (some g)) := Lib.hid (grown_below (below_setRow hB1.drew (Nat.le_refl _) _) _)
  have HP := Lib.hid (put_grow (p := p) hcl hll (show n + 1 ≤ G by omega) (Nat.le_of_lt hi) htR)
  have HLL : Hid ((l.take i ++ p :: l.drop i).length = n + 1) := Lib.hid (by rw [List.length_append, List.length_cons, List.length_take, List.length_drop]; omega)
  have HRZ := Lib.hid hrz0
  have HL := Lib.hid hll
  have HBW := Lib.hid hb
  have HG1 := Lib.hid hGn
  have HG2 := Lib.hid hG63
  have hGle : n + 1 ≤ G := hGn
  have hG9 : G ≤ 9223372036854775807 := by unfold maxLen at hG63; exact hG63
  have hz2' : ¬ ((i : Int) = (n : Int)) := by omega
  have hsp : (n : Int) < (n : Int) + 1 := by omega
  have hw1 : IntKind.i64.wrap ((i : Int) + 1) = (i : Int) + 1 := by rw [IntKind.wrap_i64]; omega
  have hw2 : IntKind.i64.wrap ((n : Int) + 1) = (n : Int) + 1 := by rw [IntKind.wrap_i64]; omega
  have hw3 : IntKind.i64.wrap ((n : Int) + 1 - (i : Int)) = ((n + 1 - i : Nat) : Int) := by rw [IntKind.wrap_i64]; omega
  have hc0 : ¬ (G = i) := by omega
  have hc1 : ¬ (G = i + 1) := by omega
  have hc2 : ¬ (n = i) := by omega
  have hn1 : n + 1 - (i + 1) = n - i := by omega
  have e4 : ((i : Int) + 1).toNat = i + 1 := by omega
  have hb1 : (i : Int) + 1 ≤ (n : Int) + 1 := by omega
  have hb2 : (i : Int) ≤ (n : Int) + 1 := by omega
  have hb0 : (0 : Int) ≤ (i : Int) + 1 := by omega
  have hin : i ≤ n := by omega
  have hin1 : i ≤ n + 1 := by omega
  have hiG : i ≤ G := by omega
  have hiG1 : i + 1 ≤ G := by omega
  have mx : Try.prog.follows .mixedOrders = true := by kernel_rfl
  clear hGn hG63 hrz0 hW1 hW0 hg1 hg0 hB0 hB1 hP0 hP1 hv0 hv hg htk hold hG hROW hsR htR h hll hb hbg hcm hcl0 hnc e0
  go_enter Try.func43, Try.ntmps43
  have hq1 := hcp1.out
  go_wp2_with (at_builtin; refine Lib.wpList_append_run _ rfl (.tmp 34) (.tmp 39) 22 3 rfl _ _ rfl rfl _ _ (HRZ.out _) ?_)
  go_region_law (refine step_copy_at (P := Try.prog) rfl (.tmp 50) (.tmp 53) 22 22 rfl (.slice (some ⟨w.heap.size, (i + 1) * 2, none⟩) (n - i) (G - (i + 1))) (.slice (some ⟨g, i * 2, none⟩) (n - i) (n - i)) (by simp [Act.eval, Act.put]) (by simp [Act.eval, Act.put]) (hcp2.out _ (G - (i + 1)) (n - i)) ?_)
  go_wp2_with fail
  go_ret
  exact row_to HLL.out (own_make HR.out HP.out.1 HP.out.2 HLL.out HG1.out HG2.out HBW.out) HB1.out
end Go.Proofs.Ytkhcaobmohppnaa.Spc
