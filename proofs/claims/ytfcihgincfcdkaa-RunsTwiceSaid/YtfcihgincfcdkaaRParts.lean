/-
  The runs before a block, and those from a block on: rows of the call's own.
-/
import Derived.Test.YtfcihgincfcdkaaREnd
import Derived.Test.YtfcihgincfcdkaaRRange
namespace Go.Proofs.Ytfcihgincfcdkaa.Rns
open Go.ChangeShapes Go.WideShapes Go.ChangeAt Go.RowKit Words Go.Sort
set_option linter.unusedVariables false

/-- What the loop keeps: the row so far. -/
structure PT (w : World) (A : Option Addr) (i c : Nat) (ps : List Rn) (W : World) : Prop where
  bel : Below w.heap.size w W
  row : OwnRn W w.heap.size A i c ps
section
variable {w W W' : World} {A : Option Addr} {i c : Nat} {ps : List Rn}
theorem PT.start (w : World) : PT w none 0 0 [] w := ⟨Below.refl _ _, Go.World.ownsRow_nil w _ 34 3⟩
theorem PT.next (h : PT w A i c ps W) (hb : Below W.heap.size W W') : PT w A i c ps W' := ⟨h.bel.trans (hb.mono h.bel.size), h.row.below hb (Nat.le_refl _)⟩
theorem PT.had (h : PT w A i c ps W) {p : Rn} {A' : Option Addr} {c' : Nat} (ho : W'.ownsRow w.heap.size 34 3 (.slice A' (i + 1) c') (i + 1) (lcells ps ++ lcells [p])) (hg : W.grownBy W' (Value.slice A i c).ownBlock) : PT w A' (i + 1) c' (ps ++ [p]) W' :=
  ⟨below_grown h.bel h.row hg h.bel.size (Nat.le_refl _), by unfold OwnRn; rw [lcells_append]; exact ho⟩
end
set_option maxHeartbeats 4000000 in
theorem before23 (B : Nat) (A : Option Addr) (n c : Nat) (l : List Rn) (t : Int) (w : World) (h : Rns w B A n c l) (hB : B ≤ w.heap.size) (hl : Oks l) (hn : n ≤ 1099511627777) (ht : 0 ≤ t ∧ t ≤ 2199023255552) :
    Calls Try.prog 23 #[.slice A n c, .int .i64 t] w fun e w' => ∃ A' c', e = .returned (.slice A' (bfr t l).length c') ∧ PT w A' (bfr t l).length c' (bfr t l) w' := by
  obtain ⟨t1, t2⟩ := ht
  have HN := h.small
  have HL := Lib.hid h.len
  have H := Lib.hid h
  have HO := Lib.hid hl
  obtain ⟨i0, hi, hz0, hz1, hz2⟩ := info_parts info34
  have hi0 := Lib.hid hi
  have hz0 := Lib.hid hz0
  have hz1 := Lib.hid hz1
  have hz2 := Lib.hid hz2
  have P0 := Lib.hid (PT.start w)
  clear h hl hi
  go_enter Try.func23, Try.ntmps23
  go_wp2_with fail
  go_loopw [5, 10] (fun s k wr => ∃ (j i : Nat) (A' : Option Addr) (c' : Nat) (ps : List Rn), s = .slice A' i c' ∧ k = .int .i64 j ∧ j ≤ n ∧ i ≤ j ∧ ps = bfr t (l.take j) ∧ PT w A' i c' ps wr) (fun _ k _ => (n - intOf k).toNat)
  case atStart => exact ⟨0, 0, none, 0, [], rfl, rfl, by omega, by omega, rfl, P0.out⟩
  case round =>
    obtain ⟨j, i, A', c', ps, rfl, rfl, hj, hij, hps, hpt⟩ := hrel
    have PP := Lib.hid hpt
    have HPS := Lib.hid hps
    clear hps hpt
    by_cases hlt : j < n
    · obtain ⟨g, o, rfl, _, _⟩ := Words.Rd.row H.out (by omega)
      obtain ⟨⟨ra, rd, rm⟩, hr⟩ : ∃ r, l[j]? = some r := ⟨_, List.getElem?_eq_getElem (by rw [HL.out]; exact hlt)⟩
      obtain ⟨c0, c1, c2⟩ := Rns.cells (Words.Rd.below H.out PP.out.bel hB) rfl hr
      obtain ⟨o1, o2, o3, o4, o5, o6⟩ := okR_yes.1 (HO.out _ (List.mem_of_getElem? hr))
      simp only at o1 o2 o3 o4 o5 o6
      have HNX := Lib.hid (bfr_next t hr)
      clear hr
      by_cases hc : ra < t
      · have hw1 : IntKind.i64.wrap (t - ra) = t - ra := by rw [IntKind.wrap_i64]; omega
        have HB1 : Hid (ps ++ [⟨ra, rd, min rm (t - ra)⟩] = bfr t (l.take (j + 1))) := Lib.hid (by rw [HNX.out, HPS.out, b1_yes hc])
        have PA := Lib.hid ((PP.out.next (boxed wr (.cells (rcells ⟨ra, rd, min rm (t - ra)⟩).toArray 34))).next (boxed _ (.cells (rcells ⟨ra, rd, min rm (t - ra)⟩).toArray 34)))
        have nr := one_run (wr.alloc (.cells (rcells ⟨ra, rd, min rm (t - ra)⟩).toArray 34)) ⟨ra, rd, min rm (t - ra)⟩
        rw [World.size_alloc] at nr
        have NR := Lib.hid nr
        clear nr
        have HZ : w.heap.size ≤ ((wr.alloc (.cells (rcells ⟨ra, rd, min rm (t - ra)⟩).toArray 34)).alloc (.cells (rcells ⟨ra, rd, min rm (t - ra)⟩).toArray 34)).heap.size := PA.out.bel.size
        have hi1 : i + 1 ≤ maxLen := by unfold maxLen; omega
        have hi2 : (i + 1) * 24 ≤ 140737488355328 := by omega
        go_wp2_with (at_builtin; refine wpList_append_rd _ rfl (.tmp 26) (.tmp 28) 22 rfl w.heap.size 34 i0 _ 3 24 Try.underlying22 hi0.out hz0.out hz1.out hz2.out rfl (by decide) _ i (lcells ps) rfl PA.out.row _ _ 1 1 (lcells [⟨ra, rd, min rm (t - ra)⟩]) rfl NR.out (lcells_one _) hi1 hi2 HZ ?_
                     intro A6 c6 w6 hown6 hg6)
        have P6 := Lib.hid (PA.out.had hown6 hg6)
        clear hown6 hg6
        go_wp2_with fail
        go_roundw
        case rel => exact ⟨j + 1, i + 1, A6, c6, _, rfl, by go_num, by omega, by omega, HB1.out, P6.out⟩
        case measure => simp [intOf]; omega
      · have HB1 : Hid (ps = bfr t (l.take (j + 1))) := Lib.hid (by rw [HNX.out, HPS.out, b1_no hc, List.append_nil])
        have PA := Lib.hid (PP.out.next (boxed wr (.cells (rcells ⟨ra, rd, rm⟩).toArray 34)))
        go_wp2_with fail
        go_roundw
        case rel => exact ⟨j + 1, i, A', c', ps, rfl, by go_num, by omega, by omega, HB1.out, PA.out⟩
        case measure => simp [intOf]; omega
    · obtain rfl : j = n := by omega
      have HE : Hid (ps = bfr t l) := Lib.hid (by rw [HPS.out, List.take_of_length_le (by rw [HL.out]; exact Nat.le_refl _)])
      have hlen := PP.out.row.len
      rw [HE.out] at hlen PP
      subst hlen
      go_wp2_with fail
      go_ret
      exact ⟨_, _, rfl, PP.out⟩
set_option maxHeartbeats 4000000 in
theorem after24 (B : Nat) (A : Option Addr) (n c : Nat) (l : List Rn) (t : Int) (w : World) (h : Rns w B A n c l) (hB : B ≤ w.heap.size) (hl : Oks l) (hn : n ≤ 1099511627777) (ht : 0 ≤ t ∧ t ≤ 2199023255552) :
    Calls Try.prog 24 #[.slice A n c, .int .i64 t] w fun e w' => ∃ A' c', e = .returned (.slice A' (afr t l).length c') ∧ PT w A' (afr t l).length c' (afr t l) w' := by
  obtain ⟨t1, t2⟩ := ht
  have HN := h.small
  have HL := Lib.hid h.len
  have H := Lib.hid h
  have HO := Lib.hid hl
  obtain ⟨i0, hi, hz0, hz1, hz2⟩ := info_parts info34
  have hi0 := Lib.hid hi
  have hz0 := Lib.hid hz0
  have hz1 := Lib.hid hz1
  have hz2 := Lib.hid hz2
  have P0 := Lib.hid (PT.start w)
  clear h hl hi
  go_enter Try.func24, Try.ntmps24
  go_wp2_with fail
  go_loopw [5, 11] (fun s k wr => ∃ (j i : Nat) (A' : Option Addr) (c' : Nat) (ps : List Rn), s = .slice A' i c' ∧ k = .int .i64 j ∧ j ≤ n ∧ i ≤ j ∧ ps = afr t (l.take j) ∧ PT w A' i c' ps wr) (fun _ k _ => (n - intOf k).toNat)
  case atStart => exact ⟨0, 0, none, 0, [], rfl, rfl, by omega, by omega, rfl, P0.out⟩
  case round =>
    obtain ⟨j, i, A', c', ps, rfl, rfl, hj, hij, hps, hpt⟩ := hrel
    have PP := Lib.hid hpt
    have HPS := Lib.hid hps
    clear hps hpt
    by_cases hlt : j < n
    · obtain ⟨g, o, rfl, _, _⟩ := Words.Rd.row H.out (by omega)
      obtain ⟨⟨ra, rd, rm⟩, hr⟩ : ∃ r, l[j]? = some r := ⟨_, List.getElem?_eq_getElem (by rw [HL.out]; exact hlt)⟩
      obtain ⟨c0, c1, c2⟩ := Rns.cells (Words.Rd.below H.out PP.out.bel hB) rfl hr
      obtain ⟨o1, o2, o3, o4, o5, o6⟩ := okR_yes.1 (HO.out _ (List.mem_of_getElem? hr))
      simp only at o1 o2 o3 o4 o5 o6
      have HNX := Lib.hid (afr_next t hr)
      have hwe : IntKind.i64.wrap (ra + rm) = ra + rm := by rw [IntKind.wrap_i64]; omega
      have HE := Lib.hid (fun w => end19 ⟨ra, rd, rm⟩ w hwe)
      unfold rval at HE
      simp only at HE
      clear hr hwe
      have P1 := Lib.hid (PP.out.next (boxed wr (.cells (rcells ⟨ra, rd, rm⟩).toArray 34)))
      have G1 := Lib.hid (Whole.new wr 34 (rcells ⟨ra, rd, rm⟩).toArray)
      by_cases hc : t < ra + rm
      · obtain ⟨gg, hgg⟩ : ∃ gg, max 0 (t - ra) = gg := ⟨_, rfl⟩
        have hmx : ∀ w ty, (Builtin.max_ #[3, 3] ty #[.int .i64 0, .int .i64 (t - ra)]).run Try.prog w = .ok (.int .i64 gg) w := fun w ty => by
          rw [← hgg]
          simp [Builtin.max_, Builtin.max2]
          simp only [Int.max_def]
          (repeat' split) <;> omega
        have hg1 : 0 ≤ gg ∧ gg < rm + 2199023255552 ∧ (t - ra ≤ gg) ∧ (gg = 0 ∨ gg = t - ra) := by omega
        obtain ⟨hg1, hg2, hg3, hg4⟩ := hg1
        have hw1 : IntKind.i64.wrap (t - ra) = t - ra := by rw [IntKind.wrap_i64]; omega
        have hw2 : IntKind.i64.wrap (ra + gg) = ra + gg := by rw [IntKind.wrap_i64]; omega
        have hw3 : IntKind.i64.wrap (rd + gg) = rd + gg := by rw [IntKind.wrap_i64]; omega
        have hw4 : IntKind.i64.wrap (rm - gg) = rm - gg := by rw [IntKind.wrap_i64]; omega
        have HB1 : Hid (ps ++ [⟨ra + gg, rd + gg, rm - gg⟩] = afr t (l.take (j + 1))) := Lib.hid (by rw [HNX.out, HPS.out, a1_yes hc, hgg])
        clear hgg hg1 hg2 hg3 hg4
        go_wp2_with fail
        refine (HE.out _).mono ?_; rintro e w2 ⟨rfl, L2⟩
        have G2 := whole_below2 G1.out L2.below
        have g0 := Whole.cell G2 0
        have g1 := Whole.cell G2 1
        have g2 := Whole.cell G2 2
        simp [rcells] at g0 g1 g2
        have P2 := Lib.hid (P1.out.next L2.below)
        clear L2 G2
        have PA := Lib.hid (P2.out.next (boxed w2 (.cells (rcells ⟨ra + gg, rd + gg, rm - gg⟩).toArray 34)))
        have NR := Lib.hid (one_run w2 ⟨ra + gg, rd + gg, rm - gg⟩)
        have HZ : w.heap.size ≤ (w2.alloc (.cells (rcells ⟨ra + gg, rd + gg, rm - gg⟩).toArray 34)).heap.size := PA.out.bel.size
        have hi1 : i + 1 ≤ maxLen := by unfold maxLen; omega
        have hi2 : (i + 1) * 24 ≤ 140737488355328 := by omega
        go_wp2_with (at_builtin; refine wpList_append_rd _ rfl (.tmp 24) (.tmp 38) 22 rfl w.heap.size 34 i0 _ 3 24 Try.underlying22 hi0.out hz0.out hz1.out hz2.out rfl (by decide) _ i (lcells ps) rfl PA.out.row _ _ 1 1 (lcells [⟨ra + gg, rd + gg, rm - gg⟩]) rfl NR.out (lcells_one _) hi1 hi2 HZ ?_
                     intro A6 c6 w6 hown6 hg6)
        have P6 := Lib.hid (PA.out.had hown6 hg6)
        clear hown6 hg6
        go_wp2_with fail
        go_roundw
        case rel => exact ⟨j + 1, i + 1, A6, c6, _, rfl, by go_num, by omega, by omega, HB1.out, P6.out⟩
        case measure => simp [intOf]; omega
      · have HB1 : Hid (ps = afr t (l.take (j + 1))) := Lib.hid (by rw [HNX.out, HPS.out, a1_no hc, List.append_nil])
        go_wp2_with fail
        refine (HE.out _).mono ?_; rintro e w2 ⟨rfl, L2⟩
        have P2 := Lib.hid (P1.out.next L2.below)
        clear L2
        go_wp2_with fail
        go_roundw
        case rel => exact ⟨j + 1, i, A', c', ps, rfl, by go_num, by omega, by omega, HB1.out, P2.out⟩
        case measure => simp [intOf]; omega
    · obtain rfl : j = n := by omega
      have HE : Hid (ps = afr t l) := Lib.hid (by rw [HPS.out, List.take_of_length_le (by rw [HL.out]; exact Nat.le_refl _)])
      have hlen := PP.out.row.len
      rw [HE.out] at hlen PP
      subst hlen
      go_wp2_with fail
      go_ret
      exact ⟨_, _, rfl, PP.out⟩
end Go.Proofs.Ytfcihgincfcdkaa.Rns
