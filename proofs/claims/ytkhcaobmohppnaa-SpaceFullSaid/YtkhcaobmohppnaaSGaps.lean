/-
  The document's own gaps of a row.
-/
import Derived.Test.YtkhcaobmohppnaaSRow
namespace Go.Proofs.Ytkhcaobmohppnaa.Spc
open Go.ChangeShapes Go.WideShapes Go.ChangeAt Go.RowKit Words Go.Sort
set_option linter.unusedVariables false

/-- What the loop keeps: the row so far. -/
structure PT (w : World) (A : Option Addr) (i c : Nat) (ps : List Gp) (W : World) : Prop where
  bel : Below w.heap.size w W
  row : OwnGp W w.heap.size A i c ps
section
variable {w W W' : World} {A : Option Addr} {i c : Nat} {ps : List Gp}
theorem PT.start (w : World) : PT w none 0 0 [] w := ⟨Below.refl _ _, Go.World.ownsRow_nil w _ 36 2⟩
theorem PT.next (h : PT w A i c ps W) (hb : Below W.heap.size W W') : PT w A i c ps W' := ⟨h.bel.trans (hb.mono h.bel.size), h.row.below hb (Nat.le_refl _)⟩
theorem PT.had (h : PT w A i c ps W) {p : Gp} {A' : Option Addr} {c' : Nat} (ho : W'.ownsRow w.heap.size 36 2 (.slice A' (i + 1) c') (i + 1) (lcells ps ++ lcells [p])) (hg : W.grownBy W' (Value.slice A i c).ownBlock) : PT w A' (i + 1) c' (ps ++ [p]) W' :=
  ⟨below_grown h.bel h.row hg h.bel.size (Nat.le_refl _), by unfold OwnGp; rw [lcells_append]; exact ho⟩
theorem PT.put1 {g : Nat} (h : PT w (some ⟨g, 0, none⟩) i c ps W) {t : Nat} (ht : t < i) (y : Int) : PT w (some ⟨g, 0, none⟩) i c (ps.set t ⟨(gth ps t).a, y⟩) (W.setCell ⟨g, t * 2 + 1, none⟩ (.int .i64 y)) :=
  ⟨h.bel.setCell (h.row.lt g rfl).1 _, (h.row.put1 ht y).1⟩
end
theorem bump_is {l : List Gp} {p : Nat} (h : l.length = p + 1) : bump l = l.set p ⟨(gth l p).a, (gth l p).m + 1⟩ := by
  unfold bump; rw [h, show p + 1 - 1 = p by omega]
theorem gk_pos {row : List Bool} {k : Nat} (h2 : ¬ (k = 0 ∨ at_ row (k - 1) = false)) : 0 < (gk row k).length ∧ 0 < k ∧ at_ row (k - 1) = true := by
  have h0 : 0 < k := by
    rcases Nat.eq_zero_or_pos k with h0 | h0
    · exact absurd (.inl h0) h2
    · exact h0
  have h1 : at_ row (k - 1) = true := by
    cases hc : at_ row (k - 1) with
    | true => rfl
    | false => exact absurd (.inr hc) h2
  obtain ⟨pre, g, he, _⟩ := (gk_gi row k).fin h0 h1
  rw [he]
  exact ⟨by simp, h0, h1⟩
set_option maxHeartbeats 4000000 in
theorem ngaps30 (B : Nat) (A : Option Addr) (n c : Nat) (row : List Bool) (w : World) (h : Bls w B A n c row) (hB : B ≤ w.heap.size) (hn : n ≤ 4096) :
    Calls Try.prog 30 #[.slice A n c] w fun e w' => ∃ A' c', e = .returned (.slice A' (gk row n).length c') ∧ PT w A' (gk row n).length c' (gk row n) w' := by
  have HL := Lib.hid h.len
  have H := Lib.hid h
  obtain ⟨i0, hi, hz0, hz1, hz2⟩ := info_parts info36
  have hi0 := Lib.hid hi
  have hz0 := Lib.hid hz0
  have hz1 := Lib.hid hz1
  have hz2 := Lib.hid hz2
  have P0 := Lib.hid (PT.start w)
  clear h hi
  go_enter Try.func30, Try.ntmps30
  go_wp2_with fail
  go_loopw [3, 8] (fun s k wr => ∃ (j i : Nat) (A' : Option Addr) (c' : Nat) (ps : List Gp), s = .slice A' i c' ∧ k = .int .i64 j ∧ j ≤ n ∧ ps = gk row j ∧ PT w A' i c' ps wr) (fun _ k _ => (n - intOf k).toNat)
  case atStart => exact ⟨0, 0, none, 0, [], rfl, rfl, by omega, rfl, P0.out⟩
  case round =>
    obtain ⟨j, i, A', c', ps, rfl, rfl, hj, hps, hpt⟩ := hrel
    have PP := Lib.hid hpt
    have HPS := Lib.hid hps
    have hil : ps.length = i := hpt.row.len
    have hij : i ≤ j := by have := gk_length row j; rw [← hps] at this; omega
    have GI' := Lib.hid (gk_gi row j)
    rw [← hps] at GI'
    clear hps hpt
    by_cases hlt : j < n
    · obtain ⟨g, o, rfl, _, _⟩ := Words.Rd.row H.out (by omega)
      have c0 := Bls.cell (Words.Rd.below H.out PP.out.bel hB) rfl hlt
      cases hk : at_ row j with
      | false =>
        rw [hk] at c0
        have HN := Lib.hid (gk_free hk)
        clear hk
        go_wp2_with fail
        go_roundw
        case rel => exact ⟨j + 1, i, A', c', ps, rfl, by go_num, by omega, by rw [HN.out, HPS.out], PP.out⟩
        case measure => simp [intOf]; omega
      | true =>
        rw [hk] at c0
        by_cases h2 : j = 0 ∨ at_ row (j - 1) = false
        · have HN := Lib.hid (gk_new hk h2)
          have PA := Lib.hid (PP.out.next (boxed wr (.cells (gcells ⟨j, 0⟩).toArray 36)))
          have NR := Lib.hid (one_gap wr ⟨j, 0⟩)
          have HZ : w.heap.size ≤ (wr.alloc (.cells (gcells ⟨j, 0⟩).toArray 36)).heap.size := PA.out.bel.size
          have hi1 : i + 1 ≤ maxLen := by unfold maxLen; omega
          have hi2 : (i + 1) * 16 ≤ 140737488355328 := by omega
          have HB : Hid ((ps ++ [(⟨j, 0⟩ : Gp)]).set i ⟨(gth (ps ++ [(⟨j, 0⟩ : Gp)]) i).a, 0 + 1⟩ = gk row (j + 1)) := Lib.hid (by
            rw [HN.out, ← HPS.out]
            have e : gth (ps ++ [(⟨j, 0⟩ : Gp)]) i = ⟨j, 0⟩ := gth_of (by rw [List.getElem?_append_right (by omega), hil]; simp)
            rw [e, List.set_append_right _ _ (by omega), hil]; simp)
          have HG : Hid (gth (ps ++ [(⟨j, 0⟩ : Gp)]) i = ⟨j, 0⟩) := Lib.hid (gth_of (by rw [List.getElem?_append_right (by omega), hil]; simp))
          clear hk
          rcases Nat.eq_zero_or_pos j with h0 | h0
          · have hj0 : ((j : Int) == 0) = true := by rw [beq_iff_eq]; omega
            clear h2 h0
            go_wp2_with (at_builtin; refine wpList_append_rd _ rfl (.tmp 26) (.tmp 29) 22 rfl w.heap.size 36 i0 _ 2 16 Try.underlying22 hi0.out hz0.out hz1.out hz2.out rfl (by decide) _ i (lcells ps) rfl PA.out.row _ _ 1 1 (lcells [⟨(j : Int), 0⟩]) rfl NR.out (lcells_one _) hi1 hi2 HZ ?_
                         intro A6 c6 w6 hown6 hg6)
            have P6 := PA.out.had hown6 hg6
            obtain ⟨g6, rfl, hg6a, hg6b⟩ := P6.row.addr (by omega)
            have k1 := (P6.row.at_ (i := i) (by omega)).c1
            have k2 := P6.row.frozen (i * 2 + 1)
            rw [HG.out] at k1
            have P7 := Lib.hid (P6.put1 (t := i) (by omega) (0 + 1))
            rw [HB.out] at P7
            have hwl : IntKind.i64.wrap (((i + 1 : Nat) : Int) - 1) = (i : Int) := by rw [IntKind.wrap_i64]; omega
            clear hown6 hg6 P6
            go_wp2_with fail
            go_roundw
            case rel => exact ⟨j + 1, i + 1, _, c6, _, rfl, by go_num, by omega, rfl, P7.out⟩
            case measure => simp [intOf]; omega
          · have h3 : at_ row (j - 1) = false := by
              rcases h2 with h2 | h2
              · omega
              · exact h2
            have c2 := Bls.cell (Words.Rd.below H.out PP.out.bel hB) rfl (i := j - 1) (by omega)
            rw [h3] at c2
            obtain ⟨p, hp⟩ : ∃ p, p = j - 1 := ⟨_, rfl⟩
            rw [← hp] at c2
            have hwp : IntKind.i64.wrap ((j : Int) - 1) = (p : Int) := by rw [IntKind.wrap_i64]; omega
            have hpn : p < n := by omega
            have hj0 : ((j : Int) == 0) = false := by rw [beq_eq_false_iff_ne]; omega
            clear h2 h3 hp
            go_wp2_with (at_builtin; refine wpList_append_rd _ rfl (.tmp 26) (.tmp 29) 22 rfl w.heap.size 36 i0 _ 2 16 Try.underlying22 hi0.out hz0.out hz1.out hz2.out rfl (by decide) _ i (lcells ps) rfl PA.out.row _ _ 1 1 (lcells [⟨(j : Int), 0⟩]) rfl NR.out (lcells_one _) hi1 hi2 HZ ?_
                         intro A6 c6 w6 hown6 hg6)
            have P6 := PA.out.had hown6 hg6
            obtain ⟨g6, rfl, hg6a, hg6b⟩ := P6.row.addr (by omega)
            have k1 := (P6.row.at_ (i := i) (by omega)).c1
            have k2 := P6.row.frozen (i * 2 + 1)
            rw [HG.out] at k1
            have P7 := Lib.hid (P6.put1 (t := i) (by omega) (0 + 1))
            rw [HB.out] at P7
            have hwl : IntKind.i64.wrap (((i + 1 : Nat) : Int) - 1) = (i : Int) := by rw [IntKind.wrap_i64]; omega
            clear hown6 hg6 P6 c2
            go_wp2_with fail
            go_roundw
            case rel => exact ⟨j + 1, i + 1, _, c6, _, rfl, by go_num, by omega, rfl, P7.out⟩
            case measure => simp [intOf]; omega
        · have HN := Lib.hid (gk_more hk h2)
          obtain ⟨q1, q2, q3⟩ := gk_pos h2
          rw [← HPS.out] at q1
          obtain ⟨t, ht⟩ : ∃ t, i = t + 1 := ⟨i - 1, by omega⟩
          have HB : Hid (ps.set t ⟨(gth ps t).a, (gth ps t).m + 1⟩ = gk row (j + 1)) := Lib.hid (by rw [HN.out, ← HPS.out, bump_is (by rw [hil, ht])])
          obtain ⟨g6, rfl, hg6a, hg6b⟩ := PP.out.row.addr (by omega)
          have k1 := (PP.out.row.at_ (i := t) (by omega)).c1
          have k2 := PP.out.row.frozen (t * 2 + 1)
          have hch := GI'.out.ch.each (gth ps t) (List.mem_of_getElem? (gth_get (by omega)))
          have P7 := Lib.hid (PP.out.put1 (t := t) (by omega) ((gth ps t).m + 1))
          rw [HB.out] at P7
          obtain ⟨y, hy⟩ : ∃ y, y = (gth ps t).m := ⟨_, rfl⟩
          rw [← hy] at k1 hch P7
          have hwm : IntKind.i64.wrap (y + 1) = y + 1 := by rw [IntKind.wrap_i64]; omega
          have hwl : IntKind.i64.wrap ((i : Int) - 1) = (t : Int) := by rw [IntKind.wrap_i64]; omega
          have c2 := Bls.cell (Words.Rd.below H.out PP.out.bel hB) rfl (i := j - 1) (by omega)
          rw [q3] at c2
          obtain ⟨p, hp⟩ : ∃ p, p = j - 1 := ⟨_, rfl⟩
          rw [← hp] at c2
          have hwp : IntKind.i64.wrap ((j : Int) - 1) = (p : Int) := by rw [IntKind.wrap_i64]; omega
          have hpn : p < n := by omega
          have hj0 : ((j : Int) == 0) = false := by rw [beq_eq_false_iff_ne]; omega
          have hti : t < i := by omega
          clear hk h2 q1 q2 q3 hy hch hp ht
          go_wp2_with fail
          go_roundw
          case rel => exact ⟨j + 1, i, _, c', _, rfl, by go_num, by omega, rfl, P7.out⟩
          case measure => simp [intOf]; omega
    · obtain rfl : j = n := by omega
      rw [HPS.out] at hil PP
      subst hil
      go_wp2_with fail
      go_ret
      exact ⟨_, _, rfl, PP.out⟩
end Go.Proofs.Ytkhcaobmohppnaa.Spc
