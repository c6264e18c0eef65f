/-
  What the document's own DPlay returns.
-/
import Derived.Test.YtellfblfalpdiaaPlay
import Derived.Test.YtellfblfalpdiaaRefS
namespace Go.Proofs.Ytellfblfalpdiaa.Nand
open Go.ChangeShapes Go.WideShapes Go.ChangeAt Go.RowKit Words

set_option maxHeartbeats 4000000 in
theorem play16 (B : Nat) (A : Option Addr) (n c : Nat) (ops : List Nop) (w : World) (h : Ops w B A n c ops) (hB : B ≤ w.heap.size) (hn : n * 32 ≤ 140737488351232) :
    Calls Try.prog 16 #[.slice A n c] w (Played w (run ops) n) := by
  obtain ⟨ie, hie, hze0, hze1, hze2⟩ := info_parts info25
  obtain ⟨i3, hi3, hz30, hz31, hz32⟩ := info_parts info3
  have H := Lib.hid h
  have L := Lib.hid h.len
  obtain ⟨i0, hi0, hz0, hz1, hz2⟩ := info_parts info31
  clear h
  go_enter Try.func16, Try.ntmps16
  go_wp2_with (at_make; refine wpList_make_full _ rfl _ _ 22 rfl w.heap.size 31 i0 _ 6 Try.underlying22 hi0 hz0 hz1 .i64 .i64 _ _ 8 rfl rfl (by omega) (by omega) (by rw [hz2]; omega) (by simp only [maxLen]; omega) (Nat.le_refl _) ?_
               intro w2 hown2 hg2)
  have hb2 : Below w.heap.size w w2 := (Below.refl _ _).grown hg2 (Nat.le_refl _) (fun k hk => by cases hk)
  rw [made_fresh] at hown2
  have I0 : Hid (Inv w w2 ⟨fresh, [], []⟩ (some ⟨w.heap.size, 0, none⟩) 8 none 0 0 none 0 0) := Lib.hid ⟨hown2, Go.World.ownsRow_nil _ _ _ _, Go.World.ownsRow_nil _ _ _ _, hb2⟩
  clear hb2 hown2 hg2
  go_loopw [5, 6, 7, 16] (fun f er rd i wr => PlayAt w ops n f er rd i wr) (fun _ _ _ i _ => (n - intOf i).toNat)
  case atStart => exact ⟨0, _, _, _, _, _, _, _, by omega, rfl, rfl, rfl, rfl, Nat.le_refl _, I0.out⟩
  case round =>
    obtain ⟨k, A5, c5, A6, c6, A7, m, c7, hk, rfl, rfl, rfl, rfl, hmk, hinv⟩ := hrel
    have I := Lib.hid hinv
    clear hinv
    by_cases hlt : k < n
    · obtain ⟨g, of, rfl, _, _⟩ := Words.Rd.row H.out (by omega)
      obtain ⟨o, ho⟩ : ∃ o, ops[k]? = some o := ⟨_, List.getElem?_eq_getElem (by rw [L.out]; exact hlt)⟩
      obtain ⟨c0, c1, c2, c3⟩ := Ops.cells (Words.Rd.below H.out I.out.bel hB) rfl ho
      have HS := Lib.hid (runTo_succ ho)
      clear ho
      generalize runTo ops k = s at *
      have HC := Lib.hid (step10 _ A5 8 c5 s.l o (wr.alloc (bx o)) (I.out.alloc (bx o)).fl.fl (Nat.le_refl _))
      have hlt6 := I.out.errs.lt
      have HL6 := Lib.hid hlt6
      clear hlt6
      have hbase := I.out.bel.size
      unfold oval bx at HC
      by_cases he : errOf s.l o = 0
      · have HE := Lib.hid he
        have HL := Lib.hid (next_len he)
        rw [he] at HC
        clear he
        go_wp2_with fail
        refine (HC.out).mono ?_; rintro e x1 he; obtain ⟨A8, c8, rfl, o8, b8⟩ := Made3.get (n := 8) he HL.out
        have hsz : wr.heap.size < x1.heap.size := by have := b8.size; simp at this; omega
        replace c0 : x1.cell? ⟨wr.heap.size, 0, none⟩ = some (.int .i64 o.kind) := (box_cells (o := o) b8).1
        have I1 : Hid (Inv w x1 ⟨nextOf s.l o, s.errs, s.read⟩ A8 c8 A6 k c6 A7 m c7) := Lib.hid (((I.out.alloc (bx o)).below b8).next (own_base o8 (Nat.le_trans hbase (by simp))))
        have hs1 := I1.out.bel.size
        clear b8 o8 c1 c2 c3 he
        by_cases hk3 : o.kind = 3
        · have ht : (o.kind == 3) = true := by rw [beq_iff_eq]; exact hk3
          have HST := Lib.hid (HS.out.trans (step_read HE.out hk3))
          have HR1 := Lib.hid (one_cell x1 3 (dataOf s.l o))
          have I2 := Lib.hid (I1.out.alloc (.cells #[.int .i64 (dataOf s.l o)] 3))
          have hs2 := I2.out.bel.size
          clear hk3
          go_wp2_with (first
            | (at_builtin; refine wpList_append_rd _ rfl (.tmp 37) (.tmp 39) 37 rfl w.heap.size 3 i3 (.int .i64 0) 1 8 Try.underlying37 hi3 hz30 hz31 hz32 rfl (by decide) _ m (icells s.read) rfl I2.out.read (x1.heap.size + 1) (some ⟨x1.heap.size, 0, none⟩) 1 1 (icells [dataOf s.l o]) rfl HR1.out (icells_one _) (by simp only [maxLen]; omega) (by omega) hs2 ?_
               intro A9 c9 x2 hown2 hg2
               have i2 := I2.out.had hown2 hg2
               have I3 := Lib.hid i2
               have I4 := Lib.hid (i2.alloc (.cells #[.int .i64 0] 25))
               have hs4 := I4.out.bel.size
               have HR2 := Lib.hid (one_cell x2 25 0)
               clear hown2 hg2 i2)
            | (at_builtin; refine wpList_append_rd _ rfl (.tmp 41) (.tmp 43) 36 rfl w.heap.size 25 ie (.int .i64 0) 1 8 Try.underlying36 hie hze0 hze1 hze2 rfl (by decide) _ k (icells s.errs) rfl I4.out.errs (x2.heap.size + 1) (some ⟨x2.heap.size, 0, none⟩) 1 1 (icells [0]) rfl HR2.out (icells_one _) (by simp only [maxLen]; omega) (by omega) hs4 ?_
               intro A10 c10 x3 hown3 hg3
               have i3' := I4.out.told hown3 hg3
               have I5 := Lib.hid i3'
               clear hown3 hg3 i3'))
          go_roundw
          case rel => exact ⟨k + 1, A8, c8, A10, c10, A9, m + 1, c9, by omega, by go_num, rfl, rfl, rfl, by omega, I5.out.as HST.out⟩
          case measure => simp [intOf]; omega
        · have ht : (o.kind == 3) = false := by rw [beq_eq_false_iff_ne]; exact hk3
          have HST := Lib.hid (HS.out.trans (step_yes HE.out hk3))
          have HR1 := Lib.hid (one_cell x1 25 0)
          have I2 := Lib.hid (I1.out.alloc (.cells #[.int .i64 0] 25))
          have hs2 := I2.out.bel.size
          clear hk3
          go_wp2_with (first
            | (at_builtin; refine wpList_append_rd _ rfl (.tmp 41) (.tmp 43) 36 rfl w.heap.size 25 ie (.int .i64 0) 1 8 Try.underlying36 hie hze0 hze1 hze2 rfl (by decide) _ k (icells s.errs) rfl I2.out.errs (x1.heap.size + 1) (some ⟨x1.heap.size, 0, none⟩) 1 1 (icells [0]) rfl HR1.out (icells_one _) (by simp only [maxLen]; omega) (by omega) hs2 ?_
               intro A9 c9 x2 hown2 hg2
               have i2 := I2.out.told hown2 hg2
               have I3 := Lib.hid i2
               clear hown2 hg2 i2))
          go_roundw
          case rel => exact ⟨k + 1, A8, c8, A9, c9, A7, m, c7, by omega, by go_num, rfl, rfl, rfl, by omega, I3.out.as HST.out⟩
          case measure => simp [intOf]; omega
      · have ht : (errOf s.l o == 0) = false := by rw [beq_eq_false_iff_ne]; exact he
        have HL : Hid ((nextOf s.l o).length = 0) := Lib.hid (by unfold nextOf; rw [if_neg he]; rfl)
        have HST := Lib.hid (HS.out.trans (step_no he))
        clear he
        go_wp2_with fail
        refine (HC.out).mono ?_; rintro e x1 he; obtain ⟨A8, c8, rfl, o8, b8⟩ := Made3.get (n := 0) he HL.out
        have I1 : Hid (Inv w x1 s A5 c5 A6 k c6 A7 m c7) := Lib.hid ((I.out.alloc (bx o)).below b8)
        have I2 := Lib.hid (I1.out.alloc (.cells #[.int .i64 (errOf s.l o)] 25))
        have hs2 := I2.out.bel.size
        have HR1 := Lib.hid (one_cell x1 25 (errOf s.l o))
        clear b8 o8 c0 c1 c2 c3 he
        go_wp2_with (first
          | (at_builtin; refine wpList_append_rd _ rfl (.tmp 41) (.tmp 43) 36 rfl w.heap.size 25 ie (.int .i64 0) 1 8 Try.underlying36 hie hze0 hze1 hze2 rfl (by decide) _ k (icells s.errs) rfl I2.out.errs (x1.heap.size + 1) (some ⟨x1.heap.size, 0, none⟩) 1 1 (icells [errOf s.l o]) rfl HR1.out (icells_one _) (by simp only [maxLen]; omega) (by omega) hs2 ?_
             intro A9 c9 x2 hown2 hg2
             have i2 := I2.out.told hown2 hg2
             have I3 := Lib.hid i2
             clear hown2 hg2 i2))
        go_roundw
        case rel => exact ⟨k + 1, A5, c5, A9, c9, A7, m, c7, by omega, by go_num, rfl, rfl, rfl, by omega, I3.out.as HST.out⟩
        case measure => simp [intOf]; omega
    · obtain rfl : k = n := by omega
      have HA := Lib.hid (runTo_all ops)
      rw [L.out] at HA
      rw [HA.out] at I
      go_wp2_with fail
      go_ret3
      exact ⟨A5, c5, A6, c6, A7, m, c7, rfl, hmk, I.out⟩
end Go.Proofs.Ytellfblfalpdiaa.Nand
