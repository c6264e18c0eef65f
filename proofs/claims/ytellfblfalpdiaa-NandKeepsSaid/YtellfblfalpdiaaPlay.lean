/-
  What New and Play return.
-/
import Derived.Test.YtellfblfalpdiaaEqs
namespace Go.Proofs.Ytellfblfalpdiaa.Nand
open Go.ChangeShapes Go.WideShapes Go.ChangeAt Go.RowKit Words

theorem info25 : (Try.prog.info? 25).map (fun i => (i.zero, i.size, i.bytes)) = some (some (.int .i64 0), 1, 8) := by kernel_rfl
theorem icells_append (a b : List Int) : icells (a ++ b) = icells a ++ icells b := List.map_append
theorem icells_one (l : List Int) : ∀ u ∈ icells l, u.oneCell' = true := by
  intro u hu
  obtain ⟨_, _, rfl⟩ := List.mem_map.1 hu
  rfl
theorem made_fresh : (madeCells (Value.agg #[.int .i64 0, .int .i64 0, .int .i64 0, .int .i64 0, .int .i64 0, .int .i64 0]).cells (8 * 6)).toList = fcells fresh := by kernel_rfl
theorem new12 (w : World) : Calls Try.prog 12 #[] w fun e w' => e = .returned (.slice (some ⟨w.heap.size, 0, none⟩) 8 8) ∧ OwnFl w' w.heap.size (some ⟨w.heap.size, 0, none⟩) 8 8 fresh ∧ Below w.heap.size w w' := by
  obtain ⟨i0, hi0, hz0, hz1, hz2⟩ := info_parts info31
  go_enter Try.func12, Try.ntmps12
  go_wp2_with (at_make; refine wpList_make_full _ rfl _ _ 22 rfl w.heap.size 31 i0 _ 6 Try.underlying22 hi0 hz0 hz1 .i64 .i64 _ _ 8 rfl rfl (by omega) (by omega) (by rw [hz2]; omega) (by simp only [maxLen]; omega) (Nat.le_refl _) ?_
               intro w2 hown2 hg2)
  have hb2 : Below w.heap.size w w2 := (Below.refl _ _).grown hg2 (Nat.le_refl _) (fun k hk => by cases hk)
  rw [made_fresh] at hown2
  go_ret
  exact ⟨rfl, hown2, hb2⟩
/-- Rows of elements of different types share no block. -/
theorem own_apart {w : World} {base base' : Nat} {e e' : TypeId} {sz sz' : Nat} {v v' : Value} {n n' : Nat} {xs xs' : List Value} (h : w.ownsRow base e sz v n xs) (h' : w.ownsRow base' e' sz' v' n' xs') (hne : e ≠ e') : v.ownBlock = none ∨ v.ownBlock ≠ v'.ownBlock := by
  rcases h.2 with ⟨rfl, _⟩ | ⟨g, cap, cur, rfl, _, hg, _⟩
  · exact .inl rfl
  · refine .inr ?_
    rcases h'.2 with ⟨rfl, _⟩ | ⟨g', cap', cur', rfl, _, hg', _⟩
    · simp [Value.ownBlock]
    · intro he
      have : g = g' := by simpa [Value.ownBlock] using he
      subst this
      rw [hg] at hg'
      injection hg' with hg'
      injection hg' with _ ht
      exact hne ht
/-- What the walk of a list of operations keeps. -/
structure Inv (w wr : World) (s : St) (A5 : Option Addr) (c5 : Nat) (A6 : Option Addr) (k c6 : Nat) (A7 : Option Addr) (m c7 : Nat) : Prop where
  fl : OwnFl wr w.heap.size A5 8 c5 s.l
  errs : wr.ownsRow w.heap.size 25 1 (.slice A6 k c6) k (icells s.errs)
  read : wr.ownsRow w.heap.size 3 1 (.slice A7 m c7) m (icells s.read)
  bel : Below w.heap.size w wr
section
variable {w wr x : World} {s s' : St} {A5 A6 A7 : Option Addr} {c5 k c6 m c7 : Nat}
theorem Inv.below (h : Inv w wr s A5 c5 A6 k c6 A7 m c7) (hb : Below wr.heap.size wr x) : Inv w x s A5 c5 A6 k c6 A7 m c7 :=
  ⟨own_below h.fl hb (Nat.le_refl _), own_below h.errs hb (Nat.le_refl _), own_below h.read hb (Nat.le_refl _), h.bel.trans (hb.mono h.bel.size)⟩
theorem Inv.alloc (h : Inv w wr s A5 c5 A6 k c6 A7 m c7) (o : Obj) : Inv w (wr.alloc o) s A5 c5 A6 k c6 A7 m c7 := h.below ((Below.refl _ _).alloc (Nat.le_refl _) _)
theorem Inv.told {A c} (h : Inv w wr s A5 c5 A6 k c6 A7 m c7) {e : Int} (ho : x.ownsRow w.heap.size 25 1 (.slice A (k + 1) c) (k + 1) (icells s.errs ++ [.int .i64 e])) (hg : wr.grownBy x (Value.slice A6 k c6).ownBlock) :
    Inv w x ⟨s.l, s.errs ++ [e], s.read⟩ A5 c5 A (k + 1) c A7 m c7 :=
  ⟨Go.World.ownsRow.kept h.fl hg (own_apart h.fl h.errs (by decide)), by rw [icells_append]; exact ho, Go.World.ownsRow.kept h.read hg (own_apart h.read h.errs (by decide)), below_grown h.bel h.errs hg h.bel.size (Nat.le_refl _)⟩
theorem Inv.had {A c} (h : Inv w wr s A5 c5 A6 k c6 A7 m c7) {e : Int} (ho : x.ownsRow w.heap.size 3 1 (.slice A (m + 1) c) (m + 1) (icells s.read ++ [.int .i64 e])) (hg : wr.grownBy x (Value.slice A7 m c7).ownBlock) :
    Inv w x ⟨s.l, s.errs, s.read ++ [e]⟩ A5 c5 A6 k c6 A (m + 1) c :=
  ⟨Go.World.ownsRow.kept h.fl hg (own_apart h.fl h.read (by decide)), Go.World.ownsRow.kept h.errs hg (own_apart h.errs h.read (by decide)), by rw [icells_append]; exact ho, below_grown h.bel h.read hg h.bel.size (Nat.le_refl _)⟩
theorem Inv.next {A c} {l : List Blk} (h : Inv w wr s A5 c5 A6 k c6 A7 m c7) (ho : OwnFl wr w.heap.size A 8 c l) : Inv w wr ⟨l, s.errs, s.read⟩ A c A6 k c6 A7 m c7 := ⟨ho, h.errs, h.read, h.bel⟩
theorem Inv.as (h : Inv w wr s A5 c5 A6 k c6 A7 m c7) (e : s' = s) : Inv w wr s' A5 c5 A6 k c6 A7 m c7 := by subst e; exact h
end
def PlayAt (w : World) (ops : List Nop) (n : Nat) (f er rd i : Value) (wr : World) : Prop :=
  ∃ (k : Nat) (A5 : Option Addr) (c5 : Nat) (A6 : Option Addr) (c6 : Nat) (A7 : Option Addr) (m c7 : Nat), k ≤ n ∧ i = .int .i64 k ∧ f = .slice A5 8 c5 ∧ er = .slice A6 k c6 ∧ rd = .slice A7 m c7 ∧ m ≤ k ∧ Inv w wr (runTo ops k) A5 c5 A6 k c6 A7 m c7
/-- What a list of operations leaves: three slices of the call's own. -/
def Played (w : World) (s : St) (n : Nat) (e : Ending) (x : World) : Prop :=
  ∃ (A5 : Option Addr) (c5 : Nat) (A6 : Option Addr) (c6 : Nat) (A7 : Option Addr) (m c7 : Nat), e = .returned (.tuple #[.slice A6 n c6, .slice A7 m c7, .slice A5 8 c5]) ∧ m ≤ n ∧ Inv w x s A5 c5 A6 n c6 A7 m c7
theorem grown_cell {a b : World} {v : Value} (hg : a.grownBy b v.ownBlock) {p : Addr} (hp : p.block < a.heap.size) (hne : ∀ k, v.ownBlock = some k → k < p.block) : b.cell? p = a.cell? p :=
  World.cell?_of_block (hg.block p.block hp (fun e => Nat.lt_irrefl _ (hne _ e.symm)))
theorem next_len {l : List Blk} {o : Nop} (h : errOf l o = 0) : (nextOf l o).length = 8 := right_len (next_right h)
theorem step_no {s : St} {o : Nop} (h : ¬ errOf s.l o = 0) : s.step o = ⟨s.l, s.errs ++ [errOf s.l o], s.read⟩ := by unfold St.step; rw [if_neg h]
theorem step_yes {s : St} {o : Nop} (h : errOf s.l o = 0) (hk : ¬ o.kind = 3) : s.step o = ⟨nextOf s.l o, s.errs ++ [0], s.read⟩ := by unfold St.step nextOf; rw [if_pos h, if_neg hk, if_pos h]
theorem step_read {s : St} {o : Nop} (h : errOf s.l o = 0) (hk : o.kind = 3) : s.step o = ⟨nextOf s.l o, s.errs ++ [0], s.read ++ [dataOf s.l o]⟩ := by unfold St.step nextOf dataOf; rw [if_pos h, if_pos hk, if_pos h, if_pos h]
theorem one_cell (w : World) (t : TypeId) (x : Int) : Words.Rd (w.alloc (.cells #[.int .i64 x] t)) (w.heap.size + 1) 1 (some ⟨w.heap.size, 0, none⟩) 1 1 (icells [x]) := Words.Rd.new w t _ (0, 0) _ 1 rfl rfl (by unfold maxLen; omega)
set_option maxHeartbeats 4000000 in
theorem play15 (B : Nat) (A : Option Addr) (n c : Nat) (ops : List Nop) (w : World) (h : Ops w B A n c ops) (hB : B ≤ w.heap.size) (hn : n * 32 ≤ 140737488351232) :
    Calls Try.prog 15 #[.slice A n c] w (Played w (run ops) n) := by
  obtain ⟨ie, hie, hze0, hze1, hze2⟩ := info_parts info25
  obtain ⟨i3, hi3, hz30, hz31, hz32⟩ := info_parts info3
  have H := Lib.hid h
  have L := Lib.hid h.len
  have HN := Lib.hid (new12 w)
  clear h
  go_enter Try.func15, Try.ntmps15
  go_wp2_with fail
  refine (HN.out).mono ?_; rintro e w1 ⟨rfl, o1, b1⟩
  have O1 := Lib.hid o1
  have B1 := Lib.hid b1
  have hs1 := b1.size
  clear o1 b1
  go_wp2_with (at_make; refine wpList_make_own _ rfl _ _ 36 rfl w.heap.size 25 ie (.int .i64 0) 1 Try.underlying36 hie hze0 hze1 .i64 .i64 _ n rfl rfl (by omega) (by rw [hze2]; omega) (by unfold maxLen; omega) hs1 ?_; intro w2 hown2 hg2)
  have hb2 : Below w1.heap.size w1 w2 := (Below.refl _ _).grown hg2 (Nat.le_refl _) (fun k hk => by cases hk)
  have I0 : Hid (Inv w w2 ⟨fresh, [], []⟩ (some ⟨w.heap.size, 0, none⟩) 8 (some ⟨w1.heap.size, 0, none⟩) 0 n none 0 0) := Lib.hid ⟨own_below O1.out hb2 (Nat.le_refl _), hown2, Go.World.ownsRow_nil _ _ _ _, B1.out.trans (hb2.mono hs1)⟩
  clear hb2 hown2 hg2
  go_loopw [5, 6, 7, 19] (fun f er rd i wr => PlayAt w ops n f er rd i wr) (fun _ _ _ i _ => (n - intOf i).toNat)
  case atStart => exact ⟨0, _, _, _, _, _, _, _, by omega, rfl, rfl, rfl, rfl, Nat.le_refl _, I0.out⟩
  case round =>
    obtain ⟨k, A5, c5, A6, c6, A7, m, c7, hk, rfl, rfl, rfl, rfl, hmk, hinv⟩ := hrel
    have I := Lib.hid hinv
    clear hinv
    by_cases hlt : k < n
    · obtain ⟨g, of, rfl, _, _⟩ := Words.Rd.row H.out (by omega)
      obtain ⟨o, ho⟩ : ∃ o, ops[k]? = some o := ⟨_, List.getElem?_eq_getElem (by rw [L.out]; exact hlt)⟩
      obtain ⟨c0, c1, c2, c3⟩ := Ops.cells (Words.Rd.below H.out I.out.bel hB) rfl ho
      have HS := Lib.hid (runTo_succ ho)
      clear ho
      generalize runTo ops k = s at *
      have HC := Lib.hid (step9 _ A5 8 c5 s.l o (wr.alloc (bx o)) (I.out.alloc (bx o)).fl.fl (Nat.le_refl _))
      have hlt6 := I.out.errs.lt
      have HL6 := Lib.hid hlt6
      clear hlt6
      have hbase := I.out.bel.size
      unfold oval bx at HC
      by_cases he : errOf s.l o = 0
      · have HE := Lib.hid he
        have HL := Lib.hid (next_len he)
        rw [he] at HC
        clear he
        go_wp2_with fail
        refine (HC.out).mono ?_; rintro e x1 he; obtain ⟨A8, c8, rfl, o8, b8⟩ := Made3.get (n := 8) he HL.out
        have hsz : wr.heap.size < x1.heap.size := by have := b8.size; simp at this; omega
        replace c0 : x1.cell? ⟨wr.heap.size, 0, none⟩ = some (.int .i64 o.kind) := (box_cells (o := o) b8).1
        have I1 : Hid (Inv w x1 ⟨nextOf s.l o, s.errs, s.read⟩ A8 c8 A6 k c6 A7 m c7) := Lib.hid (((I.out.alloc (bx o)).below b8).next (own_base o8 (Nat.le_trans hbase (by simp))))
        have I2 := Lib.hid (I1.out.alloc (.cells #[.int .i64 0] 25))
        have hs2 := I2.out.bel.size
        clear b8 o8 c1 c2 c3 he
        by_cases hk3 : o.kind = 3
        · have ht : (o.kind == 3) = true := by rw [beq_iff_eq]; exact hk3
          have HST := Lib.hid (HS.out.trans (step_read HE.out hk3))
          have HR1 := Lib.hid (one_cell x1 25 0)
          clear hk3
          go_wp2_with (first
            | (at_builtin; refine wpList_append_rd _ rfl (.tmp 30) (.tmp 32) 36 rfl w.heap.size 25 ie (.int .i64 0) 1 8 Try.underlying36 hie hze0 hze1 hze2 rfl (by decide) _ k (icells s.errs) rfl I2.out.errs (x1.heap.size + 1) (some ⟨x1.heap.size, 0, none⟩) 1 1 (icells [0]) rfl HR1.out (icells_one _) (by simp only [maxLen]; omega) (by omega) hs2 ?_
               intro A9 c9 x2 hown2 hg2
               have i2 := I2.out.told hown2 hg2
               have cx : x2.cell? ⟨wr.heap.size, 0, none⟩ = some (.int .i64 o.kind) := (grown_cell hg2 (by simp; omega) (fun q hq => (HL6.out q hq).2)).trans ((World.cell?_alloc_lt _ _ _ (by exact hsz)).trans c0)
               have I3 := Lib.hid i2
               have I4 := Lib.hid (i2.alloc (.cells #[.int .i64 (dataOf s.l o)] 3))
               have hs4 := I4.out.bel.size
               have HR2 := Lib.hid (one_cell x2 3 (dataOf s.l o))
               clear hown2 hg2 i2)
            | (at_builtin; refine wpList_append_rd _ rfl (.tmp 40) (.tmp 42) 37 rfl w.heap.size 3 i3 (.int .i64 0) 1 8 Try.underlying37 hi3 hz30 hz31 hz32 rfl (by decide) _ m (icells s.read) rfl I4.out.read (x2.heap.size + 1) (some ⟨x2.heap.size, 0, none⟩) 1 1 (icells [dataOf s.l o]) rfl HR2.out (icells_one _) (by simp only [maxLen]; omega) (by omega) hs4 ?_
               intro A10 c10 x3 hown3 hg3
               have i3' := I4.out.had hown3 hg3
               have I5 := Lib.hid i3'
               clear hown3 hg3 i3'))
          go_roundw
          case rel => exact ⟨k + 1, A8, c8, A9, c9, A10, m + 1, c10, by omega, by go_num, rfl, rfl, rfl, by omega, I5.out.as HST.out⟩
          case measure => simp [intOf]; omega
        · have ht : (o.kind == 3) = false := by rw [beq_eq_false_iff_ne]; exact hk3
          have HST := Lib.hid (HS.out.trans (step_yes HE.out hk3))
          have HR1 := Lib.hid (one_cell x1 25 0)
          clear hk3
          go_wp2_with (first
            | (at_builtin; refine wpList_append_rd _ rfl (.tmp 30) (.tmp 32) 36 rfl w.heap.size 25 ie (.int .i64 0) 1 8 Try.underlying36 hie hze0 hze1 hze2 rfl (by decide) _ k (icells s.errs) rfl I2.out.errs (x1.heap.size + 1) (some ⟨x1.heap.size, 0, none⟩) 1 1 (icells [0]) rfl HR1.out (icells_one _) (by simp only [maxLen]; omega) (by omega) hs2 ?_
               intro A9 c9 x2 hown2 hg2
               have i2 := I2.out.told hown2 hg2
               have cx : x2.cell? ⟨wr.heap.size, 0, none⟩ = some (.int .i64 o.kind) := (grown_cell hg2 (by simp; omega) (fun q hq => (HL6.out q hq).2)).trans ((World.cell?_alloc_lt _ _ _ (by exact hsz)).trans c0)
               have I3 := Lib.hid i2
               clear hown2 hg2 i2))
          go_roundw
          case rel => exact ⟨k + 1, A8, c8, A9, c9, A7, m, c7, by omega, by go_num, rfl, rfl, rfl, by omega, I3.out.as HST.out⟩
          case measure => simp [intOf]; omega
      · have ht : (errOf s.l o != 0) = true := by rw [bne_iff_ne]; exact he
        have HL : Hid ((nextOf s.l o).length = 0) := Lib.hid (by unfold nextOf; rw [if_neg he]; rfl)
        have HST := Lib.hid (HS.out.trans (step_no he))
        clear he
        go_wp2_with fail
        refine (HC.out).mono ?_; rintro e x1 he; obtain ⟨A8, c8, rfl, o8, b8⟩ := Made3.get (n := 0) he HL.out
        have I1 : Hid (Inv w x1 s A5 c5 A6 k c6 A7 m c7) := Lib.hid ((I.out.alloc (bx o)).below b8)
        have I2 := Lib.hid (I1.out.alloc (.cells #[.int .i64 (errOf s.l o)] 25))
        have hs2 := I2.out.bel.size
        have HR1 := Lib.hid (one_cell x1 25 (errOf s.l o))
        clear b8 o8 c0 c1 c2 c3 he
        go_wp2_with (first
          | (at_builtin; refine wpList_append_rd _ rfl (.tmp 30) (.tmp 32) 36 rfl w.heap.size 25 ie (.int .i64 0) 1 8 Try.underlying36 hie hze0 hze1 hze2 rfl (by decide) _ k (icells s.errs) rfl I2.out.errs (x1.heap.size + 1) (some ⟨x1.heap.size, 0, none⟩) 1 1 (icells [errOf s.l o]) rfl HR1.out (icells_one _) (by simp only [maxLen]; omega) (by omega) hs2 ?_
             intro A9 c9 x2 hown2 hg2
             have i2 := I2.out.told hown2 hg2
             have I3 := Lib.hid i2
             clear hown2 hg2 i2))
        go_roundw
        case rel => exact ⟨k + 1, A5, c5, A9, c9, A7, m, c7, by omega, by go_num, rfl, rfl, rfl, by omega, I3.out.as HST.out⟩
        case measure => simp [intOf]; omega
    · obtain rfl : k = n := by omega
      have HA := Lib.hid (runTo_all ops)
      rw [L.out] at HA
      rw [HA.out] at I
      go_wp2_with fail
      go_ret3
      exact ⟨A5, c5, A6, c6, A7, m, c7, rfl, hmk, I.out⟩
end Go.Proofs.Ytellfblfalpdiaa.Nand
