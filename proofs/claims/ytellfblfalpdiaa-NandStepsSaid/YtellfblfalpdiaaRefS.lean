/-
  What the document's own DStep returns.
-/
import Derived.Test.YtellfblfalpdiaaRefR
namespace Go.Proofs.Ytellfblfalpdiaa.Nand
open Go.ChangeShapes Go.WideShapes Go.ChangeAt Go.RowKit Words

/-- What the world of the walk keeps: the operation's box, and all that was there. -/
def Kept (w : World) (o : Nop) (x : World) : Prop := Below (w.heap.size + 1) (w.alloc (bx o)) x
theorem Kept.below {w x : World} {o : Nop} (h : Kept w o x) : Below w.heap.size w x := ((Below.refl w.heap.size w).alloc (Nat.le_refl _) (bx o)).trans (Below.mono h (by omega))
theorem Kept.cells {w x : World} {o : Nop} (h : Kept w o x) :
    x.cell? ⟨w.heap.size, 0, none⟩ = some (.int .i64 o.kind) ∧ x.cell? ⟨w.heap.size, 1, none⟩ = some (.int .i64 o.block) ∧ x.cell? ⟨w.heap.size, 2, none⟩ = some (.int .i64 o.page) ∧ x.cell? ⟨w.heap.size, 3, none⟩ = some (.int .i64 o.data) :=
  box_cells (w := w) (o := o) (x := x) (by have : (w.alloc (bx o)).heap.size = w.heap.size + 1 := by simp
                                           unfold Kept at h; rw [← this] at h; exact h)
theorem Kept.lt {w x : World} {o : Nop} (h : Kept w o x) : w.heap.size < x.heap.size := by have := h.size; simp at this; omega
theorem Kept.next {w x y : World} {o : Nop} (h : Kept w o x) (hb : Below x.heap.size x y) : Kept w o y := Below.trans h (hb.mono h.lt)
theorem betw_no {x lo hi : Int} (h : ¬ (lo ≤ x ∧ x ≤ hi)) : betw x lo hi = false := by
  unfold betw
  rw [Bool.and_eq_false_iff, decide_eq_false_iff_not, decide_eq_false_iff_not]
  omega
theorem betw_yes {x lo hi : Int} (h1 : lo ≤ x) (h2 : x ≤ hi) : betw x lo hi = true := by
  unfold betw
  rw [decide_eq_true h1, decide_eq_true h2]; rfl
def Err7 (w : World) (l : List Blk) (o : Nop) (u : Value) (x : World) : Prop := u = .int .i64 (errOf l o) ∧ Kept w o x
def dTo (i k : Nat) (d : Int) : Int := if i < k then d else 0
/-- The new block of one round, and the number read so far. -/
def Box6 (wr : World) (d : Int) (e : Blk) (u : Value) (x : World) : Prop :=
  u = .int .i64 d ∧ Below wr.heap.size wr x ∧ wr.heap.size < x.heap.size ∧ x.cell? ⟨wr.heap.size, 0, none⟩ = some (.int .i64 e.d0) ∧ x.cell? ⟨wr.heap.size, 1, none⟩ = some (.int .i64 e.d1) ∧ x.cell? ⟨wr.heap.size, 2, none⟩ = some (.int .i64 e.d2) ∧
    x.cell? ⟨wr.heap.size, 3, none⟩ = some (.int .i64 e.d3) ∧ x.cell? ⟨wr.heap.size, 4, none⟩ = some (.int .i64 e.done) ∧ x.cell? ⟨wr.heap.size, 5, none⟩ = some (.int .i64 e.wear)
theorem box6_new {wr : World} {d d' : Int} {e : Blk} (hd : d = d') : Box6 wr d' e (.int .i64 d) (wr.alloc (.cells #[.int .i64 e.d0, .int .i64 e.d1, .int .i64 e.d2, .int .i64 e.d3, .int .i64 e.done, .int .i64 e.wear] 31)) := by
  have h : ∀ j, (wr.alloc (.cells #[.int .i64 e.d0, .int .i64 e.d1, .int .i64 e.d2, .int .i64 e.d3, .int .i64 e.done, .int .i64 e.wear] 31)).cell? ⟨wr.heap.size, j, none⟩ = #[Value.int .i64 e.d0, .int .i64 e.d1, .int .i64 e.d2, .int .i64 e.d3, .int .i64 e.done, .int .i64 e.wear][j]? := fun j => cell_of_row _ _ _ _ 31 (0, 0) (heap_alloc_new wr _)
  exact ⟨i64_num hd, (Below.refl _ _).alloc (Nat.le_refl _) _, by simp, h 0, h 1, h 2, h 3, h 4, h 5⟩
theorem box6_list {wr : World} {d d' : Int} {e : Blk} {xs : List Value} (hd : d = d') (hx : xs = bcells e) : Box6 wr d' e (.int .i64 d) (wr.alloc (.cells xs.toArray 31)) := by
  subst hx
  exact box6_new hd
set_option maxRecDepth 100000 in
set_option maxHeartbeats 4000000 in
theorem step10 (B : Nat) (A : Option Addr) (n c : Nat) (l : List Blk) (o : Nop) (w : World) (h : Fl w B A n c l) (hB : B ≤ w.heap.size) :
    Calls Try.prog 10 #[.slice A n c, oval o] w (Made3 w (nextOf l o) (dataOf l o) (errOf l o)) := by
  have HK0 : Hid (Kept w o (w.alloc (bx o))) := Lib.hid (Below.refl _ _)
  have HR := Lib.hid (right14 B A n c l (w.alloc (bx o)) (Words.Rd.below h HK0.out.below hB) (Nat.le_trans hB HK0.out.below.size))
  have H := Lib.hid h
  have hn := h.len
  have L := Lib.hid hn
  clear h hn
  unfold oval
  unfold bx at HR
  go_enter Try.func10, Try.ntmps10
  go_upto_region 3 with fail
  go_cut [10] (fun u wx => u = .bool (betw o.page 0 3) ∧ wx = w.alloc (.cells #[.int .i64 o.kind, .int .i64 o.block, .int .i64 o.page, .int .i64 o.data] 24))
  case first =>
    by_cases p1 : 0 ≤ o.page
    · by_cases p2 : o.page < 4
      · have HF := Lib.hid (betw_yes (x := o.page) (lo := 0) (hi := 3) (by omega) (by omega))
        go_wp2_with fail
        go_meet
        exact ⟨bool_val HF.out.symm, rfl⟩
      · have HF := Lib.hid (betw_no (x := o.page) (lo := 0) (hi := 3) (by omega))
        go_wp2_with fail
        go_meet
        exact ⟨bool_val HF.out.symm, rfl⟩
    · have HF := Lib.hid (betw_no (x := o.page) (lo := 0) (hi := 3) (by omega))
      go_wp2_with fail
      go_meet
      exact ⟨bool_val HF.out.symm, rfl⟩
  case rest =>
    obtain ⟨rfl, rfl⟩ := hcut
    generalize hpg : betw o.page 0 3 = q
    have HPG := Lib.hid hpg
    clear hpg
    generalize hr : right l = r at *
    have HRR := Lib.hid hr
    clear hr
    go_upto_block 0 with fail
    go_cut [7] (Err7 w l o)
    case first =>
      cases r with
      | false =>
        have HE : Hid (errOf l o = 1) := Lib.hid (by unfold errOf; rw [HRR.out]; rfl)
        go_wp2_with fail
        refine (HR.out).mono ?_; rintro e x1 ⟨rfl, hb1⟩
        have HK1 : Hid (Kept w o x1) := Lib.hid (HK0.out.next hb1)
        clear hb1
        go_wp2_with fail
        go_meet
        exact ⟨i64_num HE.out.symm, HK1.out⟩
      | true =>
        cases hk : kindOk o.kind with
        | false =>
          have HE : Hid (errOf l o = 5) := Lib.hid (by unfold errOf; rw [HRR.out, hk]; rfl)
          have k1 : (o.kind != 1) = true := by unfold kindOk at hk; simp at hk ⊢; omega
          have k2 : (o.kind != 2) = true := by unfold kindOk at hk; simp at hk ⊢; omega
          have k3 : (o.kind != 3) = true := by unfold kindOk at hk; simp at hk ⊢; omega
          clear hk
          go_wp2_with fail
          refine (HR.out).mono ?_; rintro e x1 ⟨rfl, hb1⟩
          have HK1 : Hid (Kept w o x1) := Lib.hid (HK0.out.next hb1)
          obtain ⟨c0, c1, c2, c3⟩ := HK1.out.cells
          clear hb1
          go_wp2_with fail
          go_meet
          exact ⟨i64_num HE.out.symm, HK1.out⟩
        | true =>
          have HKO := Lib.hid hk
          cases hw : within o with
          | false =>
            have HE : Hid (errOf l o = 2) := Lib.hid (by unfold errOf; rw [HRR.out, HKO.out, hw]; rfl)
            have hk' := kind_cases hk
            obtain ⟨kd, bl, pg, dt⟩ := o
            simp only at hk'
            have HW := Lib.hid hw
            clear hk hw
            by_cases b1 : bl < 0
            · rcases hk' with rfl | rfl | rfl
              all_goals
                go_wp2_with fail
                refine (HR.out).mono ?_; rintro e x1 ⟨rfl, hb1⟩
                have HK1 := Lib.hid (HK0.out.next hb1)
                obtain ⟨c0, c1, c2, c3⟩ := HK1.out.cells
                simp only at c0 c1 c2 c3
                clear hb1
                go_wp2_with fail
                go_meet
                exact ⟨i64_num HE.out.symm, HK1.out⟩
            · by_cases b2 : 7 < bl
              · rcases hk' with rfl | rfl | rfl
                all_goals
                  go_wp2_with fail
                  refine (HR.out).mono ?_; rintro e x1 ⟨rfl, hb1⟩
                  have HK1 := Lib.hid (HK0.out.next hb1)
                  obtain ⟨c0, c1, c2, c3⟩ := HK1.out.cells
                  simp only at c0 c1 c2 c3
                  clear hb1
                  go_wp2_with fail
                  go_meet
                  exact ⟨i64_num HE.out.symm, HK1.out⟩
              · have hq : q = false ∧ kd ≠ 2 := by
                  have hp : betw pg 0 3 = q := HPG.out
                  have hw : (betw bl 0 7 && (kd == 2 || betw pg 0 3)) = false := HW.out
                  rw [hp, betw_yes (x := bl) (lo := 0) (hi := 7) (by omega) (by omega)] at hw
                  simp at hw
                  exact ⟨hw.2, hw.1⟩
                obtain ⟨rfl, hk2⟩ := hq
                rcases hk' with rfl | rfl | rfl
                · go_wp2_with fail
                  refine (HR.out).mono ?_; rintro e x1 ⟨rfl, hb1⟩
                  have HK1 := Lib.hid (HK0.out.next hb1)
                  obtain ⟨c0, c1, c2, c3⟩ := HK1.out.cells
                  simp only at c0 c1 c2 c3
                  clear hb1 hk2
                  go_wp2_with fail
                  go_meet
                  exact ⟨i64_num HE.out.symm, HK1.out⟩
                · exact absurd rfl hk2
                · go_wp2_with fail
                  refine (HR.out).mono ?_; rintro e x1 ⟨rfl, hb1⟩
                  have HK1 := Lib.hid (HK0.out.next hb1)
                  obtain ⟨c0, c1, c2, c3⟩ := HK1.out.cells
                  simp only at c0 c1 c2 c3
                  clear hb1 hk2
                  go_wp2_with fail
                  go_meet
                  exact ⟨i64_num HE.out.symm, HK1.out⟩
          | true =>
            obtain ⟨i, hi, hi8⟩ : ∃ i : Nat, o.block = (i : Int) ∧ i < 8 := by
              unfold within betw at hw
              simp at hw
              exact ⟨o.block.toNat, by omega, by omega⟩
            have hl8 := right_len HRR.out
            obtain ⟨b, hb⟩ : ∃ b, l[i]? = some b := ⟨_, List.getElem?_eq_getElem (by omega)⟩
            have HE0 : Hid (errOf l o = blkErr b o) := Lib.hid (err_of HRR.out HKO.out hw hi hb)
            have HBl := Lib.hid hb
            have hok := (okB_iff.1 (right_get HRR.out hb)).2.2.2.1
            obtain rfl : n = 8 := by rw [← L.out]; exact hl8
            obtain ⟨g, of, rfl, hg, _⟩ := Words.Rd.row H.out (by omega)
            obtain ⟨kd, bl, pg, dt⟩ := o
            simp only at hi
            subst hi
            have hk' := kind_cases hk
            simp only at hk'
            have hq : kd = 2 ∨ q = true := by
              have hp : betw pg 0 3 = q := HPG.out
              have hw : (betw (i : Int) 0 7 && (kd == 2 || betw pg 0 3)) = true := hw
              rw [hp] at hw
              simp at hw
              exact hw.2
            have HW := Lib.hid hw
            clear hk hw hb hl8
            have HBN : Hid (∀ x, Kept w ⟨kd, (i : Int), pg, dt⟩ x → (x.cell? ⟨g, of + i * 6 + 4, none⟩ = some (.int .i64 b.done) ∧ x.cell? ⟨g, of + i * 6 + 5, none⟩ = some (.int .i64 b.wear))) := Lib.hid fun x hx => by
              have := Fl.cells (Words.Rd.below H.out hx.below hB) rfl HBl.out
              exact ⟨this.2.2.2.2.1, this.2.2.2.2.2⟩
            rcases hk' with rfl | rfl | rfl
            · obtain rfl : q = true := by rcases hq with h | h; exact absurd h (by decide); exact h
              clear hq
              by_cases e1 : pg < b.done
              · have HE : Hid (errOf l ⟨1, (i : Int), pg, dt⟩ = 6) := Lib.hid (by rw [HE0.out]; unfold blkErr; simp [e1])
                go_wp2_with fail
                refine (HR.out).mono ?_; rintro e x1 ⟨rfl, hb1⟩
                have HK1 := Lib.hid (HK0.out.next hb1)
                obtain ⟨c0, c1, c2, c3⟩ := HK1.out.cells
                obtain ⟨c4, c5⟩ := HBN.out x1 HK1.out
                simp only at c0 c1 c2 c3
                clear hb1
                go_wp2_with fail
                go_quiet (fail)
                go_wp2_with fail
                go_meet
                exact ⟨i64_num HE.out.symm, by unfold Kept; repeat (first | exact HK1.out | refine below_drewN ?_ _)⟩
              · by_cases e2 : b.done < pg
                · have HE : Hid (errOf l ⟨1, (i : Int), pg, dt⟩ = 3) := Lib.hid (by rw [HE0.out]; unfold blkErr; simp [e1, e2])
                  have hne : (pg != b.done) = true := by rw [bne_iff_ne]; omega
                  go_wp2_with fail
                  refine (HR.out).mono ?_; rintro e x1 ⟨rfl, hb1⟩
                  have HK1 := Lib.hid (HK0.out.next hb1)
                  obtain ⟨c0, c1, c2, c3⟩ := HK1.out.cells
                  obtain ⟨c4, c5⟩ := HBN.out x1 HK1.out
                  simp only at c0 c1 c2 c3
                  clear hb1
                  go_wp2_with fail
                  go_quiet (fail)
                  go_wp2_with fail
                  go_quiet (fail)
                  go_wp2_with fail
                  go_meet
                  exact ⟨i64_num HE.out.symm, by unfold Kept; repeat (first | exact HK1.out | refine below_drewN ?_ _)⟩
                · have HE : Hid (errOf l ⟨1, (i : Int), pg, dt⟩ = 0) := Lib.hid (by rw [HE0.out]; unfold blkErr; simp [e1, e2])
                  have hne : (pg != b.done) = false := by rw [bne_eq_false_iff_eq]; omega
                  go_wp2_with fail
                  refine (HR.out).mono ?_; rintro e x1 ⟨rfl, hb1⟩
                  have HK1 := Lib.hid (HK0.out.next hb1)
                  obtain ⟨c0, c1, c2, c3⟩ := HK1.out.cells
                  obtain ⟨c4, c5⟩ := HBN.out x1 HK1.out
                  simp only at c0 c1 c2 c3
                  clear hb1
                  go_wp2_with fail
                  go_quiet (fail)
                  go_wp2_with fail
                  go_quiet (fail)
                  go_wp2_with fail
                  go_quiet (fail)
                  go_wp2_with fail
                  go_meet
                  exact ⟨i64_num HE.out.symm, by unfold Kept; repeat (first | exact HK1.out | refine below_drewN ?_ _)⟩
            · clear hq
              by_cases e1 : 1048576 ≤ b.wear
              · have HE : Hid (errOf l ⟨2, (i : Int), pg, dt⟩ = 8) := Lib.hid (by rw [HE0.out]; unfold blkErr; simp; omega)
                go_wp2_with fail
                refine (HR.out).mono ?_; rintro e x1 ⟨rfl, hb1⟩
                have HK1 := Lib.hid (HK0.out.next hb1)
                obtain ⟨c0, c1, c2, c3⟩ := HK1.out.cells
                obtain ⟨c4, c5⟩ := HBN.out x1 HK1.out
                simp only at c0 c1 c2 c3
                clear hb1
                go_wp2_with fail
                go_meet
                exact ⟨i64_num HE.out.symm, HK1.out⟩
              · have HE : Hid (errOf l ⟨2, (i : Int), pg, dt⟩ = 0) := Lib.hid (by rw [HE0.out]; unfold blkErr; simp; omega)
                go_wp2_with fail
                refine (HR.out).mono ?_; rintro e x1 ⟨rfl, hb1⟩
                have HK1 := Lib.hid (HK0.out.next hb1)
                obtain ⟨c0, c1, c2, c3⟩ := HK1.out.cells
                obtain ⟨c4, c5⟩ := HBN.out x1 HK1.out
                simp only at c0 c1 c2 c3
                clear hb1
                go_wp2_with fail
                go_quiet (fail)
                go_wp2_with fail
                go_quiet (fail)
                go_wp2_with fail
                go_quiet (fail)
                go_wp2_with fail
                go_meet
                exact ⟨i64_num HE.out.symm, by unfold Kept; repeat (first | exact HK1.out | refine below_drewN ?_ _)⟩
            · obtain rfl : q = true := by rcases hq with h | h; exact absurd h (by decide); exact h
              clear hq
              by_cases e1 : b.done ≤ pg
              · have HE : Hid (errOf l ⟨3, (i : Int), pg, dt⟩ = 3) := Lib.hid (by rw [HE0.out]; unfold blkErr; simp [e1])
                go_wp2_with fail
                refine (HR.out).mono ?_; rintro e x1 ⟨rfl, hb1⟩
                have HK1 := Lib.hid (HK0.out.next hb1)
                obtain ⟨c0, c1, c2, c3⟩ := HK1.out.cells
                obtain ⟨c4, c5⟩ := HBN.out x1 HK1.out
                simp only at c0 c1 c2 c3
                clear hb1
                go_wp2_with fail
                go_quiet (fail)
                go_wp2_with fail
                go_quiet (fail)
                go_wp2_with fail
                go_quiet (fail)
                go_wp2_with fail
                go_meet
                exact ⟨i64_num HE.out.symm, by unfold Kept; repeat (first | exact HK1.out | refine below_drewN ?_ _)⟩
              · have HE : Hid (errOf l ⟨3, (i : Int), pg, dt⟩ = 0) := Lib.hid (by rw [HE0.out]; unfold blkErr; simp [e1])
                go_wp2_with fail
                refine (HR.out).mono ?_; rintro e x1 ⟨rfl, hb1⟩
                have HK1 := Lib.hid (HK0.out.next hb1)
                obtain ⟨c0, c1, c2, c3⟩ := HK1.out.cells
                obtain ⟨c4, c5⟩ := HBN.out x1 HK1.out
                simp only at c0 c1 c2 c3
                clear hb1
                go_wp2_with fail
                go_quiet (fail)
                go_wp2_with fail
                go_quiet (fail)
                go_wp2_with fail
                go_quiet (fail)
                go_wp2_with fail
                go_meet
                exact ⟨i64_num HE.out.symm, by unfold Kept; repeat (first | exact HK1.out | refine below_drewN ?_ _)⟩
    case rest =>
      obtain ⟨rfl, hk1⟩ := hcut
      clear HR HK0 HPG HRR
      have HK1 := Lib.hid hk1
      clear hk1
      by_cases he : errOf l o = 0
      · have hne : (errOf l o != 0) = false := by rw [bne_eq_false_iff_eq]; exact he
        obtain ⟨hr, hk, hw, i, b, hi, hib, hb, hbe⟩ := err_zero he
        have hl8 := right_len hr
        obtain rfl : n = 8 := by rw [← L.out]; exact hl8
        obtain ⟨hu, hd⟩ := upd_of hib hb
        have HN : Hid (nextOf l o = upd l o) := Lib.hid (by unfold nextOf; rw [if_pos he])
        have HD : Hid (dataOf l o = datum b o) := Lib.hid (by unfold dataOf; rw [if_pos he, hd])
        have HU := Lib.hid hu
        have HBl := Lib.hid hb
        have HL8 := Lib.hid hl8
        obtain ⟨hd0, hd4, hw0, hw4, _⟩ := okB_iff.1 (right_get hr hb)
        have HKO := Lib.hid hk
        have HWO := Lib.hid hw
        have HBE := Lib.hid hbe
        have HE := Lib.hid he
        obtain ⟨g, of, rfl, hg, _⟩ := Words.Rd.row H.out (by omega)
        obtain ⟨i0, hi0, hz0, hz1, hz2⟩ := info_parts info31
        have HIB := Lib.hid hib
        clear he hr hk hw hb hu hd hbe hl8 hib
        go_wp2_with fail
        go_loopw [8, 9, 119] (fun d out i' wr => ∃ (k : Nat) (A' : Option Addr) (c' : Nat), k ≤ 8 ∧ i' = .int .i64 k ∧ d = .int .i64 (dTo i k (datum b o)) ∧ out = .slice A' k c' ∧ OwnFl wr (w.heap.size + 1) A' k c' ((upd l o).take k) ∧ Kept w o wr) (fun _ _ i' _ => (8 - intOf i').toNat)
        case atStart => exact ⟨0, none, 0, by omega, rfl, rfl, rfl, Go.World.ownsRow_nil _ _ _ _, HK1.out⟩
        case round =>
          obtain ⟨k, A', c', hk8, rfl, rfl, rfl, hown, hkept⟩ := hrel
          have O := Lib.hid hown
          have HK := Lib.hid hkept
          clear hown hkept
          by_cases hlt : k < 8
          · obtain ⟨cb, hcb⟩ : ∃ cb, l[k]? = some cb := ⟨_, List.getElem?_eq_getElem (by rw [HL8.out]; exact hlt)⟩
            obtain ⟨c0, c1, c2, c3, c4, c5⟩ := Fl.cells (Words.Rd.below H.out HK.out.below hB) rfl hcb
            obtain ⟨q0, q1, q2, q3⟩ := HK.out.cells
            rw [HIB.out] at q1
            obtain ⟨e, he⟩ : ∃ e, (upd l o)[k]? = some e := ⟨_, List.getElem?_eq_getElem (by rw [upd_length, HL8.out]; exact hlt)⟩
            have HEk := Lib.hid he
            have HCb := Lib.hid hcb
            have hlw := HK.out.lt
            clear hcb he
            go_upto_if 127 with fail
            go_cut [8] (Box6 wr (dTo i (k + 1) (datum b o)) e)
            case first =>
              by_cases hki : k = i
              · subst hki
                obtain rfl : cb = b := by have := HCb.out; rw [HBl.out] at this; injection this with this; exact this.symm
                have HEB : Hid (e = doB cb o) := Lib.hid (by
                  have := HEk.out
                  rw [HU.out, get_set_same HBl.out] at this
                  injection this with this; exact this.symm)
                have HDT : Hid (dTo k (k + 1) (datum cb o) = datum cb o) := Lib.hid (by unfold dTo; rw [if_pos (by omega)])
                have hd0' : Hid (dTo k k (datum cb o) = 0) := Lib.hid (by unfold dTo; rw [if_neg (by omega)])
                rw [hd0'.out]
                rcases kind_cases HKO.out with ek | ek | ek
                · obtain ⟨p, hp, hp4⟩ := page_nat (by omega) HWO.out
                  have hdp : cb.done = (p : Int) := by
                    have := HBE.out
                    unfold blkErr at this
                    by_cases a1 : o.page < cb.done
                    · rw [if_pos ⟨ek, a1⟩] at this; omega
                    · rw [if_neg (by omega)] at this
                      by_cases a2 : cb.done < o.page
                      · rw [if_pos ⟨ek, a2⟩] at this; omega
                      · omega
                  have HDA : Hid (datum cb o = 0) := Lib.hid (by unfold datum; rw [if_neg (by omega)])
                  have HDB : Hid (doB cb o = { cb.put p o.data with done := cb.done + 1 }) := Lib.hid (by unfold doB; rw [if_pos ek, hp]; rfl)
                  rw [ek] at q0
                  clear hp ek
                  obtain ⟨x0, x1, x2, x3, dn, we⟩ := cb
                  simp only at hdp c0 c1 c2 c3 c4 c5 hd0 hd4 hw0 hw4
                  subst hdp
                  have hp' : p = 0 ∨ p = 1 ∨ p = 2 ∨ p = 3 := by omega
                  rcases hp' with rfl | rfl | rfl | rfl
                  · go_wp2_with fail
                    go_meet
                    rw [HEB.out, HDB.out, HDT.out, HDA.out]
                    exact box6_new (e := ⟨o.data, x1, x2, x3, 1, we⟩) rfl
                  · go_wp2_with fail
                    go_meet
                    rw [HEB.out, HDB.out, HDT.out, HDA.out]
                    exact box6_new (e := ⟨x0, o.data, x2, x3, 2, we⟩) rfl
                  · go_wp2_with fail
                    go_meet
                    rw [HEB.out, HDB.out, HDT.out, HDA.out]
                    exact box6_new (e := ⟨x0, x1, o.data, x3, 3, we⟩) rfl
                  · go_wp2_with fail
                    go_meet
                    rw [HEB.out, HDB.out, HDT.out, HDA.out]
                    exact box6_new (e := ⟨x0, x1, x2, o.data, 4, we⟩) rfl
                · have HDA : Hid (datum cb o = 0) := Lib.hid (by unfold datum; rw [if_neg (by omega)])
                  have HDB : Hid (doB cb o = blank (1 + cb.wear)) := Lib.hid (by unfold doB; rw [if_neg (by omega), if_pos ek, Int.add_comm])
                  rw [ek] at q0
                  clear ek
                  go_wp2_with fail
                  go_meet
                  rw [HEB.out, HDB.out, HDT.out, HDA.out]
                  exact box6_new (e := blank (1 + cb.wear)) rfl
                · obtain ⟨p, hp, hp4⟩ := page_nat (by omega) HWO.out
                  have HDA : Hid (datum cb o = cb.at p) := Lib.hid (by unfold datum; rw [if_pos ek, hp]; rfl)
                  have HDB : Hid (doB cb o = cb) := Lib.hid (by unfold doB; rw [if_neg (by omega), if_neg (by omega)])
                  rw [ek] at q0
                  rw [hp] at q2
                  clear hp ek
                  have hp' : p = 0 ∨ p = 1 ∨ p = 2 ∨ p = 3 := by omega
                  rcases hp' with rfl | rfl | rfl | rfl
                  · go_wp2_with fail
                    go_meet
                    rw [HEB.out, HDB.out, HDT.out, HDA.out]
                    exact box6_new rfl
                  · go_wp2_with fail
                    go_meet
                    rw [HEB.out, HDB.out, HDT.out, HDA.out]
                    exact box6_new rfl
                  · go_wp2_with fail
                    go_meet
                    rw [HEB.out, HDB.out, HDT.out, HDA.out]
                    exact box6_new rfl
                  · go_wp2_with fail
                    go_meet
                    rw [HEB.out, HDB.out, HDT.out, HDA.out]
                    exact box6_new rfl
              · have hkn : ((k : Int) == (i : Int)) = false := by rw [beq_eq_false_iff_ne]; omega
                have HEB : Hid (cb = e) := Lib.hid (by
                  have := HEk.out
                  rw [HU.out, List.getElem?_set, if_neg (by omega), HCb.out] at this
                  injection this)
                have HDT : Hid (dTo i k (datum b o) = dTo i (k + 1) (datum b o)) := Lib.hid (by
                  unfold dTo
                  by_cases h : i < k
                  · rw [if_pos h, if_pos (by omega)]
                  · rw [if_neg h, if_neg (by omega)])
                clear hki
                go_wp2_with fail
                go_meet
                rw [← HEB.out]
                exact box6_new HDT.out
            case rest =>
              clear c0 c1 c2 c3 c4 c5 q0 q1 q2 q3
              obtain ⟨rfl, hbel, hsz, d0, d1, d2, d3, d4, d5⟩ := hcut
              have HBx := Lib.hid hbel
              have HO2 : Hid ((wc.alloc (.cells #[.int .i64 e.d0, .int .i64 e.d1, .int .i64 e.d2, .int .i64 e.d3, .int .i64 e.done, .int .i64 e.wear] 31)).ownsRow (w.heap.size + 1) 31 6 (.slice A' k c') k (fcells ((upd l o).take k))) := Lib.hid (Go.World.ownsRow.alloc (own_below O.out hbel (Nat.le_refl _)) _)
              have HRD : Hid (Words.Rd (wc.alloc (.cells #[.int .i64 e.d0, .int .i64 e.d1, .int .i64 e.d2, .int .i64 e.d3, .int .i64 e.done, .int .i64 e.wear] 31)) (wc.heap.size + 1) 6 (some ⟨wc.heap.size, 0, none⟩) 1 1 (bcells e)) := Lib.hid (Words.Rd.new wc 31 _ (0, 0) (bcells e) 1 rfl rfl (by unfold maxLen; omega))
              have HK2 : Hid (Kept w o (wc.alloc (.cells #[.int .i64 e.d0, .int .i64 e.d1, .int .i64 e.d2, .int .i64 e.d3, .int .i64 e.done, .int .i64 e.wear] 31))) := Lib.hid ((HK.out.next hbel).alloc (HK.out.next hbel).lt _)
              have hbs : w.heap.size + 1 ≤ (wc.alloc (.cells #[.int .i64 e.d0, .int .i64 e.d1, .int .i64 e.d2, .int .i64 e.d3, .int .i64 e.done, .int .i64 e.wear] 31)).heap.size := HK2.out.lt
              have HTK : Hid (fcells ((upd l o).take k) ++ bcells e = fcells ((upd l o).take (k + 1))) := Lib.hid (by
                unfold fcells
                rw [List.take_add_one, HEk.out, List.flatMap_append]
                simp)
              have hone : ∀ u ∈ bcells e, u.oneCell' = true := fun u hu => fcells_one [e] u (by unfold fcells; simpa using hu)
              have HON := Lib.hid hone
              clear hone hbel
              go_wp2_with (first
                | (at_builtin; refine wpList_append_rd _ rfl (.tmp 153) (.tmp 155) 22 rfl (w.heap.size + 1) 31 i0 _ 6 48 Try.underlying22 hi0 hz0 hz1 hz2 rfl (by decide) _ k (fcells ((upd l o).take k)) rfl HO2.out (wc.heap.size + 1) (some ⟨wc.heap.size, 0, none⟩) 1 1 (bcells e) rfl HRD.out HON.out (by simp only [maxLen]; omega) (by omega) hbs ?_
                   intro A3 c3 w3 hown3 hg3
                   have hk3 : Kept w o w3 := below_grown HK2.out HO2.out hg3 hbs (Nat.le_refl _)
                   rw [HTK.out] at hown3))
              have HO3 := Lib.hid hown3
              have HK3 := Lib.hid hk3
              clear hown3 hk3 hg3 d0 d1 d2 d3 d4 d5
              go_roundw
              case rel => exact ⟨k + 1, A3, c3, by omega, by go_num, rfl, rfl, HO3.out, HK3.out⟩
              case measure => simp [intOf]; omega
          · obtain rfl : k = 8 := by omega
            have HT : Hid ((upd l o).take 8 = upd l o) := Lib.hid (List.take_of_length_le (by rw [upd_length, HL8.out]; omega))
            have HD8 : Hid (dTo i 8 (datum b o) = datum b o) := Lib.hid (by unfold dTo; rw [if_pos hi])
            rw [HT.out] at O
            go_wp2_with fail
            go_ret3
            exact made3 HN.out (HD.out.trans HD8.out.symm) HE.out (by rw [upd_length, HL8.out]) O.out (Nat.le_succ _) HK.out.below
      · have hne : (errOf l o != 0) = true := by rw [bne_iff_ne]; exact he
        have HN : Hid (nextOf l o = []) := Lib.hid (by unfold nextOf; rw [if_neg he])
        have HD : Hid (dataOf l o = 0) := Lib.hid (by unfold dataOf; rw [if_neg he])
        clear he
        go_wp2_with fail
        go_ret3
        exact made3 HN.out HD.out rfl rfl (Go.World.ownsRow_nil _ w.heap.size _ _) (Nat.le_refl _) HK1.out.below
end Go.Proofs.Ytellfblfalpdiaa.Nand
