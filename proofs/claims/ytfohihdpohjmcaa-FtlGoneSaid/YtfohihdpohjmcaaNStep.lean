/-
  What check, Clone, perform and Step return.
-/
import Derived.Test.YtfohihdpohjmcaaNFlat
import Derived.Deep.RegionWith
import Derived.Deep.CutBlock
import Derived.StillTailTactics
namespace Go.Proofs.Ytfohihdpohjmcaa.Nand
open Go.ChangeShapes Go.WideShapes Go.ChangeAt Go.RowKit Words

theorem within34 (o : Nop) (w : World) : Calls Try.prog 34 #[oval o] w fun e w' => e = .returned (.bool (within o)) ∧ Below w.heap.size w w' := by
  have h1 := between38 o.block 0 7
  have h2 := between38 o.page 0 3
  unfold within oval
  generalize betw o.block 0 7 = p at *
  generalize betw o.page 0 3 = q at *
  have H1 := Lib.hid h1
  have H2 := Lib.hid h2
  clear h1 h2
  cases p with
  | false =>
    go_enter Try.func34, Try.ntmps34
    go_wp2_with fail
    refine (H1.out _).mono ?_; rintro e w' ⟨rfl, rfl⟩
    go_wp2_with fail
    go_ret
    exact ⟨ret_bool rfl, (Below.refl _ _).alloc (Nat.le_refl _) _⟩
  | true =>
    cases hk : (o.kind == 2) with
    | true =>
      go_enter Try.func34, Try.ntmps34
      go_wp2_with fail
      refine (H1.out _).mono ?_; rintro e w' ⟨rfl, rfl⟩
      go_wp2_with fail
      go_ret
      exact ⟨ret_bool rfl, (Below.refl _ _).alloc (Nat.le_refl _) _⟩
    | false =>
      go_enter Try.func34, Try.ntmps34
      go_wp2_with fail
      refine (H1.out _).mono ?_; rintro e w' ⟨rfl, rfl⟩
      go_wp2_with fail
      refine (H2.out _).mono ?_; rintro e w' ⟨rfl, rfl⟩
      go_wp2_with fail
      go_ret
      exact ⟨ret_bool rfl, (Below.refl _ _).alloc (Nat.le_refl _) _⟩
theorem two_blocks (w : World) (a b : Obj) : Below w.heap.size w ((w.alloc a).alloc b) := ((Below.refl _ _).alloc (Nat.le_refl _) _).alloc (by simp) _
theorem kind_cases {k : Int} (h : kindOk k = true) : k = 1 ∨ k = 2 ∨ k = 3 := by
  unfold kindOk at h
  simp only [Bool.or_eq_true, beq_iff_eq] at h
  omega
set_option maxHeartbeats 1000000 in
theorem checkBlock35 (b : Blk) (o : Nop) (w : World) (hk : kindOk o.kind = true) : Calls Try.prog 35 #[bval b, oval o] w fun e w' => e = .returned (.int .i64 (blkErr b o)) ∧ Below w.heap.size w w' := by
  obtain ⟨kd, bl, pg, dt⟩ := o
  obtain ⟨d0, d1, d2, d3, dn, wr⟩ := b
  have hk' := kind_cases hk
  clear hk
  unfold bval oval
  simp only at hk' ⊢
  rcases hk' with rfl | rfl | rfl
  · by_cases h1 : pg < dn
    · have HE : Hid (blkErr ⟨d0, d1, d2, d3, dn, wr⟩ ⟨1, bl, pg, dt⟩ = 6) := Lib.hid (by unfold blkErr; simp [h1])
      go_enter Try.func35, Try.ntmps35
      go_wp2_with fail
      go_ret
      exact ⟨ret_int HE.out.symm, two_blocks _ _ _⟩
    · by_cases h2 : dn < pg
      · have HE : Hid (blkErr ⟨d0, d1, d2, d3, dn, wr⟩ ⟨1, bl, pg, dt⟩ = 3) := Lib.hid (by unfold blkErr; simp [h1, h2])
        go_enter Try.func35, Try.ntmps35
        go_wp2_with fail
        go_ret
        exact ⟨ret_int HE.out.symm, two_blocks _ _ _⟩
      · have HE : Hid (blkErr ⟨d0, d1, d2, d3, dn, wr⟩ ⟨1, bl, pg, dt⟩ = 0) := Lib.hid (by unfold blkErr; simp [h1, h2])
        go_enter Try.func35, Try.ntmps35
        go_wp2_with fail
        go_ret
        exact ⟨ret_int HE.out.symm, two_blocks _ _ _⟩
  · by_cases h1 : wr = 1048576
    · subst h1
      have HE : Hid (blkErr ⟨d0, d1, d2, d3, dn, 1048576⟩ ⟨2, bl, pg, dt⟩ = 8) := Lib.hid (by unfold blkErr; simp)
      go_enter Try.func35, Try.ntmps35
      go_wp2_with fail
      go_ret
      exact ⟨ret_int HE.out.symm, two_blocks _ _ _⟩
    · have HE : Hid (blkErr ⟨d0, d1, d2, d3, dn, wr⟩ ⟨2, bl, pg, dt⟩ = 0) := Lib.hid (by unfold blkErr; simp [h1])
      have hb : (wr == 1048576) = false := by rw [beq_eq_false_iff_ne]; exact h1
      clear h1
      go_enter Try.func35, Try.ntmps35
      go_wp2_with fail
      go_ret
      exact ⟨ret_int HE.out.symm, two_blocks _ _ _⟩
  · by_cases h1 : dn ≤ pg
    · have HE : Hid (blkErr ⟨d0, d1, d2, d3, dn, wr⟩ ⟨3, bl, pg, dt⟩ = 3) := Lib.hid (by unfold blkErr; simp [h1])
      go_enter Try.func35, Try.ntmps35
      go_wp2_with fail
      go_ret
      exact ⟨ret_int HE.out.symm, two_blocks _ _ _⟩
    · have HE : Hid (blkErr ⟨d0, d1, d2, d3, dn, wr⟩ ⟨3, bl, pg, dt⟩ = 0) := Lib.hid (by unfold blkErr; simp [h1])
      go_enter Try.func35, Try.ntmps35
      go_wp2_with fail
      go_ret
      exact ⟨ret_int HE.out.symm, two_blocks _ _ _⟩

theorem box_cells {w x : World} {o : Nop} (hb : Below (w.alloc (.cells #[.int .i64 o.kind, .int .i64 o.block, .int .i64 o.page, .int .i64 o.data] 62)).heap.size (w.alloc (.cells #[.int .i64 o.kind, .int .i64 o.block, .int .i64 o.page, .int .i64 o.data] 62)) x) :
    x.cell? ⟨w.heap.size, 0, none⟩ = some (.int .i64 o.kind) ∧ x.cell? ⟨w.heap.size, 1, none⟩ = some (.int .i64 o.block) ∧ x.cell? ⟨w.heap.size, 2, none⟩ = some (.int .i64 o.page) ∧ x.cell? ⟨w.heap.size, 3, none⟩ = some (.int .i64 o.data) := by
  have h : ∀ j, x.cell? ⟨w.heap.size, j, none⟩ = #[Value.int .i64 o.kind, .int .i64 o.block, .int .i64 o.page, .int .i64 o.data][j]? := fun j => by
    rw [hb.cell (p := ⟨w.heap.size, j, none⟩) (by simp), cell_of_row _ _ _ _ 62 (0, 0) (heap_alloc_new w _)]
  exact ⟨h 0, h 1, h 2, h 3⟩
theorem check29 (B : Nat) (A : Option Addr) (n c : Nat) (l : List Blk) (o : Nop) (w : World) (h : Fl w B A n c l) (hB : B ≤ w.heap.size) :
    Calls Try.prog 29 #[.slice A n c, oval o] w fun e w' => e = .returned (.int .i64 (errOf l o)) ∧ Below w.heap.size w w' := by
  have HR := Lib.hid (fun (x : World) (b : Below w.heap.size w x) => right32 B A n c l x (Words.Rd.below h b hB) (Nat.le_trans hB b.size))
  have HK := Lib.hid (isKind33 o.kind)
  have HW := Lib.hid (within34 o)
  have H := Lib.hid h
  clear h
  cases hr : right l with
  | false =>
    have HE : Hid (errOf l o = 1) := Lib.hid (by unfold errOf; rw [hr]; rfl)
    rw [hr] at HR
    clear hr HK HW
    unfold oval
    go_enter Try.func29, Try.ntmps29
    go_wp2_with fail
    refine (HR.out _ ((Below.refl _ _).alloc (Nat.le_refl _) _)).mono ?_; rintro e w1 ⟨rfl, hb⟩
    have HB := Lib.hid (((Below.refl w.heap.size w).alloc (Nat.le_refl _) (.cells #[.int .i64 o.kind, .int .i64 o.block, .int .i64 o.page, .int .i64 o.data] 62)).trans (hb.mono (by simp)))
    clear hb
    go_wp2_with fail
    go_ret
    exact ⟨ret_int HE.out.symm, HB.out⟩
  | true =>
    have h8 := right_len hr
    have hn := H.out.len
    have HR8 := Lib.hid hr
    rw [hr] at HR
    have B0 : Below w.heap.size w (w.alloc (.cells #[.int .i64 o.kind, .int .i64 o.block, .int .i64 o.page, .int .i64 o.data] 62)) := (Below.refl w.heap.size w).alloc (Nat.le_refl _) _
    have R1 := Lib.hid (HR.out _ B0)
    have B0 := Lib.hid B0
    cases hk : kindOk o.kind with
    | false =>
      have HE : Hid (errOf l o = 5) := Lib.hid (by unfold errOf; rw [HR8.out, hk]; rfl)
      rw [hk] at HK
      clear hr hk HW h8 hn
      unfold oval
      go_enter Try.func29, Try.ntmps29
      go_wp2_with fail
      refine (R1.out).mono ?_; rintro e w1 ⟨rfl, hb⟩
      obtain ⟨c0, c1, c2, c3⟩ := box_cells hb
      have HB := Lib.hid (B0.out.trans (hb.mono B0.out.size))
      clear hb
      go_wp2_with fail
      refine (HK.out _).mono ?_; rintro e w2 ⟨rfl, rfl⟩
      go_wp2_with fail
      go_ret
      exact ⟨ret_int HE.out.symm, HB.out⟩
    | true =>
      have HKO := Lib.hid hk
      rw [hk] at HK
      cases hw : within o with
      | false =>
        have HE : Hid (errOf l o = 2) := Lib.hid (by unfold errOf; rw [HR8.out, HKO.out, hw]; rfl)
        rw [hw] at HW
        clear hr hk hw h8 hn
        unfold oval at HW ⊢
        go_enter Try.func29, Try.ntmps29
        go_wp2_with fail
        refine (R1.out).mono ?_; rintro e w1 ⟨rfl, hb⟩
        obtain ⟨c0, c1, c2, c3⟩ := box_cells hb
        have HB := Lib.hid (B0.out.trans (hb.mono B0.out.size))
        clear hb
        go_wp2_with fail
        refine (HK.out _).mono ?_; rintro e w2 ⟨rfl, rfl⟩
        go_wp2_with fail
        refine (HW.out _).mono ?_; rintro e w2 ⟨rfl, hb⟩
        have HB := Lib.hid (HB.out.trans (hb.mono HB.out.size))
        clear hb
        go_wp2_with fail
        go_ret
        exact ⟨ret_int HE.out.symm, HB.out⟩
      | true =>
        have HWO := Lib.hid hw
        rw [hw] at HW
        obtain ⟨i, hi, hi8⟩ : ∃ i : Nat, o.block = (i : Int) ∧ i < 8 := by
          unfold within betw at hw
          simp at hw
          exact ⟨o.block.toNat, by omega, by omega⟩
        obtain ⟨b, hb⟩ : ∃ b, l[i]? = some b := ⟨_, List.getElem?_eq_getElem (by omega)⟩
        have HE : Hid (errOf l o = blkErr b o) := Lib.hid (err_of HR8.out HKO.out HWO.out hi hb)
        have HI := Lib.hid hi
        have HBl := Lib.hid hb
        have HC := Lib.hid (fun x => checkBlock35 b o x HKO.out)
        obtain rfl : n = 8 := by omega
        clear hr hk hw h8 hn hb
        obtain ⟨kd, bl, pg, dt⟩ := o
        simp only at hi
        subst hi
        unfold oval at HC HW ⊢
        unfold bval at HC
        obtain ⟨g, of, rfl, hg, _⟩ := Words.Rd.row H.out (by omega)
        go_enter Try.func29, Try.ntmps29
        go_wp2_with fail
        refine (R1.out).mono ?_; rintro e w1 ⟨rfl, hb⟩
        obtain ⟨c0, c1, c2, c3⟩ := box_cells (o := ⟨kd, i, pg, dt⟩) hb
        have HB := Lib.hid (B0.out.trans (hb.mono B0.out.size))
        have hsz : w.heap.size < w1.heap.size := by have := hb.size; simp at this; omega
        clear hb
        go_wp2_with fail
        refine (HK.out _).mono ?_; rintro e w2 ⟨rfl, rfl⟩
        go_wp2_with fail
        refine (HW.out _).mono ?_; rintro e w2 ⟨rfl, hb⟩
        have HB2 := Lib.hid (HB.out.trans (hb.mono HB.out.size))
        replace c0 := (hb.cell (p := ⟨w.heap.size, 0, none⟩) hsz).trans c0
        replace c1 := (hb.cell (p := ⟨w.heap.size, 1, none⟩) hsz).trans c1
        replace c2 := (hb.cell (p := ⟨w.heap.size, 2, none⟩) hsz).trans c2
        replace c3 := (hb.cell (p := ⟨w.heap.size, 3, none⟩) hsz).trans c3
        obtain ⟨d0, d1, d2, d3, d4, d5⟩ := Fl.cells (Words.Rd.below H.out HB2.out hB) rfl HBl.out
        clear hb
        go_wp2_with fail
        go_region_with (go_at_call 35; refine (HC.out _).mono ?_; rintro e w' ⟨rfl, hb⟩)
        all_goals
          have HB3 := Lib.hid (HB2.out.drew.trans (hb.mono HB2.out.size))
          clear hb
          go_wp2_with fail
          go_ret
          exact ⟨ret_int HE.out.symm, HB3.out⟩
theorem info58 : (Try.prog.info? 58).map (fun i => (i.zero, i.size, i.bytes)) = some (some (.agg #[.int .i64 0, .int .i64 0, .int .i64 0, .int .i64 0, .int .i64 0, .int .i64 0]), 6, 48) := by kernel_rfl
/-- A flash of the call's own. -/
def OwnFl (w : World) (base : Nat) (A : Option Addr) (n c : Nat) (l : List Blk) : Prop := w.ownsRow base 58 6 (.slice A n c) n (fcells l)
def MadeFl (w : World) (l : List Blk) (e : Ending) (w' : World) : Prop :=
  ∃ A c, e = .returned (.slice A l.length c) ∧ OwnFl w' w.heap.size A l.length c l ∧ Below w.heap.size w w'
set_option maxHeartbeats 1000000 in
theorem clone30 (B : Nat) (A : Option Addr) (n c : Nat) (l : List Blk) (w : World) (h : Fl w B A n c l) (hB : B ≤ w.heap.size) (hn : n ≤ 1000) :
    Calls Try.prog 30 #[.slice A n c] w (MadeFl w l) := by
  obtain ⟨i0, hi0, hz0, hz1, hz2⟩ := info_parts info58
  cases A with
  | none =>
    have hc := Words.Rd.none_ h rfl
    have hn0 : n = 0 := by have := Words.Rd.le h; omega
    have hl := h.len
    subst hc hn0
    have hl0 : l = [] := List.eq_nil_of_length_eq_zero hl
    subst hl0
    clear h hl
    have hq := Lib.run_eql_slice_nil (P := Try.prog) w 48 58 none 0 0 0 0 Try.underlying48
    go_enter Try.func30, Try.ntmps30
    go_wp2_with fail
    go_ret
    exact ⟨none, 0, rfl, w.ownsRow_nil _ _ _, Below.refl _ _⟩
  | some a =>
    have H := Lib.hid h
    have HN := Lib.hid h.len
    clear h
    have hq := Lib.run_eql_slice_nil (P := Try.prog) w 48 58 (some a) n c 0 0 Try.underlying48
    have hown1 : (w.alloc (.cells #[] 58)).ownsRow w.heap.size 58 6 (.slice (some ⟨w.heap.size, 0, none⟩) 0 0) 0 [] := w.ownsRow_lit #[] 0 (Nat.le_refl _) (by decide) rfl
    have hb1 : Below w.heap.size w (w.alloc (.cells #[] 58)) := (Below.refl _ _).alloc (Nat.le_refl _) _
    have hz1' : w.heap.size ≤ (w.alloc (.cells #[] 58)).heap.size := hb1.size
    have HR := Lib.hid (Words.Rd.alloc H.out hB (.cells #[] 58))
    go_enter Try.func30, Try.ntmps30
    go_wp2_with (first
      | (at_builtin; refine wpList_append_rd _ rfl (.tmp 5) (.tmp 6) 48 rfl w.heap.size 58 i0 _ 6 48 Try.underlying48 hi0 hz0 hz1 hz2 rfl (by decide) _ 0 [] rfl hown1 B (some a) n c (fcells l) rfl HR.out (fcells_one l) (by simp only [maxLen]; omega) (by omega) hz1' ?_
         intro A2 c2 w2 hown2 hg2
         have hb2 : Below w.heap.size w w2 := below_grown hb1 hown1 hg2 hz1' (Nat.le_refl _)
         simp only [Nat.zero_add, List.nil_append] at hown2))
    go_ret
    have hn' := HN.out
    subst hn'
    exact ⟨A2, c2, rfl, hown2, hb2⟩
theorem OwnFl.fl {w : World} {base : Nat} {A : Option Addr} {n c : Nat} {l : List Blk} (h : OwnFl w base A n c l) : Fl w w.heap.size A n c l := Words.Rd.of_own h
theorem OwnFl.addr {w : World} {base : Nat} {A : Option Addr} {n c : Nat} {l : List Blk} (h : OwnFl w base A n c l) (hn : 0 < n) : ∃ g, A = some ⟨g, 0, none⟩ ∧ base ≤ g ∧ g < w.heap.size := by
  obtain ⟨g, c', hv, h1, h2⟩ := own_form_pos h hn
  injection hv with hv _ _
  exact ⟨g, hv, h1, h2⟩
theorem OwnFl.frozen {w : World} {base g : Nat} {n c : Nat} {l : List Blk} (h : OwnFl w base (some ⟨g, 0, none⟩) n c l) (j : Nat) : w.frozen? ⟨g, j, none⟩ = false := Go.World.ownsRow.frozenAt h j
theorem OwnFl.store {w : World} {base g : Nat} {n c : Nat} {l : List Blk} (h : OwnFl w base (some ⟨g, 0, none⟩) n c l) {i : Nat} {b b' : Blk} (hb : l[i]? = some b) {j : Nat} (hj : j < 6) {x : Int} (hy : b'.nums = b.nums.set j x) :
    OwnFl (w.setCell ⟨g, i * 6 + j, none⟩ (.int .i64 x)) base (some ⟨g, 0, none⟩) n c (l.set i b') := by
  have := (Go.World.ownsRow.stored h (i * 6 + j) (.int .i64 x)).1
  rw [fcells, flat_set (f := bcells) bcells_length hb hj (y := b') (by unfold bcells icells; rw [hy, List.map_set])] at this
  exact this
theorem perform31_read (o : Nop) (b : Blk) (g : Nat) (of : Nat) (w : World) (hk : o.kind = 3) {p : Nat} (hp : o.page = (p : Int)) (hp4 : p < 4)
    (c0 : w.cell? ⟨g, of, none⟩ = some (.int .i64 b.d0)) (c1 : w.cell? ⟨g, of + 1, none⟩ = some (.int .i64 b.d1)) (c2 : w.cell? ⟨g, of + 2, none⟩ = some (.int .i64 b.d2)) (c3 : w.cell? ⟨g, of + 3, none⟩ = some (.int .i64 b.d3)) (hg : g < w.heap.size) :
    Calls Try.prog 31 #[.pointer (some ⟨g, of, none⟩), oval o] w fun e w' => e = .returned (.int .i64 (b.at p)) ∧ Below w.heap.size w w' := by
  obtain ⟨kd, bl, pg, dt⟩ := o
  simp only at hk hp
  subst hk hp
  unfold oval
  have hc : (w.alloc (.cells #[.int .i64 3, .int .i64 bl, .int .i64 (p : Int), .int .i64 dt] 62)).cell? ⟨g, of + p, none⟩ = some (.int .i64 (b.at p)) := by
    rw [World.cell?_alloc_lt _ _ _ hg]
    have : p = 0 ∨ p = 1 ∨ p = 2 ∨ p = 3 := by omega
    rcases this with rfl | rfl | rfl | rfl
    · exact c0
    · exact c1
    · exact c2
    · exact c3
  clear c0 c1 c2 c3
  go_enter Try.func31, Try.ntmps31
  go_wp2_with fail
  go_quiet (fail)
  go_wp2_with fail
  go_ret
  exact ⟨rfl, below_drewN ((Below.refl _ _).alloc (Nat.le_refl _) _) _⟩
end Go.Proofs.Ytfohihdpohjmcaa.Nand
