/-
  What perform and Step return.
-/
import Derived.Test.YtfohihdpohjmcaaNStep
namespace Go.Proofs.Ytfohihdpohjmcaa.Nand
open Go.ChangeShapes Go.WideShapes Go.ChangeAt Go.RowKit Words

def bx (o : Nop) : Obj := .cells #[.int .i64 o.kind, .int .i64 o.block, .int .i64 o.page, .int .i64 o.data] 62
def Stored (w : World) (base g c : Nat) (l : List Blk) (d : Int) (e : Ending) (w' : World) : Prop :=
  e = .returned (.int .i64 d) ∧ OwnFl w' base (some ⟨g, 0, none⟩) 8 c l ∧ Below base w w'
theorem OwnFl.alloc {w : World} {base : Nat} {A : Option Addr} {n c : Nat} {l : List Blk} (h : OwnFl w base A n c l) (o : Obj) : OwnFl (w.alloc o) base A n c l := Go.World.ownsRow.alloc h o
theorem OwnFl.drew {w : World} {base : Nat} {A : Option Addr} {n c : Nat} {l : List Blk} (h : OwnFl w base A n c l) : OwnFl w.drew base A n c l := h
theorem OwnFl.cells {w : World} {base g : Nat} {n c : Nat} {l : List Blk} (h : OwnFl w base (some ⟨g, 0, none⟩) n c l) {i : Nat} {b : Blk} (hb : l[i]? = some b) :
    w.cell? ⟨g, i * 6, none⟩ = some (.int .i64 b.d0) ∧ w.cell? ⟨g, i * 6 + 1, none⟩ = some (.int .i64 b.d1) ∧ w.cell? ⟨g, i * 6 + 2, none⟩ = some (.int .i64 b.d2) ∧ w.cell? ⟨g, i * 6 + 3, none⟩ = some (.int .i64 b.d3) ∧
      w.cell? ⟨g, i * 6 + 4, none⟩ = some (.int .i64 b.done) ∧ w.cell? ⟨g, i * 6 + 5, none⟩ = some (.int .i64 b.wear) := by
  have := Fl.cells h.fl rfl hb
  simpa only [Nat.zero_add] using this
theorem put_nums (b : Blk) {p : Nat} (hp : p < 4) (x : Int) : (b.put p x).nums = b.nums.set p x ∧ (b.put p x).done = b.done := by
  have : p = 0 ∨ p = 1 ∨ p = 2 ∨ p = 3 := by omega
  rcases this with rfl | rfl | rfl | rfl <;> exact ⟨rfl, rfl⟩
theorem page_cell {w : World} {g of : Nat} {b : Blk} {p : Nat} (hp : p < 4)
    (c0 : w.cell? ⟨g, of, none⟩ = some (.int .i64 b.d0)) (c1 : w.cell? ⟨g, of + 1, none⟩ = some (.int .i64 b.d1)) (c2 : w.cell? ⟨g, of + 2, none⟩ = some (.int .i64 b.d2)) (c3 : w.cell? ⟨g, of + 3, none⟩ = some (.int .i64 b.d3)) :
    w.cell? ⟨g, of + p, none⟩ = some (.int .i64 (b.at p)) := by
  have : p = 0 ∨ p = 1 ∨ p = 2 ∨ p = 3 := by omega
  rcases this with rfl | rfl | rfl | rfl
  · exact c0
  · exact c1
  · exact c2
  · exact c3
set_option maxHeartbeats 1000000 in
theorem perform31_program (o : Nop) (b : Blk) (l : List Blk) (base g c i : Nat) (w : World) (hk : o.kind = 1) {p : Nat} (hp : o.page = (p : Int)) (hp4 : p < 4) (h : OwnFl w base (some ⟨g, 0, none⟩) 8 c l) (hi : i < 8) (hb : l[i]? = some b)
    (h0 : 0 ≤ b.done) (h4 : b.done ≤ 4) (hbase : base ≤ g) (hsz : base ≤ w.heap.size) :
    Calls Try.prog 31 #[.pointer (some ⟨g, i * 6, none⟩), oval o] w (Stored w base g c (l.set i (doB b o)) 0) := by
  have HD : Hid (doB b o = { b.put p o.data with done := b.done + 1 }) := Lib.hid (by unfold doB; rw [if_pos hk, hp]; rfl)
  obtain ⟨kd, bl, pg, dt⟩ := o
  simp only at hk hp
  subst hk hp
  have h1 := h.alloc (bx ⟨1, bl, p, dt⟩)
  obtain ⟨c0, c1, c2, c3, _, _⟩ := h1.cells hb
  have cp := page_cell hp4 c0 c1 c2 c3
  have fp := h1.frozen (i * 6 + p)
  have f4 := (h1.store hb (j := p) (by omega) (x := dt) (b' := b.put p dt) (put_nums b hp4 dt).1)
  have g4 := f4.frozen (i * 6 + 4)
  have hb2 : (l.set i (b.put p dt))[i]? = some (b.put p dt) := by rw [List.getElem?_set, if_pos rfl, if_pos (by have := h.fl.len; omega)]
  obtain ⟨_, _, _, _, cd, _⟩ := f4.cells hb2
  rw [(put_nums b hp4 dt).2] at cd
  have f5 := f4.store hb2 (j := 4) (by omega) (x := b.done + 1) (b' := { b.put p dt with done := b.done + 1 }) rfl
  rw [List.set_set] at f5
  have O5 := Lib.hid f5
  have BB : Hid (Below base w (((w.alloc (bx ⟨1, bl, p, dt⟩)).setCell ⟨g, i * 6 + p, none⟩ (.int .i64 dt)).setCell ⟨g, i * 6 + 4, none⟩ (.int .i64 (b.done + 1)))) := Lib.hid ((((Below.refl base w).alloc hsz _).setCell hbase _).setCell hbase _)
  have HB2 := Lib.hid hb2
  clear h h1 c0 c1 c2 c3 f4 f5 hb hb2
  unfold bx at cp fp g4 cd
  unfold oval
  go_enter Try.func31, Try.ntmps31
  go_wp2_with fail
  go_region
  go_wp2_with fail
  go_ret
  refine ⟨rfl, ?_, BB.out.drew⟩
  rw [HD.out]
  exact O5.out.drew
theorem get_set_same {l : List Blk} {i : Nat} {b : Blk} (hb : l[i]? = some b) (b' : Blk) : (l.set i b')[i]? = some b' := by
  rw [List.getElem?_set, if_pos rfl, if_pos (List.getElem?_eq_some_iff.1 hb).1]
theorem OwnFl.erase {w : World} {base g : Nat} {n c : Nat} {l : List Blk} (h : OwnFl w base (some ⟨g, 0, none⟩) n c l) {i : Nat} {b : Blk} (hb : l[i]? = some b) (x : Int) :
    OwnFl ((((((w.setCell ⟨g, i * 6, none⟩ (.int .i64 0)).setCell ⟨g, i * 6 + 1, none⟩ (.int .i64 0)).setCell ⟨g, i * 6 + 2, none⟩ (.int .i64 0)).setCell ⟨g, i * 6 + 3, none⟩ (.int .i64 0)).setCell ⟨g, i * 6 + 4, none⟩ (.int .i64 0)).setCell ⟨g, i * 6 + 5, none⟩ (.int .i64 x))
      base (some ⟨g, 0, none⟩) n c (l.set i (blank x)) := by
  have h0 := h.store hb (j := 0) (by omega) (x := 0) (b' := { b with d0 := 0 }) rfl
  have h1 := h0.store (get_set_same hb _) (j := 1) (by omega) (x := 0) (b' := { b with d0 := 0, d1 := 0 }) rfl
  have h2 := h1.store (get_set_same (get_set_same hb _) _) (j := 2) (by omega) (x := 0) (b' := { b with d0 := 0, d1 := 0, d2 := 0 }) rfl
  rw [List.set_set, List.set_set] at h2
  have h3 := h2.store (get_set_same hb _) (j := 3) (by omega) (x := 0) (b' := { b with d0 := 0, d1 := 0, d2 := 0, d3 := 0 }) rfl
  rw [List.set_set] at h3
  have h4 := h3.store (get_set_same hb _) (j := 4) (by omega) (x := 0) (b' := { b with d0 := 0, d1 := 0, d2 := 0, d3 := 0, done := 0 }) rfl
  rw [List.set_set] at h4
  have h5 := h4.store (get_set_same hb _) (j := 5) (by omega) (x := x) (b' := blank x) rfl
  rw [List.set_set] at h5
  exact h5
set_option maxHeartbeats 1000000 in
theorem perform31_erase (o : Nop) (b : Blk) (l : List Blk) (base g c i : Nat) (w : World) (hk : o.kind = 2) (h : OwnFl w base (some ⟨g, 0, none⟩) 8 c l) (hb : l[i]? = some b)
    (h0 : 0 ≤ b.wear) (h4 : b.wear ≤ 1048576) (hbase : base ≤ g) (hsz : base ≤ w.heap.size) :
    Calls Try.prog 31 #[.pointer (some ⟨g, i * 6, none⟩), oval o] w (Stored w base g c (l.set i (doB b o)) 0) := by
  have HD : Hid (doB b o = blank (b.wear + 1)) := Lib.hid (by unfold doB; rw [if_neg (by omega), if_pos hk])
  obtain ⟨kd, bl, pg, dt⟩ := o
  simp only at hk
  subst hk
  have h1 := h.alloc (bx ⟨2, bl, pg, dt⟩)
  obtain ⟨c0, c1, c2, c3, c4, c5⟩ := h1.cells hb
  have f0 := h1.frozen (i * 6)
  have f1 := h1.frozen (i * 6 + 1)
  have f2 := h1.frozen (i * 6 + 2)
  have f3 := h1.frozen (i * 6 + 3)
  have f4 := h1.frozen (i * 6 + 4)
  have f5 := h1.frozen (i * 6 + 5)
  have O5 := Lib.hid (h1.erase hb (b.wear + 1))
  have BB : Hid (Below base w ((((((((w.alloc (bx ⟨2, bl, pg, dt⟩)).setCell ⟨g, i * 6, none⟩ (.int .i64 0)).setCell ⟨g, i * 6 + 1, none⟩ (.int .i64 0)).setCell ⟨g, i * 6 + 2, none⟩ (.int .i64 0)).setCell ⟨g, i * 6 + 3, none⟩ (.int .i64 0)).setCell ⟨g, i * 6 + 4, none⟩ (.int .i64 0)).setCell ⟨g, i * 6 + 5, none⟩ (.int .i64 (b.wear + 1))))) :=
    Lib.hid (((((((((Below.refl base w).alloc hsz _).setCell hbase _).setCell hbase _).setCell hbase _).setCell hbase _).setCell hbase _).setCell hbase _))
  clear h h1 hb
  unfold bx at *
  unfold oval
  go_enter Try.func31, Try.ntmps31
  go_wp2_with fail
  go_ret
  refine ⟨rfl, ?_, BB.out⟩
  rw [HD.out]
  exact O5.out
theorem page_nat {o : Nop} (hk : o.kind ≠ 2) (hw : within o = true) : ∃ p : Nat, o.page = (p : Int) ∧ p < 4 := by
  unfold within betw at hw
  simp only [Bool.and_eq_true, Bool.or_eq_true, decide_eq_true_eq, beq_iff_eq] at hw
  rcases hw.2 with h | h
  · exact absurd h hk
  · exact ⟨o.page.toNat, by omega, by omega⟩
theorem set_same {l : List Blk} {i : Nat} {b : Blk} (hb : l[i]? = some b) : l.set i b = l := by
  obtain ⟨hlt, rfl⟩ := List.getElem?_eq_some_iff.1 hb
  exact List.set_getElem_self hlt
theorem perform31 (o : Nop) (b : Blk) (l : List Blk) (base g c i : Nat) (w : World) (hk : kindOk o.kind = true) (hw : within o = true) (hok : okB b = true) (h : OwnFl w base (some ⟨g, 0, none⟩) 8 c l) (hi : i < 8) (hb : l[i]? = some b)
    (hbase : base ≤ g) (hsz : base ≤ w.heap.size) :
    Calls Try.prog 31 #[.pointer (some ⟨g, i * 6, none⟩), oval o] w (Stored w base g c (l.set i (doB b o)) (datum b o)) := by
  obtain ⟨h1, h2, h3, h4, _⟩ := okB_iff.1 hok
  rcases kind_cases hk with e | e | e
  · obtain ⟨p, hp, hp4⟩ := page_nat (by omega) hw
    rw [show datum b o = 0 by unfold datum; rw [if_neg (by omega)]]
    exact perform31_program o b l base g c i w e hp hp4 h hi hb h1 h2 hbase hsz
  · rw [show datum b o = 0 by unfold datum; rw [if_neg (by omega)]]
    exact perform31_erase o b l base g c i w e h hb h3 h4 hbase hsz
  · obtain ⟨p, hp, hp4⟩ := page_nat (by omega) hw
    obtain ⟨c0, c1, c2, c3, _, _⟩ := h.cells hb
    obtain ⟨g', hg', _, hgl⟩ := h.addr (by omega)
    injection hg' with hg'
    injection hg' with hg' _ _
    subst hg'
    refine (perform31_read o b g (i * 6) w e hp hp4 c0 c1 c2 c3 hgl).mono fun e' w' ⟨he, hbel⟩ => ⟨?_, ?_, hbel.mono hsz⟩
    · rw [he]
      unfold datum
      rw [if_pos e, hp]
      rfl
    · have hd : doB b o = b := by unfold doB; rw [if_neg (by omega), if_neg (by omega)]
      rw [hd, set_same hb]
      exact own_below h hbel (Nat.le_refl _)
/-- A flash, a number and an error code; nothing that was there has changed. -/
def Made3 (w : World) (l : List Blk) (d k : Int) (e : Ending) (w' : World) : Prop :=
  ∃ A c, e = .returned (.tuple #[.slice A l.length c, .int .i64 d, .int .i64 k]) ∧ OwnFl w' w.heap.size A l.length c l ∧ Below w.heap.size w w'
theorem Made3.get {w w' : World} {l : List Blk} {d k : Int} {n : Nat} {e : Ending} (h : Made3 w l d k e w') (hn : l.length = n) : ∃ A c, e = .returned (.tuple #[.slice A n c, .int .i64 d, .int .i64 k]) ∧ OwnFl w' w.heap.size A n c l ∧ Below w.heap.size w w' := by
  subst hn
  exact h
theorem made3 {w w' : World} {l l' : List Blk} {d d' k k' : Int} {A : Option Addr} {n c base : Nat} (h1 : l' = l) (h2 : d' = d) (h3 : k' = k) (hn : l.length = n) (h : OwnFl w' base A n c l) (hbase : w.heap.size ≤ base) (hb : Below w.heap.size w w') :
    Made3 w l' d' k' (.returned (.tuple #[.slice A n c, .int .i64 d, .int .i64 k])) w' := by
  subst h1 h2 h3 hn
  exact ⟨A, c, rfl, own_base h hbase, hb⟩
set_option maxHeartbeats 1000000 in
theorem step28 (B : Nat) (A : Option Addr) (n c : Nat) (l : List Blk) (o : Nop) (w : World) (h : Fl w B A n c l) (hB : B ≤ w.heap.size) :
    Calls Try.prog 28 #[.slice A n c, oval o] w (Made3 w (nextOf l o) (dataOf l o) (errOf l o)) := by
  have B0 := Lib.hid ((Below.refl w.heap.size w).alloc (Nat.le_refl _) (bx o))
  have HK := Lib.hid (check29 B A n c l o (w.alloc (bx o)) (Words.Rd.below h B0.out hB) (Nat.le_trans hB B0.out.size))
  by_cases he : errOf l o = 0
  · obtain ⟨hr, hk, hw, i, b, hi, hib, hb, hbe⟩ := err_zero he
    have hn : n = 8 := by rw [← h.len]; exact right_len hr
    subst hn
    obtain ⟨hu, hd⟩ := upd_of hib hb
    have HN : Hid (nextOf l o = l.set i (doB b o)) := Lib.hid (by unfold nextOf; rw [if_pos he, hu])
    have HD : Hid (dataOf l o = datum b o) := Lib.hid (by unfold dataOf; rw [if_pos he, hd])
    have HL : Hid (l.length = 8) := Lib.hid h.len
    have HP := Lib.hid (fun base g c x => perform31 o b l base g c i x hk hw (right_get hr hb))
    have H := Lib.hid h
    have HBl := Lib.hid hb
    rw [he] at HK
    have HE := Lib.hid he
    clear h he hr hk hw hb hu hd hbe
    obtain ⟨kd, bl, pg, dt⟩ := o
    simp only at hib
    subst hib
    unfold oval at HK HP ⊢
    unfold bx at HK
    go_enter Try.func28, Try.ntmps28
    go_wp2_with fail
    refine (HK.out).mono ?_; rintro e x1 ⟨rfl, hb1⟩
    have HB1 := Lib.hid (B0.out.trans (hb1.mono B0.out.size))
    obtain ⟨c0, c1, c2, c3⟩ := box_cells (o := ⟨kd, i, pg, dt⟩) hb1
    have HC := Lib.hid (clone30 B A 8 c l x1 (Words.Rd.below H.out HB1.out hB) (Nat.le_trans hB HB1.out.size) (by omega))
    have hsz : w.heap.size < x1.heap.size := by have := hb1.size; simp at this; omega
    clear hb1
    go_wp2_with fail
    refine (HC.out).mono ?_; rintro e x2 hm
    unfold MadeFl at hm
    rw [HL.out] at hm
    obtain ⟨A2, k2, rfl, o2, b2⟩ := hm
    obtain ⟨g, rfl, hg1, hg2⟩ := o2.addr (by omega)
    replace c0 := (b2.cell (p := ⟨w.heap.size, 0, none⟩) hsz).trans c0
    replace c1 := (b2.cell (p := ⟨w.heap.size, 1, none⟩) hsz).trans c1
    replace c2 := (b2.cell (p := ⟨w.heap.size, 2, none⟩) hsz).trans c2
    replace c3 := (b2.cell (p := ⟨w.heap.size, 3, none⟩) hsz).trans c3
    have HB2 := Lib.hid (HB1.out.trans (b2.mono HB1.out.size))
    have O2 := Lib.hid o2
    have HQ := Lib.hid (fun (y : World) (hy : OwnFl y x1.heap.size (some ⟨g, 0, none⟩) 8 k2 l) (hz : x1.heap.size ≤ y.heap.size) => HP.out x1.heap.size g k2 y hy hi HBl.out hg1 hz)
    have hz2 := b2.size
    clear o2 b2
    go_wp2_with fail
    go_region_with (go_at_call 31; refine (HQ.out _ ?_ ?_).mono ?_; exact O2.out; exact hz2; rintro e w' ⟨rfl, o3, b3⟩)
    all_goals
      have HB3 := Lib.hid (HB2.out.drew.trans (b3.mono HB1.out.size))
      have O3 := Lib.hid o3
      clear o3 b3
      go_wp2_with fail
      go_ret3
      exact made3 HN.out HD.out HE.out (by rw [List.length_set, HL.out]) O3.out HB1.out.size HB3.out
  · have hne : (errOf l o != 0) = true := by rw [bne_iff_ne]; exact he
    have HN : Hid (nextOf l o = []) := Lib.hid (by unfold nextOf; rw [if_neg he])
    have HD : Hid (dataOf l o = 0) := Lib.hid (by unfold dataOf; rw [if_neg he])
    rw [HN.out, HD.out]
    clear h he
    generalize errOf l o = r at *
    unfold oval bx at *
    go_enter Try.func28, Try.ntmps28
    go_wp2_with fail
    refine (HK.out).mono ?_; rintro e x1 ⟨rfl, hb1⟩
    have HB1 := Lib.hid (B0.out.trans (hb1.mono B0.out.size))
    clear hb1
    go_wp2_with fail
    go_ret3
    exact made3 rfl rfl rfl rfl (Go.World.ownsRow_nil _ w.heap.size _ _) (Nat.le_refl _) HB1.out
end Go.Proofs.Ytfohihdpohjmcaa.Nand
