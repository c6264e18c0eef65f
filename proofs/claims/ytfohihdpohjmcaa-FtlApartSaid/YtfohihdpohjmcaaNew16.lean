/-
  A new device; how often its blocks were erased.
-/
import Derived.Test.YtfohihdpohjmcaaPerf17
namespace Go.Proofs.Ytfohihdpohjmcaa.Ftl
open Go.ChangeShapes Go.WideShapes Go.ChangeAt Go.RowKit Words
set_option linter.unusedVariables false

theorem made_fresh : (madeCells (Value.agg #[.int .i64 0, .int .i64 0, .int .i64 0, .int .i64 0, .int .i64 0, .int .i64 0]).cells (8 * 6)).toList = Nand.fcells Nand.fresh := by kernel_rfl
theorem new19 (w : World) : Calls Try.prog 19 #[] w fun e w' => e = .returned (.slice (some ⟨w.heap.size, 0, none⟩) 8 8) ∧ Nand.OwnFl w' w.heap.size (some ⟨w.heap.size, 0, none⟩) 8 8 Nand.fresh ∧ Below w.heap.size w w' := by
  obtain ⟨i0, hi0, hz0, hz1, hz2⟩ := info_parts Nand.info58
  go_enter Try.func19, Try.ntmps19
  go_wp2_with (at_make; refine wpList_make_full _ rfl _ _ 48 rfl w.heap.size 58 i0 _ 6 Try.underlying48 hi0 hz0 hz1 .i64 .i64 _ _ 8 rfl rfl (by omega) (by omega) (by rw [hz2]; omega) (by simp only [maxLen]; omega) (Nat.le_refl _) ?_
               intro w2 hown2 hg2)
  have hb2 : Below w.heap.size w w2 := (Below.refl _ _).grown hg2 (Nat.le_refl _) (fun k hk => by cases hk)
  rw [made_fresh] at hown2
  go_ret
  exact ⟨rfl, hown2, hb2⟩
/-- Behind k rounds. -/
def upN (k : Nat) : List Int := List.replicate k (-1) ++ List.replicate (16 - k) 0
theorem upN_all : upN 16 = List.replicate 16 (-1) := rfl
theorem upN_set {k : Nat} (h : k < 16) : (upN k).set k (-1) = upN (k + 1) := by
  have : k = 0 ∨ k = 1 ∨ k = 2 ∨ k = 3 ∨ k = 4 ∨ k = 5 ∨ k = 6 ∨ k = 7 ∨ k = 8 ∨ k = 9 ∨ k = 10 ∨ k = 11 ∨ k = 12 ∨ k = 13 ∨ k = 14 ∨ k = 15 := by omega
  rcases this with rfl | rfl | rfl | rfl | rfl | rfl | rfl | rfl | rfl | rfl | rfl | rfl | rfl | rfl | rfl | rfl <;> rfl
theorem upN_get {k : Nat} (h : k < 16) : (upN k)[k]? = some 0 := by
  have : k = 0 ∨ k = 1 ∨ k = 2 ∨ k = 3 ∨ k = 4 ∨ k = 5 ∨ k = 6 ∨ k = 7 ∨ k = 8 ∨ k = 9 ∨ k = 10 ∨ k = 11 ∨ k = 12 ∨ k = 13 ∨ k = 14 ∨ k = 15 := by omega
  rcases this with rfl | rfl | rfl | rfl | rfl | rfl | rfl | rfl | rfl | rfl | rfl | rfl | rfl | rfl | rfl | rfl <;> rfl
/-- What the filling keeps. -/
structure NI (w : World) (g k : Nat) (W : World) : Prop where
  bel : Below w.heap.size w W
  dev : RDev W w.heap.size g w.heap.size 8 Nand.fresh (upN k) 0
theorem NI.put {w W : World} {g k : Nat} (h : NI w g k W) (hk : k < 16) : NI w g (k + 1) (W.setCell ⟨g, 1 + k, none⟩ (.int .i64 (-1))) := by
  refine ⟨h.bel.setCell h.dev.bg _, ?_⟩
  have := h.dev.setAt hk (-1)
  rw [upN_set hk] at this
  exact this
set_option maxHeartbeats 2000000 in
theorem newDevice16 (w : World) : Calls Try.prog 16 #[] w fun e w' => ∃ g, e = .returned (.pointer (some ⟨g, 0, none⟩)) ∧ w.heap.size ≤ g ∧ Dev w.heap.size g sto0 w' 0 0 ∧ Below w.heap.size w w' := by
  have HN := Lib.hid (new19 w)
  go_enter Try.func16, Try.ntmps16
  go_wp2_with fail
  refine (HN.out).mono ?_; rintro e w1 ⟨rfl, o1, b1⟩
  have O1 := Lib.hid o1
  have B1 := Lib.hid b1
  have hs1 := b1.size
  have hlt : w.heap.size < w1.heap.size := by
    obtain ⟨g, hg, _, h2⟩ := o1.addr (by omega)
    injection hg with hg
    injection hg with hg _ _
    omega
  clear o1 b1
  go_wp2_with fail
  have I0 : Hid (NI w w1.heap.size 0 (w1.alloc (.cells (dcells w.heap.size 8 (upN 0) 0).toArray 52))) := Lib.hid
    ⟨B1.out.trans ((Below.refl _ _).alloc hs1 _), Whole.new w1 52 _, own_below O1.out ((Below.refl _ _).alloc (Nat.le_refl _) _) (Nat.le_refl _), by omega, hs1, rfl⟩
  go_loopw [6] (fun i wr => ∃ (k : Nat), i = .int .i64 k ∧ k ≤ 16 ∧ NI w w1.heap.size k wr) (fun i _ => (16 - intOf i).toNat)
  case atStart => exact ⟨0, rfl, by omega, I0.out⟩
  case round =>
    obtain ⟨k, rfl, hk, hinv⟩ := hrel
    have I := Lib.hid hinv
    clear hinv I0
    by_cases hlt : k < 16
    · have c0 := I.out.dev.at_ (upN_get hlt)
      have f0 := I.out.dev.fro (1 + k)
      have HP := Lib.hid (I.out.put hlt)
      go_wp2_with fail
      go_roundw
      case rel => exact ⟨k + 1, by go_num, by omega, HP.out⟩
      case measure => simp [intOf]; omega
    · obtain rfl : k = 16 := by omega
      go_wp2_with fail
      go_ret
      exact ⟨_, rfl, hs1, ⟨_, _, _, ring_new, by omega, _, _, by have := I.out.dev; rw [upN_all] at this; exact this⟩, I.out.bel⟩
/-! ### rows of the call's own, known whole -/
theorem DV.setRow {w : World} {base g b : Nat} {t : TypeId} {l : List Nand.Blk} {pl : List Int} {h : Int} {cs : Array Value} (d : DV w base g l pl h) (hw : Whole w b t cs) (h52 : t ≠ 52) (h58 : t ≠ 58) (n : Nat) (u : Value) : DV (w.setCell ⟨b, n, none⟩ u) base g l pl h := by
  obtain ⟨r, c, d⟩ := d
  have h1 : g ≠ b := whole_type d.tab hw (fun e => h52 e.symm)
  have h2 : r ≠ b := own_type d.row hw (by omega) (fun e => h58 e.symm)
  refine ⟨r, c, whole_other d.tab (fun e => h1 e.symm) _, own_heap d.row fun k hk => ?_, d.ne, d.bg, d.len⟩
  have : k = r := by simpa [Value.ownBlock] using hk.symm
  subst this
  exact heap_setCell_other w ⟨b, n, none⟩ k u h2
theorem Dev.setRow {base g T E b : Nat} {t : TypeId} {s : Sto} {w : World} {cs : Array Value} (d : Dev base g s w T E) (hw : Whole w b t cs) (h52 : t ≠ 52) (h58 : t ≠ 58) (n : Nat) (u : Value) : Dev base g s (w.setCell ⟨b, n, none⟩ u) T E := by
  obtain ⟨l, pl, q, d⟩ := d
  exact ⟨l, pl, q, d.ring, d.hi, d.dv.setRow hw h52 h58 n u⟩
theorem made_ints (n : Nat) : madeCells #[Value.int .i64 0] n = (icells (List.replicate n 0)).toArray := by
  apply Array.ext
  · rw [size_madeCells, List.size_toArray, icells_length, List.length_replicate]
  · intro i h1 h2
    simp [madeCells, icells, Nat.mod_one]
theorem made_fans (n : Nat) : madeCells #[Value.int .i64 0, Value.int .i64 0] (n * 2) = (acells (List.replicate n ⟨0, 0⟩)).toArray := by
  apply Array.ext
  · rw [size_madeCells, List.size_toArray, acells_length, List.length_replicate]
  · intro i h1 h2
    have hm : (acells (List.replicate n ⟨0, 0⟩))[i]'(by simpa using h2) = Value.int .i64 0 := by
      have := List.getElem_mem (l := acells (List.replicate n ⟨0, 0⟩)) (by simpa using h2)
      obtain ⟨a, ha, hv⟩ := List.mem_flatMap.1 this
      have := (List.mem_replicate.1 ha).2
      subst this
      simp [fcells] at hv
      exact hv
    have h3 : i % 2 = 0 ∨ i % 2 = 1 := by omega
    have hm2 : (acells (List.replicate n ⟨0, 0⟩)).toArray[i] = Value.int .i64 0 := hm
    rw [hm2]
    rcases h3 with h3 | h3 <;> simp [madeCells, h3]
/-! ### erase counts -/
def cnt (E k : Nat) : List Int := (wears E).take k ++ List.replicate (8 - k) 0
theorem wears_length (E : Nat) : (wears E).length = 8 := rfl
theorem wears_get {E i : Nat} (h : i < 8) : (wears E)[i]? = some ((wearOf E i : Nat) : Int) := by
  unfold wears
  rw [List.getElem?_map, List.getElem?_range h]; rfl
theorem cnt_zero (E : Nat) : cnt E 0 = List.replicate 8 0 := rfl
theorem cnt_all (E : Nat) : cnt E 8 = wears E := by unfold cnt; rw [List.take_of_length_le (by rw [wears_length]; exact Nat.le_refl _)]; simp
theorem cnt_get {E k : Nat} (h : k < 8) : (cnt E k)[k]? = some 0 := by
  have hl : ((wears E).take k).length = k := by rw [List.length_take, wears_length]; omega
  unfold cnt
  rw [List.getElem?_append_right (by omega), hl, Nat.sub_self, List.getElem?_replicate, if_pos (by omega)]
theorem cnt_set {E k : Nat} (h : k < 8) : (cnt E k).set k ((wearOf E k : Nat) : Int) = cnt E (k + 1) := by
  have hl : ((wears E).take k).length = k := by rw [List.length_take, wears_length]; omega
  unfold cnt
  rw [List.set_append_right _ _ (by omega), hl, Nat.sub_self, List.take_add_one, wears_get h, List.append_assoc]
  congr 1
  rw [show 8 - k = (8 - (k + 1)) + 1 by omega, List.replicate_succ, List.set_cons_zero]; rfl
structure EI (base g r c E : Nat) (l : List Nand.Blk) (pl : List Int) (h : Int) (w : World) (x k : Nat) (W : World) : Prop where
  bel : Below w.heap.size w W
  dev : RDev W base g r c l pl h
  row : WI W x 3 (cnt E k)
theorem RDev.setRow {w : World} {base g r c b : Nat} {t : TypeId} {l : List Nand.Blk} {pl : List Int} {h : Int} {cs : Array Value} (d : RDev w base g r c l pl h) (hw : Whole w b t cs) (h52 : t ≠ 52) (h58 : t ≠ 58) (n : Nat) (u : Value) : RDev (w.setCell ⟨b, n, none⟩ u) base g r c l pl h := by
  have h1 : g ≠ b := whole_type d.tab hw (fun e => h52 e.symm)
  have h2 : r ≠ b := own_type d.row hw (by omega) (fun e => h58 e.symm)
  refine ⟨whole_other d.tab (fun e => h1 e.symm) _, own_heap d.row fun k hk => ?_, d.ne, d.bg, d.len⟩
  have : k = r := by simpa [Value.ownBlock] using hk.symm
  subst this
  exact heap_setCell_other w ⟨b, n, none⟩ k u h2
section
variable {base g r c E x k : Nat} {l : List Nand.Blk} {pl : List Int} {h : Int} {w W : World}
theorem EI.box (e : EI base g r c E l pl h w x k W) (o : Obj) : EI base g r c E l pl h w x k (W.alloc o) :=
  ⟨e.bel.alloc e.bel.size o, e.dev.alloc o, WI.alloc e.row o⟩
theorem EI.put (e : EI base g r c E l pl h w x k W) (hx : w.heap.size ≤ x) (hk : k < 8) : EI base g r c E l pl h w x (k + 1) (W.setCell ⟨x, k, none⟩ (.int .i64 ((wearOf E k : Nat) : Int))) :=
  ⟨e.bel.setCell hx _, e.dev.setRow e.row (by decide) (by decide) _ _, (e.row.set_ k _).as (cnt_set hk).symm⟩
end
theorem WI.ints {w : World} {g : Nat} {t : TypeId} {l : List Int} {n : Nat} (h : WI w g t l) (hn : l.length = n) (hm : n ≤ maxLen) : Ints w w.heap.size (some ⟨g, 0, none⟩) n n l :=
  ⟨by rw [icells_length, hn, Nat.mul_one], Nat.le_refl _, hm, (fun h => by cases h), fun _ => ⟨g, 0, rfl, WI.lt h, fun j u hu => by
    rw [Nat.zero_add, Whole.cell h j, List.getElem?_toArray, hu]⟩⟩
set_option maxHeartbeats 4000000 in
theorem erasures18 (base g T E : Nat) (s : Sto) (w : World) (d : Dev base g s w T E) :
    Calls Try.prog 18 #[.pointer (some ⟨g, 0, none⟩)] w fun e w' => ∃ A c, e = .returned (.slice A 8 c) ∧ Ints w' w'.heap.size A 8 c (wears E) ∧ Below w.heap.size w w' := by
  obtain ⟨i3, hi3, hz0, hz1, hz2⟩ := info_parts info3
  have hmk : (Instr.makeSlice 24 (.int .i64 8) (.int .i64 8)).run Try.prog w = .ok (.slice (some ⟨w.heap.size, 0, none⟩) 8 8) (w.alloc (.cells (madeCells #[.int .i64 0] 8) 3)) := by
    have h := run_make (P := Try.prog) w 24 3 i3 _ Try.underlying24 hi3 hz0 .i64 .i64 8 8 (by omega) (Int.le_refl _) (by rw [hz2]; omega) (by omega)
    simpa [hz1, Value.cells] using h
  rw [made_ints] at hmk
  obtain ⟨l, pl, q, d⟩ := d
  obtain ⟨r, c, dr⟩ := d.dv
  have q0 := dr.flash
  have I0 : Hid (EI base g r c E l pl ((T % 32 : Nat) : Int) w w.heap.size 0 (w.alloc (.cells (icells (List.replicate 8 0)).toArray 3))) := Lib.hid
    ⟨(Below.refl _ _).alloc (Nat.le_refl _) _, dr.alloc _, WI.new w 3 _⟩
  have q1 := (dr.alloc (.cells (icells (List.replicate 8 0)).toArray 3)).flash
  have R := Lib.hid d.ring
  clear d dr hz0 hz1 hz2 hi3
  generalize T % 32 = h at *
  generalize (icells (List.replicate 8 0)).toArray = z8 at *
  go_enter Try.func18, Try.ntmps18
  go_wp2_with fail
  clear q0 q1
  go_loopw [17] (fun i wr => ∃ (k : Nat), i = .int .i64 k ∧ k ≤ 8 ∧ EI base g r c E l pl h w w.heap.size k wr) (fun i _ => (8 - intOf i).toNat)
  case atStart => exact ⟨0, rfl, by omega, I0.out⟩
  case round =>
    obtain ⟨k, rfl, hk, hinv⟩ := hrel
    have I := Lib.hid hinv
    clear hinv I0 hmk
    by_cases hlt : k < 8
    · obtain ⟨b, hb⟩ := R.out.get hlt
      obtain ⟨c0, c1, c2, c3, c4, c5⟩ := I.out.dev.row.cells hb
      have hw := (R.out.blk k b hb).2.1
      rw [hw] at c5
      have J := I.out.box (.cells #[.int .i64 b.d0, .int .i64 b.d1, .int .i64 b.d2, .int .i64 b.d3, .int .i64 b.done, .int .i64 ((wearOf E k : Nat) : Int)] 58)
      have a0 := J.row.cell (cnt_get hlt)
      have a1 := J.row.frozen k
      have JP := Lib.hid (J.put (Nat.le_refl _) hlt)
      clear hw hb J
      generalize wearOf E k = wk at *
      go_wp2_with fail
      go_roundw
      case rel => exact ⟨k + 1, by go_num, by omega, JP.out⟩
      case measure => simp [intOf]; omega
    · obtain rfl : k = 8 := by omega
      have HI := Lib.hid (WI.ints (I.out.row.as (cnt_all E).symm) (wears_length E) (by unfold maxLen; omega))
      go_wp2_with fail
      go_ret
      exact ⟨_, _, rfl, HI.out, I.out.bel⟩
end Go.Proofs.Ytfohihdpohjmcaa.Ftl
