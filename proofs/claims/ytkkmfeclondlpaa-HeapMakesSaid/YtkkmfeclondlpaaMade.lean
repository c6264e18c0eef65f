/-
  Copies of a list in a row of the call's own: slices.Clone, and the document's own way down.
-/
import Derived.Test.YtkkmfeclondlpaaMoves
import Derived.StillTailTactics
namespace Go.Proofs.Ytkkmfeclondlpaa.Heap
open Go.ChangeShapes Go.WideShapes Go.ChangeAt Go.RowKit Words Go.Sort
set_option linter.unusedVariables false

/-- A list of the call's own; nothing that was there has changed. -/
def MadeHp (w : World) (l : List Wn) (n : Nat) (e : Ending) (w' : World) : Prop :=
  ∃ A c, e = .returned (.slice A n c) ∧ OwnHp w' w.heap.size A n c l ∧ Below w.heap.size w w'
set_option maxHeartbeats 1000000 in
theorem clone26 (B : Nat) (A : Option Addr) (n c : Nat) (l : List Wn) (w : World) (h : Hp w B A n c l) (hB : B ≤ w.heap.size) (hn : n ≤ 8796093022207) :
    Calls Try.prog 26 #[.slice A n c] w (MadeHp w l n) := by
  obtain ⟨i0, hi0, hz0, hz1, hz2⟩ := info_parts info24
  cases A with
  | none =>
    have hc := Words.Rd.none_ h rfl
    have hn0 : n = 0 := by have := Words.Rd.le h; omega
    have hl := h.len
    subst hc hn0
    have hl0 : l = [] := List.eq_nil_of_length_eq_zero hl
    subst hl0
    clear h hl
    have hq := Lib.run_eql_slice_nil (P := Try.prog) w 22 24 none 0 0 0 0 Try.underlying22
    go_enter Try.func26, Try.ntmps26
    go_wp2_with fail
    go_ret
    exact ⟨none, 0, rfl, w.ownsRow_nil _ _ _, Below.refl _ _⟩
  | some a =>
    have H := Lib.hid h
    clear h
    have hq := Lib.run_eql_slice_nil (P := Try.prog) w 22 24 (some a) n c 0 0 Try.underlying22
    have hown1 : (w.alloc (.cells #[] 24)).ownsRow w.heap.size 24 2 (.slice (some ⟨w.heap.size, 0, none⟩) 0 0) 0 [] := w.ownsRow_lit #[] 0 (Nat.le_refl _) (by decide) rfl
    have hb1 : Below w.heap.size w (w.alloc (.cells #[] 24)) := (Below.refl _ _).alloc (Nat.le_refl _) _
    have hz1' : w.heap.size ≤ (w.alloc (.cells #[] 24)).heap.size := hb1.size
    have HR := Lib.hid (Words.Rd.alloc H.out hB (.cells #[] 24))
    go_enter Try.func26, Try.ntmps26
    go_wp2_with (first
      | (at_builtin; refine wpList_append_rd _ rfl (.tmp 5) (.tmp 6) 22 rfl w.heap.size 24 i0 _ 2 16 Try.underlying22 hi0 hz0 hz1 hz2 rfl (by decide) _ 0 [] rfl hown1 B (some a) n c (hcells l) rfl HR.out (hcells_one l) (by simp only [maxLen]; omega) (by omega) hz1' ?_
         intro A2 c2 w2 hown2 hg2
         have hb2 : Below w.heap.size w w2 := below_grown hb1 hown1 hg2 hz1' (Nat.le_refl _)
         simp only [Nat.zero_add, List.nil_append] at hown2))
    go_ret
    exact ⟨A2, c2, rfl, hown2, hb2⟩
/-- After j of the two children have been looked at. -/
def bst (l : List Wn) (k : Nat) : Nat → Nat
  | 0 => k
  | j + 1 => one l (2 * k + 1 + j) (bst l k j)
theorem bst_two (l : List Wn) (k : Nat) : bst l k 2 = best l k := rfl
theorem one_lt {l : List Wn} {c b : Nat} (hb : b < l.length) : one l c b < l.length := by
  rcases one_cases l c b with e | ⟨e, h⟩ <;> omega
theorem bst_lt {l : List Wn} {k : Nat} (hk : k < l.length) : ∀ j, bst l k j < l.length
  | 0 => hk
  | j + 1 => one_lt (bst_lt hk j)
theorem bst_go {l : List Wn} {k j q b : Nat} (hq : q = 2 * k + 1 + j) (hb : b = bst l k j) (hl : q < l.length) (hz : less (nth l q) (nth l b) = true) : bst l k (j + 1) = q := by
  subst hq hb
  show one l _ _ = _
  unfold one
  rw [if_pos ⟨hl, hz⟩]
theorem bst_no {l : List Wn} {k j q b : Nat} (hq : q = 2 * k + 1 + j) (hb : b = bst l k j) (hz : less (nth l q) (nth l b) = false) : bst l k (j + 1) = b := by
  subst hq hb
  show one l _ _ = _
  unfold one
  rw [if_neg (by rw [hz]; simp)]
theorem bst_end {l : List Wn} {k j q b : Nat} (hq : q = 2 * k + 1 + j) (hb : b = bst l k j) (hl : ¬ q < l.length) : bst l k (j + 1) = b := by
  subst hq hb
  show one l _ _ = _
  unfold one
  rw [if_neg (fun x => hl x.1)]
theorem kids_num' (w : World) (k : Nat) {j : Nat} (hj : j < 2) : (w.alloc (.cells #[.int .i64 (2 * (k : Int) + 1), .int .i64 (2 * (k : Int) + 2)] 3)).cell? ⟨w.heap.size, j, none⟩ = some (.int .i64 (2 * k + 1 + j : Nat)) := by
  rw [cell_of_row _ _ _ _ 3 (0, 0) (heap_alloc_new w _)]
  rcases (show j = 0 ∨ j = 1 by omega) with rfl | rfl
  · show some _ = some _
    rw [i64_num (show 2 * (k : Int) + 1 = ((2 * k + 1 + 0 : Nat) : Int) by omega)]
    rfl
  · show some _ = some _
    rw [i64_num (show 2 * (k : Int) + 2 = ((2 * k + 1 + 1 : Nat) : Int) by omega)]
    rfl
def kidsW (w : World) (k : Nat) : World := w.alloc (.cells #[.int .i64 (2 * (k : Int) + 1), .int .i64 (2 * (k : Int) + 2)] 3)
theorem kidsW_below (w : World) (k : Nat) : Below w.heap.size w (kidsW w k) := (Below.refl _ _).alloc (Nat.le_refl _) _
theorem kidsW_size (w : World) (k : Nat) : (kidsW w k).heap.size = w.heap.size + 1 := by unfold kidsW; simp
set_option maxHeartbeats 2000000 in
theorem fdown31 (B : Nat) (A : Option Addr) (n c : Nat) (l : List Wn) (k0 : Nat) (w : World) (h : Hp w B A n c l) (hB : B ≤ w.heap.size) (hn : n ≤ 8796093022207) (hk0 : k0 ≤ n) :
    Calls Try.prog 31 #[.slice A n c, .int .i64 k0] w (MadeHp w (down l k0) n) := by
  obtain ⟨i0, hi0, hz0, hz1, hz2⟩ := info_parts info24
  have mx := mixedO
  have H := Lib.hid h
  have hl0 := Lib.hid h.len
  clear h
  have hown1 : (w.alloc (.cells #[] 24)).ownsRow w.heap.size 24 2 (.slice (some ⟨w.heap.size, 0, none⟩) 0 0) 0 [] := w.ownsRow_lit #[] 0 (Nat.le_refl _) (by decide) rfl
  have hb1 : Below w.heap.size w (w.alloc (.cells #[] 24)) := (Below.refl _ _).alloc (Nat.le_refl _) _
  have hz1' : w.heap.size ≤ (w.alloc (.cells #[] 24)).heap.size := hb1.size
  have HR := Lib.hid (Words.Rd.alloc H.out hB (.cells #[] 24))
  go_enter Try.func31, Try.ntmps31
  go_wp2_with (first
      | (at_builtin; refine wpList_append_rd _ rfl (.tmp 9) (.tmp 10) 22 rfl w.heap.size 24 i0 _ 2 16 Try.underlying22 hi0 hz0 hz1 hz2 rfl (by decide) _ 0 [] rfl hown1 B A n c (hcells l) rfl HR.out (hcells_one l) (by simp only [maxLen]; omega) (by omega) hz1' ?_
         intro A2 c2 w2 hown2 hg2
         have hb2 : Below w.heap.size w w2 := below_grown hb1 hown1 hg2 hz1' (Nat.le_refl _)
         simp only [Nat.zero_add, List.nil_append] at hown2))
  have O2 : Hid (OwnHp w2 w.heap.size A2 n c2 l) := Lib.hid hown2
  have B2 := Lib.hid hb2
  clear hown1 hb1 hz1' HR hown2 hg2 hb2 hi0 hz0 hz1 hz2
  go_loopw [1] (fun i wr => ∃ (k : Nat) (lk : List Wn), i = .int .i64 k ∧ k ≤ n ∧ down lk k = down l k0 ∧ OwnHp wr w.heap.size A2 n c2 lk ∧ Below w.heap.size w wr) (fun i _ => (n - intOf i).toNat)
  case atStart => exact ⟨k0, l, rfl, hk0, rfl, O2.out, B2.out⟩
  case round =>
    obtain ⟨k, lk, rfl, hkn, hinv, hown, hbel⟩ := hrel
    have HI := Lib.hid hinv
    have HO := Lib.hid hown
    have HB := Lib.hid hbel
    have L := hown.len
    obtain ⟨w1, rfl⟩ : ∃ w1, w1 = wr := ⟨_, rfl⟩
    clear hinv hown hbel
    go_wp2_with fail
    go_loopw [6, 21] (fun b i wr => ∃ j : Nat, i = .int .i64 j ∧ j ≤ 2 ∧ b = .int .i64 (bst lk k j : Nat) ∧ Below (kidsW w1 k).heap.size (kidsW w1 k) wr) (fun _ i _ => (2 - intOf i).toNat)
    case atStart => exact ⟨0, rfl, by omega, rfl, Below.refl _ _⟩
    case round =>
      obtain ⟨j, rfl, hj2, rfl, hbel⟩ := hrel
      have HB2 := Lib.hid hbel
      have hsz := kidsW_size w1 k
      have HB3 := Lib.hid ((kidsW_below w1 k).trans (hbel.mono (by omega)))
      have hsw : w1.heap.size + 1 ≤ wr.heap.size := by rw [← hsz]; exact hbel.size
      have HO2 := Lib.hid (HO.out.below HB3.out (Nat.le_refl _))
      have HB4 := Lib.hid (HB.out.trans (HB3.out.mono HB.out.size))
      clear hbel
      by_cases hj : j < 2
      · have en := (HB2.out.cell (p := ⟨w1.heap.size, j, none⟩) (by show w1.heap.size < _; omega)).trans (kids_num' w1 k hj)
        obtain ⟨q, hq⟩ : ∃ q, q = 2 * k + 1 + j := ⟨_, rfl⟩
        obtain ⟨b, hb⟩ : ∃ b, b = bst lk k j := ⟨_, rfl⟩
        rw [← hq] at en
        rw [← hb]
        by_cases hqn : q < n
        · have hbn : b < n := by rw [hb, ← L]; exact bst_lt (by omega) _
          obtain ⟨g, rfl, _, _⟩ := HO2.out.addr (by omega)
          obtain ⟨c0, c1⟩ := HO2.out.cellsG (nth_get (l := lk) (k := q) (by omega))
          obtain ⟨d0, d1⟩ := HO2.out.cellsG (nth_get (l := lk) (k := b) (by omega))
          have HL := less23 (nth lk q) (nth lk b)
          have HT := Lib.hid (fun hz => bst_go (l := lk) hq hb (by omega) hz)
          have HF := Lib.hid (fun hz => bst_no (l := lk) hq hb hz)
          obtain ⟨x, hx⟩ : ∃ x, x = nth lk q := ⟨_, rfl⟩
          obtain ⟨y, hy⟩ : ∃ y, y = nth lk b := ⟨_, rfl⟩
          rw [← hx] at c0 c1 HL HT HF
          rw [← hy] at d0 d1 HL HT HF
          unfold wval at HL
          clear hx hy hq hb hsz
          cases hz : less x y with
          | true =>
            rw [hz] at HL
            have HL := Lib.hid HL
            have HE := Lib.hid (HT.out hz)
            clear hz
            go_wp2_with fail
            refine wp_region_quiet_grown (by assumption) (by kernel_rfl) ?_
            repeat (go_big_quiet_step (first | (go_at_call 23; exact Calls.grown_of (HL.out _))))
            refine wpQuiet_nil ?_
            intro _ hw2
            obtain ⟨⟨nq, osq⟩, hw3⟩ := hw2
            subst hw3
            have HB5 := Lib.hid (below_grow HB2.out HB2.out.size nq osq)
            clear c0 c1 d0 d1 en
            go_wp2_with fail
            go_roundw
            case rel => exact ⟨j + 1, by go_num, by omega, by rw [HE.out], HB5.out⟩
            case measure => simp [intOf]; omega
          | false =>
            rw [hz] at HL
            have HL := Lib.hid HL
            have HE := Lib.hid (HF.out hz)
            clear hz
            go_wp2_with fail
            refine wp_region_quiet_grown (by assumption) (by kernel_rfl) ?_
            repeat (go_big_quiet_step (first | (go_at_call 23; exact Calls.grown_of (HL.out _))))
            refine wpQuiet_nil ?_
            intro _ hw2
            obtain ⟨⟨nq, osq⟩, hw3⟩ := hw2
            subst hw3
            have HB5 := Lib.hid (below_grow HB2.out HB2.out.size nq osq)
            clear c0 c1 d0 d1 en
            go_wp2_with fail
            go_roundw
            case rel => exact ⟨j + 1, by go_num, by omega, by rw [HE.out], HB5.out⟩
            case measure => simp [intOf]; omega
        · have hd : decide ((q : Int) < (n : Int)) = false := by rw [decide_eq_false_iff_not]; omega
          have HE := Lib.hid (bst_end (l := lk) hq hb (by omega))
          clear hq hb hsz
          go_wp2_with fail
          refine wp_region_quiet_grown (by assumption) (by kernel_rfl) ?_
          repeat (go_big_quiet_step (fail))
          refine wpQuiet_nil ?_
          intro _ hw2
          obtain ⟨⟨nq, osq⟩, hw3⟩ := hw2
          subst hw3
          have HB5 := Lib.hid (below_grow HB2.out HB2.out.size nq osq)
          clear en
          go_wp2_with fail
          go_roundw
          case rel => exact ⟨j + 1, by go_num, by omega, by rw [HE.out], HB5.out⟩
          case measure => simp [intOf]; omega
      · obtain rfl : j = 2 := by omega
        rw [bst_two]
        by_cases he : best lk k = k
        · have ht : ((best lk k : Int) == (k : Int)) = true := by rw [he]; simp
          have HE := Lib.hid (down_stop he)
          generalize best lk k = b at *
          clear hsz
          go_wp2_with fail
          go_ret
          exact ⟨A2, c2, rfl, by have e := HI.out; rw [HE.out] at e; rw [← e]; exact HO2.out, HB4.out⟩
        · have ht : ((best lk k : Int) == (k : Int)) = false := by rw [beq_eq_false_iff_ne]; omega
          have hg := best_gt he
          have HD := Lib.hid (down_go he)
          generalize best lk k = b at *
          have hbn : b < n := by omega
          have hkn2 : k < n := by omega
          have hkb : k < b := by omega
          obtain ⟨g, rfl, hg1, hg2⟩ := HO2.out.addr (by omega)
          have S := OwnHp.swapF HO2.out hkn2 hbn (by omega)
          have TS := Lib.hid (Turned.swap (Turned.refl HO2.out) hkn2 hbn)
          obtain ⟨x, hx⟩ : ∃ x, x = nth lk b := ⟨_, rfl⟩
          obtain ⟨y, hy⟩ : ∃ y, y = nth lk k := ⟨_, rfl⟩
          rw [← hx, ← hy] at S TS
          obtain ⟨s0, s1, s2, s3, s4, s5, s6, s7, s8, s9, s10⟩ := S
          clear hx hy hg he hsz L
          go_wp2_with fail
          go_region
          have HB5 := Lib.hid (below_grown HB4.out HO2.out TS.out.drew.grown (by omega) (Nat.le_refl _))
          clear s0 s1 s2 s3 s4 s5 s6 s7 s8 s9 s10
          go_wp2_with fail
          go_roundw
          case rel => exact ⟨b, swap lk k b, rfl, by omega, by have e := HI.out; rw [HD.out] at e; exact e, TS.out.drew.own, HB5.out⟩
          case measure => simp [intOf]; omega
end Go.Proofs.Ytkkmfeclondlpaa.Heap
