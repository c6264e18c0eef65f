/-
  What Make and Sorted return, and the document's own answers to them.
-/
import Derived.Test.YtkkmfeclondlpaaDown
import Derived.Test.YtkkmfeclondlpaaSort
namespace Go.Proofs.Ytkkmfeclondlpaa.Heap
open Go.ChangeShapes Go.WideShapes Go.ChangeAt Go.RowKit Words Go.Sort
set_option linter.unusedVariables false

theorem pred_succ (p : Nat) : ((p + 1 : Nat) : Int) - 1 = (p : Int) := by omega
theorem pred_zero : ((0 : Nat) : Int) - 1 = -1 := by omega
theorem Turned.made {w w1 w2 : World} {g n c : Nat} {l l' : List Wn} (h : OwnHp w1 w.heap.size (some ⟨g, 0, none⟩) n c l) (hb : Below w.heap.size w w1) (t : Turned w1 w.heap.size g n c l' w2) :
    OwnHp w2 w.heap.size (some ⟨g, 0, none⟩) n c l' ∧ Below w.heap.size w w2 := ⟨t.own, below_grown hb h t.grown hb.size (Nat.le_refl _)⟩
set_option maxHeartbeats 2000000 in
theorem make16 (B : Nat) (A : Option Addr) (n c : Nat) (l : List Wn) (w : World) (h : Hp w B A n c l) (hB : B ≤ w.heap.size) (hn : n ≤ 8796093022207) :
    Calls Try.prog 16 #[.slice A n c] w (MadeHp w (made l) n) := by
  have HC := Lib.hid (clone26 B A n c l w h hB hn)
  have HH := Lib.hid (made_half l)
  have hl := h.len
  rw [hl] at HH
  clear h
  have HE : Hid (((n : Int)).tdiv 2 - 1 = ((n / 2 : Nat) : Int) - 1) := Lib.hid (by rw [Int.tdiv_eq_ediv_of_nonneg (by omega)]; omega)
  go_enter Try.func16, Try.ntmps16
  go_wp2_with fail
  refine (HC.out).mono ?_; rintro e w1 ⟨A2, c2, rfl, o1, b1⟩
  have O1 := Lib.hid o1
  have B1 := Lib.hid b1
  clear o1 b1
  go_wp2_with fail
  go_loopw [4] (fun i wr => ∃ (m : Nat) (lk : List Wn), i = .int .i64 ((m : Int) - 1) ∧ m ≤ n ∧ downs lk m = made l ∧ OwnHp wr w.heap.size A2 n c2 lk ∧ Below w.heap.size w wr) (fun i _ => (intOf i + 1).toNat)
  case atStart => exact ⟨n / 2, l, i64_num (by first | exact HE.out | (have := HE.out; omega)), by omega, HH.out.symm, O1.out, B1.out⟩
  case round =>
    obtain ⟨m, lk, rfl, hmn, hinv, ho, hb⟩ := hrel
    have HI := Lib.hid hinv
    have HO := Lib.hid ho
    have HB := Lib.hid hb
    clear hinv ho hb
    cases m with
    | zero =>
      rw [pred_zero]
      go_wp2_with fail
      go_ret
      exact ⟨A2, c2, rfl, by have e := HI.out; rw [← e]; exact HO.out, HB.out⟩
    | succ p =>
      rw [pred_succ]
      obtain ⟨g, rfl, hg1, hg2⟩ := HO.out.addr (by omega)
      have HD := Lib.hid (moveDown30 w.heap.size g n c2 lk p wr HO.out (by omega) (by omega))
      have hp0 : (0 : Int) ≤ (p : Int) := by omega
      go_wp2_with fail
      refine (HD.out).mono ?_; rintro e w2 ⟨rfl, t⟩
      have T := Lib.hid (Turned.made HO.out HB.out t)
      clear t
      go_wp2_with fail
      go_roundw
      case rel => exact ⟨p, down lk p, by go_num, by omega, HI.out, T.out.1, T.out.2⟩
      case measure => simp [intOf]
set_option maxHeartbeats 2000000 in
theorem fmake17 (B : Nat) (A : Option Addr) (n c : Nat) (l : List Wn) (w : World) (h : Hp w B A n c l) (hB : B ≤ w.heap.size) (hn : n ≤ 8796093022207) :
    Calls Try.prog 17 #[.slice A n c] w (MadeHp w (made l) n) := by
  obtain ⟨i0, hi0, hz0, hz1, hz2⟩ := info_parts info24
  have H := Lib.hid h
  have hl := h.len
  have HH : Hid (made l = downs l n) := Lib.hid (by unfold made; rw [hl])
  clear h
  have hown1 : (w.alloc (.cells #[] 24)).ownsRow w.heap.size 24 2 (.slice (some ⟨w.heap.size, 0, none⟩) 0 0) 0 [] := w.ownsRow_lit #[] 0 (Nat.le_refl _) (by decide) rfl
  have hb1 : Below w.heap.size w (w.alloc (.cells #[] 24)) := (Below.refl _ _).alloc (Nat.le_refl _) _
  have hz1' : w.heap.size ≤ (w.alloc (.cells #[] 24)).heap.size := hb1.size
  have HR := Lib.hid (Words.Rd.alloc H.out hB (.cells #[] 24))
  go_enter Try.func17, Try.ntmps17
  go_wp2_with (first
      | (at_builtin; refine wpList_append_rd _ rfl (.tmp 5) (.tmp 6) 22 rfl w.heap.size 24 i0 _ 2 16 Try.underlying22 hi0 hz0 hz1 hz2 rfl (by decide) _ 0 [] rfl hown1 B A n c (hcells l) rfl HR.out (hcells_one l) (by simp only [maxLen]; omega) (by omega) hz1' ?_
         intro A2 c2 w2 hown2 hg2
         have hb2 : Below w.heap.size w w2 := below_grown hb1 hown1 hg2 hz1' (Nat.le_refl _)
         simp only [Nat.zero_add, List.nil_append] at hown2))
  have O2 : Hid (OwnHp w2 w.heap.size A2 n c2 l) := Lib.hid hown2
  have B2 := Lib.hid hb2
  clear hown1 hb1 hz1' HR hown2 hg2 hb2 hi0 hz0 hz1 hz2
  go_loopw [3, 4] (fun s i wr => ∃ (m : Nat) (lk : List Wn) (A2 : Option Addr) (c2 : Nat), i = .int .i64 ((m : Int) - 1) ∧ s = .slice A2 n c2 ∧ m ≤ n ∧ downs lk m = made l ∧ OwnHp wr w.heap.size A2 n c2 lk ∧ Below w.heap.size w wr) (fun _ i _ => (intOf i + 1).toNat)
  case atStart => exact ⟨n, l, A2, c2, rfl, rfl, Nat.le_refl _, HH.out.symm, O2.out, B2.out⟩
  case round =>
    obtain ⟨m, lk, A3, c3, rfl, rfl, hmn, hinv, ho, hb⟩ := hrel
    have HI := Lib.hid hinv
    have HO := Lib.hid ho
    have HB := Lib.hid hb
    clear hinv ho hb
    cases m with
    | zero =>
      rw [pred_zero]
      go_wp2_with fail
      go_ret
      exact ⟨A3, c3, rfl, by have e := HI.out; rw [← e]; exact HO.out, HB.out⟩
    | succ p =>
      rw [pred_succ]
      have HD := Lib.hid (fdown31 _ A3 n c3 lk p wr HO.out.hp (Nat.le_refl _) hn (by omega))
      have hp0 : (0 : Int) ≤ (p : Int) := by omega
      go_wp2_with fail
      refine (HD.out).mono ?_; rintro e w2 ⟨A4, c4, rfl, o4, b4⟩
      have O4 : Hid (OwnHp w2 w.heap.size A4 n c4 (down lk p)) := Lib.hid (own_base o4 HB.out.size)
      have B4 := Lib.hid (HB.out.trans (b4.mono HB.out.size))
      clear o4 b4
      go_wp2_with fail
      go_roundw
      case rel => exact ⟨p, down lk p, A4, c4, by go_num, rfl, by omega, HI.out, O4.out, B4.out⟩
      case measure => simp [intOf]
theorem enter35 : ∀ args w, (callFunc 35 args).run Try.prog w = .ok (.enter 35 args) w := enters_of Try.func35 (by kernel_rfl) rfl
theorem enter36 : ∀ args w, (callFunc 36 args).run Try.prog w = .ok (.enter 36 args) w := enters_of Try.func36 (by kernel_rfl) rfl
/-- A sort of a row of the call's own, empty or not. -/
theorem sort34_any (f : Nat) (cf : Wn → Wn → Int) (hf : Says f cf) (hcf : ltOf cf = less) (ef : ∀ args w, (callFunc f args).run Try.prog w = .ok (.enter f args) w)
    (A : Option Addr) (n c : Nat) (l : List Wn) (w w1 : World) (h : OwnHp w1 w.heap.size A n c l) (hb : Below w.heap.size w w1) (hs : n ≤ 9000000000000) :
    Calls Try.prog 34 #[.slice A n c, .func (.func f) #[] #[]] w1 fun e w' => e = .returned (.tuple #[]) ∧ OwnHp w' w.heap.size A n c (sorted l) ∧ Below w.heap.size w w' := by
  rcases h.2 with ⟨hv, hn⟩ | ⟨g, cap, cur, hv, _⟩
  · injection hv with h1 h2 h3
    subst h1 h3
    subst hn
    have hl : l = [] := List.eq_nil_of_length_eq_zero h.len
    subst hl
    refine (sort34_nil f w1).mono ?_
    rintro e w' ⟨rfl, rfl⟩
    exact ⟨rfl, by rw [show sorted [] = [] by simp [sorted]]; exact h, hb⟩
  · injection hv with h1 h2 h3
    subst h1 h3
    refine (sort34 f cf hf hcf ef w.heap.size g n c l w1 h hs).mono ?_
    rintro e w' ⟨rfl, t⟩
    exact ⟨rfl, (Turned.made h hb t).1, (Turned.made h hb t).2⟩
/-- .. the other way round, empty or not. -/
theorem reverse27_any (A : Option Addr) (n c : Nat) (l : List Wn) (w w1 : World) (h : OwnHp w1 w.heap.size A n c l) (hb : Below w.heap.size w w1) (hs : n ≤ 9000000000000) :
    Calls Try.prog 27 #[.slice A n c] w1 fun e w' => e = .returned (.tuple #[]) ∧ OwnHp w' w.heap.size A n c l.reverse ∧ Below w.heap.size w w' := by
  rcases h.2 with ⟨hv, hn⟩ | ⟨g, cap, cur, hv, _⟩
  · injection hv with h1 h2 h3
    subst h1 h3
    subst hn
    have hl : l = [] := List.eq_nil_of_length_eq_zero h.len
    subst hl
    have hc := AnyQ.slices_Reverse_empty revWn none 0 w1
    refine Calls.mono hc ?_
    rintro e w' ⟨rfl, rfl⟩
    exact ⟨rfl, h, hb⟩
  · injection hv with h1 h2 h3
    subst h1 h3
    refine (reverse27 w.heap.size g n c l w1 h hs).mono ?_
    rintro e w' ⟨rfl, t⟩
    exact ⟨rfl, (Turned.made h hb t).1, (Turned.made h hb t).2⟩
set_option maxHeartbeats 1000000 in
theorem sorted18 (B : Nat) (A : Option Addr) (n c : Nat) (l : List Wn) (w : World) (h : Hp w B A n c l) (hB : B ≤ w.heap.size) (hn : n ≤ 8796093022207) :
    Calls Try.prog 18 #[.slice A n c] w (MadeHp w (sorted l) n) := by
  have HC := Lib.hid (clone26 B A n c l w h hB hn)
  clear h
  go_enter Try.func18, Try.ntmps18
  go_wp2_with fail
  refine (HC.out).mono ?_; rintro e w1 ⟨A2, c2, rfl, o1, b1⟩
  have HS := Lib.hid (sort34_any 35 cf says35 lt_cf enter35 A2 n c2 l w w1 o1 b1 (by omega))
  clear o1 b1
  go_wp2_with fail
  refine (HS.out).mono ?_; rintro e w2 ⟨rfl, o2, b2⟩
  have O2 := Lib.hid o2
  have B2 := Lib.hid b2
  clear o2 b2
  go_wp2_with fail
  go_ret
  exact ⟨A2, c2, rfl, O2.out, B2.out⟩
set_option maxHeartbeats 1000000 in
theorem fsorted19 (B : Nat) (A : Option Addr) (n c : Nat) (l : List Wn) (w : World) (h : Hp w B A n c l) (hB : B ≤ w.heap.size) (hn : n ≤ 8796093022207) :
    Calls Try.prog 19 #[.slice A n c] w (MadeHp w (sorted l) n) := by
  obtain ⟨i0, hi0, hz0, hz1, hz2⟩ := info_parts info24
  have H := Lib.hid h
  clear h
  have hown1 : (w.alloc (.cells #[] 24)).ownsRow w.heap.size 24 2 (.slice (some ⟨w.heap.size, 0, none⟩) 0 0) 0 [] := w.ownsRow_lit #[] 0 (Nat.le_refl _) (by decide) rfl
  have hb1 : Below w.heap.size w (w.alloc (.cells #[] 24)) := (Below.refl _ _).alloc (Nat.le_refl _) _
  have hz1' : w.heap.size ≤ (w.alloc (.cells #[] 24)).heap.size := hb1.size
  have HR := Lib.hid (Words.Rd.alloc H.out hB (.cells #[] 24))
  go_enter Try.func19, Try.ntmps19
  go_wp2_with (first
      | (at_builtin; refine wpList_append_rd _ rfl (.tmp 4) (.tmp 5) 22 rfl w.heap.size 24 i0 _ 2 16 Try.underlying22 hi0 hz0 hz1 hz2 rfl (by decide) _ 0 [] rfl hown1 B A n c (hcells l) rfl HR.out (hcells_one l) (by simp only [maxLen]; omega) (by omega) hz1' ?_
         intro A2 c2 w2 hown2 hg2
         have hb2 : Below w.heap.size w w2 := below_grown hb1 hown1 hg2 hz1' (Nat.le_refl _)
         simp only [Nat.zero_add, List.nil_append] at hown2))
  have HS := Lib.hid (sort34_any 36 cf2 says36 lt_cf2 enter36 A2 n c2 l w w2 hown2 hb2 (by omega))
  clear hown1 hb1 hz1' HR hown2 hg2 hb2 hi0 hz0 hz1 hz2
  refine (HS.out).mono ?_; rintro e w3 ⟨rfl, o2, b2⟩
  have O2 := Lib.hid o2
  have B2 := Lib.hid b2
  clear o2 b2
  go_wp2_with fail
  go_ret
  exact ⟨A2, c2, rfl, O2.out, B2.out⟩
end Go.Proofs.Ytkkmfeclondlpaa.Heap
