/-
  What Right and the document's own test return.
-/
import Derived.Test.YtodnjeahjalinaaWalks
namespace Go.Proofs.Ytodnjeahjalinaa.Vic
open Go.ChangeShapes Go.WideShapes Go.ChangeAt Go.RowKit Words Go.Sort
open Go.Proofs.Ytodnjeahjalinaa.Stab (Laid below_grow mixedO)
set_option linter.unusedVariables false

theorem all_next {l : List Fil} {k : Nat} {p : Fil → Bool} (hk : k < l.length) (h : (l.take k).all p = true) (h2 : p (nth l k) = true) : (l.take (k + 1)).all p = true := by
  rw [take_succ_nth hk, List.all_append, h]
  simp [h2]
theorem all_not {l : List Fil} {k : Nat} {p : Fil → Bool} (hk : k < l.length) (h2 : p (nth l k) = false) : l.all p = false := by
  rw [Bool.eq_false_iff]
  intro h
  rw [List.all_eq_true] at h
  have := h _ (nth_mem hk)
  rw [h2] at this
  cases this
theorem right_no {l : List Fil} {k : Nat} (hk : k < l.length) (h2 : okB (nth l k) = false) : right l = false := by
  unfold right
  rw [all_not hk h2]
  simp
theorem right_upto {l : List Fil} (hn : l.length ≤ 4096) (h : (l.take l.length).all okB = true) : right l = true := by
  rw [List.take_of_length_le (Nat.le_refl _)] at h
  unfold right
  rw [h, decide_eq_true hn]
  rfl
theorem right_long {l : List Fil} (hn : ¬ l.length ≤ 4096) : right l = false := by
  unfold right
  rw [decide_eq_false hn]
  rfl
def fbox (x : Fil) : Obj := .cells #[.int .i64 x.need, .int .i64 x.fill, .int .i64 x.wear] 28
set_option maxHeartbeats 1000000 in
theorem right11 (B : Nat) (A : Option Addr) (n c : Nat) (l : List Fil) (w : World) (h : Fl w B A n c l) (hB : B ≤ w.heap.size) :
    Calls Try.prog 11 #[.slice A n c] w fun e w' => e = .returned (.bool (right l)) ∧ Below w.heap.size w w' := by
  have H := Lib.hid h
  have L := Lib.hid h.len
  have hm := Words.Rd.small h
  clear h
  by_cases hn : n ≤ 4096
  · have hni : ¬ (n : Int) > 4096 := by omega
    have HN := Lib.hid hn
    clear hn
    go_enter Try.func11, Try.ntmps11
    go_wp2_with fail
    go_loopw [10] (fun i wr => ∃ k : Nat, i = .int .i64 k ∧ k ≤ n ∧ (l.take k).all okB = true ∧ Below w.heap.size w wr) (fun i _ => (n - intOf i).toNat)
    case atStart => exact ⟨0, rfl, by omega, rfl, Below.refl _ _⟩
    case round =>
      obtain ⟨k, rfl, hkn, hinv, hbel⟩ := hrel
      have HI := Lib.hid hinv
      have HB := Lib.hid hbel
      clear hinv hbel
      by_cases hlt : k < n
      · obtain ⟨g, o, rfl, _, _⟩ := Words.Rd.row H.out (by omega)
        obtain ⟨c0, c1, c2⟩ := Fl.cells (Words.Rd.below H.out HB.out hB) rfl (nth_get (l := l) (k := k) (by rw [L.out]; exact hlt))
        have HL := isBlock27 (nth l k)
        have HT := Lib.hid (fun hz => all_next (l := l) (p := okB) (k := k) (by rw [L.out]; exact hlt) HI.out hz)
        have HF := Lib.hid (fun hz => right_no (l := l) (k := k) (by rw [L.out]; exact hlt) hz)
        obtain ⟨x, hx⟩ : ∃ x, x = nth l k := ⟨_, rfl⟩
        rw [← hx] at c0 c1 c2 HL HT HF
        clear hx
        unfold fval at HL
        have HB2 := Lib.hid (HB.out.alloc HB.out.size (fbox x))
        cases hz : okB x with
        | true =>
          rw [hz] at HL
          have HL := Lib.hid HL
          have HE := Lib.hid (HT.out hz)
          clear hz
          go_wp2_with fail
          refine (HL.out _).mono ?_; rintro e w1 ⟨rfl, hw⟩
          have HB3 := Lib.hid (HB2.out.trans (hw.below.mono HB2.out.size))
          clear hw c0 c1 c2
          go_wp2_with fail
          go_roundw
          case rel => exact ⟨k + 1, by go_num, by omega, HE.out, HB3.out⟩
          case measure => simp [intOf]; omega
        | false =>
          rw [hz] at HL
          have HL := Lib.hid HL
          have HE := Lib.hid (HF.out hz)
          clear hz
          go_wp2_with fail
          refine (HL.out _).mono ?_; rintro e w1 ⟨rfl, hw⟩
          have HB3 := Lib.hid (HB2.out.trans (hw.below.mono HB2.out.size))
          clear hw c0 c1 c2
          go_wp2_with fail
          go_ret
          exact ⟨ret_bool HE.out.symm, HB3.out⟩
      · obtain rfl : k = n := by omega
        go_wp2_with fail
        go_ret
        exact ⟨ret_bool (right_upto (by rw [L.out]; exact HN.out) (by rw [L.out]; exact HI.out)).symm, HB.out⟩
  · have hni : (n : Int) > 4096 := by omega
    have HE := Lib.hid (right_long (l := l) (by rw [L.out]; exact hn))
    clear hn
    go_enter Try.func11, Try.ntmps11
    go_wp2_with fail
    go_ret
    exact ⟨ret_bool HE.out.symm, Below.refl _ _⟩
/-- One step of the document's own test. -/
def rstep (l : List Fil) (k : Nat) : Bool := decide (l.length ≤ 4096) && (l.take k).all okB
theorem rstep_next {l : List Fil} {k : Nat} (hk : k < l.length) : rstep l (k + 1) = (rstep l k && okB (nth l k)) := by
  unfold rstep
  rw [take_succ_nth hk, List.all_append]
  simp [Bool.and_assoc]
theorem rstep_all {l : List Fil} {k : Nat} (hk : k = l.length) : rstep l k = right l := by
  subst hk
  unfold rstep right
  rw [List.take_of_length_le (Nat.le_refl _)]
set_option maxHeartbeats 4000000 in
theorem gright12 (B : Nat) (A : Option Addr) (n c : Nat) (l : List Fil) (w : World) (h : Fl w B A n c l) (hB : B ≤ w.heap.size) :
    Calls Try.prog 12 #[.slice A n c] w fun e w' => e = .returned (.bool (right l)) ∧ Below w.heap.size w w' := by
  have H := Lib.hid h
  have L := Lib.hid h.len
  have hm := Words.Rd.small h
  clear h
  have HS : Hid (rstep l 0 = decide ((n : Int) ≤ 4096)) := Lib.hid (by
    unfold rstep
    rw [L.out, List.take_zero, List.all_nil, Bool.and_true, Bool.eq_iff_iff, decide_eq_true_iff, decide_eq_true_iff]
    omega)
  go_enter Try.func12, Try.ntmps12
  go_wp2_with fail
  go_loopw [3, 11] (fun b i wr => ∃ k : Nat, i = .int .i64 k ∧ k ≤ n ∧ b = .bool (rstep l k) ∧ Below w.heap.size w wr) (fun _ i _ => (n - intOf i).toNat)
  case atStart => exact ⟨0, rfl, by omega, by rw [HS.out], Below.refl _ _⟩
  case round =>
    obtain ⟨k, rfl, hkn, rfl, hbel⟩ := hrel
    have HB := Lib.hid hbel
    clear hbel
    by_cases hlt : k < n
    · obtain ⟨g, o, rfl, _, _⟩ := Words.Rd.row H.out (by omega)
      obtain ⟨c0, c1, c2⟩ := Fl.cells (Words.Rd.below H.out HB.out hB) rfl (nth_get (l := l) (k := k) (by rw [L.out]; exact hlt))
      have HN := Lib.hid (rstep_next (l := l) (k := k) (by rw [L.out]; exact hlt))
      obtain ⟨x, hx⟩ : ∃ x, x = nth l k := ⟨_, rfl⟩
      rw [← hx] at c0 c1 c2 HN
      clear hx
      have HB2 := Lib.hid (HB.out.alloc HB.out.size (fbox x))
      obtain ⟨a, b, c⟩ := x
      generalize rstep l k = r at *
      generalize hq : rstep l (k + 1) = q at *
      have HQ := Lib.hid hq
      clear hq
      cases hr : r with
      | false =>
        subst hr
        have HE : Hid (q = false) := Lib.hid (by rw [HN.out]; simp [okB, Bool.false_and])
        go_wp2_with fail
        go_roundw
        case rel => exact ⟨k + 1, by go_num, by omega, by rw [HQ.out, HE.out], HB2.out⟩
        case measure => simp [intOf]; omega
      | true =>
        subst hr
        cases h0 : decide (0 ≤ a) with
        | false =>
          have HE : Hid (q = false) := Lib.hid (by rw [HN.out]; simp [okB, h0])
          go_wp2_with fail
          go_roundw
          case rel => exact ⟨k + 1, by go_num, by omega, by rw [HQ.out, HE.out], HB2.out⟩
          case measure => simp [intOf]; omega
        | true =>
          cases h1 : decide (a ≤ b) with
          | false =>
            have HE : Hid (q = false) := Lib.hid (by rw [HN.out]; simp [okB, h0, h1])
            go_wp2_with fail
            go_roundw
            case rel => exact ⟨k + 1, by go_num, by omega, by rw [HQ.out, HE.out], HB2.out⟩
            case measure => simp [intOf]; omega
          | true =>
            cases h2 : decide (b ≤ 4) with
            | false =>
              have HE : Hid (q = false) := Lib.hid (by rw [HN.out]; simp [okB, h0, h1, h2])
              go_wp2_with fail
              go_roundw
              case rel => exact ⟨k + 1, by go_num, by omega, by rw [HQ.out, HE.out], HB2.out⟩
              case measure => simp [intOf]; omega
            | true =>
              cases h3 : decide (0 ≤ c) with
              | false =>
                have HE : Hid (q = false) := Lib.hid (by rw [HN.out]; simp [okB, h0, h1, h2, h3])
                go_wp2_with fail
                go_roundw
                case rel => exact ⟨k + 1, by go_num, by omega, by rw [HQ.out, HE.out], HB2.out⟩
                case measure => simp [intOf]; omega
              | true =>
                cases h4 : decide (c ≤ 1048576) with
                | false =>
                  have HE : Hid (q = false) := Lib.hid (by rw [HN.out]; simp [okB, h0, h1, h2, h3, h4])
                  go_wp2_with fail
                  go_roundw
                  case rel => exact ⟨k + 1, by go_num, by omega, by rw [HQ.out, HE.out], HB2.out⟩
                  case measure => simp [intOf]; omega
                | true =>
                  have HE : Hid (q = true) := Lib.hid (by rw [HN.out]; simp [okB, h0, h1, h2, h3, h4])
                  go_wp2_with fail
                  go_roundw
                  case rel => exact ⟨k + 1, by go_num, by omega, by rw [HQ.out, HE.out], HB2.out⟩
                  case measure => simp [intOf]; omega
    · obtain rfl : k = n := by omega
      go_wp2_with fail
      go_ret
      exact ⟨ret_bool (rstep_all L.out.symm), HB.out⟩
end Go.Proofs.Ytodnjeahjalinaa.Vic
