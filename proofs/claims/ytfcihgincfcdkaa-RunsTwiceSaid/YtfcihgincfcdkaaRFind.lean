/-
  Find, and a list that is returned if it is valid.
-/
import Derived.Test.YtfcihgincfcdkaaRTest
import Derived.Test.YtfcihgincfcdkaaRRange
namespace Go.Proofs.Ytfcihgincfcdkaa.Rns
open Go.ChangeShapes Go.WideShapes Go.ChangeAt Go.RowKit Words Go.Sort
set_option linter.unusedVariables false

def fv (l : List Rn) (x : Int) : Int := if rt l = true then (if ma l x = -1 then 0 else ma l x) else 0
def fe (l : List Rn) (x : Int) : Int := if rt l = true then (if ma l x = -1 then 3 else 0) else 1
theorem find_bad {l : List Rn} (x : Int) (h : rt l = false) : fv l x = 0 ∧ fe l x = 1 := by unfold fv fe; rw [h]; simp
theorem find_none {l : List Rn} {x : Int} (h : rt l = true) (hm : ma l x = -1) : fv l x = 0 ∧ fe l x = 3 := by unfold fv fe; rw [if_pos h, if_pos h, if_pos hm, if_pos hm]; exact ⟨rfl, rfl⟩
theorem find_is {l : List Rn} {x : Int} (h : rt l = true) (hm : ma l x ≠ -1) : fv l x = ma l x ∧ fe l x = 0 := by unfold fv fe; rw [if_pos h, if_pos h, if_neg hm, if_neg hm]; exact ⟨rfl, rfl⟩
set_option maxHeartbeats 4000000 in
theorem find10 (B : Nat) (A : Option Addr) (n c : Nat) (l : List Rn) (x : Int) (w : World) (h : Rns w B A n c l) (hB : B ≤ w.heap.size) :
    Calls Try.prog 10 #[.slice A n c, .int .i64 x] w fun e w' => e = .returned (.tuple #[.int .i64 (fv l x), .int .i64 (fe l x)]) ∧ Below w.heap.size w w' := by
  have HN := h.small
  have HL := Lib.hid h.len
  have H := Lib.hid h
  have HR := Lib.hid (right11 B A n c l w h hB)
  have b0 : Below w.heap.size w w := Below.refl _ _
  have B0 := Lib.hid b0
  clear h b0
  cases hr : rt l with
  | false =>
    rw [hr] at HR
    have HF := Lib.hid (find_bad x hr)
    clear hr
    go_enter Try.func10, Try.ntmps10
    go_wp2_with fail
    refine (HR.out).mono ?_; rintro e w1 ⟨rfl, b1⟩
    have B1 := Lib.hid b1
    clear b1
    go_wp2_with fail
    go_ret2
    exact ⟨by rw [HF.out.1, HF.out.2]; rfl, B1.out⟩
  | true =>
    rw [hr] at HR
    have RT := Lib.hid hr
    have HO := Lib.hid (rt_all hr)
    clear hr
    go_enter Try.func10, Try.ntmps10
    go_wp2_with fail
    refine (HR.out).mono ?_; rintro e w1 ⟨rfl, b1⟩
    have B1 := Lib.hid b1
    clear b1
    go_wp2_with fail
    go_loopw [13] (fun i wr => ∃ k : Nat, i = .int .i64 k ∧ k ≤ n ∧ Below w.heap.size w wr ∧ ∀ p ∈ l.take k, inR p x = false) (fun i _ => (n - intOf i).toNat)
    case atStart => exact ⟨0, rfl, by omega, B1.out, fun p hp => by simp at hp⟩
    case round =>
      obtain ⟨k, rfl, hk, hbel, hno⟩ := hrel
      have BW := Lib.hid hbel
      have NO := Lib.hid hno
      clear hbel hno
      by_cases hlt : k < n
      · obtain ⟨g, o, rfl, _, _⟩ := Words.Rd.row H.out (by omega)
        obtain ⟨⟨ra, rd, rm⟩, hr⟩ : ∃ r, l[k]? = some r := ⟨_, List.getElem?_eq_getElem (by rw [HL.out]; exact hlt)⟩
        obtain ⟨c0, c1, c2⟩ := Rns.cells (Words.Rd.below H.out BW.out hB) rfl hr
        obtain ⟨o1, o2, o3, o4, o5, o6⟩ := okR_yes.1 (HO.out _ (List.mem_of_getElem? hr))
        simp only at o1 o2 o3 o4 o5 o6
        have HK := Lib.hid hr
        clear hr
        have hw1 : IntKind.i64.wrap (ra + rm) = ra + rm := by rw [IntKind.wrap_i64]; omega
        have HE := Lib.hid (fun w => end19 ⟨ra, rd, rm⟩ w hw1)
        obtain ⟨wb, hwb⟩ : ∃ wb, wr.alloc (.cells #[.int .i64 ra, .int .i64 rd, .int .i64 rm] 34) = wb := ⟨_, rfl⟩
        have hg : Whole wb wr.heap.size 34 #[.int .i64 ra, .int .i64 rd, .int .i64 rm] := by
          rw [← hwb]
          exact Whole.new wr 34 #[.int .i64 ra, .int .i64 rd, .int .i64 rm]
        have BB : Hid (Below w.heap.size w wb) := Lib.hid (by rw [← hwb]; exact BW.out.alloc BW.out.size _)
        have HG := Lib.hid hg
        have HWB := Lib.hid hwb
        unfold rval at HE
        simp only at HE
        clear hg hwb hw1
        cases hi : inR ⟨ra, rd, rm⟩ x with
        | true =>
          have h1 := inR_yes.1 hi
          have h2 : ra ≤ x := h1.1
          have h3 : x < ra + rm := h1.2
          have hm := ma_at HK.out NO.out hi
          have HM : Hid (fv l x = rd + x - ra ∧ fe l x = 0) := Lib.hid (by
            simp only at hm
            have := find_is RT.out (show ma l x ≠ -1 by omega)
            exact ⟨by omega, this.2⟩)
          have hw2 : IntKind.i64.wrap (rd + x) = rd + x := by rw [IntKind.wrap_i64]; omega
          have hw3 : IntKind.i64.wrap (rd + x - ra) = rd + x - ra := by rw [IntKind.wrap_i64]; omega
          clear hi h1 hm
          go_wp2_with fail
          rw [HWB.out]
          have g0 := Whole.cell HG.out 0
          have g1 := Whole.cell HG.out 1
          have g2 := Whole.cell HG.out 2
          simp at g0 g1 g2
          go_wp2_with fail
          refine (HE.out _).mono ?_; rintro e w2 ⟨rfl, L2⟩
          have f0 := Whole.cell (whole_below2 HG.out L2.below) 0
          have f1 := Whole.cell (whole_below2 HG.out L2.below) 1
          simp at f0 f1
          have B2 := Lib.hid (BB.out.trans (L2.below.mono BB.out.size))
          clear L2
          go_wp2_with fail
          go_ret2
          exact ⟨by rw [HM.out.1, HM.out.2]; rfl, B2.out⟩
        | false =>
          have NX := Lib.hid (none_next HK.out NO.out hi)
          have h1 := inR_no.1 hi
          have h2 : ¬ (ra ≤ x ∧ x < ra + rm) := h1
          clear hi h1
          by_cases h4 : ra ≤ x
          · have h5 : ra + rm ≤ x := by omega
            clear h2
            go_wp2_with fail
            rw [HWB.out]
            have g0 := Whole.cell HG.out 0
            have g1 := Whole.cell HG.out 1
            have g2 := Whole.cell HG.out 2
            simp at g0 g1 g2
            go_wp2_with fail
            refine (HE.out _).mono ?_; rintro e w2 ⟨rfl, L2⟩
            have B2 := Lib.hid (BB.out.trans (L2.below.mono BB.out.size))
            clear L2
            go_wp2_with fail
            go_roundw
            case rel => exact ⟨k + 1, by go_num, by omega, B2.out, NX.out⟩
            case measure => simp [intOf]; omega
          · clear h2
            go_wp2_with fail
            rw [HWB.out]
            have g0 := Whole.cell HG.out 0
            have g1 := Whole.cell HG.out 1
            have g2 := Whole.cell HG.out 2
            simp at g0 g1 g2
            go_wp2_with fail
            go_roundw
            case rel => exact ⟨k + 1, by go_num, by omega, BB.out, NX.out⟩
            case measure => simp [intOf]; omega
      · obtain rfl : k = n := by omega
        have HM : Hid (fv l x = 0 ∧ fe l x = 3) := Lib.hid (find_none RT.out (Fo.miss (by have := NO.out; rwa [List.take_of_length_le (by rw [HL.out]; exact Nat.le_refl _)] at this)))
        go_wp2_with fail
        go_ret2
        exact ⟨by rw [HM.out.1, HM.out.2]; rfl, BW.out⟩
theorem only22_yes (B : Nat) (A : Option Addr) (n c : Nat) (l : List Rn) (w : World) (h : Rns w B A n c l) (hB : B ≤ w.heap.size) (hr : rt l = true) :
    Calls Try.prog 22 #[.slice A n c] w fun e w' => e = .returned (.tuple #[.slice A n c, .int .i64 0]) ∧ Below w.heap.size w w' := by
  have HR := Lib.hid (right11 B A n c l w h hB)
  rw [hr] at HR
  clear h hr
  go_enter Try.func22, Try.ntmps22
  go_wp2_with fail
  refine (HR.out).mono ?_; rintro e w1 ⟨rfl, b1⟩
  have B1 := Lib.hid b1
  clear b1
  go_wp2_with fail
  go_ret2
  exact ⟨rfl, B1.out⟩
theorem only22_no (B : Nat) (A : Option Addr) (n c : Nat) (l : List Rn) (w : World) (h : Rns w B A n c l) (hB : B ≤ w.heap.size) (hr : rt l = false) :
    Calls Try.prog 22 #[.slice A n c] w fun e w' => e = .returned (.tuple #[.slice none 0 0, .int .i64 4]) ∧ Below w.heap.size w w' := by
  have HR := Lib.hid (right11 B A n c l w h hB)
  rw [hr] at HR
  clear h hr
  go_enter Try.func22, Try.ntmps22
  go_wp2_with fail
  refine (HR.out).mono ?_; rintro e w1 ⟨rfl, b1⟩
  have B1 := Lib.hid b1
  clear b1
  go_wp2_with fail
  go_ret2
  exact ⟨rfl, B1.out⟩
end Go.Proofs.Ytfcihgincfcdkaa.Rns
