/-
  The lists that Cut and Put leave: the plain mathematics; and Cut itself.
-/
import Derived.Test.YtfcihgincfcdkaaRFind
import Derived.Test.YtfcihgincfcdkaaRParts
import Derived.Test.YtfcihgincfcdkaaRAdd
namespace Go.Proofs.Ytfcihgincfcdkaa.Rns
open Go.ChangeShapes Go.WideShapes Go.ChangeAt Go.RowKit Words Go.Sort
set_option linter.unusedVariables false

def cutL (l : List Rn) (a m : Int) : List Rn := bfr a l ++ afr (a + m) l
def ce (l : List Rn) (a m : Int) : Int := if rt l = false then 1 else if okR ⟨a, 0, m⟩ = false then 2 else if rt (cutL l a m) = true then 0 else 4
def cl (l : List Rn) (a m : Int) : List Rn := if ce l a m = 0 then cutL l a m else []
def putL (l : List Rn) (r : Rn) : List Rn := (afr (r.a + r.m) l).foldl jst (jst (bfr r.a l) r)
def pe (l : List Rn) (r : Rn) : Int := if rt l = false then 1 else if okR r = false then 1 else if rt (putL l r) = true then 0 else 4
def pl (l : List Rn) (r : Rn) : List Rn := if pe l r = 0 then putL l r else []
theorem ce_form {l : List Rn} (a m : Int) (h : rt l = false) : ce l a m = 1 ∧ cl l a m = [] := by unfold cl ce; rw [if_pos h]; simp
theorem ce_range {l : List Rn} {a m : Int} (h : rt l = true) (h2 : okR ⟨a, 0, m⟩ = false) : ce l a m = 2 ∧ cl l a m = [] := by unfold cl ce; rw [if_neg (by rw [h]; simp), if_pos h2]; simp
theorem ce_full {l : List Rn} {a m : Int} (h : rt l = true) (h2 : okR ⟨a, 0, m⟩ = true) (h3 : rt (cutL l a m) = false) : ce l a m = 4 ∧ cl l a m = [] := by unfold cl ce; rw [if_neg (by rw [h]; simp), if_neg (by rw [h2]; simp), if_neg (by rw [h3]; simp)]; simp
theorem ce_ok {l : List Rn} {a m : Int} (h : rt l = true) (h2 : okR ⟨a, 0, m⟩ = true) (h3 : rt (cutL l a m) = true) : ce l a m = 0 ∧ cl l a m = cutL l a m := by unfold cl ce; rw [if_neg (by rw [h]; simp), if_neg (by rw [h2]; simp), if_pos h3]; simp
theorem pe_form {l : List Rn} (r : Rn) (h : rt l = false) : pe l r = 1 ∧ pl l r = [] := by unfold pl pe; rw [if_pos h]; simp
theorem pe_run {l : List Rn} {r : Rn} (h : rt l = true) (h2 : okR r = false) : pe l r = 1 ∧ pl l r = [] := by unfold pl pe; rw [if_neg (by rw [h]; simp), if_pos h2]; simp
theorem pe_full {l : List Rn} {r : Rn} (h : rt l = true) (h2 : okR r = true) (h3 : rt (putL l r) = false) : pe l r = 4 ∧ pl l r = [] := by unfold pl pe; rw [if_neg (by rw [h]; simp), if_neg (by rw [h2]; simp), if_neg (by rw [h3]; simp)]; simp
theorem pe_ok {l : List Rn} {r : Rn} (h : rt l = true) (h2 : okR r = true) (h3 : rt (putL l r) = true) : pe l r = 0 ∧ pl l r = putL l r := by unfold pl pe; rw [if_neg (by rw [h]; simp), if_neg (by rw [h2]; simp), if_pos h3]; simp
theorem jp_take {l : List Rn} {r : Rn} : ∀ {rs s : List Rn}, JP l r s rs → ∀ k, JP l r ((rs.take k).foldl jst s) (rs.drop k)
  | rs, s, h, 0 => by simpa using h
  | [], s, h, k + 1 => by simpa using h
  | x :: rs, s, h, k + 1 => by
    show JP l r ((rs.take k).foldl jst (jst s x)) (rs.drop k)
    exact jp_take h.step k
theorem fold_len : ∀ (rs s : List Rn), (rs.foldl jst s).length ≤ s.length + rs.length
  | [], s => Nat.le_refl _
  | x :: rs, s => by
    have h1 := fold_len rs (jst s x)
    have h2 := jst_length s x
    show (rs.foldl jst (jst s x)).length ≤ _
    rw [List.length_cons]; omega
theorem fold_next {rs s : List Rn} {k : Nat} {x : Rn} (h : rs[k]? = some x) : (rs.take (k + 1)).foldl jst s = jst ((rs.take k).foldl jst s) x := by
  rw [take_next h, List.foldl_append]; rfl
theorem put_jp {l : List Rn} {r : Rn} (h : rt l = true) (hr : okR r = true) : JP l r (jst (bfr r.a l) r) (afr (r.a + r.m) l) := (put_start (rt_ch h) (rt_all h) hr).step
theorem put_upd {l : List Rn} {r : Rn} (h : rt l = true) (hr : okR r = true) : Upd l r true (putL l r) := by
  have := jp_take (put_jp h hr) (afr (r.a + r.m) l).length
  rw [List.take_length, List.drop_length] at this
  exact this.done
theorem cut_is {l : List Rn} {a m : Int} (h : rt l = true) (hr : okR ⟨a, 0, m⟩ = true) : Upd l ⟨a, 0, m⟩ false (cutL l a m) := by
  obtain ⟨o1, o2, o3, o4, o5, o6⟩ := okR_yes.1 hr
  exact cut_upd (rt_ch h) o1 o3
set_option maxHeartbeats 4000000 in
theorem cut14 (B : Nat) (A : Option Addr) (n c : Nat) (l : List Rn) (a m : Int) (w : World) (h : Rns w B A n c l) (hB : B ≤ w.heap.size) :
    Calls Try.prog 14 #[.slice A n c, .int .i64 a, .int .i64 m] w fun e w' => ∃ A' c', e = .returned (.tuple #[.slice A' (cl l a m).length c', .int .i64 (ce l a m)]) ∧ OwnRn w' w.heap.size A' (cl l a m).length c' (cl l a m) ∧ Below w.heap.size w w' := by
  have HL := Lib.hid h.len
  have H := Lib.hid h
  have HR := Lib.hid (right11 B A n c l w h hB)
  have HNIL : Hid (∀ x : World, OwnRn x w.heap.size none 0 0 []) := Lib.hid fun x => Go.World.ownsRow_nil x _ 34 3
  clear h
  cases hr : rt l with
  | false =>
    rw [hr] at HR
    have HF := Lib.hid (ce_form a m hr)
    clear hr
    rw [HF.out.1, HF.out.2]
    go_enter Try.func14, Try.ntmps14
    go_wp2_with fail
    refine (HR.out).mono ?_; rintro e w1 ⟨rfl, b1⟩
    have B1 := Lib.hid b1
    clear b1
    go_wp2_with fail
    go_ret2
    exact ⟨none, 0, rfl, HNIL.out _, B1.out⟩
  | true =>
    rw [hr] at HR
    have RT := Lib.hid hr
    have HO := Lib.hid (rt_all hr)
    have HN : n ≤ 1099511627777 := by have := rt_few hr; have := HL.out; omega
    have HLIM := Lib.hid (limits20 ⟨a, 0, m⟩)
    unfold rval at HLIM
    simp only at HLIM
    clear hr
    cases ho : okR ⟨a, 0, m⟩ with
    | false =>
      rw [ho] at HLIM
      have HF := Lib.hid (ce_range RT.out ho)
      clear ho
      rw [HF.out.1, HF.out.2]
      go_enter Try.func14, Try.ntmps14
      go_wp2_with fail
      refine (HR.out).mono ?_; rintro e w1 ⟨rfl, b1⟩
      have B1 := Lib.hid b1
      clear b1
      go_wp2_with fail
      refine (HLIM.out _).mono ?_; rintro e w2 ⟨rfl, L2⟩
      have B2 := Lib.hid (B1.out.trans (L2.below.mono B1.out.size))
      clear L2
      go_wp2_with fail
      go_ret2
      exact ⟨none, 0, rfl, HNIL.out _, B2.out⟩
    | true =>
      rw [ho] at HLIM
      obtain ⟨o1, o2, o3, o4, o5, o6⟩ := okR_yes.1 ho
      simp only at o1 o2 o3 o4 o5 o6
      have OK := Lib.hid ho
      have hwm : IntKind.i64.wrap (a + m) = a + m := by rw [IntKind.wrap_i64]; omega
      obtain ⟨i0, hi, hz0, hz1, hz2⟩ := info_parts info34
      have hi0 := Lib.hid hi
      have hz0 := Lib.hid hz0
      have hz1 := Lib.hid hz1
      have hz2 := Lib.hid hz2
      have lb := bfr_length a l
      have la := afr_length (a + m) l
      rw [HL.out] at lb la
      clear ho hi o2 o5
      go_enter Try.func14, Try.ntmps14
      go_wp2_with fail
      refine (HR.out).mono ?_; rintro e w1 ⟨rfl, b1⟩
      have B1 := Lib.hid b1
      clear b1
      go_wp2_with fail
      refine (HLIM.out _).mono ?_; rintro e w2 ⟨rfl, L2⟩
      have B2 := Lib.hid (B1.out.trans (L2.below.mono B1.out.size))
      clear L2
      have HBF := Lib.hid (before23 B A n c l a w2 (Words.Rd.below H.out B2.out hB) (Nat.le_trans hB B2.out.size) HO.out HN ⟨by omega, by omega⟩)
      go_wp2_with fail
      refine (HBF.out).mono ?_; rintro e w3 ⟨A3, c3, rfl, P3⟩
      have B3 := Lib.hid (B2.out.trans (P3.bel.mono B2.out.size))
      have O3 := Lib.hid (P3.row.more B2.out.size)
      have HAF := Lib.hid (after24 B A n c l (a + m) w3 (Words.Rd.below H.out B3.out hB) (Nat.le_trans hB B3.out.size) HO.out HN ⟨by omega, by omega⟩)
      clear P3
      obtain ⟨pb, hpb⟩ : ∃ pb, pb = (bfr a l).length := ⟨_, rfl⟩
      have HPB := Lib.hid hpb
      rw [← hpb] at lb O3 ⊢
      clear hpb
      go_wp2_with fail
      refine (HAF.out).mono ?_; rintro e w4 ⟨A4, c4, rfl, P4⟩
      have B4 := Lib.hid (B3.out.trans (P4.bel.mono B3.out.size))
      have O4 := Lib.hid (O3.out.below P4.bel (Nat.le_refl _))
      have R4 := Lib.hid P4.row.rns
      clear P4
      obtain ⟨pa, hpa⟩ : ∃ pa, pa = (afr (a + m) l).length := ⟨_, rfl⟩
      have HPA := Lib.hid hpa
      rw [← hpa] at la R4 ⊢
      clear hpa
      have hi1 : pb + pa ≤ maxLen := by unfold maxLen; omega
      have hi2 : (pb + pa) * 24 ≤ 140737488355328 := by omega
      go_wp2_with (at_builtin; refine wpList_append_rd _ rfl (.tmp 18) (.tmp 23) 22 rfl w.heap.size 34 i0 _ 3 24 Try.underlying22 hi0.out hz0.out hz1.out hz2.out rfl (by decide) _ pb (lcells (bfr a l)) rfl O4.out _ _ pa c4 (lcells (afr (a + m) l)) rfl R4.out (lcells_one _) hi1 hi2 B4.out.size ?_
                   intro A6 c6 w6 hown6 hg6)
      have O6 : Hid (OwnRn w6 w.heap.size A6 (pb + pa) c6 (cutL l a m)) := Lib.hid (by unfold OwnRn cutL; rw [lcells_append]; exact hown6)
      have B6 := Lib.hid (below_grown B4.out O4.out hg6 B4.out.size (Nat.le_refl _))
      clear hown6 hg6
      cases h6 : rt (cutL l a m) with
      | false =>
        have HF := Lib.hid (ce_full RT.out OK.out h6)
        have HY := Lib.hid (only22_no w6.heap.size A6 (pb + pa) c6 _ w6 O6.out.rns (Nat.le_refl _) h6)
        clear h6
        go_wp2_with fail
        refine (HY.out).mono ?_; rintro e w7 ⟨rfl, b7⟩
        have B7 := Lib.hid (B6.out.trans (b7.mono B6.out.size))
        clear b7
        go_wp2_with fail
        go_ret2
        rw [HF.out.1, HF.out.2]
        exact ⟨none, 0, rfl, HNIL.out _, B7.out⟩
      | true =>
        have HF := Lib.hid (ce_ok RT.out OK.out h6)
        have HY := Lib.hid (only22_yes w6.heap.size A6 (pb + pa) c6 _ w6 O6.out.rns (Nat.le_refl _) h6)
        clear h6
        go_wp2_with fail
        refine (HY.out).mono ?_; rintro e w7 ⟨rfl, b7⟩
        have B7 := Lib.hid (B6.out.trans (b7.mono B6.out.size))
        have O7 := Lib.hid (O6.out.below b7 (Nat.le_refl _))
        clear b7
        have hlen : (cutL l a m).length = pb + pa := O6.out.len
        have HLEN := Lib.hid hlen
        clear hlen
        go_wp2_with fail
        go_ret2
        rw [HF.out.1, HF.out.2, HLEN.out]
        exact ⟨A6, c6, rfl, O7.out, B7.out⟩
end Go.Proofs.Ytfcihgincfcdkaa.Rns
