/-
  CellWrites holds for every input of bulk at most 1048576: Blank, May, Write and Force return what C1 says.
-/
import Derived.Test.YtaombamfglljaaaRows
import Derived.Test.YtaombamfglljaaaFrame
import Derived.Test.YtaombamfglljaaaRefs2
import Derived.WalkKit
import Derived.ProofKit
import Derived.OpenShut
import Derived.ShutString
import Derived.ChangeOld
import Derived.Below
import Derived.SizedLaws
import Derived.RegionTactic
import Derived.Deep.RegionWith
import Derived.Deep.CutBlock
import Derived.ChangeAlike
import Derived.JoinedCond
import Derived.Deep.CondSized
namespace Go.Proofs.Ytaombamfglljaaa.cellWrites
open Go.ChangeShapes Go.WideShapes Go.ChangeAt Go.RowKit Words Go.Proofs.Ytaombamfglljaaa.Cell
open Go.ChangeMaps (open_string shut_string)
set_option linter.unusedVariables false

theorem own : ownKnob Try.prog.godebug = none := by kernel_rfl
theorem laidOut : laidOutB Try.prog = true := by kernel_rfl

set_option maxHeartbeats 6000000 in
/-- The walk: the Go text returns true and writes nothing that was there. -/
theorem walk (a0 : Int) (a1 : Option Addr) (len1 cap1 : Nat) (z1 : List UInt8) (a2 : Option Addr) (len2 cap2 : Nat) (z2 : List UInt8) (w : World) (w0 : (Lit.int .i64 a0).wf = true) (w1 : Txt w w.heap.size a1 len1 cap1 z1) (w2 : Txt w w.heap.size a2 len2 cap2 z2) (r1 : cap1 ≤ 1048576) (r2 : cap2 ≤ 1048576) :
    Calls Try.prog 3 #[.int .i64 a0, .slice a1 len1 cap1, .slice a2 len2 cap2] w fun e w' => e = .returned (.bool true) ∧ Below w.heap.size w w' := by
  have q1 : len1 ≤ 1048576 := by have := Rd.le w1; omega
  have q2 : len2 ≤ 1048576 := by have := Rd.le w2; omega
  have TA := Lib.hid w1
  have TB := Lib.hid w2
  have LB := Lib.hid w2.len
  have HW := Lib.hid (fun x (b : Below w.heap.size w x) => writeAny _ _ _ _ _ _ _ _ _ _ x (Rd.below TA.out b (Nat.le_refl _)) (Rd.below TB.out b (Nat.le_refl _)) b.size (by omega))
  have HF := Lib.hid (fun x (b : Below w.heap.size w x) => forceAny _ _ _ _ _ _ _ _ _ _ x (Rd.below TA.out b (Nat.le_refl _)) (Rd.below TB.out b (Nat.le_refl _)) b.size b.size (by omega))
  have HCF := Lib.hid (fun x (b : Below w.heap.size w x) => cforce _ _ _ _ _ _ _ _ _ _ x (Rd.below TA.out b (Nat.le_refl _)) (Rd.below TB.out b (Nat.le_refl _)) b.size b.size q1 q2)
  have HM := Lib.hid (fun x (b : Below w.heap.size w x) => mayAny _ _ _ _ _ _ _ _ _ _ x (Rd.below TA.out b (Nat.le_refl _)) (Rd.below TB.out b (Nat.le_refl _)))
  have HCM := Lib.hid (fun x (b : Below w.heap.size w x) => cmay _ _ _ _ _ _ _ _ _ _ x (Rd.below TA.out b (Nat.le_refl _)) (Rd.below TB.out b (Nat.le_refl _)) b.size b.size q1 q2)
  have hall : tornR z1 z2 (List.replicate (8 * len2) true) = writeR z1 z2 := by
    unfold tornR writeR
    by_cases h : chk z1 z2 = 0
    · rw [if_pos h, if_pos h, ← LB.out, torn_all (may_iff.1 ((chk_iff _ _).1 h)).1]
    · rw [if_neg h, if_neg h]
  obtain ⟨X, k, hr⟩ : ∃ X k, writeR z1 z2 = (X, k) := ⟨_, _, rfl⟩
  obtain ⟨Y, k', hr'⟩ : ∃ X k, forceR z1 z2 = (X, k) := ⟨_, _, rfl⟩
  rw [hr] at hall
  have HALL := Lib.hid hall
  simp only [hr] at HW
  simp only [hr'] at HF HCF
  obtain ⟨m, hm⟩ : ∃ m, X.length = m := ⟨_, rfl⟩
  obtain ⟨m', hm'⟩ : ∃ m, Y.length = m := ⟨_, rfl⟩
  have LX := Lib.hid hm
  have LY := Lib.hid hm'
  clear w1 w2 r1 r2 hall hr hr' hm hm'
  generalize may z1 z2 = M at *
  by_cases hin : 0 ≤ a0 ∧ a0 ≤ 4096
  · obtain ⟨n, rfl⟩ := Int.eq_ofNat_of_zero_le hin.1
    have hn : n ≤ 4096 := by omega
    clear hin
    have HBl := Lib.hid (blankAny n w hn)
    go_enter Try.func3, Try.ntmps3
    go_wp2_with fail
    refine (HBl.out).mono ?_; rintro e x1 he; obtain ⟨A1, c1, rfl, t1, b1⟩ := TextErr.get (n := n) he List.length_replicate
    have T1 := Lib.hid t1
    have B1 := Lib.hid b1
    have s1 := run_string x1.drew 22 9 5 Try.underlying22 Try.underlying5 Try.underlying9 (Rd.drew t1)
    have s2 := run_string (x1.alloc (.cells #[.int .u8 255] 5)).drew 22 9 5 Try.underlying22 Try.underlying5 Try.underlying9 (Rd.drew (Rd.alloc t1 (Nat.le_refl _) (.cells #[.int .u8 255] 5)))
    clear t1 b1 he
    have hc0 : ∀ A c y, y.ownsRow (x1.alloc (.cells #[.int .u8 255] 5)).heap.size 5 1 (.slice A n c) n (List.replicate n (Value.int .u8 255)) → Txt y y.heap.size A n c (List.replicate n 255) := fun A c y h => by
      have e : List.replicate n (Value.int .u8 255) = bcells (List.replicate n 255) := by unfold bcells; rw [List.map_replicate]; rfl
      rw [e] at h
      exact Rd.of_own h
    have HC0 := Lib.hid hc0
    have T1a : Hid (Txt (x1.alloc (.cells #[.int .u8 255] 5)).drew x1.heap.size A1 n c1 (List.replicate n 255)) := Lib.hid (Rd.drew (Rd.alloc T1.out (Nat.le_refl _) (.cells #[.int .u8 255] 5)))
    have sb : ((str (List.replicate n (255 : UInt8))).toList != (str (List.replicate n (255 : UInt8))).toList) = false := bne_self_eq_false _
    have HR : Hid (Rd (x1.alloc (.cells #[.int .u8 255] 5)).drew (x1.heap.size + 1) 1 (some ⟨x1.heap.size, 0, none⟩) 1 1 [.int .u8 255]) := Lib.hid (Rd.drew (Rd.new x1 5 #[.int .u8 255] (0, 0) [.int .u8 255] 1 rfl rfl (by decide)))
    have BA : Hid (Below w.heap.size w (x1.alloc (.cells #[.int .u8 255] 5)).drew) := Lib.hid (B1.out.alloc B1.out.size _).drew
    clear hc0
    unfold two
    go_wp2_with fail
    go_cut [46] from 36 to 47 (fun c wx => c = .bool false ∧ Below w.heap.size w wx)
    case first =>
      go_region_with (go_at_call 10; refine (again10 (.int .u8 255) rfl _ _ 1 n (x1.alloc (.cells #[.int .u8 255] 5)).drew HR.out (by simp) (by omega)).mono ?_; rintro e y ⟨A2, c2, rfl, hown2, hb2⟩; have hs3 := run_string y 22 9 5 Try.underlying22 Try.underlying5 Try.underlying9 (HC0.out A2 c2 y hown2); have hs4 := run_string y 22 9 5 Try.underlying22 Try.underlying5 Try.underlying9 (Rd.below T1a.out hb2 (by simp)); have BY := Lib.hid (BA.out.trans (hb2.mono BA.out.size)); clear hown2 hb2)
      all_goals
        go_wp2_with fail
        go_meet
        exact ⟨rfl, BY.out⟩
    case rest =>
      obtain ⟨rfl, hbc⟩ := hcut
      clear s1 s2 sb
      have H1 := Lib.hid (HW.out wc hbc)
      have BC := Lib.hid hbc
      clear hbc
      go_wp2_with fail
      refine (H1.out).mono ?_; rintro e x3 he; obtain ⟨A3, c3, rfl, t3, b3⟩ := TextErr.get (n := m) he LX.out
      have B3 : Hid (Below w.heap.size w x3) := Lib.hid (BC.out.trans (b3.mono BC.out.size))
      have T3 := Lib.hid t3
      have B3a : Hid (Below w.heap.size w (x3.alloc (.cells #[.bool true] 4))) := Lib.hid (B3.out.alloc B3.out.size _)
      have HRp := again12 (.bool true) rfl _ _ 1 (8 * len2) (x3.alloc (.cells #[.bool true] 4)) (Rd.new x3 4 #[.bool true] (0, 0) [.bool true] 1 rfl rfl (by decide)) (by simp) (by omega)
      have e8 : (((8 * len2 : Nat)) : Int) = 8 * (len2 : Int) := by omega
      rw [e8] at HRp
      have HRp := Lib.hid HRp
      clear t3 b3 he e8
      unfold two
      go_wp2_with fail
      refine (HRp.out).mono ?_; rintro e x4 ⟨A4, c4, rfl, hown4, hb4⟩
      have B4 : Hid (Below w.heap.size w x4) := Lib.hid (B3a.out.trans (hb4.mono B3a.out.size))
      have R4 : Hid (Bts x4 x4.heap.size A4 (8 * len2) c4 (List.replicate (8 * len2) true)) := Lib.hid (by
        have := Rd.of_own hown4
        unfold Bts
        rw [List.map_replicate]
        exact this)
      have T3' : Hid (Txt x4 x3.heap.size A3 m c3 X) := Lib.hid (Rd.below (Rd.alloc T3.out (Nat.le_refl _) (.cells #[.bool true] 4)) hb4 (by simp))
      have S34 : x3.heap.size ≤ x4.heap.size := by have := hb4.size; simp at this; omega
      have H5 := ctorn _ _ _ _ _ _ _ _ _ _ _ _ _ _ (List.replicate (8 * len2) true) x4 (Rd.below TA.out B4.out (Nat.le_refl _)) (Rd.below TB.out B4.out (Nat.le_refl _)) R4.out B4.out.size B4.out.size (Nat.le_refl _) q1 q2 (by omega)
      rw [HALL.out] at H5
      have H5 := Lib.hid H5
      clear hown4 hb4 T3 HRp
      go_wp2_with fail
      refine (H5.out).mono ?_; rintro e x5 he; obtain ⟨A5, c5, rfl, t5, b5⟩ := TextErr.get (n := m) he LX.out
      have B5 : Hid (Below w.heap.size w x5) := Lib.hid (B4.out.trans (b5.mono B4.out.size))
      have T5 := Lib.hid t5
      have T3 : Hid (Txt x5 x3.heap.size A3 m c3 X) := Lib.hid (Rd.below T3'.out b5 S34)
      have S45 : x4.heap.size ≤ x5.heap.size := b5.size
      have H6 := Lib.hid (HF.out x5 B5.out)
      clear t5 b5 he T3' H5
      unfold two
      go_wp2_with fail
      refine (H6.out).mono ?_; rintro e x6 he; obtain ⟨A6, c6, rfl, t6, b6⟩ := TextErr.get (n := m') he LY.out
      have B6 : Hid (Below w.heap.size w x6) := Lib.hid (B5.out.trans (b6.mono B5.out.size))
      have T6 := Lib.hid t6
      have T3' : Hid (Txt x6 x3.heap.size A3 m c3 X) := Lib.hid (Rd.below T3.out b6 (by omega))
      have T5' : Hid (Txt x6 x5.heap.size A5 m c5 X) := Lib.hid (Rd.below T5.out b6 (by omega))
      have S56 : x5.heap.size ≤ x6.heap.size := b6.size
      have H7 := Lib.hid (HCF.out x6 B6.out)
      clear t6 b6 he T3 T5 H6
      unfold two
      go_wp2_with fail
      refine (H7.out).mono ?_; rintro e x7 he; obtain ⟨A7, c7, rfl, t7, b7⟩ := TextErr.get (n := m') he LY.out
      have B7 : Hid (Below w.heap.size w x7) := Lib.hid (B6.out.trans (b7.mono B6.out.size))
      have T7 := Lib.hid t7
      have T3 : Hid (Txt x7 x3.heap.size A3 m c3 X) := Lib.hid (Rd.below T3'.out b7 (by omega))
      have T5 : Hid (Txt x7 x5.heap.size A5 m c5 X) := Lib.hid (Rd.below T5'.out b7 (by omega))
      have T6' : Hid (Txt x7 x6.heap.size A6 m' c6 Y) := Lib.hid (Rd.below T6.out b7 (by omega))
      have S67 : x6.heap.size ≤ x7.heap.size := b7.size
      have H8 := Lib.hid (HM.out x7 B7.out)
      have H9 := Lib.hid (HCM.out x7 B7.out)
      clear t7 b7 he T3' T5' T6 H7
      unfold two
      go_wp2_with fail
      refine (H8.out).mono ?_; rintro e w' ⟨rfl, rfl⟩
      go_wp2_with fail
      refine (H9.out).mono ?_; rintro e x8 ⟨rfl, b8⟩
      have B8 : Hid (Below w.heap.size w x8) := Lib.hid (B7.out.trans (b8.mono B7.out.size))
      have s3 := run_string x8 22 9 5 Try.underlying22 Try.underlying5 Try.underlying9 (Rd.below T3.out b8 (by omega))
      have s5 := run_string x8 22 9 5 Try.underlying22 Try.underlying5 Try.underlying9 (Rd.below T5.out b8 (by omega))
      have s6 := run_string x8 22 9 5 Try.underlying22 Try.underlying5 Try.underlying9 (Rd.below T6'.out b8 (by omega))
      have s7 := run_string x8 22 9 5 Try.underlying22 Try.underlying5 Try.underlying9 (Rd.below T7.out b8 (by omega))
      have sX : ((str X).toList == (str X).toList) = true := beq_self_eq_true _
      have sY : ((str Y).toList == (str Y).toList) = true := beq_self_eq_true _
      have sM : (M == M) = true := beq_self_eq_true _
      have sk : (k == k) = true := beq_self_eq_true _
      have sk' : (k' == k') = true := beq_self_eq_true _
      clear b8
      go_wp2_with fail
      go_ret
      exact ⟨rfl, B8.out⟩
  · have hout : a0 < 0 ∨ 4096 < a0 := by omega
    clear hin
    rcases hout with hout | hout
    · have HBO := Lib.hid (blankOut a0 w (.inl hout))
      go_enter Try.func3, Try.ntmps3
      go_wp2_with fail
      refine (HBO.out).mono ?_; rintro e wc he; obtain ⟨A1, c1, rfl, t1, hbc⟩ := TextErr.get (n := 0) he rfl
      clear t1 he
      unfold two
      have H1 := Lib.hid (HW.out wc hbc)
      have BC := Lib.hid hbc
      clear hbc
      go_wp2_with fail
      refine (H1.out).mono ?_; rintro e x3 he; obtain ⟨A3, c3, rfl, t3, b3⟩ := TextErr.get (n := m) he LX.out
      have B3 : Hid (Below w.heap.size w x3) := Lib.hid (BC.out.trans (b3.mono BC.out.size))
      have T3 := Lib.hid t3
      have B3a : Hid (Below w.heap.size w (x3.alloc (.cells #[.bool true] 4))) := Lib.hid (B3.out.alloc B3.out.size _)
      have HRp := again12 (.bool true) rfl _ _ 1 (8 * len2) (x3.alloc (.cells #[.bool true] 4)) (Rd.new x3 4 #[.bool true] (0, 0) [.bool true] 1 rfl rfl (by decide)) (by simp) (by omega)
      have e8 : (((8 * len2 : Nat)) : Int) = 8 * (len2 : Int) := by omega
      rw [e8] at HRp
      have HRp := Lib.hid HRp
      clear t3 b3 he e8
      unfold two
      go_wp2_with fail
      refine (HRp.out).mono ?_; rintro e x4 ⟨A4, c4, rfl, hown4, hb4⟩
      have B4 : Hid (Below w.heap.size w x4) := Lib.hid (B3a.out.trans (hb4.mono B3a.out.size))
      have R4 : Hid (Bts x4 x4.heap.size A4 (8 * len2) c4 (List.replicate (8 * len2) true)) := Lib.hid (by
        have := Rd.of_own hown4
        unfold Bts
        rw [List.map_replicate]
        exact this)
      have T3' : Hid (Txt x4 x3.heap.size A3 m c3 X) := Lib.hid (Rd.below (Rd.alloc T3.out (Nat.le_refl _) (.cells #[.bool true] 4)) hb4 (by simp))
      have S34 : x3.heap.size ≤ x4.heap.size := by have := hb4.size; simp at this; omega
      have H5 := ctorn _ _ _ _ _ _ _ _ _ _ _ _ _ _ (List.replicate (8 * len2) true) x4 (Rd.below TA.out B4.out (Nat.le_refl _)) (Rd.below TB.out B4.out (Nat.le_refl _)) R4.out B4.out.size B4.out.size (Nat.le_refl _) q1 q2 (by omega)
      rw [HALL.out] at H5
      have H5 := Lib.hid H5
      clear hown4 hb4 T3 HRp
      go_wp2_with fail
      refine (H5.out).mono ?_; rintro e x5 he; obtain ⟨A5, c5, rfl, t5, b5⟩ := TextErr.get (n := m) he LX.out
      have B5 : Hid (Below w.heap.size w x5) := Lib.hid (B4.out.trans (b5.mono B4.out.size))
      have T5 := Lib.hid t5
      have T3 : Hid (Txt x5 x3.heap.size A3 m c3 X) := Lib.hid (Rd.below T3'.out b5 S34)
      have S45 : x4.heap.size ≤ x5.heap.size := b5.size
      have H6 := Lib.hid (HF.out x5 B5.out)
      clear t5 b5 he T3' H5
      unfold two
      go_wp2_with fail
      refine (H6.out).mono ?_; rintro e x6 he; obtain ⟨A6, c6, rfl, t6, b6⟩ := TextErr.get (n := m') he LY.out
      have B6 : Hid (Below w.heap.size w x6) := Lib.hid (B5.out.trans (b6.mono B5.out.size))
      have T6 := Lib.hid t6
      have T3' : Hid (Txt x6 x3.heap.size A3 m c3 X) := Lib.hid (Rd.below T3.out b6 (by omega))
      have T5' : Hid (Txt x6 x5.heap.size A5 m c5 X) := Lib.hid (Rd.below T5.out b6 (by omega))
      have S56 : x5.heap.size ≤ x6.heap.size := b6.size
      have H7 := Lib.hid (HCF.out x6 B6.out)
      clear t6 b6 he T3 T5 H6
      unfold two
      go_wp2_with fail
      refine (H7.out).mono ?_; rintro e x7 he; obtain ⟨A7, c7, rfl, t7, b7⟩ := TextErr.get (n := m') he LY.out
      have B7 : Hid (Below w.heap.size w x7) := Lib.hid (B6.out.trans (b7.mono B6.out.size))
      have T7 := Lib.hid t7
      have T3 : Hid (Txt x7 x3.heap.size A3 m c3 X) := Lib.hid (Rd.below T3'.out b7 (by omega))
      have T5 : Hid (Txt x7 x5.heap.size A5 m c5 X) := Lib.hid (Rd.below T5'.out b7 (by omega))
      have T6' : Hid (Txt x7 x6.heap.size A6 m' c6 Y) := Lib.hid (Rd.below T6.out b7 (by omega))
      have S67 : x6.heap.size ≤ x7.heap.size := b7.size
      have H8 := Lib.hid (HM.out x7 B7.out)
      have H9 := Lib.hid (HCM.out x7 B7.out)
      clear t7 b7 he T3' T5' T6 H7
      unfold two
      go_wp2_with fail
      refine (H8.out).mono ?_; rintro e w' ⟨rfl, rfl⟩
      go_wp2_with fail
      refine (H9.out).mono ?_; rintro e x8 ⟨rfl, b8⟩
      have B8 : Hid (Below w.heap.size w x8) := Lib.hid (B7.out.trans (b8.mono B7.out.size))
      have s3 := run_string x8 22 9 5 Try.underlying22 Try.underlying5 Try.underlying9 (Rd.below T3.out b8 (by omega))
      have s5 := run_string x8 22 9 5 Try.underlying22 Try.underlying5 Try.underlying9 (Rd.below T5.out b8 (by omega))
      have s6 := run_string x8 22 9 5 Try.underlying22 Try.underlying5 Try.underlying9 (Rd.below T6'.out b8 (by omega))
      have s7 := run_string x8 22 9 5 Try.underlying22 Try.underlying5 Try.underlying9 (Rd.below T7.out b8 (by omega))
      have sX : ((str X).toList == (str X).toList) = true := beq_self_eq_true _
      have sY : ((str Y).toList == (str Y).toList) = true := beq_self_eq_true _
      have sM : (M == M) = true := beq_self_eq_true _
      have sk : (k == k) = true := beq_self_eq_true _
      have sk' : (k' == k') = true := beq_self_eq_true _
      clear b8
      go_wp2_with fail
      go_ret
      exact ⟨rfl, B8.out⟩
    · have h1 : ¬ a0 < 0 := by omega
      have HBO := Lib.hid (blankOut a0 w (.inr hout))
      go_enter Try.func3, Try.ntmps3
      go_wp2_with fail
      refine (HBO.out).mono ?_; rintro e wc he; obtain ⟨A1, c1, rfl, t1, hbc⟩ := TextErr.get (n := 0) he rfl
      clear t1 he
      unfold two
      have H1 := Lib.hid (HW.out wc hbc)
      have BC := Lib.hid hbc
      clear hbc
      go_wp2_with fail
      refine (H1.out).mono ?_; rintro e x3 he; obtain ⟨A3, c3, rfl, t3, b3⟩ := TextErr.get (n := m) he LX.out
      have B3 : Hid (Below w.heap.size w x3) := Lib.hid (BC.out.trans (b3.mono BC.out.size))
      have T3 := Lib.hid t3
      have B3a : Hid (Below w.heap.size w (x3.alloc (.cells #[.bool true] 4))) := Lib.hid (B3.out.alloc B3.out.size _)
      have HRp := again12 (.bool true) rfl _ _ 1 (8 * len2) (x3.alloc (.cells #[.bool true] 4)) (Rd.new x3 4 #[.bool true] (0, 0) [.bool true] 1 rfl rfl (by decide)) (by simp) (by omega)
      have e8 : (((8 * len2 : Nat)) : Int) = 8 * (len2 : Int) := by omega
      rw [e8] at HRp
      have HRp := Lib.hid HRp
      clear t3 b3 he e8
      unfold two
      go_wp2_with fail
      refine (HRp.out).mono ?_; rintro e x4 ⟨A4, c4, rfl, hown4, hb4⟩
      have B4 : Hid (Below w.heap.size w x4) := Lib.hid (B3a.out.trans (hb4.mono B3a.out.size))
      have R4 : Hid (Bts x4 x4.heap.size A4 (8 * len2) c4 (List.replicate (8 * len2) true)) := Lib.hid (by
        have := Rd.of_own hown4
        unfold Bts
        rw [List.map_replicate]
        exact this)
      have T3' : Hid (Txt x4 x3.heap.size A3 m c3 X) := Lib.hid (Rd.below (Rd.alloc T3.out (Nat.le_refl _) (.cells #[.bool true] 4)) hb4 (by simp))
      have S34 : x3.heap.size ≤ x4.heap.size := by have := hb4.size; simp at this; omega
      have H5 := ctorn _ _ _ _ _ _ _ _ _ _ _ _ _ _ (List.replicate (8 * len2) true) x4 (Rd.below TA.out B4.out (Nat.le_refl _)) (Rd.below TB.out B4.out (Nat.le_refl _)) R4.out B4.out.size B4.out.size (Nat.le_refl _) q1 q2 (by omega)
      rw [HALL.out] at H5
      have H5 := Lib.hid H5
      clear hown4 hb4 T3 HRp
      go_wp2_with fail
      refine (H5.out).mono ?_; rintro e x5 he; obtain ⟨A5, c5, rfl, t5, b5⟩ := TextErr.get (n := m) he LX.out
      have B5 : Hid (Below w.heap.size w x5) := Lib.hid (B4.out.trans (b5.mono B4.out.size))
      have T5 := Lib.hid t5
      have T3 : Hid (Txt x5 x3.heap.size A3 m c3 X) := Lib.hid (Rd.below T3'.out b5 S34)
      have S45 : x4.heap.size ≤ x5.heap.size := b5.size
      have H6 := Lib.hid (HF.out x5 B5.out)
      clear t5 b5 he T3' H5
      unfold two
      go_wp2_with fail
      refine (H6.out).mono ?_; rintro e x6 he; obtain ⟨A6, c6, rfl, t6, b6⟩ := TextErr.get (n := m') he LY.out
      have B6 : Hid (Below w.heap.size w x6) := Lib.hid (B5.out.trans (b6.mono B5.out.size))
      have T6 := Lib.hid t6
      have T3' : Hid (Txt x6 x3.heap.size A3 m c3 X) := Lib.hid (Rd.below T3.out b6 (by omega))
      have T5' : Hid (Txt x6 x5.heap.size A5 m c5 X) := Lib.hid (Rd.below T5.out b6 (by omega))
      have S56 : x5.heap.size ≤ x6.heap.size := b6.size
      have H7 := Lib.hid (HCF.out x6 B6.out)
      clear t6 b6 he T3 T5 H6
      unfold two
      go_wp2_with fail
      refine (H7.out).mono ?_; rintro e x7 he; obtain ⟨A7, c7, rfl, t7, b7⟩ := TextErr.get (n := m') he LY.out
      have B7 : Hid (Below w.heap.size w x7) := Lib.hid (B6.out.trans (b7.mono B6.out.size))
      have T7 := Lib.hid t7
      have T3 : Hid (Txt x7 x3.heap.size A3 m c3 X) := Lib.hid (Rd.below T3'.out b7 (by omega))
      have T5 : Hid (Txt x7 x5.heap.size A5 m c5 X) := Lib.hid (Rd.below T5'.out b7 (by omega))
      have T6' : Hid (Txt x7 x6.heap.size A6 m' c6 Y) := Lib.hid (Rd.below T6.out b7 (by omega))
      have S67 : x6.heap.size ≤ x7.heap.size := b7.size
      have H8 := Lib.hid (HM.out x7 B7.out)
      have H9 := Lib.hid (HCM.out x7 B7.out)
      clear t7 b7 he T3' T5' T6 H7
      unfold two
      go_wp2_with fail
      refine (H8.out).mono ?_; rintro e w' ⟨rfl, rfl⟩
      go_wp2_with fail
      refine (H9.out).mono ?_; rintro e x8 ⟨rfl, b8⟩
      have B8 : Hid (Below w.heap.size w x8) := Lib.hid (B7.out.trans (b8.mono B7.out.size))
      have s3 := run_string x8 22 9 5 Try.underlying22 Try.underlying5 Try.underlying9 (Rd.below T3.out b8 (by omega))
      have s5 := run_string x8 22 9 5 Try.underlying22 Try.underlying5 Try.underlying9 (Rd.below T5.out b8 (by omega))
      have s6 := run_string x8 22 9 5 Try.underlying22 Try.underlying5 Try.underlying9 (Rd.below T6'.out b8 (by omega))
      have s7 := run_string x8 22 9 5 Try.underlying22 Try.underlying5 Try.underlying9 (Rd.below T7.out b8 (by omega))
      have sX : ((str X).toList == (str X).toList) = true := beq_self_eq_true _
      have sY : ((str Y).toList == (str Y).toList) = true := beq_self_eq_true _
      have sM : (M == M) = true := beq_self_eq_true _
      have sk : (k == k) = true := beq_self_eq_true _
      have sk' : (k' == k') = true := beq_self_eq_true _
      clear b8
      go_wp2_with fail
      go_ret
      exact ⟨rfl, B8.out⟩

set_option maxRecDepth 100000 in
theorem contract (H : Type) (enc : TypeId × Value → H) (W : World) (base : Nat) (args : Array Value) (ds gs : List (DataW H)) (before : List MemPlace)
    (hval : ∀ (j : Nat) t v, Try.f3.params[j]? = some t → args[j]? = some v → Value.okWide Try.prog W .any base t v)
    (hW : DataW.Whole enc Try.prog Try.f3.params.toList Rows.cellWritesSpec.vars false W args.toList ds gs before) (hk : Rows.uptoSmall H (ds ++ gs) = true) :
    Calls Try.prog 3 args W fun e W' => ∃ v, e = .returned v ∧ Rows.cellWritesSpec.post enc Try.prog Try.f3 false true false false W args v W' := by
  have hW' := hW
  obtain ⟨p, q, hA0, hV, rfl, hfz, hnd⟩ := hW
  have hA : DataW.TrodAll enc Try.prog W 0 (fun _ => true) true Try.f3.params.toList args.toList ds p := hA0
  rw [Try.params3] at hA hval
  obtain ⟨v0, vs0, d0, ds0, p0, q0, hargs, rfl, rfl, h0, rr0⟩ := trodAll_cons hA
  obtain ⟨v1, vs1, d1, ds1, p1, q1, rfl, rfl, rfl, h1, rr1⟩ := trodAll_cons rr0
  obtain ⟨v2, vs2, d2, ds2, p2, q2, rfl, rfl, rfl, h2, rr2⟩ := trodAll_cons rr1
  obtain ⟨rfl, rfl, rfl⟩ := trodAll_nil rr2
  obtain rfl : args = #[v0, v1, v2] := by cases args; simp_all
  obtain ⟨rfl, rfl⟩ := trodVars_none hV
  obtain ⟨a0, rfl, rfl, rfl, w0⟩ := open_int Try.underlying3 (hval 0 3 v0 rfl rfl) h0
  obtain ⟨a1, len1, cap1, rfl⟩ := okWide_slice Try.underlying22 (hval 1 22 v1 rfl rfl)
  have k1 := h1
  have lt1 : ∀ x ∈ p1, x.block < W.heap.size := by obtain ⟨m, hm⟩ := k1; exact DataW.trod_lt m _ _ _ hm
  obtain ⟨⟨z1, w1⟩, u1⟩ := open_txt h1
  have r1 := bulk_cap hk (d := d1) (by simp) u1
  obtain ⟨a2, len2, cap2, rfl⟩ := okWide_slice Try.underlying22 (hval 2 22 v2 rfl rfl)
  have k2 := h2
  have lt2 : ∀ x ∈ p2, x.block < W.heap.size := by obtain ⟨m, hm⟩ := k2; exact DataW.trod_lt m _ _ _ hm
  obtain ⟨⟨z2, w2⟩, u2⟩ := open_txt h2
  have r2 := bulk_cap hk (d := d2) (by simp) u2
  clear hA0
  refine (walk a0 a1 len1 cap1 z1 a2 len2 cap2 z2 W w0 w1 w2 r1 r2).mono fun e W' ⟨he, bel⟩ => ?_
  subst he
  exact ⟨_, rfl, _, _, _, [], _, [], hW', trodAll_mk1 (shut_bool Try.underlying4 _), (trodAll_cons_mk (shut_int Try.underlying3 w0) (trodAll_cons_mk (Below.trod laidOut (by kernel_rfl) (of_decide_eq_true (by kernel_rfl)) k1 bel lt1) (trodAll_cons_mk (Below.trod laidOut (by kernel_rfl) (of_decide_eq_true (by kernel_rfl)) k2 bel lt2) trodAll_mk0))), rfl, bel.frame _, fun h => by cases h⟩

set_option maxRecDepth 100000 in
theorem lifted (os : Os) (started : os.Started) (H : Type) (enc : TypeId × Value → H) (F : Stop.Interp) :
    ReturnsInHanded {} Try.checked os 3 .any ((Rows.OpenSpec.upto Rows.cellWritesSpec).pre6 enc Try.prog Try.f3 Rows.cellWritesUptoRow.domain false) (((Rows.OpenSpec.upto Rows.cellWritesSpec).at F).post enc Try.prog Try.f3 false true false false) := by
  refine returnsInHanded_of_cond (C := Try.checked) (s := Rows.OpenSpec.upto Rows.cellWritesSpec) (k := Rows.uptoSmall) rfl own started (by kernel_rfl) Try.func3
    (OpenSpec.witness (enc := enc) (C := Try.checked) (s := Rows.OpenSpec.upto Rows.cellWritesSpec) (k := Rows.uptoSmall) rfl false ⟨#[], #[.int .i64 0, .slice none 0 0, .slice none 0 0], []⟩ 8 (by kernel_rfl) (by kernel_rfl) (by kernel_rfl)
      (x := ([.lit (.int .i64 0), .nil, .nil], [], [])) (by kernel_rfl) rfl (by kernel_rfl)) ?_
  intro W base args ds gs before hval hW _ hk _
  exact contract H enc W base args ds gs before hval hW hk

theorem over : Rows.cellWritesUptoRow.holds Try.pinned (Rows.OpenSpec.upto Rows.cellWritesSpec) :=
  OpenClaim.holds_of_cond 3 Try.f3 rfl rfl rfl rfl rfl rfl rfl ⟨rfl, rfl, rfl, rfl, rfl⟩ rfl rfl rfl rfl rfl (by kernel_rfl) Try.func3 (by kernel_rfl)
    (of_decide_eq_true (by kernel_rfl)) (by unfold Func.isWrapper; first | (rw [if_pos (by decide +kernel)]; kernel_rfl) | (rw [if_neg (by decide +kernel)]; exact ⟨rfl, rfl⟩))
    (fun os started H enc _ F => lifted os started H enc F)

/-- ████ THE STATEMENT ████ -/
theorem proved : Rows.CellWritesUptoSaid := over
#print axioms proved
end Go.Proofs.Ytaombamfglljaaa.cellWrites
