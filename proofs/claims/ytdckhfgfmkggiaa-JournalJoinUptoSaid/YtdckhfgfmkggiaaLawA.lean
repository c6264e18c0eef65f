/-
  JournalTells and JournalFolds, walked under what is asked of Write, Read and Fold.
-/
import Derived.Test.YtdckhfgfmkggiaaAlive
namespace Go.Proofs.Ytdckhfgfmkggiaa.Jrn
open Go.ChangeShapes Go.WideShapes Go.ChangeAt Go.RowKit Words Crc
set_option linter.unusedVariables false

theorem TextTo.get {w w' : World} {r : Bytes × Int} {e : Ending} {m : Nat} (h : TextTo w r e w') (hm : r.1.length = m) : ∃ A c, e = .returned (.tuple #[.slice A m c, .int .i64 r.2]) ∧ Txt w' w'.heap.size A m c r.1 ∧ Below w.heap.size w w' := by
  subst hm
  exact h
theorem ReadTo.get {w w' : World} {b : Bytes} {e : Ending} {m t : Nat} (h : ReadTo w b e w') (hm : (jr b).length = m) (ht : tot (jr b) = t) : ∃ A c vs, e = .returned (.tuple #[.slice A m c, .int .i64 (t : Int)]) ∧ Grid w' w'.heap.size A m c vs (jr b) ∧ Below w.heap.size w w' := by
  subst hm ht
  exact h
theorem str_same (a : Bytes) : ((str a).toList == (str a).toList) = true := str_beq (propext ⟨fun _ => rfl, fun _ => rfl⟩)
set_option maxHeartbeats 4000000 in
theorem tells_walk (HW : WriteC) (HR : ReadC) (A0 A1 : Option Addr) (n0 c0 n1 c1 : Nat) (r b : Bytes) (w : World) (h0 : Txt w w.heap.size A0 n0 c0 r) (h1 : Txt w w.heap.size A1 n1 c1 b) (hn : c1 ≤ 1048576) :
    Calls Try.prog 3 #[.slice A0 n0 c0, .slice A1 n1 c1] w fun e w' => e = .returned (.bool true) ∧ Below w.heap.size w w' := by
  have hn1 : n1 ≤ 4294967296 := by have := Rd.le h1; omega
  obtain ⟨m, hm⟩ : ∃ m, (writeR r).1.length = m := ⟨_, rfl⟩
  obtain ⟨k, hk⟩ : ∃ k, (jr b).length = k := ⟨_, rfl⟩
  obtain ⟨t, ht⟩ : ∃ t, tot (jr b) = t := ⟨_, rfl⟩
  have H1 := Lib.hid (HW _ _ _ _ r w h0 (Nat.le_refl _))
  have H2 := Lib.hid (fun x (b0 : Below w.heap.size w x) => jwrite10 _ _ _ _ r x (Rd.below h0 b0 (Nat.le_refl _)) b0.size)
  have H3 := Lib.hid (fun x (b0 : Below w.heap.size w x) => HR _ _ _ _ b x (Rd.below h1 b0 (Nat.le_refl _)) b0.size hn1)
  have H4 := Lib.hid (fun x (b0 : Below w.heap.size w x) => jread12 _ _ _ _ b x (Rd.below h1 b0 (Nat.le_refl _)) b0.size hn1)
  have M := Lib.hid hm
  have K := Lib.hid hk
  have T := Lib.hid ht
  clear HW HR h0 h1 hm hk ht
  generalize writeR r = p at *
  obtain ⟨x, er⟩ := p
  go_enter Try.func3, Try.ntmps3
  go_wp2_with fail
  refine (H1.out).mono ?_; rintro e x1 he
  obtain ⟨P1, q1, rfl, t1, b1⟩ := he.get M.out
  have T1 := Lib.hid t1
  have B1 := Lib.hid b1
  clear he t1 b1
  go_wp2_with fail
  refine (H2.out _ B1.out).mono ?_; rintro e x2 he
  obtain ⟨P2, q2, rfl, t2, b2⟩ := he.to.get M.out
  have T2 := Lib.hid t2
  have T1b := Lib.hid (Rd.more (Rd.below T1.out b2 (Nat.le_refl _)) b2.size)
  have B2 := Lib.hid (B1.out.trans (b2.mono B1.out.size))
  clear he t2 b2
  go_wp2_with fail
  refine (H3.out _ B2.out).mono ?_; rintro e x3 he
  obtain ⟨P3, q3, v3, rfl, g3, b3⟩ := he.get K.out T.out
  have G3 := Lib.hid g3
  have T1c := Lib.hid (Rd.more (Rd.below T1b.out b3 (Nat.le_refl _)) b3.size)
  have T2c := Lib.hid (Rd.more (Rd.below T2.out b3 (Nat.le_refl _)) b3.size)
  have B3 := Lib.hid (B2.out.trans (b3.mono B2.out.size))
  clear he g3 b3
  go_wp2_with fail
  refine (H4.out _ B3.out).mono ?_; rintro e x4 he
  obtain ⟨P4, q4, v4, rfl, g4, b4⟩ := he.get K.out T.out
  have HS := Lib.hid (same13 _ _ _ _ _ _ _ _ _ _ _ _ x4 (Grid.below G3.out b4 (Nat.le_refl _)) g4)
  have k1 : (convert 22 9 (.slice P1 m q1)).run Try.prog x4 = .ok (.string (str x)) x4 := conv_txt (Rd.below T1c.out b4 (Nat.le_refl _)) 0
  have k2 : (convert 22 9 (.slice P2 m q2)).run Try.prog x4 = .ok (.string (str x)) x4 := conv_txt (Rd.below T2c.out b4 (Nat.le_refl _)) 0
  have hb := str_same x
  have B4 := Lib.hid (B3.out.trans (b4.mono B3.out.size))
  clear he g4 b4
  go_wp2_with fail
  refine (HS.out).mono ?_; rintro e w2 he
  obtain ⟨rfl, q, rfl⟩ := he.yes (by first | rfl | trivial)
  clear he
  go_wp2_with fail
  go_ret
  exact ⟨rfl, below_drewN B4.out _⟩
end Go.Proofs.Ytdckhfgfmkggiaa.Jrn
