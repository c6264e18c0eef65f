/-
  FtlPlays, walked under what is asked of Play.
-/
import Derived.Test.YtfohihdpohjmcaaCon
namespace Go.Proofs.Ytfohihdpohjmcaa.Ftl
open Go.ChangeShapes Go.WideShapes Go.ChangeAt Go.RowKit Words
set_option linter.unusedVariables false

set_option maxHeartbeats 4000000 in
theorem ftlPlays_walk (HPC : PlayC) (B : Nat) (A0 : Option Addr) (n c : Nat) (l : List Fop) (w : World) (w0 : Ops w B A0 n c l) (hB : B ≤ w.heap.size) (wf : ∀ o ∈ l, Wf o) :
    Calls Try.prog 3 #[.slice A0 n c] w fun e w' => e = .returned (.bool true) ∧ Below w.heap.size w w' := by
  have hlen := Ops.len w0
  have HP := Lib.hid (HPC _ _ _ _ l w w0 hB wf)
  have HI := Lib.hid (fun x (b : Below w.heap.size w x) => iplay10 _ _ _ _ l x (Words.Rd.below w0 b hB) (Nat.le_trans hB b.size) wf)
  have E11 := Lib.hid (fun B1 B2 A1 A2 n1 n2 c1 c2 a b w h1 h2 => equal11 B1 B2 A1 A2 n1 n2 c1 c2 a b w h1 h2)
  have HG := Lib.hid (fun e x h p => fplayed_ok (w := w) (w' := x) (l := l) (e := e) h p)
  have HN := Lib.hid (fun e x h p => fplayed_bad (w := w) (w' := x) (l := l) (e := e) h p)
  unfold IPlayed at HI
  clear w0 wf HPC
  simp only [hlen] at HG HN
  by_cases hn : n ≤ 400
  · have e1 : iAns l = anss sto0 l := by unfold iAns; rw [if_pos (by omega)]
    have e2 : iErr l = 0 := by unfold iErr; rw [if_pos (by omega)]
    have e3 : (anss sto0 l).length = n := by rw [anss_length, hlen]
    simp only [e1, e2, e3] at HI
    have HNN := Lib.hid hn
    obtain ⟨an, han⟩ : ∃ x, anss sto0 l = x := ⟨_, rfl⟩
    rw [han] at HI HG
    clear e1 e2 e3 hn han hlen
    go_enter Try.func3, Try.ntmps3
    go_wp2_with fail
    refine (HP.out).mono ?_; rintro e x1 hx
    obtain ⟨A1, c1, A2, wl, c2, rfl, hi1, hi2, _, hb1⟩ := HG.out _ _ HNN.out hx
    have X1 := Lib.hid hi1
    have B1 := Lib.hid hb1
    clear hx hi1 hi2 hb1
    go_wp2_with fail
    refine (HI.out _ B1.out).mono ?_; rintro e x2 ⟨A3, c3, rfl, hi3, hb2⟩
    have X2 := Lib.hid (fans_next X1.out hb2)
    have X3 := Lib.hid hi3
    have B2 := Lib.hid (next_below B1.out hb2 B1.out.size)
    clear hi3 hb2
    go_wp2_with fail
    refine (E11.out _ _ _ _ _ _ _ _ _ _ _ X2.out X3.out).mono ?_; rintro e x3 he
    obtain ⟨rfl, q, rfl⟩ := he.yes rfl
    clear he
    go_wp2_with fail
    go_ret
    exact ⟨rfl, below_drewN B2.out _⟩
  · have e1 : iAns l = [] := by unfold iAns; rw [if_neg (by omega)]
    have e2 : iErr l = 2 := by unfold iErr; rw [if_neg (by omega)]
    simp only [e1, e2, List.length_nil] at HI
    have HNN := Lib.hid hn
    clear e1 e2 hn hlen
    go_enter Try.func3, Try.ntmps3
    go_wp2_with fail
    refine (HP.out).mono ?_; rintro e x1 hx
    obtain ⟨A1, c1, A2, c2, rfl, hi1, hb1⟩ := HN.out _ _ HNN.out hx
    have X1 := Lib.hid hi1
    have B1 := Lib.hid hb1
    clear hx hi1 hb1
    go_wp2_with fail
    refine (HI.out _ B1.out).mono ?_; rintro e x2 ⟨A3, c3, rfl, hi3, hb2⟩
    have X2 := Lib.hid (fans_next X1.out hb2)
    have X3 := Lib.hid hi3
    have B2 := Lib.hid (next_below B1.out hb2 B1.out.size)
    clear hi3 hb2
    go_wp2_with fail
    refine (E11.out _ _ _ _ _ _ _ _ _ _ _ X2.out X3.out).mono ?_; rintro e x3 he
    obtain ⟨rfl, q, rfl⟩ := he.yes rfl
    clear he
    go_wp2_with fail
    go_ret
    exact ⟨rfl, below_drewN B2.out _⟩
end Go.Proofs.Ytfohihdpohjmcaa.Ftl
