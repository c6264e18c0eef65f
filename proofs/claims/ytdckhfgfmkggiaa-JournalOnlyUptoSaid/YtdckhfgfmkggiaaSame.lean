/-
  The document's own comparison of two lists of texts.
-/
import Derived.Test.YtdckhfgfmkggiaaLists
namespace Go.Proofs.Ytdckhfgfmkggiaa.Jrn
open Go.ChangeShapes Go.WideShapes Go.ChangeAt Go.RowKit Words Crc
set_option linter.unusedVariables false

theorem drewN_two (w : World) (a b : Nat) : (w.drewN a).drewN b = w.drewN (a + b) := by
  induction b with
  | zero => rfl
  | succ b ih => show ((w.drewN a).drewN b).drew = (w.drewN (a + b)).drew; rw [ih]
theorem conv_txt {B : Nat} {A : Option Addr} {n c : Nat} {l : Bytes} {w : World} (h : Txt w B A n c l) (j : Nat) : (convert 22 9 (.slice A n c)).run Try.prog (w.drewN j) = .ok (.string (str l)) (w.drewN j) :=
  run_string (w.drewN j) 22 9 5 Try.underlying22 Try.underlying5 Try.underlying9 (Words.Rd.drewN h j)
theorem take_next_eq {l m : List Bytes} {k : Nat} {x y : Bytes} (h : l.take k = m.take k) (hx : l[k]? = some x) (hy : m[k]? = some y) (e : x = y) : l.take (k + 1) = m.take (k + 1) := by
  rw [List.take_add_one, List.take_add_one, h, hx, hy, e]
set_option maxHeartbeats 2000000 in
theorem same13 (B1 B2 : Nat) (A1 A2 : Option Addr) (n1 n2 c1 c2 : Nat) (v1 v2 : List Sl) (l m : List Bytes) (w : World) (h1 : Grid w B1 A1 n1 c1 v1 l) (h2 : Grid w B2 A2 n2 c2 v2 m) :
    Calls Try.prog 13 #[.slice A1 n1 c1, .slice A2 n2 c2] w (EqB (l = m) w) := by
  have hl1 := h1.count
  have hl2 := h2.count
  have hm1 := Words.Rd.small h1.top
  have hm2 := Words.Rd.small h2.top
  by_cases hn : n1 = n2
  · subst hn
    have H1 := Lib.hid h1
    have H2 := Lib.hid h2
    have L1 := Lib.hid hl1
    have L2 := Lib.hid hl2
    clear h1 h2 hl1 hl2 hm2
    go_enter Try.func13, Try.ntmps13
    go_wp2_with fail
    go_loopw [13] (fun i wr => ∃ (k j : Nat), i = .int .i64 k ∧ k ≤ n1 ∧ wr = w.drewN j ∧ l.take k = m.take k) (fun i _ => (n1 - intOf i).toNat)
    case atStart => exact ⟨0, 0, rfl, by omega, rfl, rfl⟩
    case round =>
      obtain ⟨k, j, rfl, hk, hw, ht⟩ := hrel
      have HT := Lib.hid ht
      have HW := Lib.hid hw
      clear ht
      by_cases hlt : k < n1
      · obtain ⟨b1, o1, rfl, _, _⟩ := Words.Rd.row H1.out.top (by omega)
        obtain ⟨b2, o2, rfl, _, _⟩ := Words.Rd.row H2.out.top (by omega)
        have G1 := H1.out.drewN j
        have G2 := H2.out.drewN j
        rw [← hw] at G1 G2
        obtain ⟨P1, p1, q1, x, hx, _, d1, t1⟩ := G1.at_ rfl hlt
        obtain ⟨P2, p2, q2, y, hy, _, d2, t2⟩ := G2.at_ rfl hlt
        have k1 := conv_txt t1
        have k2 := conv_txt t2
        have HX := Lib.hid hx
        have HY := Lib.hid hy
        clear hx hy t1 t2 G1 G2 hw
        by_cases hxy : x = y
        · have hb := str_beq (a := x) (b := y) (t := true) (propext ⟨fun _ => rfl, fun _ => hxy⟩)
          have HN := Lib.hid (take_next_eq HT.out HX.out HY.out hxy)
          clear hxy
          go_wp2_with fail
          go_quiet (fail)
          go_wp2_with fail
          go_roundw
          case rel => exact ⟨k + 1, _, by go_num, by omega, by rw [HW.out, drewN_two], HN.out⟩
          case measure => simp [intOf]; omega
        · have hb := str_beq (a := x) (b := y) (t := false) (propext ⟨fun h => absurd h hxy, fun h => by cases h⟩)
          have HN := Lib.hid hxy
          clear hxy
          go_wp2_with fail
          go_quiet (fail)
          go_wp2_with fail
          go_ret
          exact ⟨false, _, rfl, ⟨fun h => absurd h (by decide), fun h => absurd (Option.some.inj (HX.out.symm.trans ((congrArg (·[k]?) h).trans HY.out))) HN.out⟩, by rw [HW.out, drewN_two]⟩
      · obtain rfl : k = n1 := by omega
        clear hw
        have HE : Hid (l = m) := Lib.hid (by
          have h := HT.out
          rwa [List.take_of_length_le (by rw [L1.out]; omega), List.take_of_length_le (by rw [L2.out]; omega)] at h)
        go_wp2_with fail
        go_ret
        exact ⟨true, j, rfl, ⟨fun _ => HE.out, fun _ => rfl⟩, HW.out⟩
  · have hne : ((n1 : Int) != (n2 : Int)) = true := by rw [bne_iff_ne]; omega
    have HN : Hid (l ≠ m) := Lib.hid (fun h => by subst h; omega)
    clear h1 h2 hl1 hl2 hn
    go_enter Try.func13, Try.ntmps13
    go_wp2_with fail
    go_ret
    exact ⟨false, 0, rfl, ⟨fun h => absurd h (by decide), fun h => absurd h HN.out⟩, rfl⟩
end Go.Proofs.Ytdckhfgfmkggiaa.Jrn
