/-
  What Right and the document's own test return.
-/
import Derived.Test.YtkkmfeclondlpaaWalks
namespace Go.Proofs.Ytkkmfeclondlpaa.Heap
open Go.ChangeShapes Go.WideShapes Go.ChangeAt Go.RowKit Words Go.Sort
set_option linter.unusedVariables false

theorem mixedO : Try.prog.follows .mixedOrders = true := by kernel_rfl
/-- What the form's reach gives of a list's length. -/
def Small (n : Nat) : Prop := n * 16 ≤ 140737488351232
set_option maxHeartbeats 1000000 in
theorem right13 (B : Nat) (A : Option Addr) (n c : Nat) (l : List Wn) (w : World) (h : Hp w B A n c l) (hB : B ≤ w.heap.size) (hs : Small n) :
    Calls Try.prog 13 #[.slice A n c] w fun e w' => e = .returned (.bool (right l)) ∧ Below w.heap.size w w' := by
  have mx := mixedO
  have H := Lib.hid h
  have L := Lib.hid h.len
  have hm : n ≤ 9000000000000 := by unfold Small at hs; omega
  clear h hs
  go_enter Try.func13, Try.ntmps13
  go_wp2_with fail
  go_loopw [3] (fun i wr => ∃ k : Nat, i = .int .i64 k ∧ 1 ≤ k ∧ k ≤ n + 1 ∧ (∀ c, 0 < c → c < k → c < n → less (nth l c) (nth l ((c - 1) / 2)) = false) ∧ Below w.heap.size w wr) (fun i _ => (n + 1 - intOf i).toNat)
  case atStart => exact ⟨1, rfl, by omega, by omega, fun c h0 h1 => absurd h1 (by omega), Below.refl _ _⟩
  case round =>
    obtain ⟨k, rfl, hk1, hkn, hinv, hbel⟩ := hrel
    have HI := Lib.hid hinv
    have HB := Lib.hid hbel
    clear hinv hbel
    by_cases hlt : k < n
    · obtain ⟨g, o, rfl, _, _⟩ := Words.Rd.row H.out (by omega)
      have hBr : B ≤ wr.heap.size := Nat.le_trans hB HB.out.size
      have HP := Lib.hid (parent33 k hk1 (by omega))
      obtain ⟨p, hp⟩ : ∃ p, p = (k - 1) / 2 := ⟨_, rfl⟩
      rw [← hp] at HP
      have hpk : p < k := by omega
      have hpn : p < n := by omega
      obtain ⟨c0, c1⟩ := Hp.cellsG (Words.Rd.below H.out HB.out hB) hBr rfl (nth_get (l := l) (k := k) (by rw [L.out]; exact hlt))
      obtain ⟨d0, d1⟩ := Hp.cellsG (Words.Rd.below H.out HB.out hB) hBr rfl (nth_get (l := l) (k := p) (by rw [L.out]; exact hpn))
      have HL := isLess32 (nth l k) (nth l p)
      obtain ⟨x, hx⟩ : ∃ x, x = nth l k := ⟨_, rfl⟩
      obtain ⟨y, hy⟩ : ∃ y, y = nth l p := ⟨_, rfl⟩
      rw [← hx] at c0 c1 HL
      rw [← hy] at d0 d1 HL
      have HX := Lib.hid hx
      have HY := Lib.hid hy
      have HPE := Lib.hid hp
      unfold wval at HL
      clear hx hy hp
      cases hz : less x y with
      | false =>
        rw [hz] at HL
        have HL := Lib.hid HL
        have HZ := Lib.hid hz
        clear hz
        go_wp2_with fail
        go_quiet_grown (first | (go_at_call 33; exact Calls.grown_of (HP.out _)) | (go_at_call 32; exact Calls.grown_of (HL.out _)))
        have HB2 := Lib.hid (below_grow HB.out HB.out.size nq osq)
        clear c0 c1 d0 d1
        go_wp2_with fail
        go_roundw
        case rel => exact ⟨k + 1, by go_num, by omega, by omega, fun c h0 h1 h2 => by
          by_cases hck : c < k
          · exact HI.out c h0 hck h2
          · obtain rfl : c = k := by omega
            rw [← HPE.out, ← HX.out, ← HY.out]
            exact HZ.out, HB2.out⟩
        case measure => simp [intOf]; omega
      | true =>
        rw [hz] at HL
        have HL := Lib.hid HL
        have HZ := Lib.hid hz
        clear hz
        go_wp2_with fail
        go_quiet_grown (first | (go_at_call 33; exact Calls.grown_of (HP.out _)) | (go_at_call 32; exact Calls.grown_of (HL.out _)))
        have HB2 := Lib.hid (below_grow HB.out HB.out.size nq osq)
        clear c0 c1 d0 d1
        go_wp2_with fail
        go_ret
        exact ⟨ret_bool (by
          have e := HZ.out
          rw [HX.out, HY.out, HPE.out] at e
          rw [right_no (c := k) (by omega) (by rw [L.out]; exact hlt) e]), HB2.out⟩
    · go_wp2_with fail
      go_ret
      exact ⟨ret_bool (right_upto fun c h0 h1 => HI.out c h0 (by have := L.out; omega) (by have := L.out; omega)).symm, HB.out⟩
end Go.Proofs.Ytkkmfeclondlpaa.Heap
