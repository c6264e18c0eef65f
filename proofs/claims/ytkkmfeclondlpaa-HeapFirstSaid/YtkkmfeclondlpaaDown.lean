/-
  What moveDown leaves of a row of the call's own.
-/
import Derived.Test.YtkkmfeclondlpaaMoves
namespace Go.Proofs.Ytkkmfeclondlpaa.Heap
open Go.ChangeShapes Go.WideShapes Go.ChangeAt Go.RowKit Words Go.Sort
set_option linter.unusedVariables false

set_option maxHeartbeats 1000000 in
theorem moveDown30 (base g n c : Nat) (l : List Wn) (k0 : Nat) (w : World) (h : OwnHp w base (some ⟨g, 0, none⟩) n c l) (hs : n ≤ 9000000000000) (hk : k0 ≤ n) :
    Calls Try.prog 30 #[.slice (some ⟨g, 0, none⟩) n c, .int .i64 k0] w fun e w' => e = .returned (.tuple #[]) ∧ Turned w base g n c (down l k0) w' := by
  have mx := mixedO
  have T0 := Lib.hid (Turned.refl h)
  have HL0 := Lib.hid h.len
  clear h
  go_enter Try.func30, Try.ntmps30
  go_wp2_with fail
  go_loopw [1] (fun i wr => ∃ (k : Nat) (lk : List Wn), i = .int .i64 k ∧ k ≤ n ∧ down lk k = down l k0 ∧ Turned w base g n c lk wr) (fun i _ => (n - intOf i).toNat)
  case atStart => exact ⟨k0, l, rfl, hk, rfl, T0.out⟩
  case round =>
    obtain ⟨k, lk, rfl, hkn, hinv, ht⟩ := hrel
    have HI := Lib.hid hinv
    have HT := Lib.hid ht
    have L := ht.own.len
    clear hinv
    by_cases hlt : 2 * k + 1 < n
    · have hlt' : 2 * (k : Int) + 1 < (n : Int) := by omega
      have HS := Lib.hid (smaller39 _ _ n c lk k wr ht.own.hp (Nat.le_refl _) hs hlt)
      have hcl := child_lt (l := lk) (k := k) (by omega)
      have hch := child_cases lk k
      have HB := Lib.hid (fun hz => best_child (l := lk) (k := k) (by omega) hz)
      have HN := Lib.hid (fun hz => best_stay (l := lk) (k := k) hz)
      obtain ⟨ch, hce⟩ : ∃ ch, ch = child lk k := ⟨_, rfl⟩
      rw [← hce] at HS hcl hch HB HN
      clear ht
      go_wp2_with fail
      refine (HS.out).mono ?_; rintro e w1 ⟨rfl, hw1⟩
      have HT1 := Lib.hid (HT.out.below hw1.below)
      obtain ⟨c0, c1⟩ := HT1.out.own.cellsG (nth_get (l := lk) (k := ch) hcl)
      obtain ⟨d0, d1⟩ := HT1.out.own.cellsG (nth_get (l := lk) (k := k) (by omega))
      have HL := isLess32 (nth lk ch) (nth lk k)
      have hchn : ch < n := by omega
      have hkn2 : k < n := by omega
      have hne : k ≠ ch := by omega
      have hkc : k < ch := by omega
      have SW := Lib.hid (fun (w2 : World) (t : Turned w base g n c lk w2) => OwnHp.swapF t.own hkn2 hchn hne)
      have TS := Lib.hid (fun (w2 : World) (t : Turned w base g n c lk w2) => Turned.swap t hkn2 hchn)
      obtain ⟨x, hx⟩ : ∃ x, x = nth lk ch := ⟨_, rfl⟩
      obtain ⟨y, hy⟩ : ∃ y, y = nth lk k := ⟨_, rfl⟩
      rw [← hx] at c0 c1 HL HB HN SW TS
      rw [← hy] at d0 d1 HL HB HN SW TS
      unfold wval at HL
      clear hx hy hw1 hcl hch hce L
      cases hz : less x y with
      | true =>
        rw [hz] at HL
        have HL := Lib.hid HL
        have HE := Lib.hid (HB.out hz)
        clear hz
        go_wp2_with fail
        refine wp_region_quiet_grown (by assumption) (by kernel_rfl) ?_
        repeat (go_big_quiet_step (first | (go_at_call 32; exact Calls.grown_of (HL.out _))))
        refine wpQuiet_nil ?_
        intro _ hw2
        obtain ⟨⟨nq, osq⟩, hw3⟩ := hw2
        subst hw3
        have HT2 := Lib.hid (HT1.out.more nq osq)
        have S := SW.out _ HT2.out
        have HT3 := Lib.hid (TS.out _ HT2.out)
        clear c0 c1 d0 d1
        generalize grow (w1.drewN nq) osq = w2 at *
        obtain ⟨s0, s1, s2, s3, s4, s5, s6, s7, s8, s9, s10⟩ := S
        go_wp2_with fail
        go_region
        clear s0 s1 s2 s3 s4 s5 s6 s7 s8 s9 s10
        go_wp2_with fail
        go_roundw
        case rel => exact ⟨ch, swap lk k ch, rfl, by omega, by have e := HI.out; rw [down_go (by rw [HE.out]; omega), HE.out] at e; exact e, HT3.out.drew⟩
        case measure => simp [intOf]; omega
      | false =>
        rw [hz] at HL
        have HL := Lib.hid HL
        have HE := Lib.hid (HN.out hz)
        clear hz
        go_wp2_with fail
        refine wp_region_quiet_grown (by assumption) (by kernel_rfl) ?_
        repeat (go_big_quiet_step (first | (go_at_call 32; exact Calls.grown_of (HL.out _))))
        refine wpQuiet_nil ?_
        intro _ hw2
        obtain ⟨⟨nq, osq⟩, hw3⟩ := hw2
        subst hw3
        have HT2 := Lib.hid (HT1.out.more nq osq)
        clear c0 c1 d0 d1
        go_wp2_with fail
        refine bodyPost_ret (results_none rfl _ _ _) rfl ?_
        exact ⟨rfl, by have e := HI.out; rw [down_stop HE.out] at e; rw [← e]; exact HT2.out⟩
    · have hlt' : ¬ 2 * (k : Int) + 1 < (n : Int) := by omega
      have HE := Lib.hid (best_leaf (l := lk) (k := k) (show lk.length ≤ 2 * k + 1 by omega))
      go_wp2_with fail
      go_end0
      exact ⟨rfl, by have e := HI.out; rw [down_stop HE.out] at e; rw [← e]; exact HT.out⟩
end Go.Proofs.Ytkkmfeclondlpaa.Heap
