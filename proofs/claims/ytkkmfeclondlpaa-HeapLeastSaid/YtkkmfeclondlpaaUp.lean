/-
  What moveUp leaves of a row of the call's own.
-/
import Derived.Test.YtkkmfeclondlpaaMoves
namespace Go.Proofs.Ytkkmfeclondlpaa.Heap
open Go.ChangeShapes Go.WideShapes Go.ChangeAt Go.RowKit Words Go.Sort
set_option linter.unusedVariables false

theorem parent33s (k : Nat) (hk : 1 ≤ k) (hm : k ≤ 4611686018427387904) (w : World) : Calls Try.prog 33 #[.int .i64 k] w fun e w' => e = .returned (.int .i64 ((k - 1) / 2 : Nat)) ∧ w' = w := by
  have HE : Hid (((k : Int) - 1).tdiv 2 = (((k - 1) / 2 : Nat) : Int)) := Lib.hid (by rw [Int.tdiv_eq_ediv_of_nonneg (by omega)]; omega)
  go_enter Try.func33, Try.ntmps33
  go_wp2_with fail
  go_ret
  exact ⟨ret_int (by have := HE.out; first | exact this | omega), rfl⟩
set_option maxHeartbeats 2000000 in
theorem moveUp29 (base g n c : Nat) (l : List Wn) (k0 : Nat) (w : World) (h : OwnHp w base (some ⟨g, 0, none⟩) n c l) (hs : n ≤ 9000000000000) (hk : k0 < n) :
    Calls Try.prog 29 #[.slice (some ⟨g, 0, none⟩) n c, .int .i64 k0] w fun e w' => e = .returned (.tuple #[]) ∧ Turned w base g n c (up l k0) w' := by
  have mx := mixedO
  have T0 := Lib.hid (Turned.refl h)
  clear h
  go_enter Try.func29, Try.ntmps29
  go_wp2_with fail
  go_loopw [1] (fun i wr => ∃ (k : Nat) (lk : List Wn), i = .int .i64 k ∧ k < n ∧ up lk k = up l k0 ∧ Turned w base g n c lk wr) (fun i _ => (intOf i).toNat)
  case atStart => exact ⟨k0, l, rfl, hk, rfl, T0.out⟩
  case round =>
    obtain ⟨k, lk, rfl, hkn, hinv, ht⟩ := hrel
    have HI := Lib.hid hinv
    have HT := Lib.hid ht
    have L := ht.own.len
    clear hinv
    by_cases h0 : 0 < k
    · have h0' : (0 : Int) < (k : Int) := by omega
      have hd : decide ((k : Int) > 0) = true := by rw [decide_eq_true_iff]; omega
      have HP := Lib.hid (parent33 k h0 (by omega))
      have HPS := Lib.hid (parent33s k h0 (by omega))
      have HG := Lib.hid (fun hz => up_go (l := lk) (k := k) h0 hz)
      have HN := Lib.hid (fun hz => up_stop (l := lk) (k := k) hz)
      obtain ⟨p, hp⟩ : ∃ p, p = (k - 1) / 2 := ⟨_, rfl⟩
      rw [← hp] at HP HPS HG HN
      have hpk : p < k := by omega
      have hpn : p < n := by omega
      have hne : k ≠ p := by omega
      obtain ⟨c0, c1⟩ := HT.out.own.cellsG (nth_get (l := lk) (k := k) (by omega))
      obtain ⟨d0, d1⟩ := HT.out.own.cellsG (nth_get (l := lk) (k := p) (by omega))
      have HL := isLess32 (nth lk k) (nth lk p)
      have SW := Lib.hid (fun (w2 : World) (t : Turned w base g n c lk w2) => OwnHp.swapF t.own hkn hpn hne)
      have TS := Lib.hid (fun (w2 : World) (t : Turned w base g n c lk w2) => Turned.swap t hkn hpn)
      obtain ⟨x, hx⟩ : ∃ x, x = nth lk k := ⟨_, rfl⟩
      obtain ⟨y, hy⟩ : ∃ y, y = nth lk p := ⟨_, rfl⟩
      rw [← hx] at c0 c1 HL HG HN SW TS
      rw [← hy] at d0 d1 HL HG HN SW TS
      unfold wval at HL
      clear hx hy ht L hp
      cases hz : less x y with
      | true =>
        rw [hz] at HL
        have HL := Lib.hid HL
        have HE := Lib.hid (HG.out hz)
        clear hz
        go_wp2_with fail
        refine wp_region_quiet_grown (by assumption) (by kernel_rfl) ?_
        repeat (go_big_quiet_step (first | (go_at_call 33; exact Calls.grown_of (HP.out _)) | (go_at_call 32; exact Calls.grown_of (HL.out _))))
        refine wpQuiet_nil ?_
        intro _ hw2
        obtain ⟨⟨nq, osq⟩, hw3⟩ := hw2
        subst hw3
        have HT2 := Lib.hid (HT.out.more nq osq)
        have S := SW.out _ HT2.out
        have HT3 := Lib.hid (TS.out _ HT2.out)
        clear c0 c1 d0 d1
        generalize grow (wr.drewN nq) osq = w2 at *
        obtain ⟨s0, s1, s2, s3, s4, s5, s6, s7, s8, s9, s10⟩ := S
        go_wp2_with fail
        go_region_with (first | (go_at_call 33; refine (HPS.out _).mono ?_; rintro e w' ⟨rfl, rfl⟩))
        all_goals
          have HT4 := Lib.hid HT3.out.drew
          clear s0 s1 s2 s3 s4 s5 s6 s7 s8 s9 s10
          go_wp2_with fail
          refine (HPS.out _).mono ?_; rintro e w' ⟨rfl, rfl⟩
          go_wp2_with fail
          go_roundw
          case rel => exact ⟨p, swap lk k p, rfl, hpn, by have e := HI.out; rw [HE.out] at e; exact e, HT4.out⟩
          case measure => simp [intOf]; omega
      | false =>
        rw [hz] at HL
        have HL := Lib.hid HL
        have HE := Lib.hid (HN.out hz)
        clear hz
        go_wp2_with fail
        refine wp_region_quiet_grown (by assumption) (by kernel_rfl) ?_
        repeat (go_big_quiet_step (first | (go_at_call 33; exact Calls.grown_of (HP.out _)) | (go_at_call 32; exact Calls.grown_of (HL.out _))))
        refine wpQuiet_nil ?_
        intro _ hw2
        obtain ⟨⟨nq, osq⟩, hw3⟩ := hw2
        subst hw3
        have HT2 := Lib.hid (HT.out.more nq osq)
        clear c0 c1 d0 d1
        go_wp2_with fail
        go_end0
        exact ⟨rfl, by have e := HI.out; rw [HE.out] at e; rw [← e]; exact HT2.out⟩
    · obtain rfl : k = 0 := by omega
      have HE := Lib.hid (up_zero lk)
      go_wp2_with fail
      refine wp_region_quiet_grown (by assumption) (by kernel_rfl) ?_
      repeat (go_big_quiet_step (fail))
      refine wpQuiet_nil ?_
      intro _ hw2
      obtain ⟨⟨nq, osq⟩, hw3⟩ := hw2
      subst hw3
      have HT2 := Lib.hid (HT.out.more nq osq)
      go_wp2_with fail
      go_end0
      exact ⟨rfl, by have e := HI.out; rw [HE.out] at e; rw [← e]; exact HT2.out⟩
end Go.Proofs.Ytkkmfeclondlpaa.Heap
