/-
  Which gap is the smallest that is large enough; what is wrong with an operation: the program's own.
-/
import Derived.Test.YtkhcaobmohppnaaDFind
namespace Go.Proofs.Ytkhcaobmohppnaa.Spc
open Go.ChangeShapes Go.WideShapes Go.ChangeAt Go.RowKit Words Go.Sort
set_option linter.unusedVariables false

set_option maxHeartbeats 4000000 in
theorem small38 (base g n c : Nat) (s : Int) (A : Option Addr) (l : List Gp) (o : Sp) (w : World) (d : RD w base g s A n c l) (ho : o.k = 2) (ha : ∀ g ∈ l, 0 ≤ g.a) :
    Calls Try.prog 38 #[.pointer (some ⟨g, 0, none⟩), .int .i64 o.m] w fun e w' => ∃ v, e = .returned (.int .i64 v) ∧ Pick o l v ∧ Below w.heap.size w w' := by
  have mx := mixedO
  have HN := d.row.gps.small
  have HL := Lib.hid d.row.len
  have H := Lib.hid d.row.gps
  have b0 : Below w.heap.size w w := Below.refl _ _
  have B0 := Lib.hid b0
  have c0 := d.gaps
  have HA := Lib.hid ha
  have HO := Lib.hid ho
  have HD := Lib.hid d
  obtain ⟨m, hm⟩ : ∃ m, m = o.m := ⟨_, rfl⟩
  have HM := Lib.hid hm
  rw [← hm]
  clear b0 d ha ho hm
  go_enter Try.func38, Try.ntmps38
  go_wp2_with fail
  go_loopw [5, 13] (fun b i wr => ∃ (v : Int) (k : Nat), b = .int .i64 v ∧ i = .int .i64 k ∧ k ≤ n ∧ Below w.heap.size w wr ∧ Pick o (l.take k) v) (fun _ i _ => (n - intOf i).toNat)
  case atStart => exact ⟨-1, 0, rfl, rfl, by omega, B0.out, pick_zero o l⟩
  case round =>
    obtain ⟨v, k, rfl, rfl, hk, hbel, hp⟩ := hrel
    have BW := Lib.hid hbel
    have PP := Lib.hid hp
    clear hbel hp
    by_cases hlt : k < n
    · obtain ⟨g', rfl, _, _⟩ := HD.out.row.addr (by omega)
      have HK : Hid (k < l.length) := Lib.hid (by rw [HL.out]; exact hlt)
      obtain ⟨c1, c2⟩ := (HD.out.below BW.out).row.at_ hlt
      obtain ⟨wb, hwb⟩ : ∃ wb, wr.alloc (.cells (gcells (gth l k)).toArray 36) = wb := ⟨_, rfl⟩
      have BX : Hid (Below w.heap.size w wb) := Lib.hid (by rw [← hwb]; exact BW.out.alloc BW.out.size _)
      have hg : Whole wb wr.heap.size 36 (gcells (gth l k)).toArray := by rw [← hwb]; exact Whole.new wr 36 _
      have k1 := boxG hg (j := 1) (u := .int .i64 (gth l k).m) rfl
      have k2 := boxG (HD.out.below BX.out).blk (j := 1) (u := .slice (some ⟨g', 0, none⟩) n c) rfl
      have k3 := Lib.hid fun (i : Nat) (hi : i < n) => (OwnGp.cellsG (HD.out.below BX.out).row hi).2
      have NX := Lib.hid (fun (h : m ≤ (gth l k).m → v ≠ -1) (h2 : ∀ i : Nat, v = i → m ≤ (gth l k).m → ¬ (gth l k).m < (gth l i).m) => Pick.next PP.out HK.out (fun hc => by
          rcases hc.2 with hv | ⟨i, hi, _, hj⟩
          · exact h (by rw [HM.out]; exact hc.1) hv
          · exact h2 i hi (by rw [HM.out]; exact hc.1) hj) HA.out (fun hc => h (by rw [HM.out]; exact hc)) (fun i hi hc _ => h2 i hi (by rw [HM.out]; exact hc)))
      have HR := Lib.hid (fun (h : m ≤ (gth l k).m) (h2 : v = -1 ∨ ∃ i : Nat, v = i ∧ o.k = 2 ∧ (gth l k).m < (gth l i).m) => Pick.here PP.out HK.out (by rw [← HM.out]; exact h) h2)
      obtain ⟨⟨xa, xm⟩, hx⟩ : ∃ x, x = gth l k := ⟨_, rfl⟩
      rw [← hx] at c1 c2 NX HR hwb k1
      simp only at c1 c2 k1
      have HWB : Hid (wr.alloc (.cells #[.int .i64 xa, .int .i64 xm] 36) = wb) := Lib.hid hwb
      have vlow := PP.out.low
      have k1 := Lib.hid k1
      clear hx hwb hg
      by_cases hc : m ≤ xm
      · have t1 : decide (m ≤ xm) = true := decide_eq_true hc
        rcases vlow with rfl | ⟨i, rfl, hi⟩
        · have H1 := Lib.hid (HR.out hc (.inl rfl))
          clear hc
          go_wp2_with fail
          rw [HWB.out]
          have k1 := k1.out
          refine wp_region_quiet_grown (by assumption) (by kernel_rfl) ?_
          repeat (go_big_quiet_step (fail))
          refine wpQuiet_nil ?_
          intro _ hw2
          obtain ⟨⟨nq, osq⟩, hw3⟩ := hw2
          subst hw3
          have B4 := Lib.hid (below_grow BX.out BX.out.size nq osq)
          clear k1 k2
          go_wp2_with fail
          go_roundw
          case rel => exact ⟨k, k + 1, rfl, by go_num, by omega, B4.out, H1.out⟩
          case measure => simp [intOf]; omega
        · have hin : i < n := by rw [List.length_take] at hi; omega
          have k3 := k3.out i hin
          obtain ⟨y, hy⟩ : ∃ y, y = (gth l i).m := ⟨_, rfl⟩
          rw [← hy] at k3
          have hi1 : ((i : Int) == -1) = false := by rw [beq_eq_false_iff_ne]; omega
          have hi0 : (0 : Int) ≤ (i : Int) := by omega
          by_cases h3 : xm < y
          · have t2 : decide (xm < y) = true := decide_eq_true h3
            have H1 := Lib.hid (HR.out hc (.inr ⟨i, rfl, HO.out, by rw [← hy]; exact h3⟩))
            clear hc h3 hy hi
            go_wp2_with fail
            rw [HWB.out]
            have k1 := k1.out
            refine wp_region_quiet_grown (by assumption) (by kernel_rfl) ?_
            repeat (go_big_quiet_step (fail))
            refine wpQuiet_nil ?_
            intro _ hw2
            obtain ⟨⟨nq, osq⟩, hw3⟩ := hw2
            subst hw3
            have B4 := Lib.hid (below_grow BX.out BX.out.size nq osq)
            clear k1 k2 k3
            go_wp2_with fail
            go_roundw
            case rel => exact ⟨k, k + 1, rfl, by go_num, by omega, B4.out, H1.out⟩
            case measure => simp [intOf]; omega
          · have t2 : decide (xm < y) = false := decide_eq_false h3
            have H1 := Lib.hid (NX.out (fun _ => by omega) (fun j hj _ => by
              obtain rfl : j = i := by omega
              rw [← hy]; exact h3))
            clear hc h3 hy hi
            go_wp2_with fail
            rw [HWB.out]
            have k1 := k1.out
            refine wp_region_quiet_grown (by assumption) (by kernel_rfl) ?_
            repeat (go_big_quiet_step (fail))
            refine wpQuiet_nil ?_
            intro _ hw2
            obtain ⟨⟨nq, osq⟩, hw3⟩ := hw2
            subst hw3
            have B4 := Lib.hid (below_grow BX.out BX.out.size nq osq)
            clear k1 k2 k3
            go_wp2_with fail
            go_roundw
            case rel => exact ⟨i, k + 1, rfl, by go_num, by omega, B4.out, H1.out⟩
            case measure => simp [intOf]; omega
      · have t1 : decide (m ≤ xm) = false := decide_eq_false hc
        have H1 := Lib.hid (NX.out (fun h => absurd h hc) (fun j hj h => absurd h hc))
        clear hc vlow
        go_wp2_with fail
        rw [HWB.out]
        have k1 := k1.out
        refine wp_region_quiet_grown (by assumption) (by kernel_rfl) ?_
        repeat (go_big_quiet_step (fail))
        refine wpQuiet_nil ?_
        intro _ hw2
        obtain ⟨⟨nq, osq⟩, hw3⟩ := hw2
        subst hw3
        have B4 := Lib.hid (below_grow BX.out BX.out.size nq osq)
        clear k1 k2
        go_wp2_with fail
        go_roundw
        case rel => exact ⟨v, k + 1, rfl, by go_num, by omega, B4.out, H1.out⟩
        case measure => simp [intOf]; omega
    · obtain rfl : k = n := by omega
      have H1 := Lib.hid (PP.out.whole HL.out)
      go_wp2_with fail
      go_ret
      exact ⟨_, rfl, H1.out, BW.out⟩
end Go.Proofs.Ytkhcaobmohppnaa.Spc
