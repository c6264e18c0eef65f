/-
  What the library's insertion sort leaves of a piece of a row of whole numbers.
-/
import Derived.Test.YtodnjeahjalinaaStRot
namespace Go.Proofs.Ytodnjeahjalinaa.Stab
open Go.ChangeShapes Go.WideShapes Go.ChangeAt Go.RowKit Words Go.Sort
set_option linter.unusedVariables false
set_option linter.unusedSectionVars false

/-- The piece [a, i) sorted, the rest as it was. -/
def srtd (lt : Int → Int → Bool) (d : List Int) (a i : Nat) : List Int := put d a i (sortT lt (seg d a i))
section
variable {lt : Int → Int → Bool} {d : List Int} {a i : Nat} (hai : a ≤ i) (hi : i ≤ d.length)
include hai hi
theorem srtd_len : (sortT lt (seg d a i)).length = i - a := by rw [sortT_length, seg_length hi]
theorem srtd_length : (srtd lt d a i).length = d.length := put_length hai hi (srtd_len hai hi)
theorem srtd_seg : seg (srtd lt d a i) a i = sortT lt (seg d a i) := seg_put hai hi (srtd_len hai hi)
theorem srtd_out {k : Nat} (hk : k < d.length) (h : k < a ∨ i ≤ k) : nti (srtd lt d a i) k = nti d k := by
  unfold srtd
  rw [nti_put hai hi (srtd_len hai hi) hk]
  by_cases c : k < a
  · rw [if_pos c]
  · rw [if_neg c, if_neg (by omega)]
theorem srtd_in {k : Nat} (h1 : a ≤ k) (h2 : k < i) : ∃ k', a ≤ k' ∧ k' < i ∧ nti (srtd lt d a i) k = nti d k' := by
  have h3 := mem_seg (d := srtd lt d a i) (b := i) (by rw [srtd_length hai hi]; exact hi) h1 h2
  rw [srtd_seg hai hi] at h3
  obtain ⟨k', h4, h5, h6⟩ := seg_mem hi ((sortT_perm lt _).mem_iff.1 h3)
  exact ⟨k', h4, h5, h6⟩
end
section
variable {lt : Int → Int → Bool} (T : Tot lt) {d : List Int} {a i : Nat}
include T
theorem srtd_srt (hai : a ≤ i) (hi : i ≤ d.length) : SrtOn lt (srtd lt d a i) a i := by
  refine on_of_srt (by rw [srtd_length hai hi]; exact hi) ?_
  rw [srtd_seg hai hi]
  exact sortT_srt T _
theorem srtd_next (hai : a ≤ i) (hi : i < d.length) : srtd lt (srtd lt d a i) a (i + 1) = srtd lt d a (i + 1) := by
  have hl := srtd_length (lt := lt) hai (by omega : i ≤ d.length)
  have hs : seg (srtd lt d a i) a (i + 1) = sortT lt (seg d a i) ++ seg d i (i + 1) := by
    rw [← seg_two (m := i) hai (by omega) (by omega), srtd_seg hai (by omega)]
    congr 1
    exact seg_put_hi hai (by omega) (srtd_len hai (by omega)) (Nat.le_refl _) (by omega)
  have hp : sortT lt (seg (srtd lt d a i) a (i + 1)) = sortT lt (seg d a (i + 1)) := by
    refine sortT_of_perm T ?_
    have h2 := seg_two (d := d) (a := a) (m := i) (b := i + 1) hai (by omega) (by omega)
    rw [hs, ← h2]
    exact (sortT_perm lt _).append_right _
  show put (srtd lt d a i) a (i + 1) (sortT lt (seg (srtd lt d a i) a (i + 1))) = _
  rw [hp]
  exact put_wide (Nat.le_refl _) hai (by omega) (by omega) (srtd_len hai (by omega)) (by rw [sortT_length, seg_length (by omega)])
theorem srtd_one (hi : i ≤ d.length) (h : i ≤ a + 1) (hai : a ≤ i) : srtd lt d a i = d := by
  refine half_same T hai hi ?_
  intro p q h1 h2 h3
  omega
end
theorem decide_gt {j a : Nat} (h : a < j) : decide ((j : Int) > (a : Int)) = true := by rw [decide_eq_true_iff]; omega
set_option maxRecDepth 20000 in
set_option maxHeartbeats 4000000 in
theorem insertion13 (f : Nat) (cb : Array Value) (cf : Int → Int → Int) (V : Int → Prop) (lt : Int → Int → Bool) (T : Tot lt) (ef : ∀ args w, (callFunc f args).run Try.prog w = .ok (.enter f args) w)
    (base g n c : Nat) (d : List Int) (a b : Nat) (w : World) (h : OwnI w base (some ⟨g, 0, none⟩) n c d) (hbase : base ≤ w.heap.size) (hc : Cmpr f cb cf V base w) (hn : n ≤ 1000000) (hab : a ≤ b) (hb : b ≤ n)
    (hV : ∀ k, a ≤ k → k < b → V (nti d k)) (hag : ∀ i j, a ≤ i → i < j → j < b → lessOf cf (nti d j) (nti d i) = lt (nti d j) (nti d i)) :
    Calls Try.prog 39 #[.slice (some ⟨g, 0, none⟩) n c, .int .i64 a, .int .i64 b, .func (.func f) #[] cb] w fun e w' => e = .returned (.tuple #[]) ∧ St w base g n c (srtd lt d a b) w' := by
  have mx := mixedO
  have T0 := Lib.hid (St.refl h)
  have hl := h.len
  have HC := Lib.hid hc
  have HV := Lib.hid hV
  have HA := Lib.hid hag
  clear h hc hV hag
  go_enter Try.func39, Try.ntmps39
  go_wp2_with fail
  go_loopw [8] (fun u wr => ∃ i : Nat, u = .int .i64 i ∧ a + 1 ≤ i ∧ (i ≤ b ∨ i = a + 1) ∧ St w base g n c (if i ≤ b then srtd lt d a i else d) wr) (fun u _ => (b - intOf u).toNat)
  case atStart => exact ⟨a + 1, i64_num (by omega), Nat.le_refl _, .inr rfl, by
    split
    · rw [srtd_one T (by omega) (Nat.le_refl _) (by omega)]; exact T0.out
    · exact T0.out⟩
  case round =>
    obtain ⟨i, rfl, hai, hib, ht⟩ := hrel
    by_cases hlt : i < b
    · rw [if_pos (by omega)] at ht
      have hs := srtd_srt T (d := d) (a := a) (i := i) (by omega) (by omega)
      have hls := srtd_length (lt := lt) (d := d) (a := a) (i := i) (by omega) (by omega)
      have hat := srtd_out (lt := lt) (d := d) (a := a) (i := i) (by omega) (by omega) (k := i) (by omega) (.inr (Nat.le_refl _))
      have hin := fun k h1 h2 => srtd_in (lt := lt) (d := d) (a := a) (i := i) (by omega) (by omega) (k := k) h1 h2
      have hnx := srtd_next T (d := d) (a := a) (i := i) (by omega) (by omega)
      have HAG : Hid (∀ k, a ≤ k → k < i → V (nti (srtd lt d a i) k) ∧ lessOf cf (nti (srtd lt d a i) i) (nti (srtd lt d a i) k) = lt (nti (srtd lt d a i) i) (nti (srtd lt d a i) k)) := Lib.hid (fun k h1 h2 => by
        obtain ⟨k', q1, q2, q3⟩ := hin k h1 h2
        rw [q3, hat]
        exact ⟨HV.out k' q1 (by omega), HA.out k' i q1 q2 hlt⟩)
      have HVi : Hid (V (nti (srtd lt d a i) i)) := Lib.hid (by rw [hat]; exact HV.out i (by omega) hlt)
      obtain ⟨dk, hdk⟩ : ∃ dk, dk = srtd lt d a i := ⟨_, rfl⟩
      rw [← hdk] at ht hs hls hnx HAG HVi
      have HS := Lib.hid hs
      have HT := Lib.hid ht
      have HN : Hid (srtd lt dk a (i + 1) = srtd lt d a (i + 1)) := Lib.hid hnx
      have HLS := Lib.hid hls
      clear ht hs hls hat hin hnx hdk
      obtain ⟨x1, rfl⟩ : ∃ x1, x1 = wr := ⟨_, rfl⟩
      go_wp2_with fail
      go_loopw [9] (fun u wr => ∃ j : Nat, u = .int .i64 j ∧ a ≤ j ∧ j ≤ i ∧ (∀ k, j ≤ k → k < i → lt (nti dk i) (nti dk k) = true) ∧ St w base g n c (slideL dk i (i - j)) wr) (fun u _ => (intOf u).toNat)
      case atStart => exact ⟨i, rfl, by omega, Nat.le_refl _, fun k h1 h2 => absurd h2 (by omega), by rw [Nat.sub_self]; exact HT.out⟩
      case round =>
        obtain ⟨j, rfl, haj, hji, hinv, ht⟩ := hrel
        have HI := Lib.hid hinv
        have HT2 := Lib.hid ht
        clear hinv ht
        by_cases hgt : a < j
        · obtain ⟨p, hp⟩ : ∃ p, p = j - 1 := ⟨_, rfl⟩
          have e1 : (j : Int) - 1 = (p : Int) := by omega
          have r1 := wrap_small (q := p) (by omega)
          have hd := decide_gt hgt
          have hgi : (a : Int) < (j : Int) := by omega
          have nj := nti_slideL (d := dk) (m := i) (by have := HLS.out; omega) (i - j) (by omega) j (by have := HLS.out; omega)
          rw [if_neg (by omega), if_pos (by omega)] at nj
          have np := nti_slideL (d := dk) (m := i) (by have := HLS.out; omega) (i - j) (by omega) p (by have := HLS.out; omega)
          rw [if_neg (by omega), if_neg (by omega)] at np
          have c0 := HT2.out.own.cellG (k := j) (by omega)
          have c1 := HT2.out.own.cellG (k := p) (by omega)
          have HSW := Lib.hid (fun (w2 : World) (t : St w base g n c (slideL dk i (i - j)) w2) => OwnI.swF t.own (i := j) (j := p) (by omega) (by omega) (by omega))
          have HTS := Lib.hid (fun (w2 : World) (t : St w base g n c (slideL dk i (i - j)) w2) => (by
            have := t.swp j p
            have e : Go.Proofs.Ytodnjeahjalinaa.Stab.swp (slideL dk i (i - j)) j p = slideL dk i (i - p) := by
              rw [show i - p = (i - j) + 1 by omega]
              show _ = Go.Proofs.Ytodnjeahjalinaa.Stab.swp (slideL dk i (i - j)) (i - (i - j)) (i - (i - j) - 1)
              rw [show i - (i - j) = j by omega, show j - 1 = p by omega]
            rw [e] at this
            exact this : St w base g n c (slideL dk i (i - p)) _))
          rw [nj] at c0 HSW HTS
          rw [np] at c1 HSW HTS
          have hag := (HAG.out p (by omega) (by omega)).2
          have hcc := fun m os => HC.out.at_ (HT2.out.below hbase) (by have := HT2.out.grown.size; omega) HVi.out (HAG.out p (by omega) (by omega)).1 m os
          unfold lessOf at hag
          have HI1 := Lib.hid (fun (hz : lt (nti dk i) (nti dk p) = true) k (h1 : p ≤ k) (h2 : k < i) => (by
            by_cases e : k = p
            · rw [e]; exact hz
            · exact HI.out k (by omega) h2 : lt (nti dk i) (nti dk k) = true))
          have HF1 := Lib.hid (fun (hz : lt (nti dk i) (nti dk p) = false) => insL T (d := dk) (a := a) (m := i) (i := j) (by omega) (by omega) (by have := HLS.out; omega) HS.out (fun k h1 h2 => T.le (on_le T HS.out h1 (by omega : k ≤ p) (by omega)) hz) HI.out)
          generalize nti dk i = y at *
          generalize nti dk p = x at *
          have HCC := Lib.hid hcc
          clear nj np hp
          cases hz : lt y x with
          | true =>
            rw [hz] at hag
            generalize cf y x = r at *
            have HI2 := Lib.hid (HI1.out hz)
            clear hz hcc HF1 HI1
            go_wp2_with fail
            refine wp_region_quiet_grown (by assumption) (by kernel_rfl) ?_
            repeat (go_big_quiet_step (first | (go_at_fn f; refine Calls.grown_of (HCC.out _ _))))
            refine wpQuiet_nil ?_
            intro _ hw2
            obtain ⟨⟨nq, osq⟩, hw3⟩ := hw2
            subst hw3
            have HT3 := Lib.hid (HT2.out.more nq osq)
            have S := HSW.out _ HT3.out
            have HT4 := Lib.hid (HTS.out _ HT3.out)
            clear c0 c1
            generalize grow (wr.drewN nq) osq = w2 at *
            obtain ⟨s0, s1, s2, s3, s4⟩ := S
            go_wp2_with fail
            go_region
            clear s0 s1 s2 s3 s4
            go_wp2_with fail
            go_roundw
            case rel => exact ⟨p, by first | rfl | go_num, by omega, by omega, HI2.out, HT4.out.drew⟩
            case measure => simp [intOf]; omega
          | false =>
            rw [hz] at hag
            generalize cf y x = r at *
            have HF2 := Lib.hid (HF1.out hz)
            clear hz hcc HF1 HI1
            go_wp2_with fail
            refine wp_region_quiet_grown (by assumption) (by kernel_rfl) ?_
            repeat (go_big_quiet_step (first | (go_at_fn f; refine Calls.grown_of (HCC.out _ _))))
            refine wpQuiet_nil ?_
            intro _ hw2
            obtain ⟨⟨nq, osq⟩, hw3⟩ := hw2
            subst hw3
            have HT3 := Lib.hid (HT2.out.more nq osq)
            clear c0 c1
            go_wp2_with fail
            go_roundw
            case rel => exact ⟨i + 1, by go_num, by omega, .inl (by omega), by
              rw [if_pos (by omega), ← HN.out]
              have := HT3.out
              rw [HF2.out] at this
              exact this⟩
            case measure => simp [intOf]; omega
        · obtain rfl : j = a := by omega
          have hd : decide ((j : Int) > (j : Int)) = false := by simp
          have HF2 := Lib.hid (insL T (d := dk) (a := j) (m := i) (i := j) (by omega) (by omega) (by have := HLS.out; omega) HS.out (fun k h1 h2 => absurd h1 (by omega)) HI.out)
          go_wp2_with fail
          refine wp_region_quiet_grown (by assumption) (by kernel_rfl) ?_
          repeat (go_big_quiet_step (fail))
          refine wpQuiet_nil ?_
          intro _ hw2
          obtain ⟨⟨nq, osq⟩, hw3⟩ := hw2
          subst hw3
          have HT3 := Lib.hid (HT2.out.more nq osq)
          go_wp2_with fail
          go_roundw
          case rel => exact ⟨i + 1, by go_num, by omega, .inl (by omega), by
            rw [if_pos (by omega), ← HN.out]
            have := HT3.out
            rw [HF2.out] at this
            exact this⟩
          case measure => simp [intOf]; omega
    · have HT : Hid (St w base g n c (srtd lt d a b) wr) := Lib.hid (by
        by_cases e : i ≤ b
        · rw [if_pos e] at ht
          rwa [show b = i by omega]
        · rw [if_neg e] at ht
          rwa [srtd_one T (by omega) (by omega) hab])
      clear ht
      go_wp2_with fail
      go_end0
      exact ⟨rfl, HT.out⟩
end Go.Proofs.Ytodnjeahjalinaa.Stab
