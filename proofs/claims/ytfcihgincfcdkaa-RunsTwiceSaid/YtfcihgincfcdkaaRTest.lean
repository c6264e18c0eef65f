/-
  Right: the program's own test of a list of runs.
-/
import Derived.Test.YtfcihgincfcdkaaREnd
import Derived.Test.YtfcihgincfcdkaaRRight
namespace Go.Proofs.Ytfcihgincfcdkaa.Rns
open Go.ChangeShapes Go.WideShapes Go.ChangeAt Go.RowKit Words Go.Sort
set_option linter.unusedVariables false

def RP (l : List Rn) (k : Nat) : Prop := k = 0 ∨ ∃ p, k = p + 1 ∧ okR (nth l p) = true ∧ rt l = rtF ((nth l p).a + (nth l p).m) ((nth l p).d + (nth l p).m) (l.drop k)
theorem stp_first {r : Rn} : stp (-1) 0 r = okR r := by
  rw [Bool.eq_iff_iff, stp_yes, okR_yes]; omega
theorem rp_bad {l : List Rn} {k : Nat} (hk : k < l.length) (h : RP l k) (ho : okR (nth l k) = false) : rt l = false := by
  rcases h with rfl | ⟨p, rfl, _, h⟩
  · exact rt_no (e := -1) (d := 0) (nth_get hk) rfl (by rw [stp_first, ho])
  · exact rt_no (nth_get hk) h (by unfold stp; rw [ho]; rfl)
theorem rp_zero {l : List Rn} (hk : 0 < l.length) (ho : okR (nth l 0) = true) : RP l 1 := .inr ⟨0, rfl, ho, rt_go (e := -1) (d := 0) (nth_get hk) rfl (by rw [stp_first, ho])⟩
theorem rp_low {l : List Rn} {p : Nat} (hk : p + 1 < l.length) (h : RP l (p + 1)) (hs : (nth l (p + 1)).a < (nth l p).a + (nth l p).m) : rt l = false := by
  rcases h with h | ⟨q, hq, _, h⟩
  · omega
  · obtain rfl : q = p := by omega
    exact rt_no (nth_get hk) h (by rw [← Bool.not_eq_true, stp_yes]; omega)
theorem rp_cont {l : List Rn} {p : Nat} (hk : p + 1 < l.length) (h : RP l (p + 1)) (hs : cont (nth l p) (nth l (p + 1)) = true) : rt l = false := by
  rcases h with h | ⟨q, hq, _, h⟩
  · omega
  · obtain rfl : q = p := by omega
    obtain ⟨h1, h2⟩ := cont_yes.1 hs
    exact rt_no (nth_get hk) h (by rw [← Bool.not_eq_true, stp_yes]; omega)
theorem rp_next {l : List Rn} {p : Nat} (hk : p + 1 < l.length) (h : RP l (p + 1)) (ho : okR (nth l (p + 1)) = true) (hs : ¬ (nth l (p + 1)).a < (nth l p).a + (nth l p).m) (hc : cont (nth l p) (nth l (p + 1)) = false) : RP l (p + 1 + 1) := by
  rcases h with h | ⟨q, hq, _, h⟩
  · omega
  · obtain rfl : q = p := by omega
    refine .inr ⟨q + 1, rfl, ho, rt_go (nth_get hk) h ?_⟩
    have h1 : ¬ ((nth l q).a + (nth l q).m = (nth l (q + 1)).a ∧ (nth l q).d + (nth l q).m = (nth l (q + 1)).d) := by rw [← cont_yes, hc]; simp
    have h2 := okR_yes.1 ho
    rw [stp_yes]
    omega
theorem rp_ok {l : List Rn} {p : Nat} (h : RP l (p + 1)) : okR (nth l p) = true := by
  rcases h with h | ⟨q, hq, h, _⟩
  · omega
  · obtain rfl : q = p := by omega
    exact h
theorem rp_end {l : List Rn} (h : RP l l.length) : rt l = true := by
  rcases h with h | ⟨q, hq, _, h⟩
  · rw [List.length_eq_zero_iff] at h; subst h; rfl
  · rw [h, List.drop_eq_nil_of_le (Nat.le_refl _)]; rfl
set_option maxHeartbeats 4000000 in
theorem right11 (B : Nat) (A : Option Addr) (n c : Nat) (l : List Rn) (w : World) (h : Rns w B A n c l) (hB : B ≤ w.heap.size) :
    Calls Try.prog 11 #[.slice A n c] w fun e w' => e = .returned (.bool (rt l)) ∧ Below w.heap.size w w' := by
  have mx := mixedO
  have HN := h.small
  have HL := Lib.hid h.len
  have H := Lib.hid h
  have b0 : Below w.heap.size w w := Below.refl _ _
  have B0 := Lib.hid b0
  clear h b0
  go_enter Try.func11, Try.ntmps11
  go_wp2_with fail
  go_loopw [7] (fun i wr => ∃ (k : Nat), i = .int .i64 k ∧ k ≤ n ∧ Below w.heap.size w wr ∧ RP l k) (fun i _ => (n - intOf i).toNat)
  case atStart => exact ⟨0, rfl, by omega, B0.out, .inl rfl⟩
  case round =>
    obtain ⟨k, rfl, hk, hbel, hrt⟩ := hrel
    have BW := Lib.hid hbel
    have RT := Lib.hid hrt
    clear hbel hrt
    by_cases hlt : k < n
    · obtain ⟨g, o, rfl, _, _⟩ := Words.Rd.row H.out (by omega)
      have HKL : Hid (k < l.length) := Lib.hid (by rw [HL.out]; exact hlt)
      obtain ⟨c0, c1, c2⟩ := Rns.cells (Words.Rd.below H.out BW.out hB) rfl (nth_get HKL.out)
      have HLIM := Lib.hid (limits20 (nth l k))
      obtain ⟨wb, hwb⟩ : ∃ wb, wr.alloc (.cells (rcells (nth l k)).toArray 34) = wb := ⟨_, rfl⟩
      have hg : Whole wb wr.heap.size 34 (rcells (nth l k)).toArray := by rw [← hwb]; exact Whole.new wr 34 _
      have BX : Hid (Below w.heap.size w wb) := Lib.hid (by rw [← hwb]; exact BW.out.alloc BW.out.size _)
      obtain ⟨x, hx⟩ : ∃ x, x = nth l k := ⟨_, rfl⟩
      have HX := Lib.hid hx
      rw [← hx] at c0 c1 c2 HLIM hwb hg
      clear hx
      obtain ⟨xa, xd, xm⟩ := x
      simp only at c0 c1 c2
      have HWB : Hid (wr.alloc (.cells #[.int .i64 xa, .int .i64 xd, .int .i64 xm] 34) = wb) := Lib.hid hwb
      have HG := Lib.hid hg
      unfold rval at HLIM
      simp only at HLIM
      clear hwb hg
      cases ho : okR ⟨xa, xd, xm⟩ with
      | false =>
        rw [ho] at HLIM
        have HF : Hid (rt l = false) := Lib.hid (rp_bad HKL.out RT.out (by rw [← HX.out]; exact ho))
        clear ho
        go_wp2_with fail
        rw [HWB.out]
        have g0 := Whole.cell HG.out 0
        have g1 := Whole.cell HG.out 1
        have g2 := Whole.cell HG.out 2
        simp [rcells] at g0 g1 g2
        go_wp2_with fail
        refine (HLIM.out _).mono ?_; rintro e w3 ⟨rfl, L3⟩
        have B3 := Lib.hid (BX.out.trans (L3.below.mono BX.out.size))
        clear L3
        go_wp2_with fail
        go_ret
        exact ⟨ret_bool HF.out.symm, B3.out⟩
      | true =>
        rw [ho] at HLIM
        have HO := Lib.hid ho
        clear ho
        go_wp2_with fail
        rw [HWB.out]
        have g0 := Whole.cell HG.out 0
        have g1 := Whole.cell HG.out 1
        have g2 := Whole.cell HG.out 2
        simp [rcells] at g0 g1 g2
        go_wp2_with fail
        refine (HLIM.out _).mono ?_; rintro e w3 ⟨rfl, L3⟩
        have B3 := Lib.hid (BX.out.trans (L3.below.mono BX.out.size))
        obtain ⟨x0, x1, x2⟩ := boxG (whole_below2 HG.out L3.below)
        simp only at x0 x1 x2
        clear L3 c0 c1 c2 g0 g1 g2
        rcases Nat.eq_zero_or_pos k with h0 | h0
        · subst h0
          have RN := Lib.hid (rp_zero HKL.out (by rw [← HX.out]; exact HO.out))
          go_wp2_with fail
          refine wp_region_quiet_grown (by assumption) (by kernel_rfl) ?_
          repeat (go_big_quiet_step (fail))
          refine wpQuiet_nil ?_
          intro _ hw2
          obtain ⟨⟨nq, osq⟩, hw3⟩ := hw2
          subst hw3
          have B4 := Lib.hid (below_grow B3.out B3.out.size nq osq)
          clear x0 x1 x2
          go_wp2_with fail
          go_roundw
          case rel => exact ⟨1, by go_num, by omega, B4.out, RN.out⟩
          case measure => simp [intOf]; omega
        · obtain ⟨p, hp⟩ : ∃ p, k = p + 1 := ⟨k - 1, by omega⟩
          have HP := Lib.hid hp
          have hwp : IntKind.i64.wrap ((k : Int) - 1) = (p : Int) := by rw [IntKind.wrap_i64]; omega
          have hpn : p < n := by omega
          have HPL : Hid (p < l.length) := Lib.hid (by rw [HL.out]; exact hpn)
          have hk0 : decide ((0 : Int) < (k : Int)) = true := by rw [decide_eq_true_iff]; omega
          obtain ⟨y0, y1, y2⟩ := Rns.cellsG (Words.Rd.below H.out B3.out hB) (Nat.le_trans hB B3.out.size) rfl (nth_get HPL.out)
          have hob := rp_ok (l := l) (p := p) (by rw [← hp]; exact RT.out)
          obtain ⟨o1, o2, o3, o4, o5, o6⟩ := okR_yes.1 hob
          have hw1 : IntKind.i64.wrap ((nth l p).a + (nth l p).m) = (nth l p).a + (nth l p).m := by rw [IntKind.wrap_i64]; omega
          have hw2 : IntKind.i64.wrap ((nth l p).d + (nth l p).m) = (nth l p).d + (nth l p).m := by rw [IntKind.wrap_i64]; omega
          have HE := Lib.hid (fun w => end19 (nth l p) w hw1)
          have HC := Lib.hid (fun w => cont21 (nth l p) ⟨xa, xd, xm⟩ w hw1 hw2)
          have LO := Lib.hid (fun h1 h2 => rp_low (l := l) (p := p) h1 h2)
          have CO := Lib.hid (fun h1 h2 => rp_cont (l := l) (p := p) h1 h2)
          have NX := Lib.hid (fun h1 h2 => rp_next (l := l) (p := p) h1 h2)
          have HX' : Hid ((⟨xa, xd, xm⟩ : Rn) = nth l (p + 1)) := Lib.hid (by rw [← hp]; exact HX.out)
          rw [← HX'.out] at LO CO NX
          obtain ⟨y, hy⟩ : ∃ y, y = nth l p := ⟨_, rfl⟩
          rw [← hy] at y0 y1 y2 HE HC LO CO NX
          have HK1 : Hid (p + 1 < l.length) := Lib.hid (by rw [← hp]; exact HKL.out)
          have RT1 : Hid (RP l (p + 1)) := Lib.hid (by rw [← hp]; exact RT.out)
          clear hob o1 o2 o3 o4 o5 o6 hw1 hw2 hp hy
          obtain ⟨ya, yd, ym⟩ := y
          simp only at y0 y1 y2
          unfold rval at HE HC
          simp only at HE HC LO NX
          by_cases hs : xa < ya + ym
          · have hs1 : decide (xa < ya + ym) = true := by rw [decide_eq_true_iff]; exact hs
            have HF := Lib.hid (LO.out HK1.out RT1.out hs)
            clear hs LO CO NX
            go_wp2_with fail
            refine wp_region_quiet_grown (by assumption) (by kernel_rfl) ?_
            repeat (go_big_quiet_step (first | (go_at_call 19; exact Calls.grown_of (HE.out _)) | (go_at_call 21; exact Calls.grown_of (HC.out _))))
            refine wpQuiet_nil ?_
            intro _ hw2
            obtain ⟨⟨nq, osq⟩, hw3⟩ := hw2
            subst hw3
            have B4 := Lib.hid (below_grow B3.out B3.out.size nq osq)
            clear x0 x1 x2 y0 y1 y2
            go_wp2_with fail
            go_ret
            exact ⟨ret_bool HF.out.symm, B4.out⟩
          · have hs1 : decide (xa < ya + ym) = false := by rw [decide_eq_false_iff_not]; exact hs
            cases hc : cont ⟨ya, yd, ym⟩ ⟨xa, xd, xm⟩ with
            | true =>
              rw [hc] at HC
              have HF := Lib.hid (CO.out HK1.out RT1.out hc)
              clear hs hc LO CO NX
              go_wp2_with fail
              refine wp_region_quiet_grown (by assumption) (by kernel_rfl) ?_
              repeat (go_big_quiet_step (first | (go_at_call 19; exact Calls.grown_of (HE.out _)) | (go_at_call 21; exact Calls.grown_of (HC.out _))))
              refine wpQuiet_nil ?_
              intro _ hw2
              obtain ⟨⟨nq, osq⟩, hw3⟩ := hw2
              subst hw3
              have B4 := Lib.hid (below_grow B3.out B3.out.size nq osq)
              clear x0 x1 x2 y0 y1 y2
              go_wp2_with fail
              go_ret
              exact ⟨ret_bool HF.out.symm, B4.out⟩
            | false =>
              rw [hc] at HC
              have RN := Lib.hid (NX.out HK1.out RT1.out HO.out hs hc)
              clear hs hc LO CO NX
              go_wp2_with fail
              refine wp_region_quiet_grown (by assumption) (by kernel_rfl) ?_
              repeat (go_big_quiet_step (first | (go_at_call 19; exact Calls.grown_of (HE.out _)) | (go_at_call 21; exact Calls.grown_of (HC.out _))))
              refine wpQuiet_nil ?_
              intro _ hw2
              obtain ⟨⟨nq, osq⟩, hw3⟩ := hw2
              subst hw3
              have B4 := Lib.hid (below_grow B3.out B3.out.size nq osq)
              clear x0 x1 x2 y0 y1 y2
              go_wp2_with fail
              go_roundw
              case rel => exact ⟨k + 1, by go_num, by omega, B4.out, by rw [HP.out]; exact RN.out⟩
              case measure => simp [intOf]; omega
    · obtain rfl : k = n := by omega
      have HM : Hid (rt l = true) := Lib.hid (rp_end (by rw [HL.out]; exact RT.out))
      go_wp2_with fail
      go_ret
      exact ⟨ret_bool HM.out.symm, BW.out⟩
end Go.Proofs.Ytfcihgincfcdkaa.Rns
