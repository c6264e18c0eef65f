/-
  Right, and whether the gaps end within the device: the program's own.
-/
import Derived.Test.YtkhcaobmohppnaaDFind
import Derived.Test.YtkhcaobmohppnaaDMath
import Derived.Test.YtkhcaobmohppnaaSCon
namespace Go.Proofs.Ytkhcaobmohppnaa.Spc
open Go.ChangeShapes Go.WideShapes Go.ChangeAt Go.RowKit Words Go.Sort
set_option linter.unusedVariables false

/-- The test of one gap after another: first is where the next may begin. -/
def RP (l : List Gp) (k : Nat) (f : Int) : Prop := 0 ≤ f ∧ f ≤ 4097 ∧ va 4096 l = vF 4096 (f - 1) (l.drop k)
theorem rp_start (l : List Gp) : RP l 0 0 := ⟨by omega, by omega, rfl⟩
theorem rp_no {l : List Gp} {k : Nat} {f : Int} (h : RP l k f) (hk : k < l.length) (hx : (gth l k).a < f ∨ (gth l k).m < 1 ∨ 4096 - (gth l k).a < (gth l k).m) : va 4096 l = false := by
  refine vF_no (gth_get hk) h.2.2 ?_
  rw [← Bool.not_eq_true, okG_yes]
  have := h.1
  omega
theorem rp_go {l : List Gp} {k : Nat} {f : Int} (h : RP l k f) (hk : k < l.length) (h1 : ¬ (gth l k).a < f) (h2 : ¬ (gth l k).m < 1) (h3 : ¬ 4096 - (gth l k).a < (gth l k).m) : RP l (k + 1) ((gth l k).a + (gth l k).m + 1) := by
  have h0 := h.1
  refine ⟨by omega, by omega, ?_⟩
  have := vF_go (gth_get hk) h.2.2 (by rw [okG_yes]; omega)
  rw [this]
  congr 1
  omega
theorem rp_end {l : List Gp} {k : Nat} {f : Int} (h : RP l k f) (hk : l.length ≤ k) : va 4096 l = true := by
  rw [h.2.2, List.drop_eq_nil_of_le hk]; rfl
set_option maxHeartbeats 4000000 in
theorem right12 (B : Nat) (A : Option Addr) (n c : Nat) (l : List Gp) (w : World) (h : Gps w B A n c l) (hwf : WfG l) (hB : B ≤ w.heap.size) :
    Calls Try.prog 12 #[.slice A n c] w fun e w' => e = .returned (.bool (va 4096 l)) ∧ Below w.heap.size w w' := by
  have HN := h.small
  have HL := Lib.hid h.len
  have HWF := Lib.hid hwf
  have H := Lib.hid h
  have b0 : Below w.heap.size w w := Below.refl _ _
  have B0 := Lib.hid b0
  clear h b0 hwf
  go_enter Try.func12, Try.ntmps12
  go_wp2_with fail
  go_loopw [3, 8] (fun fv i wr => ∃ (f : Int) (k : Nat), fv = .int .i64 f ∧ i = .int .i64 k ∧ k ≤ n ∧ Below w.heap.size w wr ∧ RP l k f) (fun _ i _ => (n - intOf i).toNat)
  case atStart => exact ⟨0, 0, rfl, rfl, by omega, B0.out, rp_start l⟩
  case round =>
    obtain ⟨f, k, rfl, rfl, hk, hbel, hp⟩ := hrel
    have BW := Lib.hid hbel
    have PP := Lib.hid hp
    have hf0 := hp.1
    have hf1 := hp.2.1
    clear hbel hp
    by_cases hlt : k < n
    · obtain ⟨g, o, rfl, _, _⟩ := Words.Rd.row H.out (by omega)
      have HK : Hid (k < l.length) := Lib.hid (by rw [HL.out]; exact hlt)
      obtain ⟨c0, c1⟩ := Gps.cells (Words.Rd.below H.out BW.out hB) rfl (gth_get HK.out)
      have NO := Lib.hid (rp_no PP.out HK.out)
      have GO := Lib.hid (rp_go PP.out HK.out)
      have HE := Lib.hid (end31 (gth l k))
      have hxw := HWF.out _ (List.mem_of_getElem? (gth_get HK.out))
      obtain ⟨⟨xa, xm⟩, hx⟩ : ∃ x, x = gth l k := ⟨_, rfl⟩
      rw [← hx] at c0 c1 NO GO HE hxw
      unfold gval at HE
      simp only at c0 c1 NO GO HE hxw
      have BX := Lib.hid (BW.out.alloc BW.out.size (.cells #[.int .i64 xa, .int .i64 xm] 36))
      clear hx
      by_cases h1 : xa < f
      · have HF := Lib.hid (NO.out (.inl h1))
        go_wp2_with fail
        go_ret
        exact ⟨ret_bool HF.out.symm, BX.out⟩
      · by_cases h2 : xm < 1
        · have HF := Lib.hid (NO.out (.inr (.inl h2)))
          go_wp2_with fail
          go_ret
          exact ⟨ret_bool HF.out.symm, BX.out⟩
        · by_cases hbig : 4096 - xa < xm
          · have HF := Lib.hid (NO.out (.inr (.inr hbig)))
            have hw : IntKind.i64.wrap (4096 - xa) = 4096 - xa := by rw [IntKind.wrap_i64]; omega
            go_wp2_with fail
            go_ret
            exact ⟨ret_bool HF.out.symm, BX.out⟩
          · have hw : IntKind.i64.wrap (4096 - xa) = 4096 - xa := by rw [IntKind.wrap_i64]; omega
            have hw2 : IntKind.i64.wrap (xa + xm) = xa + xm := by rw [IntKind.wrap_i64]; omega
            have hw3 : IntKind.i64.wrap (xa + xm + 1) = xa + xm + 1 := by rw [IntKind.wrap_i64]; omega
            have HG := Lib.hid (GO.out h1 h2 hbig)
            have HE2 := Lib.hid (fun w => HE.out w hw2)
            go_wp2_with fail
            refine (HE2.out _).mono ?_; rintro e w3 ⟨rfl, L3⟩
            have B3 := Lib.hid (BX.out.trans (L3.below.mono BX.out.size))
            clear L3
            go_wp2_with fail
            go_roundw
            case rel => exact ⟨xa + xm + 1, k + 1, rfl, by go_num, by omega, B3.out, HG.out⟩
            case measure => simp [intOf]; omega
    · obtain rfl : k = n := by omega
      have HF := Lib.hid (rp_end PP.out (by rw [HL.out]; exact Nat.le_refl _))
      go_wp2_with fail
      go_ret
      exact ⟨ret_bool HF.out.symm, BW.out⟩
/-! ### size, ends -/
theorem size25 (s : Int) (w : World) : Calls Try.prog 25 #[.int .i64 s] w fun e w' => e = .returned (.bool (szOk s)) ∧ w' = w := by
  have HS : Hid (szOk s = (decide (0 ≤ s) && decide (s ≤ 4096))) := Lib.hid rfl
  generalize szOk s = v at *
  by_cases h1 : 0 ≤ s
  · by_cases h2 : s ≤ 4096
    · have HV : Hid (v = true) := Lib.hid (by rw [HS.out]; simp [h1, h2])
      go_enter Try.func25, Try.ntmps25
      go_wp2_with fail
      go_ret
      exact ⟨ret_bool HV.out.symm, rfl⟩
    · have HV : Hid (v = false) := Lib.hid (by rw [HS.out]; simp [h1, h2])
      go_enter Try.func25, Try.ntmps25
      go_wp2_with fail
      go_ret
      exact ⟨ret_bool HV.out.symm, rfl⟩
  · have HV : Hid (v = false) := Lib.hid (by rw [HS.out]; simp [h1])
    go_enter Try.func25, Try.ntmps25
    go_wp2_with fail
    go_ret
    exact ⟨ret_bool HV.out.symm, rfl⟩
/-- A list that is valid fits the device if its last gap ends within it. -/
theorem ch_within {s : Int} : ∀ {l : List Gp} {last : Int}, Ch 4096 last l → (∀ k, k + 1 = l.length → (gth l k).a + (gth l k).m ≤ s) → Ch s last l
  | [], _, _, _ => trivial
  | [g], last, h, hl => ⟨⟨h.1.1, h.1.2.1, by have := hl 0 rfl; exact this⟩, trivial⟩
  | g :: g2 :: l, last, h, hl => by
    have ih : Ch s (g.a + g.m) (g2 :: l) := ch_within h.2 (fun k hk => by
      have := hl (k + 1) (by simp at hk ⊢; omega)
      exact this)
    have h2 := ih.1
    exact ⟨⟨h.1.1, h.1.2.1, by have := h2.1; have := h2.2.1; have := h2.2.2; omega⟩, ih⟩
theorem within_ok {s : Int} {l : List Gp} (h0 : szOk s = true) (h1 : va 4096 l = true) (h2 : ∀ k, k + 1 = l.length → (gth l k).a + (gth l k).m ≤ s) : okRow s l = true := by
  unfold szOk at h0
  simp at h0
  exact ok_of_ch h0.1 h0.2 (ch_within (va_ch.1 h1) h2)
theorem within_no {s : Int} {l : List Gp} {k : Nat} (hk : k < l.length) (h2 : s < (gth l k).a + (gth l k).m) : okRow s l = false := by
  rw [← Bool.not_eq_true]
  intro h
  have := (ok_ch h).2.2.each _ (List.mem_of_getElem? (gth_get hk))
  omega
theorem size_no {s : Int} {l : List Gp} (h : szOk s = false) : okRow s l = false := by
  unfold szOk at h
  unfold okRow
  rw [h]; rfl
theorem valid_no {s : Int} {l : List Gp} (h : va 4096 l = false) : okRow s l = false := by
  rw [← Bool.not_eq_true]
  intro h2
  rw [va_of h2] at h
  cases h
set_option maxHeartbeats 1000000 in
theorem ends26 (B : Nat) (A : Option Addr) (n c : Nat) (l : List Gp) (s : Int) (w : World) (h : Gps w B A n c l) (hB : B ≤ w.heap.size) (h0 : szOk s = true) (h1 : va 4096 l = true) :
    Calls Try.prog 26 #[.int .i64 s, .slice A n c] w fun e w' => e = .returned (.bool (okRow s l)) ∧ Below w.heap.size w w' := by
  have HN := h.small
  have hll := h.len
  rcases Nat.eq_zero_or_pos n with hn0 | hn0
  · have HV : Hid (okRow s l = true) := Lib.hid (within_ok h0 h1 (fun k hk => by omega))
    clear h0 h1 h
    subst hn0
    go_enter Try.func26, Try.ntmps26
    go_wp2_with fail
    go_ret
    exact ⟨ret_bool HV.out.symm, Below.refl _ _⟩
  · obtain ⟨k, hk⟩ : ∃ k, n = k + 1 := ⟨n - 1, by omega⟩
    obtain ⟨g, o, rfl, _, _⟩ := Words.Rd.row h (by omega)
    obtain ⟨c0, c1⟩ := Gps.cells h rfl (gth_get (by omega : k < l.length))
    have hch := (va_ch.1 h1).each _ (List.mem_of_getElem? (gth_get (by omega : k < l.length)))
    have HE := Lib.hid (fun w => end31 (gth l k) w (by rw [IntKind.wrap_i64]; omega))
    have HY := Lib.hid (fun (hx : (gth l k).a + (gth l k).m ≤ s) => within_ok h0 h1 (fun j hj => by
      obtain rfl : j = k := by omega
      exact hx))
    have HX := Lib.hid (fun (hx : s < (gth l k).a + (gth l k).m) => within_no (s := s) (by omega : k < l.length) hx)
    obtain ⟨⟨xa, xm⟩, hx⟩ : ∃ x, x = gth l k := ⟨_, rfl⟩
    rw [← hx] at c0 c1 HE HY HX
    unfold gval at HE
    simp only at c0 c1 HE HY HX
    have hkw : IntKind.i64.wrap ((n : Int) - 1) = (k : Int) := by rw [IntKind.wrap_i64]; omega
    have hn1 : ((n : Int) == 0) = false := by rw [beq_eq_false_iff_ne]; omega
    have hkn : k < n := by omega
    clear hx hch h0 h1 h hk hn0
    go_enter Try.func26, Try.ntmps26
    go_wp2_with fail
    refine (HE.out _).mono ?_; rintro e w3 ⟨rfl, L3⟩
    have B3 := Lib.hid L3.below
    clear L3
    by_cases hxs : xa + xm ≤ s
    · have HV := Lib.hid (HY.out hxs)
      go_wp2_with fail
      go_ret
      exact ⟨ret_bool HV.out.symm, B3.out⟩
    · have HV := Lib.hid (HX.out (by omega))
      go_wp2_with fail
      go_ret
      exact ⟨ret_bool (by rw [HV.out]; exact decide_eq_false (by omega)), B3.out⟩
end Go.Proofs.Ytkhcaobmohppnaa.Spc
