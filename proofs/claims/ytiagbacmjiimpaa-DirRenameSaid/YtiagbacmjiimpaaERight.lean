/-
  Whether a list is valid; where a name is; a list made anew: the document's own.
-/
import Derived.Test.YtiagbacmjiimpaaEGood
namespace Go.Proofs.Ytiagbacmjiimpaa.Dir
open Go.ChangeShapes Go.WideShapes Go.ChangeAt Go.RowKit Words Go.Sort
set_option linter.unusedVariables false

/-- The names fit a string. -/
def WfE (l : List En) : Prop := ∀ e ∈ l, e.n.length ≤ maxLen
theorem rtF_no {l : List En} {k : Nat} {last : List UInt8} {e : En} (he : l[k]? = some e) (h : rt l = rtF last (l.drop k)) (ho : (good e.n && bl last e.n) = false) : rt l = false := by
  rw [h, drop_next he]; unfold rtF; rw [ho]; rfl
theorem rtF_go {l : List En} {k : Nat} {last : List UInt8} {e : En} (he : l[k]? = some e) (h : rt l = rtF last (l.drop k)) (ho : (good e.n && bl last e.n) = true) : rt l = rtF e.n (l.drop (k + 1)) := by
  rw [h, drop_next he]
  conv => lhs; unfold rtF
  rw [ho]; rfl
theorem bl_leq (a b : List UInt8) : (Op.bytesLess a b || a == b) = !bl b a := by
  rw [Bool.eq_iff_iff, Bool.or_eq_true, Bool.not_eq_true', beq_iff_eq]
  constructor
  · rintro (h | rfl)
    · exact bl_asymm h
    · exact bl_irr a
  · intro h
    cases h2 : bl a b with
    | true => exact .inl h2
    | false => exact .inr (bl_tri h2 h)
set_option maxHeartbeats 4000000 in
theorem oright15 (B : Nat) (A : Option Addr) (n c : Nat) (l : List En) (w : World) (h : Ens w B A n c l) (hwf : WfE l) (hB : B ≤ w.heap.size) :
    Calls Try.prog 15 #[.slice A n c] w fun e w' => e = .returned (.bool (rt l)) ∧ Below w.heap.size w w' := by
  have HN := h.small
  have HL := Lib.hid h.len
  have H := Lib.hid h
  have HWF := Lib.hid hwf
  have b0 : Below w.heap.size w w := Below.refl _ _
  have B0 := Lib.hid b0
  clear h b0 hwf
  go_enter Try.func15, Try.ntmps15
  go_wp2_with fail
  go_loopw [3, 8] (fun s i wr => ∃ (last : List UInt8) (k : Nat), s = .string (str last) ∧ i = .int .i64 k ∧ k ≤ n ∧ Below w.heap.size w wr ∧ rt l = rtF last (l.drop k)) (fun _ i _ => (n - intOf i).toNat)
  case atStart => exact ⟨[], 0, rfl, rfl, by omega, B0.out, rfl⟩
  case round =>
    obtain ⟨last, k, rfl, rfl, hk, hbel, hrt⟩ := hrel
    have BW := Lib.hid hbel
    have RT := Lib.hid hrt
    clear hbel hrt
    by_cases hlt : k < n
    · obtain ⟨g, o, rfl, _, _⟩ := Words.Rd.row H.out (by omega)
      have HK : Hid (k < l.length) := Lib.hid (by rw [HL.out]; exact hlt)
      obtain ⟨c0, c1⟩ := Ens.cells (Words.Rd.below H.out BW.out hB) rfl (eth_get HK.out)
      have NO := Lib.hid (rtF_no (eth_get HK.out) RT.out)
      have GO := Lib.hid (rtF_go (eth_get HK.out) RT.out)
      have HO := ogood13 (eth l k).n
      have hw := HWF.out _ (List.mem_of_getElem? (eth_get HK.out))
      obtain ⟨⟨xn, xi⟩, hx⟩ : ∃ x, x = eth l k := ⟨_, rfl⟩
      rw [← hx] at c0 c1 NO GO HO hw
      simp only at c0 c1 NO GO HO hw
      have HO := Lib.hid (fun w => HO w hw)
      obtain ⟨wb, hwb⟩ : ∃ wb, wr.alloc (.cells #[.string (str xn), .int .i64 xi] 24) = wb := ⟨_, rfl⟩
      have BX : Hid (Below w.heap.size w wb) := Lib.hid (by rw [← hwb]; exact BW.out.alloc BW.out.size _)
      have hg : Whole wb wr.heap.size 24 #[.string (str xn), .int .i64 xi] := by rw [← hwb]; exact Whole.new wr 24 _
      have HG := Lib.hid hg
      have q0 := hg.cell 0
      simp at q0
      have LE := bl_leq xn last
      have sx := str_list xn
      have sl := str_list last
      clear hx hw hg
      go_wp2_with fail
      refine (HO.out wb).mono ?_; rintro e w3 ⟨rfl, b3⟩
      have q1 := (whole_below2 HG.out b3).cell 0
      simp at q1
      have B3 := Lib.hid (BX.out.trans (b3.mono BX.out.size))
      clear b3
      cases hgd : good xn with
      | false =>
        have HF := Lib.hid (NO.out (by rw [hgd]; rfl))
        clear hgd
        go_wp2_with fail
        go_ret
        exact ⟨ret_bool HF.out.symm, B3.out⟩
      | true =>
        cases hbl : bl last xn with
        | false =>
          have HF := Lib.hid (NO.out (by rw [hgd, hbl]; rfl))
          rw [hbl] at LE
          clear hgd hbl
          go_wp2_with fail
          go_ret
          exact ⟨ret_bool HF.out.symm, B3.out⟩
        | true =>
          have HF := Lib.hid (GO.out (by rw [hgd, hbl]; rfl))
          rw [hbl] at LE
          clear hgd hbl
          go_wp2_with fail
          go_roundw
          case rel => exact ⟨xn, k + 1, rfl, by go_num, by omega, B3.out, HF.out⟩
          case measure => simp [intOf]; omega
    · obtain rfl : k = n := by omega
      have HF : Hid (rt l = true) := Lib.hid (by rw [RT.out, List.drop_eq_nil_of_le (by rw [HL.out]; exact Nat.le_refl _)]; rfl)
      go_wp2_with fail
      go_ret
      exact ⟨ret_bool HF.out.symm, BW.out⟩
end Go.Proofs.Ytiagbacmjiimpaa.Dir
