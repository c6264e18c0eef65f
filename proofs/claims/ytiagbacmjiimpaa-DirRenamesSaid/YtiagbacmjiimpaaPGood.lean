/-
  Whether a name is good, a list valid: the program's own.
-/
import Derived.Test.YtiagbacmjiimpaaERight
import Derived.Lib.Bytealg
import Derived.Laws.Externs
namespace Go.Proofs.Ytiagbacmjiimpaa.Dir
open Go.ChangeShapes Go.WideShapes Go.ChangeAt Go.RowKit Words Go.Sort
set_option linter.unusedVariables false

theorem lite32 (s : ByteArray) (c : Int) (w : World) :
    Calls Try.prog 32 #[.string s, .int .u8 c] w fun e w' => e = .returned (.int .i64 (Lib.indexByte s.data.toList c.toNat.toUInt8)) ∧ w' = w := by
  go_enter Try.func32, Try.ntmps32
  go_wp2
  rw [run_callFunc_extern Try.func33 (by kernel_rfl) (by kernel_rfl) (by kernel_rfl) (e := Extern.BytealgIndexByte.indexByte) (by kernel_rfl), Lib.run_indexByteString]
  simp only [Result.andThen]
  rw [Oper.upon_value]
  go_wp2
  go_ret
  exact ⟨rfl, rfl⟩
theorem index26 (nm : List UInt8) (c : Int) (w : World) :
    Calls Try.prog 26 #[.string (str nm), .int .u8 c] w fun e w' => e = .returned (.int .i64 (Lib.indexByte nm c.toNat.toUInt8)) ∧ w' = w := by
  have H := lite32 (str nm) c w
  have hd : (str nm).data.toList = nm := by show nm.toArray.toList = nm; simp
  rw [hd] at H
  have H := Lib.hid H
  clear hd
  go_enter Try.func26, Try.ntmps26
  go_wp2_with fail
  refine (H.out).mono ?_; rintro e w' ⟨rfl, rfl⟩
  go_wp2_with fail
  go_ret
  exact ⟨rfl, rfl⟩
theorem ib_neg (c : UInt8) : ∀ l : List UInt8, decide (Lib.indexByte l c < 0) = l.all (· != c)
  | [] => rfl
  | b :: l => by
    have ih := ib_neg c l
    have hg := Lib.indexByte_ge l c
    unfold Lib.indexByte
    rw [List.all_cons]
    cases hb : (b == c) with
    | true => rw [bne, hb]; rfl
    | false =>
      rw [bne, hb, ← ih]
      simp only [Bool.false_eq_true, if_false, Bool.not_false, Bool.true_and]
      by_cases h : Lib.indexByte l c = -1
      · rw [h]; rfl
      · rw [if_neg (by simpa using h), decide_eq_false (by omega), decide_eq_false (by omega)]
theorem okB_all (l : List UInt8) : l.all okB = (l.all (· != 47) && l.all (· != 0)) := by
  induction l with
  | nil => rfl
  | cons b l ih =>
    rw [List.all_cons, List.all_cons, List.all_cons, ih]
    unfold okB
    cases (b != 0) <;> cases (b != 47) <;> simp
set_option maxHeartbeats 2000000 in
theorem good12 (nm : List UInt8) (w : World) (hl : nm.length ≤ maxLen) : Calls Try.prog 12 #[.string (str nm)] w fun e w' => e = .returned (.bool (good nm)) ∧ w' = w := by
  have hl2 : nm.length ≤ 9223372036854775807 := by unfold maxLen at hl; exact hl
  have hsz := str_size nm
  have hst := str_list nm
  have e1 : (str [46]).toList = [46] := str_list _
  have e2 : (str [46, 46]).toList = [46, 46] := str_list _
  have HG : Hid (g0 nm = (decide (1 ≤ nm.length) && decide (nm.length ≤ 12) && !(nm == [46]) && !(nm == [46, 46]))) := Lib.hid rfl
  have HGI := Lib.hid (good_is nm)
  have NG : Hid (g0 nm = false → good nm = false) := Lib.hid (fun h => by rw [good_is, h]; rfl)
  have I1 := Lib.hid (index26 nm 47 w)
  have I0 := Lib.hid (index26 nm 0 w)
  have J1 := ib_neg 47 nm
  have J0 := ib_neg 0 nm
  have HA := Lib.hid (okB_all nm)
  rw [show (47 : Int).toNat.toUInt8 = (47 : UInt8) by rfl] at I1
  rw [show (0 : Int).toNat.toUInt8 = (0 : UInt8) by rfl] at I0
  generalize Lib.indexByte nm 47 = i1 at *
  generalize Lib.indexByte nm 0 = i0 at *
  replace J1 := Lib.hid J1
  replace J0 := Lib.hid J0
  clear hl
  go_enter Try.func12, Try.ntmps12
  by_cases t1 : 1 ≤ nm.length
  · by_cases t2 : nm.length ≤ 12
    · by_cases t3 : nm = [46]
      · have HV : Hid (good nm = false) := Lib.hid (NG.out (by rw [t3]; rfl))
        have t3' : (nm == [46]) = true := by rw [beq_iff_eq]; exact t3
        clear t3
        go_wp2_with fail
        go_ret
        exact ⟨ret_bool HV.out.symm, rfl⟩
      · by_cases t4 : nm = [46, 46]
        · have HV : Hid (good nm = false) := Lib.hid (NG.out (by rw [t4]; rfl))
          have t3' : (nm == [46]) = false := by rw [beq_eq_false_iff_ne]; exact t3
          have t4' : (nm == [46, 46]) = true := by rw [beq_iff_eq]; exact t4
          clear t4 t3
          go_wp2_with fail
          go_ret
          exact ⟨ret_bool HV.out.symm, rfl⟩
        · have t3' : (nm == [46]) = false := by rw [beq_eq_false_iff_ne]; exact t3
          have t4' : (nm == [46, 46]) = false := by rw [beq_eq_false_iff_ne]; exact t4
          have HV : Hid (good nm = (decide (i1 < 0) && decide (i0 < 0))) := Lib.hid (by rw [HGI.out, HG.out, t3', t4', HA.out, J1.out, J0.out]; simp [t1, t2])
          clear t4 t3
          cases q1 : decide (i1 < 0) with
          | false =>
            rw [q1] at HV
            go_wp2_with fail
            refine (I1.out).mono ?_; rintro e w' ⟨rfl, rfl⟩
            go_wp2_with fail
            go_ret
            exact ⟨ret_bool HV.out.symm, rfl⟩
          | true =>
            rw [q1] at HV
            cases q0 : decide (i0 < 0) with
            | false =>
              rw [q0] at HV
              go_wp2_with fail
              refine (I1.out).mono ?_; rintro e w' ⟨rfl, rfl⟩
              go_wp2_with fail
              refine (I0.out).mono ?_; rintro e w' ⟨rfl, rfl⟩
              go_wp2_with fail
              go_ret
              exact ⟨ret_bool HV.out.symm, rfl⟩
            | true =>
              rw [q0] at HV
              go_wp2_with fail
              refine (I1.out).mono ?_; rintro e w' ⟨rfl, rfl⟩
              go_wp2_with fail
              refine (I0.out).mono ?_; rintro e w' ⟨rfl, rfl⟩
              go_wp2_with fail
              go_ret
              exact ⟨ret_bool HV.out.symm, rfl⟩
    · have HV : Hid (good nm = false) := Lib.hid (NG.out (by rw [HG.out]; simp [t2]))
      go_wp2_with fail
      go_ret
      exact ⟨ret_bool HV.out.symm, rfl⟩
  · have HV : Hid (good nm = false) := Lib.hid (NG.out (by rw [HG.out]; simp [t1]))
    go_wp2_with fail
    go_ret
    exact ⟨ret_bool HV.out.symm, rfl⟩
set_option maxHeartbeats 4000000 in
theorem right14 (B : Nat) (A : Option Addr) (n c : Nat) (l : List En) (w : World) (h : Ens w B A n c l) (hwf : WfE l) (hB : B ≤ w.heap.size) :
    Calls Try.prog 14 #[.slice A n c] w fun e w' => e = .returned (.bool (rt l)) ∧ Below w.heap.size w w' := by
  have HN := h.small
  have HL := Lib.hid h.len
  have H := Lib.hid h
  have HWF := Lib.hid hwf
  have B0 := Lib.hid (Below.refl w.heap.size w)
  clear h hwf
  go_enter Try.func14, Try.ntmps14
  go_wp2_with fail
  go_loopw [7] (fun i wr => ∃ (last : List UInt8) (k : Nat), i = .int .i64 k ∧ k ≤ n ∧ Below w.heap.size w wr ∧ rt l = rtF last (l.drop k) ∧ (k = 0 → last = []) ∧ (0 < k → last = (eth l (k - 1)).n)) (fun i _ => (n - intOf i).toNat)
  case atStart => exact ⟨[], 0, rfl, by omega, B0.out, rfl, fun _ => rfl, fun h => absurd h (by omega)⟩
  case round =>
    obtain ⟨last, k, rfl, hk, hbel, hrt, hl0, hl1⟩ := hrel
    have BW := Lib.hid hbel
    have RT := Lib.hid hrt
    have L1 := Lib.hid hl1
    have L0 := Lib.hid hl0
    clear hbel hrt hl1 hl0
    by_cases hlt : k < n
    · obtain ⟨g, o, rfl, hgB, _⟩ := Words.Rd.row H.out (by omega)
      have HK : Hid (k < l.length) := Lib.hid (by rw [HL.out]; exact hlt)
      obtain ⟨c0, c1⟩ := Ens.cells (Words.Rd.below H.out BW.out hB) rfl (eth_get HK.out)
      have NO := Lib.hid (rtF_no (eth_get HK.out) RT.out)
      have GO := Lib.hid (rtF_go (eth_get HK.out) RT.out)
      have NX : Hid ((eth l (k + 1 - 1)).n = (eth l k).n) := Lib.hid rfl
      have HO := good12 (eth l k).n
      have hw := HWF.out _ (List.mem_of_getElem? (eth_get HK.out))
      obtain ⟨⟨xn, xi⟩, hx⟩ : ∃ x, x = eth l k := ⟨_, rfl⟩
      rw [← hx] at c0 c1 NO GO HO hw NX
      simp only at c0 c1 NO GO HO hw NX
      obtain ⟨wb, hwb⟩ : ∃ wb, wr.alloc (.cells #[.string (str xn), .int .i64 xi] 24) = wb := ⟨_, rfl⟩
      have hg : Whole wb wr.heap.size 24 #[.string (str xn), .int .i64 xi] := by rw [← hwb]; exact Whole.new wr 24 _
      have HG := Lib.hid hg
      have q0 := hg.cell 0
      simp at q0
      have HO := Lib.hid (fun j => Calls.quiet_of_same (HO (wb.drewN j) hw))
      have BX : Hid (Below w.heap.size w wb) := Lib.hid (by rw [← hwb]; exact BW.out.alloc BW.out.size _)
      have LE := bl_leq xn last
      have sx := str_list xn
      have sl := str_list last
      have RD := Lib.hid (Words.Rd.below H.out BX.out hB)
      clear hx hw hg
      cases hgd : good xn with
      | false =>
        have HF := Lib.hid (NO.out (by rw [hgd]; rfl))
        rw [hgd] at HO
        clear hgd LE
        go_wp2_with fail
        go_quiet ((go_at_call 12; exact HO.out _))
        go_wp2_with fail
        go_ret
        exact ⟨ret_bool HF.out.symm, below_drewN BX.out _⟩
      | true =>
        rw [hgd] at HO
        rcases Nat.eq_zero_or_pos k with rfl | hk0
        · obtain rfl := L0.out rfl
          rw [Nat.zero_mul, Nat.add_zero] at c0 c1
          have HF := Lib.hid (GO.out (by rw [hgd, good_pos hgd]; rfl))
          clear hgd LE
          go_wp2_with fail
          go_quiet ((go_at_call 12; exact HO.out _))
          go_wp2_with fail
          go_roundw
          case rel => exact ⟨xn, 1, by go_num, by omega, below_drewN BX.out _, HF.out, fun h => absurd h (by omega), fun _ => NX.out.symm⟩
          case measure => simp [intOf]; omega
        · have hll := L1.out hk0
          obtain ⟨p, hp⟩ : ∃ p, p + 1 = k := ⟨k - 1, by omega⟩
          have HP : Hid (p < l.length) := Lib.hid (by have := HK.out; omega)
          obtain ⟨d0, d1⟩ := Ens.cells RD.out rfl (eth_get HP.out)
          rw [← hp, Nat.add_sub_cancel] at hll
          rw [← hll] at d0
          have hki : (k : Int) - 1 = (p : Int) := by omega
          have hkw : IntKind.i64.wrap (p : Int) = (p : Int) := by rw [IntKind.wrap_i64]; omega
          have hpn : p < n := by omega
          cases hbl : bl last xn with
          | false =>
            have HF := Lib.hid (NO.out (by rw [hgd, hbl]; rfl))
            rw [hbl] at LE
            clear hgd hbl hll hp
            go_wp2_with fail
            go_quiet ((go_at_call 12; exact HO.out _))
            go_wp2_with fail
            go_ret
            exact ⟨ret_bool HF.out.symm, below_drewN BX.out _⟩
          | true =>
            have HF := Lib.hid (GO.out (by rw [hgd, hbl]; rfl))
            rw [hbl] at LE
            clear hgd hbl hll hp
            go_wp2_with fail
            go_quiet ((go_at_call 12; exact HO.out _))
            go_wp2_with fail
            go_roundw
            case rel => exact ⟨xn, k + 1, by go_num, by omega, below_drewN BX.out _, HF.out, fun h => absurd h (by omega), fun _ => NX.out.symm⟩
            case measure => simp [intOf]; omega
    · obtain rfl : k = n := by omega
      have HF : Hid (rt l = true) := Lib.hid (by rw [RT.out, List.drop_eq_nil_of_le (by rw [HL.out]; exact Nat.le_refl _)]; rfl)
      go_wp2_with fail
      go_ret
      exact ⟨ret_bool HF.out.symm, BW.out⟩
end Go.Proofs.Ytiagbacmjiimpaa.Dir
