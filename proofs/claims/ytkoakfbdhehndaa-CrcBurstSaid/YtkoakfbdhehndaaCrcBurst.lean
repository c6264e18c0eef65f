/-
  CrcBurst holds for every input: bits turned within sixteen that follow one another, anywhere in a sealed text, are seen. No condition.
-/
import Derived.Test.YtkoakfbdhehndaaRows
import Derived.Test.YtkoakfbdhehndaaBoth
import Derived.WalkKit
import Derived.ProofKit
import Derived.OpenShut
import Derived.ShutString
import Derived.ChangeOld
import Derived.Below
import Derived.RegionTactic
import Derived.ChangeAlike
namespace Go.Proofs.Ytkoakfbdhehndaa.crcBurst
open Go.ChangeShapes Go.WideShapes Go.ChangeAt Go.RowKit Words Crc
open Go.ChangeMaps (open_string shut_string)
set_option linter.unusedVariables false

theorem own : ownKnob Try.prog.godebug = none := by kernel_rfl
theorem laidOut : laidOutB Try.prog = true := by kernel_rfl

/-! ### STEP 1: THE WALK: the Go text returns true, AND WRITES NOTHING THAT WAS THERE: 'Below w.heap.size w w'' (Derived/Below.lean: '.refl', '.alloc', '.drew', '.setCell' at a new block, '.trans'). Open each 'IsRow' by 'rcases' AHEAD of 'go_enter'; part every test ahead of the walk. -/
theorem walk (a0 : Option Addr) (len0 cap0 : Nat) (z0 : List Int) (a1 : Int) (a2 : Int) (w : World) (w0 : IsRow .u8 w a0 len0 cap0 z0) (w1 : (Lit.int .i64 a1).wf = true) (w2 : (Lit.int .u16 a2).wf = true) :
    Calls Try.prog 4 #[.slice a0 len0 cap0, .int .i64 a1, .int .u16 a2] w fun e w' => e = .returned (.bool true) ∧ Below w.heap.size w w' := by
  obtain ⟨l, hl⟩ := w0.txt
  obtain ⟨h2, h2'⟩ := bounds_u16 w2
  obtain ⟨z, rfl⟩ := Int.eq_ofNat_of_zero_le h2
  have hzb : z < 65536 := by omega
  have hlen := hl.len
  have hm : len0 ≤ 9223372036854775807 := by have := Rd.le hl; have := Rd.max hl; unfold maxLen at this; omega
  have hb1 := bounds_i64 w1
  have HA := Lib.hid (alive w)
  have HT := Lib.hid hl
  clear w0 w1 w2 h2 h2'
  by_cases hn : len0 ≤ 4096
  · have hsl := sealed_length l
    have hz := sum_sealed l
    have HAny := Lib.hid (fun x0 (hb0 : Below w.heap.size w x0) => sealAny _ _ _ _ _ _ (Rd.below HT.out hb0 (Nat.le_refl _)) hb0.size hn)
    clear hl
    generalize sealed_ l = X at *
    have HL := Lib.hid hlen
    have HZ := Lib.hid hz
    have hX2 : 2 ≤ X.length := by omega
    have hX3 : X.length ≤ 4098 := by omega
    clear hlen hsl hz
    by_cases hbad : z = 0 ∨ a1 < 0 ∨ 8 * (X.length : Int) - 16 < a1
    · have hbb : ((((z : Int) == 0) || decide (a1 < 0)) || decide (8 * (X.length : Int) - 16 < a1)) = true := by simp; omega
      have HBB := Lib.hid hbb
      clear hbb hbad
      go_enter Try.func4, Try.ntmps4
      go_wp2_with fail
      refine (HA.out).mono ?_; rintro e x0 ⟨rfl, hb0⟩
      have B0 := Lib.hid hb0
      have HX := Lib.hid (HAny.out x0 hb0)
      clear hb0
      go_wp2_with fail
      refine (HX.out).mono ?_; rintro e x1 ⟨A1, c1, rfl, hown1, hb1⟩
      have B1 : Hid (Below w.heap.size w x1) := Lib.hid (B0.out.trans (hb1.mono B0.out.size))
      clear hown1 hb1
      unfold two
      go_wp2_with fail
      all_goals first
        | (go_ret; exact ⟨rfl, B1.out⟩)
        | (exfalso; have h := HBB.out; simp at h; omega)
    · obtain ⟨a, rfl⟩ := Int.eq_ofNat_of_zero_le (show 0 ≤ a1 by omega)
      have ha : a + 16 ≤ 8 * X.length := by omega
      have hz0 : 0 < z := by omega
      have hbb : ((((z : Int) == 0) || decide ((a : Int) < 0)) || decide (8 * (X.length : Int) - 16 < (a : Int))) = false := by simp; omega
      clear hbad
      go_enter Try.func4, Try.ntmps4
      go_wp2_with fail
      refine (HA.out).mono ?_; rintro e x0 ⟨rfl, hb0⟩
      have B0 := Lib.hid hb0
      have HX := Lib.hid (HAny.out x0 hb0)
      clear hb0
      go_wp2_with fail
      refine (HX.out).mono ?_; rintro e x1 ⟨A1, c1, he, hown1, hb1⟩
      obtain ⟨g, c1', hv, hg0, _⟩ := own_form_pos hown1 (by omega)
      injection hv with hv1 _ hv3
      subst hv1 hv3
      unfold two at he
      subst he
      have B1 : Hid (Below w.heap.size w x1) := Lib.hid (B0.out.trans (hb1.mono B0.out.size))
      have O1 := Lib.hid hown1
      have hgw : w.heap.size ≤ g := Nat.le_trans B0.out.size hg0
      clear hown1 hb1
      go_wp2_with fail
      go_loopw [44] (fun i wr => ∃ (k : Nat) (Y : List UInt8), k ≤ 16 ∧ i = .int .i64 k ∧ wr.ownsRow x0.heap.size 5 1 (.slice (some ⟨g, 0, none⟩) X.length c1) X.length (bcells Y) ∧ Y.length = X.length ∧ sum 65535 Y = Lk (8 * X.length - a) (Crc.part z k) ∧ Below w.heap.size w wr) (fun i _ => (16 - intOf i).toNat)
      case atStart => exact ⟨0, X, by omega, rfl, O1.out, rfl, by rw [part_zero z hzb, Lk_zero]; exact HZ.out, B1.out⟩
      case round =>
        obtain ⟨k, Y, hk, rfl, hown, hYl, hsum, hbel⟩ := hrel
        have O := Lib.hid hown
        have HY := Lib.hid hYl
        have HS := Lib.hid hsum
        have BW := Lib.hid hbel
        clear hown hYl hsum hbel
        by_cases hlt : k < 16
        · have HBit := Lib.hid (bit_of z k hzb)
          by_cases hbit : z.testBit (15 - k) = true
          · have hbt : (bits BinOp.and IntKind.u16 ((z : Int) / 2 ^ (15 - k)) 1 == 1) = true := by rw [HBit.out]; exact hbit
            have hq : (a + k) / 8 < Y.length := by rw [HY.out]; omega
            obtain ⟨y, hy0⟩ : ∃ y, Y[(a + k) / 8]? = some y := ⟨_, List.getElem?_eq_getElem hq⟩
            have T1 : Txt _ _ (some ⟨g, 0, none⟩) X.length c1 Y := Rd.of_own O.out
            have l1 := T1.cellAt rfl hy0
            have f1 := O.out.frozenAt ((a + k) / 8)
            rw [Nat.zero_add] at l1
            clear T1
            go_wp2_with fail
            have s1 : IntKind.i64.wrap ((a : Int) + (k : Int)) = ((a + k : Nat) : Int) := by rw [IntWalk.i64_in _ (by omega)]; omega
            have s2 : ((a + k : Nat) : Int).tdiv 8 = (((a + k) / 8 : Nat) : Int) := by rw [Int.tdiv_eq_ediv_of_nonneg (by omega)]; omega
            have s3 : IntKind.i64.wrap (((a + k) / 8 : Nat) : Int) = (((a + k) / 8 : Nat) : Int) := IntWalk.i64_in _ (by omega)
            have s4 : ((a + k : Nat) : Int).tmod 8 = (((a + k) % 8 : Nat) : Int) := by rw [Int.tmod_eq_emod_of_nonneg (by omega)]; omega
            have s5 : (((a + k) / 8 : Nat) : Int) < (X.length : Int) := by omega
            have s6 : (0 : Int) ≤ (((a + k) % 8 : Nat) : Int) := by omega
            go_region
            obtain ⟨d, hd1, hd2⟩ := turned_byte y ((a + k) % 8) (Nat.mod_lt _ (by decide))
            obtain ⟨O2, b2⟩ := stored_byte O.out ((a + k) / 8) d hgw
            have hs := sum_turn Y 65535 ((a + k) / 8) ((a + k) % 8) y (by decide) hy0 (Nat.mod_lt _ (by decide)) d hd1
            rw [HY.out, show 8 * ((a + k) / 8) + (a + k) % 8 = a + k by omega, HS.out, burst_step X.length a k z hzb hlt ha hbit] at hs
            rw [hd2]
            have HS2 := Lib.hid hs
            have O3 := Lib.hid O2
            have B3 := Lib.hid b2
            clear hs O2 b2 hd2 hd1 l1 f1 s1 s2 s3 s4 s5 s6 hy0
            go_wp2_with fail
            go_roundw
            case rel => exact ⟨k + 1, Y.set ((a + k) / 8) d, by omega, by go_num, O3.out, by rw [List.length_set, HY.out], HS2.out, (BW.out.trans B3.out).drew⟩
            case measure => simp [intOf]; omega
          · have hbt : (bits BinOp.and IntKind.u16 ((z : Int) / 2 ^ (15 - k)) 1 == 1) = false := by rw [HBit.out]; simpa using hbit
            have HP : Hid (Crc.part z (k + 1) = Crc.part z k) := Lib.hid (by rw [part_step z k hlt, if_neg hbit])
            go_wp2_with fail
            go_roundw
            case rel => exact ⟨k + 1, Y, by omega, by go_num, O.out, HY.out, by rw [HP.out]; exact HS.out, BW.out⟩
            case measure => simp [intOf]; omega
        · obtain rfl : k = 16 := by omega
          have hop := open_bad Y (by rw [HY.out]; omega) (by rw [HY.out]; omega) (by rw [HS.out]; exact burst_seen _ _ z hzb hz0)
          have HO := Lib.hid (open_any _ _ _ _ _ _ (Rd.of_own O.out) (Nat.le_refl _))
          rw [hop] at HO
          clear hop
          go_wp2_with fail
          refine (HO.out).mono ?_; rintro e x5 ⟨A5, c5, rfl, ht5, hb5⟩
          have B5 := Lib.hid (BW.out.trans (hb5.mono BW.out.size))
          clear ht5 hb5
          unfold two
          go_wp2_with fail
          go_ret
          exact ⟨rfl, B5.out⟩
  · have HAny := Lib.hid (fun x0 (_ : Below w.heap.size w x0) => sealBig a0 len0 cap0 x0 (by omega) hm)
    go_enter Try.func4, Try.ntmps4
    go_wp2_with fail
    refine (HA.out).mono ?_; rintro e x0 ⟨rfl, hb0⟩
    have B0 := Lib.hid hb0
    have HX := Lib.hid (HAny.out x0 hb0)
    clear hb0
    go_wp2_with fail
    refine (HX.out).mono ?_; rintro e x1 ⟨rfl, rfl⟩
    unfold two
    go_wp2_with fail
    go_ret
    exact ⟨rfl, B0.out⟩

/-! ### THE ROW's STEP: WRITTEN OUT: LEAVE IT -/
set_option maxRecDepth 100000 in
theorem lifted (os : Os) (started : os.Started) (H : Type) (enc : TypeId × Value → H) :
    ReturnsInHanded {} Try.checked os 4 .any (Rows.crcBurstSpec.pre6 enc Try.prog Try.f4 Rows.crcBurstRow.domain false) (Rows.crcBurstSpec.post enc Try.prog Try.f4 false true false false) := by
  refine returnsInHanded_of_change (C := Try.checked) own started (by kernel_rfl) Try.func4
    (ChangeSpec.witness6 (enc := enc) (C := Try.checked) false ⟨#[], #[.slice none 0 0, .int .i64 0, .int .u16 0], []⟩ 8 (by kernel_rfl) (by kernel_rfl) (by kernel_rfl) (by kernel_rfl)) ?_
  intro W base args ds gs before hval0 hW hcnd _
  have hval : ∀ (j : Nat) t v, Try.f4.params[j]? = some t → args[j]? = some v → Value.okWide Try.prog W .any base t v := hval0
  have hW' := hW
  obtain ⟨p, q, hA0, hV, rfl, hfz, hnd⟩ := hW
  have hA : DataW.TrodAll enc Try.prog W 0 (fun _ => true) true Try.f4.params.toList args.toList ds p := hA0
  rw [Try.params4] at hA hval
  obtain ⟨v0, vs0, d0, ds0, p0, q0, hargs, rfl, rfl, h0, r0⟩ := trodAll_cons hA
  obtain ⟨v1, vs1, d1, ds1, p1, q1, rfl, rfl, rfl, h1, r1⟩ := trodAll_cons r0
  obtain ⟨v2, vs2, d2, ds2, p2, q2, rfl, rfl, rfl, h2, r2⟩ := trodAll_cons r1
  obtain ⟨rfl, rfl, rfl⟩ := trodAll_nil r2
  obtain rfl : args = #[v0, v1, v2] := by cases args; simp_all
  obtain ⟨rfl, rfl⟩ := trodVars_none hV
  obtain ⟨a0, len0, cap0, rfl⟩ := okWide_slice Try.underlying23 (hval 0 23 v0 rfl rfl)
  have k0 := h0
  have lt0 : ∀ x ∈ p0, x.block < W.heap.size := by obtain ⟨m, hm⟩ := k0; exact DataW.trod_lt m _ _ _ hm
  obtain ⟨z0, w0⟩ : ∃ zs, IsRow .u8 W a0 len0 cap0 zs := by
    obtain ⟨fuel, hf⟩ := h0
    rcases open_ints Try.underlying23 Try.underlying5 (by kernel_rfl) hf with ⟨hcs, _⟩ | ⟨x, l, c, zs, hcs, _, hl, hm, hz, _, hcell, hwz⟩
    · simp [Value.cells] at hcs
      obtain ⟨rfl, rfl, rfl⟩ := hcs
      exact ⟨[], .inl ⟨rfl, rfl, rfl, rfl⟩⟩
    · simp [Value.cells] at hcs
      obtain ⟨rfl, rfl, rfl⟩ := hcs
      exact ⟨zs, .inr ⟨_, rfl, hl, hm, by simpa using hz, hcell, hwz⟩⟩
  obtain ⟨a1, rfl, rfl, rfl, w1⟩ := open_int Try.underlying3 (hval 1 3 v1 rfl rfl) h1
  obtain ⟨a2, rfl, rfl, rfl, w2⟩ := open_int Try.underlying22 (hval 2 22 v2 rfl rfl) h2
  clear hA0 hval0
  refine (walk a0 len0 cap0 z0 a1 a2 W w0 w1 w2).mono fun e W' ⟨he, bel⟩ => ?_
  subst he
  exact ⟨_, rfl, _, _, _, [], _, [], hW', trodAll_mk1 (shut_bool Try.underlying4 _), (trodAll_cons_mk (Below.trod laidOut (by kernel_rfl) (of_decide_eq_true (by kernel_rfl)) k0 bel lt0) (trodAll_cons_mk (shut_int Try.underlying3 w1) (trodAll_cons_mk (shut_int Try.underlying22 w2) trodAll_mk0))), rfl, bel.frame _, fun h => by cases h⟩

theorem over : Rows.crcBurstRow.holds Try.pinned (OpenSpec.ofChange Rows.crcBurstSpec) :=
  OpenClaim.holds_of_wide 4 Try.f4 rfl rfl rfl rfl rfl rfl rfl ⟨rfl, rfl, rfl, rfl, rfl⟩ rfl rfl rfl rfl rfl (by kernel_rfl) Try.func4 (by kernel_rfl)
    (of_decide_eq_true (by kernel_rfl)) (by unfold Func.isWrapper; first | (rw [if_pos (by decide +kernel)]; kernel_rfl) | (rw [if_neg (by decide +kernel)]; exact ⟨rfl, rfl⟩))
    (fun os started H enc _ => lifted os started H enc)

/-- ████ THE STATEMENT ████ -/
theorem proved : Rows.CrcBurstSaid := over
#print axioms proved
end Go.Proofs.Ytkoakfbdhehndaa.crcBurst
