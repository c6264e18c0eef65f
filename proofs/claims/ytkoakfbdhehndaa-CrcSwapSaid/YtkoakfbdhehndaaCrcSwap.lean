/-
  CrcSwap holds for every input: two unlike neighbours that changed places, anywhere in a sealed text, are seen. No condition.
-/
import Derived.Test.YtkoakfbdhehndaaRows
import Derived.Test.YtkoakfbdhehndaaBoth
import Derived.WalkKit
import Derived.ProofKit
import Derived.OpenShut
import Derived.ShutString
import Derived.ChangeOld
import Derived.Below
import Derived.RegionTactic
import Derived.ChangeAlike
namespace Go.Proofs.Ytkoakfbdhehndaa.crcSwap
open Go.ChangeShapes Go.WideShapes Go.ChangeAt Go.RowKit Words Crc
open Go.ChangeMaps (open_string shut_string)
set_option linter.unusedVariables false

theorem own : ownKnob Try.prog.godebug = none := by kernel_rfl
theorem laidOut : laidOutB Try.prog = true := by kernel_rfl

/-! ### STEP 1: THE WALK: the Go text returns true, AND WRITES NOTHING THAT WAS THERE: 'Below w.heap.size w w'' (Derived/Below.lean: '.refl', '.alloc', '.drew', '.setCell' at a new block, '.trans'). Open each 'IsRow' by 'rcases' AHEAD of 'go_enter'; part every test ahead of the walk. -/
theorem walk (a0 : Option Addr) (len0 cap0 : Nat) (z0 : List Int) (a1 : Int) (w : World) (w0 : IsRow .u8 w a0 len0 cap0 z0) (w1 : (Lit.int .i64 a1).wf = true) :
    Calls Try.prog 8 #[.slice a0 len0 cap0, .int .i64 a1] w fun e w' => e = .returned (.bool true) ∧ Below w.heap.size w w' := by
  obtain ⟨l, hl⟩ := w0.txt
  have hlen := hl.len
  have hm : len0 ≤ 9223372036854775807 := by have := Rd.le hl; have := Rd.max hl; unfold maxLen at this; omega
  have hb1 := bounds_i64 w1
  have HA := Lib.hid (alive w)
  have HT := Lib.hid hl
  clear w0 w1
  by_cases hn : len0 ≤ 4096
  · have hsl := sealed_length l
    have hz := sum_sealed l
    have HAny := Lib.hid (fun x0 (hb0 : Below w.heap.size w x0) => sealAny _ _ _ _ _ _ (Rd.below HT.out hb0 (Nat.le_refl _)) hb0.size hn)
    clear hl
    generalize sealed_ l = X at *
    have HL := Lib.hid hlen
    have HZ := Lib.hid hz
    have hX2 : 2 ≤ X.length := by omega
    have hX3 : X.length ≤ 4098 := by omega
    clear hlen hsl hz
    by_cases hneg : a1 < 0
    · go_enter Try.func8, Try.ntmps8
      go_wp2_with fail
      refine (HA.out).mono ?_; rintro e x0 ⟨rfl, hb0⟩
      have B0 := Lib.hid hb0
      have HX := Lib.hid (HAny.out x0 hb0)
      clear hb0
      go_wp2_with fail
      refine (HX.out).mono ?_; rintro e x1 ⟨A1, c1, rfl, hown1, hb1⟩
      have B1 : Hid (Below w.heap.size w x1) := Lib.hid (B0.out.trans (hb1.mono B0.out.size))
      clear hown1 hb1
      unfold two
      go_wp2_with fail
      go_quiet (fail)
      go_wp2_with fail
      go_ret
      exact ⟨rfl, B1.out.trans (Below.mono (below_drewN x1 nq) B1.out.size)⟩
    · obtain ⟨k, rfl⟩ := Int.eq_ofNat_of_zero_le (show 0 ≤ a1 by omega)
      have hd0 : decide ((k : Int) < 0) = false := by simp
      by_cases hbig : X.length ≤ k + 1
      · have hge : decide ((X.length : Int) - 1 ≤ (k : Int)) = true := by simp; omega
        go_enter Try.func8, Try.ntmps8
        go_wp2_with fail
        refine (HA.out).mono ?_; rintro e x0 ⟨rfl, hb0⟩
        have B0 := Lib.hid hb0
        have HX := Lib.hid (HAny.out x0 hb0)
        clear hb0
        go_wp2_with fail
        refine (HX.out).mono ?_; rintro e x1 ⟨A1, c1, rfl, hown1, hb1⟩
        have B1 : Hid (Below w.heap.size w x1) := Lib.hid (B0.out.trans (hb1.mono B0.out.size))
        clear hown1 hb1
        unfold two
        have hw1 : IntKind.i64.wrap ((X.length : Int) - 1) = (X.length : Int) - 1 := IntWalk.i64_in _ (by omega)
        go_wp2_with fail
        go_quiet (fail)
        go_wp2_with fail
        go_ret
        exact ⟨rfl, B1.out.trans (Below.mono (below_drewN x1 nq) B1.out.size)⟩
      · have hge : decide ((X.length : Int) - 1 ≤ (k : Int)) = false := by simp; omega
        have hk1 : k < X.length := by omega
        have hk2 : k + 1 < X.length := by omega
        obtain ⟨p, hp0⟩ : ∃ p, X[k]? = some p := ⟨_, List.getElem?_eq_getElem hk1⟩
        obtain ⟨q, hq0⟩ : ∃ q, X[k + 1]? = some q := ⟨_, List.getElem?_eq_getElem hk2⟩
        have HP := Lib.hid hp0
        have HQ := Lib.hid hq0
        have HSw := Lib.hid (swap_seen X 65535 k p q (by decide) hp0 hq0)
        have hpl := byte_lt p
        have hql := byte_lt q
        clear hp0 hq0
        by_cases heq : p = q
        · subst heq
          go_enter Try.func8, Try.ntmps8
          go_wp2_with fail
          refine (HA.out).mono ?_; rintro e x0 ⟨rfl, hb0⟩
          have B0 := Lib.hid hb0
          have HX := Lib.hid (HAny.out x0 hb0)
          clear hb0
          go_wp2_with fail
          refine (HX.out).mono ?_; rintro e x1 ⟨A1, c1, he, hown1, hb1⟩
          obtain ⟨g, c1', hv, hg0, _⟩ := own_form_pos hown1 (by omega)
          injection hv with hv1 _ hv3
          subst hv1 hv3
          unfold two at he
          subst he
          have B1 : Hid (Below w.heap.size w x1) := Lib.hid (B0.out.trans (hb1.mono B0.out.size))
          have T1 : Txt x1 x1.heap.size (some ⟨g, 0, none⟩) X.length c1 X := Rd.of_own hown1
          have l1 := T1.cellAt rfl HP.out
          have l2 := T1.cellAt rfl HQ.out
          rw [Nat.zero_add] at l1 l2
          clear hown1 hb1 T1
          have hw1 : IntKind.i64.wrap ((X.length : Int) - 1) = (X.length : Int) - 1 := IntWalk.i64_in _ (by omega)
          have hw2 : IntKind.i64.wrap ((k : Int) + 1) = (k : Int) + 1 := IntWalk.i64_in _ (by omega)
          have hw3 : ((k : Int) + 1).toNat = k + 1 := by omega
          have hw4 : (k : Int) + 1 < (X.length : Int) := by omega
          have hw5 : (0 : Int) ≤ (k : Int) + 1 := by omega
          go_wp2_with fail
          go_quiet (fail)
          go_wp2_with fail
          go_ret
          exact ⟨rfl, B1.out.trans (Below.mono (below_drewN x1 nq) B1.out.size)⟩
        · have hbe : ((p.toNat : Int) == (q.toNat : Int)) = false := by
            rw [beq_eq_false_iff_ne]; intro h; exact heq (UInt8.toNat_inj.1 (by omega))
          have HNe := Lib.hid (HSw.out heq)
          clear heq
          go_enter Try.func8, Try.ntmps8
          go_wp2_with fail
          refine (HA.out).mono ?_; rintro e x0 ⟨rfl, hb0⟩
          have B0 := Lib.hid hb0
          have HX := Lib.hid (HAny.out x0 hb0)
          clear hb0
          go_wp2_with fail
          refine (HX.out).mono ?_; rintro e x1 ⟨A1, c1, he, hown1, hb1⟩
          obtain ⟨g, c1', hv, hg0, _⟩ := own_form_pos hown1 (by omega)
          injection hv with hv1 _ hv3
          subst hv1 hv3
          unfold two at he
          subst he
          have B1 : Hid (Below w.heap.size w x1) := Lib.hid (B0.out.trans (hb1.mono B0.out.size))
          have T1 : Txt x1 x1.heap.size (some ⟨g, 0, none⟩) X.length c1 X := Rd.of_own hown1
          have l1 := T1.cellAt rfl HP.out
          have l2 := T1.cellAt rfl HQ.out
          have f1 := hown1.frozenAt k
          have f2 := hown1.frozenAt (k + 1)
          rw [Nat.zero_add] at l1 l2
          have O1 := Lib.hid hown1
          clear hown1 hb1 T1
          have hw1 : IntKind.i64.wrap ((X.length : Int) - 1) = (X.length : Int) - 1 := IntWalk.i64_in _ (by omega)
          have hw2 : IntKind.i64.wrap ((k : Int) + 1) = (k : Int) + 1 := IntWalk.i64_in _ (by omega)
          have hw3 : ((k : Int) + 1).toNat = k + 1 := by omega
          have hw4 : (k : Int) + 1 < (X.length : Int) := by omega
          have hw5 : (0 : Int) ≤ (k : Int) + 1 := by omega
          go_wp2_with fail
          go_quiet (fail)
          go_wp2_with fail
          go_region
          have O2 : (x1.drewN (nq + 1)).ownsRow x0.heap.size 5 1 (.slice (some ⟨g, 0, none⟩) X.length c1) X.length (bcells X) := O1.out
          have hgw : w.heap.size ≤ g := Nat.le_trans B0.out.size hg0
          obtain ⟨O3, b3⟩ := stored_byte O2 k q hgw
          obtain ⟨O4, b4⟩ := stored_byte O3 (k + 1) p hgw
          have hop := open_bad ((X.set k q).set (k + 1) p) (by simp only [List.length_set]; omega) (by simp only [List.length_set]; omega) (by rw [HZ.out] at HNe; exact HNe.out)
          have HO := Lib.hid (open_any _ _ _ _ _ _ (Rd.of_own O4) (Nat.le_refl _))
          rw [hop] at HO
          have B4 := Lib.hid (((B1.out.trans (Below.mono (below_drewN x1 (nq + 1)) B1.out.size)).trans b3).trans b4)
          clear O2 O3 O4 b3 b4 hop l1 l2 f1 f2 hw1 hw2 hw3 hw4 hw5
          go_wp2_with fail
          refine (HO.out).mono ?_; rintro e x5 ⟨A5, c5, rfl, ht5, hb5⟩
          have B5 := Lib.hid (B4.out.trans (hb5.mono B4.out.size))
          clear ht5 hb5
          unfold two
          go_wp2_with fail
          go_ret
          exact ⟨rfl, B5.out⟩
  · have HAny := Lib.hid (fun x0 (_ : Below w.heap.size w x0) => sealBig a0 len0 cap0 x0 (by omega) hm)
    go_enter Try.func8, Try.ntmps8
    go_wp2_with fail
    refine (HA.out).mono ?_; rintro e x0 ⟨rfl, hb0⟩
    have B0 := Lib.hid hb0
    have HX := Lib.hid (HAny.out x0 hb0)
    clear hb0
    go_wp2_with fail
    refine (HX.out).mono ?_; rintro e x1 ⟨rfl, rfl⟩
    unfold two
    go_wp2_with fail
    go_quiet (fail)
    go_wp2_with fail
    go_ret
    exact ⟨rfl, B0.out.trans (Below.mono (below_drewN x0 nq) B0.out.size)⟩

/-! ### THE ROW's STEP: WRITTEN OUT: LEAVE IT -/
set_option maxRecDepth 100000 in
theorem lifted (os : Os) (started : os.Started) (H : Type) (enc : TypeId × Value → H) :
    ReturnsInHanded {} Try.checked os 8 .any (Rows.crcSwapSpec.pre6 enc Try.prog Try.f8 Rows.crcSwapRow.domain false) (Rows.crcSwapSpec.post enc Try.prog Try.f8 false true false false) := by
  refine returnsInHanded_of_change (C := Try.checked) own started (by kernel_rfl) Try.func8
    (ChangeSpec.witness6 (enc := enc) (C := Try.checked) false ⟨#[], #[.slice none 0 0, .int .i64 0], []⟩ 8 (by kernel_rfl) (by kernel_rfl) (by kernel_rfl) (by kernel_rfl)) ?_
  intro W base args ds gs before hval0 hW hcnd _
  have hval : ∀ (j : Nat) t v, Try.f8.params[j]? = some t → args[j]? = some v → Value.okWide Try.prog W .any base t v := hval0
  have hW' := hW
  obtain ⟨p, q, hA0, hV, rfl, hfz, hnd⟩ := hW
  have hA : DataW.TrodAll enc Try.prog W 0 (fun _ => true) true Try.f8.params.toList args.toList ds p := hA0
  rw [Try.params8] at hA hval
  obtain ⟨v0, vs0, d0, ds0, p0, q0, hargs, rfl, rfl, h0, r0⟩ := trodAll_cons hA
  obtain ⟨v1, vs1, d1, ds1, p1, q1, rfl, rfl, rfl, h1, r1⟩ := trodAll_cons r0
  obtain ⟨rfl, rfl, rfl⟩ := trodAll_nil r1
  obtain rfl : args = #[v0, v1] := by cases args; simp_all
  obtain ⟨rfl, rfl⟩ := trodVars_none hV
  obtain ⟨a0, len0, cap0, rfl⟩ := okWide_slice Try.underlying23 (hval 0 23 v0 rfl rfl)
  have k0 := h0
  have lt0 : ∀ x ∈ p0, x.block < W.heap.size := by obtain ⟨m, hm⟩ := k0; exact DataW.trod_lt m _ _ _ hm
  obtain ⟨z0, w0⟩ : ∃ zs, IsRow .u8 W a0 len0 cap0 zs := by
    obtain ⟨fuel, hf⟩ := h0
    rcases open_ints Try.underlying23 Try.underlying5 (by kernel_rfl) hf with ⟨hcs, _⟩ | ⟨x, l, c, zs, hcs, _, hl, hm, hz, _, hcell, hwz⟩
    · simp [Value.cells] at hcs
      obtain ⟨rfl, rfl, rfl⟩ := hcs
      exact ⟨[], .inl ⟨rfl, rfl, rfl, rfl⟩⟩
    · simp [Value.cells] at hcs
      obtain ⟨rfl, rfl, rfl⟩ := hcs
      exact ⟨zs, .inr ⟨_, rfl, hl, hm, by simpa using hz, hcell, hwz⟩⟩
  obtain ⟨a1, rfl, rfl, rfl, w1⟩ := open_int Try.underlying3 (hval 1 3 v1 rfl rfl) h1
  clear hA0 hval0
  refine (walk a0 len0 cap0 z0 a1 W w0 w1).mono fun e W' ⟨he, bel⟩ => ?_
  subst he
  exact ⟨_, rfl, _, _, _, [], _, [], hW', trodAll_mk1 (shut_bool Try.underlying4 _), (trodAll_cons_mk (Below.trod laidOut (by kernel_rfl) (of_decide_eq_true (by kernel_rfl)) k0 bel lt0) (trodAll_cons_mk (shut_int Try.underlying3 w1) trodAll_mk0)), rfl, bel.frame _, fun h => by cases h⟩

theorem over : Rows.crcSwapRow.holds Try.pinned (OpenSpec.ofChange Rows.crcSwapSpec) :=
  OpenClaim.holds_of_wide 8 Try.f8 rfl rfl rfl rfl rfl rfl rfl ⟨rfl, rfl, rfl, rfl, rfl⟩ rfl rfl rfl rfl rfl (by kernel_rfl) Try.func8 (by kernel_rfl)
    (of_decide_eq_true (by kernel_rfl)) (by unfold Func.isWrapper; first | (rw [if_pos (by decide +kernel)]; kernel_rfl) | (rw [if_neg (by decide +kernel)]; exact ⟨rfl, rfl⟩))
    (fun os started H enc _ => lifted os started H enc)

/-- ████ THE STATEMENT ████ -/
theorem proved : Rows.CrcSwapSaid := over
#print axioms proved
end Go.Proofs.Ytkoakfbdhehndaa.crcSwap
