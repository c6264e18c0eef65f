/-
  CrcTells holds for every input: Sum, Seal and Open answer what the document's own answer gives. No condition.
-/
import Derived.Test.YtkoakfbdhehndaaRows
import Derived.Test.YtkoakfbdhehndaaBoth
import Derived.WalkKit
import Derived.ProofKit
import Derived.OpenShut
import Derived.ShutString
import Derived.ChangeOld
import Derived.Below
namespace Go.Proofs.Ytkoakfbdhehndaa.crcTells
open Go.ChangeShapes Go.WideShapes Go.ChangeAt Go.RowKit Words Crc
open Go.ChangeMaps (open_string shut_string)
set_option linter.unusedVariables false

theorem own : ownKnob Try.prog.godebug = none := by kernel_rfl
theorem laidOut : laidOutB Try.prog = true := by kernel_rfl

/-! ### STEP 1: THE WALK: the Go text returns true, AND WRITES NOTHING THAT WAS THERE: 'Below w.heap.size w w'' (Derived/Below.lean: '.refl', '.alloc', '.drew', '.setCell' at a new block, '.trans'). Open each 'IsRow' by 'rcases' AHEAD of 'go_enter'; part every test ahead of the walk. -/
theorem walk (a0 : Int) (a1 : Option Addr) (len1 cap1 : Nat) (z1 : List Int) (w : World) (w0 : (Lit.int .u16 a0).wf = true) (w1 : IsRow .u8 w a1 len1 cap1 z1) :
    Calls Try.prog 3 #[.int .u16 a0, .slice a1 len1 cap1] w fun e w' => e = .returned (.bool true) ∧ Below w.heap.size w w' := by
  obtain ⟨h0, h0'⟩ := bounds_u16 w0
  obtain ⟨s, rfl⟩ := Int.eq_ofNat_of_zero_le h0
  obtain ⟨l, hl⟩ := w1.txt
  have hs : s < 65536 := by omega
  have HT := Lib.hid hl
  have HA := Lib.hid (seal_any _ _ _ _ _ _ hl (Nat.le_refl _))
  clear w0 w1 h0' hl
  generalize hsr : sealR l = rs at *
  have HSR := Lib.hid hsr
  clear hsr
  go_enter Try.func3, Try.ntmps3
  go_wp2_with fail
  refine (HA.out).mono ?_; rintro e x1 ⟨A1, c1, rfl, ht1, hb1⟩
  have T1 := Lib.hid ht1
  have B1 := Lib.hid hb1
  have HX := Lib.hid (refSeal_any _ _ _ _ _ _ (Rd.below HT.out hb1 (Nat.le_refl _)))
  rw [HSR.out] at HX
  clear ht1 hb1
  unfold two
  go_wp2_with fail
  refine (HX.out).mono ?_; rintro e x2 ⟨A2, c2, rfl, ht2, hb2⟩
  have T2 := Lib.hid ht2
  have B2 : Hid (Below w.heap.size w x2) := Lib.hid (B1.out.trans (hb2.mono B1.out.size))
  have T1 : Hid (Txt x2 x1.heap.size A1 rs.1.length c1 rs.1) := Lib.hid (Rd.below T1.out hb2 (Nat.le_refl _))
  have S2 := Lib.hid hb2.size
  have HY := Lib.hid (open_any _ _ _ _ _ _ (Rd.below HT.out B2.out (Nat.le_refl _)) B2.out.size)
  generalize hor : openR l = ro at *
  have HOR := Lib.hid hor
  clear ht2 hb2 hor
  unfold two
  go_wp2_with fail
  refine (HY.out).mono ?_; rintro e x3 ⟨A3, c3, rfl, ht3, hb3⟩
  have T3 := Lib.hid ht3
  have T2 : Hid (Txt x3 x2.heap.size A2 rs.1.length c2 rs.1) := Lib.hid (Rd.below T2.out hb3 (Nat.le_refl _))
  have T1 : Hid (Txt x3 x1.heap.size A1 rs.1.length c1 rs.1) := Lib.hid (Rd.below T1.out hb3 S2.out)
  have B3 : Hid (Below w.heap.size w x3) := Lib.hid (B2.out.trans (hb3.mono B2.out.size))
  have S3 := Lib.hid hb3.size
  have HZ := Lib.hid (refOpen_any _ _ _ _ _ _ (Rd.below HT.out B3.out (Nat.le_refl _)) B3.out.size)
  rw [HOR.out] at HZ
  clear ht3 hb3
  unfold two
  go_wp2_with fail
  refine (HZ.out).mono ?_; rintro e x4 ⟨A4, c4, rfl, ht4, hb4⟩
  have B4 : Hid (Below w.heap.size w x4) := Lib.hid (B3.out.trans (hb4.mono B3.out.size))
  have q1 := run_string x4 23 9 5 Try.underlying23 Try.underlying5 Try.underlying9 (Rd.below T1.out hb4 (Nat.le_trans S2.out S3.out))
  have q2 := run_string x4 23 9 5 Try.underlying23 Try.underlying5 Try.underlying9 (Rd.below T2.out hb4 S3.out)
  have q3 := run_string x4 23 9 5 Try.underlying23 Try.underlying5 Try.underlying9 (Rd.below T3.out hb4 (Nat.le_refl _))
  have q4 := run_string x4 23 9 5 Try.underlying23 Try.underlying5 Try.underlying9 ht4
  have HS1 := Lib.hid (sumOf s hs _ _ _ _ _ _ (Rd.below HT.out B4.out (Nat.le_refl _)))
  have HS2 := Lib.hid (refSum s hs _ _ _ _ _ _ (Rd.below HT.out B4.out (Nat.le_refl _)))
  clear ht4 hb4
  unfold two
  go_wp2_with fail
  refine (HS1.out).mono ?_; rintro e w' ⟨rfl, rfl⟩
  go_wp2_with fail
  refine (HS2.out).mono ?_; rintro e w' ⟨rfl, rfl⟩
  go_wp2_with fail
  go_ret
  exact ⟨rfl, B4.out⟩

/-! ### THE ROW's STEP: WRITTEN OUT: LEAVE IT -/
set_option maxRecDepth 100000 in
theorem lifted (os : Os) (started : os.Started) (H : Type) (enc : TypeId × Value → H) :
    ReturnsInHanded {} Try.checked os 3 .any (Rows.crcTellsSpec.pre6 enc Try.prog Try.f3 Rows.crcTellsRow.domain false) (Rows.crcTellsSpec.post enc Try.prog Try.f3 false true false false) := by
  refine returnsInHanded_of_change (C := Try.checked) own started (by kernel_rfl) Try.func3
    (ChangeSpec.witness6 (enc := enc) (C := Try.checked) false ⟨#[], #[.int .u16 0, .slice none 0 0], []⟩ 8 (by kernel_rfl) (by kernel_rfl) (by kernel_rfl) (by kernel_rfl)) ?_
  intro W base args ds gs before hval0 hW hcnd _
  have hval : ∀ (j : Nat) t v, Try.f3.params[j]? = some t → args[j]? = some v → Value.okWide Try.prog W .any base t v := hval0
  have hW' := hW
  obtain ⟨p, q, hA0, hV, rfl, hfz, hnd⟩ := hW
  have hA : DataW.TrodAll enc Try.prog W 0 (fun _ => true) true Try.f3.params.toList args.toList ds p := hA0
  rw [Try.params3] at hA hval
  obtain ⟨v0, vs0, d0, ds0, p0, q0, hargs, rfl, rfl, h0, r0⟩ := trodAll_cons hA
  obtain ⟨v1, vs1, d1, ds1, p1, q1, rfl, rfl, rfl, h1, r1⟩ := trodAll_cons r0
  obtain ⟨rfl, rfl, rfl⟩ := trodAll_nil r1
  obtain rfl : args = #[v0, v1] := by cases args; simp_all
  obtain ⟨rfl, rfl⟩ := trodVars_none hV
  obtain ⟨a0, rfl, rfl, rfl, w0⟩ := open_int Try.underlying22 (hval 0 22 v0 rfl rfl) h0
  obtain ⟨a1, len1, cap1, rfl⟩ := okWide_slice Try.underlying23 (hval 1 23 v1 rfl rfl)
  have k1 := h1
  have lt1 : ∀ x ∈ p1, x.block < W.heap.size := by obtain ⟨m, hm⟩ := k1; exact DataW.trod_lt m _ _ _ hm
  obtain ⟨z1, w1⟩ : ∃ zs, IsRow .u8 W a1 len1 cap1 zs := by
    obtain ⟨fuel, hf⟩ := h1
    rcases open_ints Try.underlying23 Try.underlying5 (by kernel_rfl) hf with ⟨hcs, _⟩ | ⟨x, l, c, zs, hcs, _, hl, hm, hz, _, hcell, hwz⟩
    · simp [Value.cells] at hcs
      obtain ⟨rfl, rfl, rfl⟩ := hcs
      exact ⟨[], .inl ⟨rfl, rfl, rfl, rfl⟩⟩
    · simp [Value.cells] at hcs
      obtain ⟨rfl, rfl, rfl⟩ := hcs
      exact ⟨zs, .inr ⟨_, rfl, hl, hm, by simpa using hz, hcell, hwz⟩⟩
  clear hA0 hval0
  refine (walk a0 a1 len1 cap1 z1 W w0 w1).mono fun e W' ⟨he, bel⟩ => ?_
  subst he
  exact ⟨_, rfl, _, _, _, [], _, [], hW', trodAll_mk1 (shut_bool Try.underlying4 _), (trodAll_cons_mk (shut_int Try.underlying22 w0) (trodAll_cons_mk (Below.trod laidOut (by kernel_rfl) (of_decide_eq_true (by kernel_rfl)) k1 bel lt1) trodAll_mk0)), rfl, bel.frame _, fun h => by cases h⟩

theorem over : Rows.crcTellsRow.holds Try.pinned (OpenSpec.ofChange Rows.crcTellsSpec) :=
  OpenClaim.holds_of_wide 3 Try.f3 rfl rfl rfl rfl rfl rfl rfl ⟨rfl, rfl, rfl, rfl, rfl⟩ rfl rfl rfl rfl rfl (by kernel_rfl) Try.func3 (by kernel_rfl)
    (of_decide_eq_true (by kernel_rfl)) (by unfold Func.isWrapper; first | (rw [if_pos (by decide +kernel)]; kernel_rfl) | (rw [if_neg (by decide +kernel)]; exact ⟨rfl, rfl⟩))
    (fun os started H enc _ => lifted os started H enc)

/-- ████ THE STATEMENT ████ -/
theorem proved : Rows.CrcTellsSaid := over
#print axioms proved
end Go.Proofs.Ytkoakfbdhehndaa.crcTells
