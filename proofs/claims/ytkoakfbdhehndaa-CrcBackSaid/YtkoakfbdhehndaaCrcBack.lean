/-
  CrcBack holds for every input: what was sealed is opened, and what is opened was sealed so. No condition.
-/
import Derived.Test.YtkoakfbdhehndaaRows
import Derived.Test.YtkoakfbdhehndaaBoth
import Derived.WalkKit
import Derived.ProofKit
import Derived.OpenShut
import Derived.ShutString
import Derived.ChangeOld
import Derived.Below
namespace Go.Proofs.Ytkoakfbdhehndaa.crcBack
open Go.ChangeShapes Go.WideShapes Go.ChangeAt Go.RowKit Words Crc
open Go.ChangeMaps (open_string shut_string)
set_option linter.unusedVariables false

theorem own : ownKnob Try.prog.godebug = none := by kernel_rfl
theorem laidOut : laidOutB Try.prog = true := by kernel_rfl

theorem back1 (l : List UInt8) : (sealR l = (sealed_ l, 0) ∧ openR (sealed_ l) = (l, 0)) ∨ (sealR l = ([], 2) ∧ openR [] = ([], 2)) := by
  by_cases h : l.length ≤ 4096
  · refine .inl ⟨if_pos h, ?_⟩
    have e : (sealed_ l).take ((sealed_ l).length - 2) = l := by rw [sealed_length]; unfold sealed_; simp
    unfold openR
    rw [e, if_neg (by rw [sealed_length]; omega), if_pos rfl]
  · exact .inr ⟨if_neg h, rfl⟩
theorem back2 (l : List UInt8) : (∃ m, openR l = (m, 0) ∧ sealR m = (l, 0)) ∨ openR l = ([], 2) ∨ openR l = ([], 7) := by
  unfold openR
  by_cases h : l.length < 2 ∨ 4098 < l.length
  · exact .inr (.inl (if_pos h))
  · rw [if_neg h]
    by_cases hs : sealed_ (l.take (l.length - 2)) = l
    · rw [if_pos hs]
      refine .inl ⟨_, rfl, ?_⟩
      unfold sealR
      rw [if_pos (by rw [List.length_take]; omega), hs]
    · exact .inr (.inr (if_neg hs))

/-! ### STEP 1: THE WALK: the Go text returns true, AND WRITES NOTHING THAT WAS THERE: 'Below w.heap.size w w'' (Derived/Below.lean: '.refl', '.alloc', '.drew', '.setCell' at a new block, '.trans'). Open each 'IsRow' by 'rcases' AHEAD of 'go_enter'; part every test ahead of the walk. -/
theorem walk (a0 : Option Addr) (len0 cap0 : Nat) (z0 : List Int) (w : World) (w0 : IsRow .u8 w a0 len0 cap0 z0) :
    Calls Try.prog 6 #[.slice a0 len0 cap0] w fun e w' => e = .returned (.bool true) ∧ Below w.heap.size w w' := by
  obtain ⟨l, hl⟩ := w0.txt
  have HT := Lib.hid hl
  have HA := Lib.hid (alive w)
  have hcase1 := back1 l
  have hcase2 := back2 l
  clear w0 hl
  generalize hsr : sealR l = rs at *
  generalize hor : openR l = q at *
  have HSR := Lib.hid hsr
  have HOR := Lib.hid hor
  clear hsr hor
  rcases hcase1 with ⟨rfl, h1⟩ | ⟨rfl, h1⟩ <;> rcases hcase2 with ⟨m, rfl, h2⟩ | rfl | rfl
  all_goals
    have H1 := Lib.hid h1
    clear h1
    try (have H2 := Lib.hid h2; clear h2)
    go_enter Try.func6, Try.ntmps6
    go_wp2_with fail
    refine (HA.out).mono ?_; rintro e x0 ⟨rfl, hb0⟩
    have B0 := Lib.hid hb0
    have HX := Lib.hid (seal_any _ _ _ _ _ _ (Rd.below HT.out hb0 (Nat.le_refl _)) hb0.size)
    rw [HSR.out] at HX
    clear hb0
    go_wp2_with fail
    refine (HX.out).mono ?_; rintro e x1 ⟨A1, c1, rfl, ht1, hb1⟩
    have B1 : Hid (Below w.heap.size w x1) := Lib.hid (B0.out.trans (hb1.mono B0.out.size))
    have HY := Lib.hid (open_any _ _ _ _ _ _ ht1 (Nat.le_refl _))
    rw [H1.out] at HY
    clear ht1 hb1
    unfold two
    go_wp2_with fail
    refine (HY.out).mono ?_; rintro e x2 ⟨A2, c2, rfl, ht2, hb2⟩
    have B2 : Hid (Below w.heap.size w x2) := Lib.hid (B1.out.trans (hb2.mono B1.out.size))
    have q1 := run_string x2 23 9 5 Try.underlying23 Try.underlying5 Try.underlying9 ht2
    have q2 := run_string x2 23 9 5 Try.underlying23 Try.underlying5 Try.underlying9 (Rd.below HT.out B2.out (Nat.le_refl _))
    have HZ := Lib.hid (open_any _ _ _ _ _ _ (Rd.below HT.out B2.out (Nat.le_refl _)) B2.out.size)
    rw [HOR.out] at HZ
    clear ht2 hb2
    unfold two
    go_wp2_with fail
    refine (HZ.out).mono ?_; rintro e x3 ⟨A3, c3, rfl, ht3, hb3⟩
    have B3 : Hid (Below w.heap.size w x3) := Lib.hid (B2.out.trans (hb3.mono B2.out.size))
    have HW := Lib.hid (seal_any _ _ _ _ _ _ ht3 (Nat.le_refl _))
    try rw [H2.out] at HW
    clear ht3 hb3 q1 q2
    unfold two
    go_wp2_with fail
    refine (HW.out).mono ?_; rintro e x4 ⟨A4, c4, rfl, ht4, hb4⟩
    have B4 : Hid (Below w.heap.size w x4) := Lib.hid (B3.out.trans (hb4.mono B3.out.size))
    have q1 := run_string x4 23 9 5 Try.underlying23 Try.underlying5 Try.underlying9 ht4
    have q2 := run_string x4 23 9 5 Try.underlying23 Try.underlying5 Try.underlying9 (Rd.below HT.out B4.out (Nat.le_refl _))
    clear ht4 hb4
    unfold two
    go_wp2_with fail
    go_ret
    exact ⟨rfl, B4.out⟩

/-! ### THE ROW's STEP: WRITTEN OUT: LEAVE IT -/
set_option maxRecDepth 100000 in
theorem lifted (os : Os) (started : os.Started) (H : Type) (enc : TypeId × Value → H) :
    ReturnsInHanded {} Try.checked os 6 .any (Rows.crcBackSpec.pre6 enc Try.prog Try.f6 Rows.crcBackRow.domain false) (Rows.crcBackSpec.post enc Try.prog Try.f6 false true false false) := by
  refine returnsInHanded_of_change (C := Try.checked) own started (by kernel_rfl) Try.func6
    (ChangeSpec.witness6 (enc := enc) (C := Try.checked) false ⟨#[], #[.slice none 0 0], []⟩ 8 (by kernel_rfl) (by kernel_rfl) (by kernel_rfl) (by kernel_rfl)) ?_
  intro W base args ds gs before hval0 hW hcnd _
  have hval : ∀ (j : Nat) t v, Try.f6.params[j]? = some t → args[j]? = some v → Value.okWide Try.prog W .any base t v := hval0
  have hW' := hW
  obtain ⟨p, q, hA0, hV, rfl, hfz, hnd⟩ := hW
  have hA : DataW.TrodAll enc Try.prog W 0 (fun _ => true) true Try.f6.params.toList args.toList ds p := hA0
  rw [Try.params6] at hA hval
  obtain ⟨v0, vs0, d0, ds0, p0, q0, hargs, rfl, rfl, h0, r0⟩ := trodAll_cons hA
  obtain ⟨rfl, rfl, rfl⟩ := trodAll_nil r0
  obtain rfl : args = #[v0] := by cases args; simp_all
  obtain ⟨rfl, rfl⟩ := trodVars_none hV
  obtain ⟨a0, len0, cap0, rfl⟩ := okWide_slice Try.underlying23 (hval 0 23 v0 rfl rfl)
  have k0 := h0
  have lt0 : ∀ x ∈ p0, x.block < W.heap.size := by obtain ⟨m, hm⟩ := k0; exact DataW.trod_lt m _ _ _ hm
  obtain ⟨z0, w0⟩ : ∃ zs, IsRow .u8 W a0 len0 cap0 zs := by
    obtain ⟨fuel, hf⟩ := h0
    rcases open_ints Try.underlying23 Try.underlying5 (by kernel_rfl) hf with ⟨hcs, _⟩ | ⟨x, l, c, zs, hcs, _, hl, hm, hz, _, hcell, hwz⟩
    · simp [Value.cells] at hcs
      obtain ⟨rfl, rfl, rfl⟩ := hcs
      exact ⟨[], .inl ⟨rfl, rfl, rfl, rfl⟩⟩
    · simp [Value.cells] at hcs
      obtain ⟨rfl, rfl, rfl⟩ := hcs
      exact ⟨zs, .inr ⟨_, rfl, hl, hm, by simpa using hz, hcell, hwz⟩⟩
  clear hA0 hval0
  refine (walk a0 len0 cap0 z0 W w0).mono fun e W' ⟨he, bel⟩ => ?_
  subst he
  exact ⟨_, rfl, _, _, _, [], _, [], hW', trodAll_mk1 (shut_bool Try.underlying4 _), (trodAll_cons_mk (Below.trod laidOut (by kernel_rfl) (of_decide_eq_true (by kernel_rfl)) k0 bel lt0) trodAll_mk0), rfl, bel.frame _, fun h => by cases h⟩

theorem over : Rows.crcBackRow.holds Try.pinned (OpenSpec.ofChange Rows.crcBackSpec) :=
  OpenClaim.holds_of_wide 6 Try.f6 rfl rfl rfl rfl rfl rfl rfl ⟨rfl, rfl, rfl, rfl, rfl⟩ rfl rfl rfl rfl rfl (by kernel_rfl) Try.func6 (by kernel_rfl)
    (of_decide_eq_true (by kernel_rfl)) (by unfold Func.isWrapper; first | (rw [if_pos (by decide +kernel)]; kernel_rfl) | (rw [if_neg (by decide +kernel)]; exact ⟨rfl, rfl⟩))
    (fun os started H enc _ => lifted os started H enc)

/-- ████ THE STATEMENT ████ -/
theorem proved : Rows.CrcBackSaid := over
#print axioms proved
end Go.Proofs.Ytkoakfbdhehndaa.crcBack
