/-
  CellDown holds for every input: bits only fall. No condition.
-/
import Derived.Test.YtaombamfglljaaaRows
import Derived.Test.YtaombamfglljaaaAlive
import Derived.WalkKit
import Derived.ProofKit
import Derived.OpenShut
import Derived.ShutString
import Derived.ChangeOld
import Derived.Below
import Derived.SizedLaws
import Derived.RegionTactic
import Derived.ChangeAlike
namespace Go.Proofs.Ytaombamfglljaaa.cellDown
open Go.ChangeShapes Go.WideShapes Go.ChangeAt Go.RowKit Words Go.Proofs.Ytaombamfglljaaa.Cell
open Go.ChangeMaps (open_string shut_string)
set_option linter.unusedVariables false

theorem own : ownKnob Try.prog.godebug = none := by kernel_rfl
theorem laidOut : laidOutB Try.prog = true := by kernel_rfl

/-! ### STEP 1: THE WALK: the Go text returns true, AND WRITES NOTHING THAT WAS THERE: 'Below w.heap.size w w'' (Derived/Below.lean: '.refl', '.alloc', '.drew', '.setCell' at a new block, '.trans'). Open each 'IsRow' by 'rcases' AHEAD of 'go_enter'; part every test ahead of the walk. -/
set_option maxHeartbeats 4000000 in
theorem walk (a0 : Option Addr) (len0 cap0 : Nat) (z0 : List Int) (a1 : Option Addr) (len1 cap1 : Nat) (z1 : List Int) (a2 : Option Addr) (len2 cap2 : Nat) (z2 : List Int) (w : World) (w0 : IsRow .u8 w a0 len0 cap0 z0) (w1 : IsRow .u8 w a1 len1 cap1 z1) (w2 : IsRow .u8 w a2 len2 cap2 z2) :
    Calls Try.prog 5 #[.slice a0 len0 cap0, .slice a1 len1 cap1, .slice a2 len2 cap2] w fun e w' => e = .returned (.bool true) ∧ Below w.heap.size w w' := by
  obtain ⟨la, ta⟩ := w0.txt
  obtain ⟨lb, tb⟩ := w1.txt
  obtain ⟨lc, tc⟩ := w2.txt
  have HA := Lib.hid (alive w)
  have TA := Lib.hid ta
  have TB := Lib.hid tb
  have TC := Lib.hid tc
  have HN := Lib.hid ta.len
  have hm : len0 ≤ 9223372036854775807 := Txt.small ta
  have r1 : may la lb = true → may lb lc = true → may la lc = true := may_trans
  have r2 : may la lb = true → may lb la = true → la = lb := may_antisymm
  have r3 := may_refl la
  have r4 : Hid (blankR len0 = (List.replicate la.length 255, 0) ∨ blankR len0 = ([], 2)) := Lib.hid (by
    have hl := ta.len
    unfold blankR
    by_cases h : len0 ≤ 4096
    · rw [if_pos h, hl]; exact .inl rfl
    · rw [if_neg h]; exact .inr rfl)
  have r5 := Lib.hid (may_blank la)
  have HR4 : Hid (blankR len0 = (List.replicate la.length 255, 0)) ∨ Hid (blankR len0 = ([], 2)) := r4.out
  clear r4
  clear ta tb tc w0 w1 w2
  have M1 := Lib.hid (fun x (b : Below w.heap.size w x) => mayAny _ _ _ _ _ _ _ _ _ _ x (Rd.below TA.out b (Nat.le_refl _)) (Rd.below TB.out b (Nat.le_refl _)))
  have M2 := Lib.hid (fun x (b : Below w.heap.size w x) => mayAny _ _ _ _ _ _ _ _ _ _ x (Rd.below TB.out b (Nat.le_refl _)) (Rd.below TC.out b (Nat.le_refl _)))
  have M3 := Lib.hid (fun x (b : Below w.heap.size w x) => mayAny _ _ _ _ _ _ _ _ _ _ x (Rd.below TA.out b (Nat.le_refl _)) (Rd.below TC.out b (Nat.le_refl _)))
  have M4 := Lib.hid (fun x (b : Below w.heap.size w x) => mayAny _ _ _ _ _ _ _ _ _ _ x (Rd.below TB.out b (Nat.le_refl _)) (Rd.below TA.out b (Nat.le_refl _)))
  have M5 := Lib.hid (fun x (b : Below w.heap.size w x) => mayAny _ _ _ _ _ _ _ _ _ _ x (Rd.below TA.out b (Nat.le_refl _)) (Rd.below TA.out b (Nat.le_refl _)))
  rw [r3] at M5
  have HS : Hid (∀ x, Below w.heap.size w x → (convert 22 9 (.slice a0 len0 cap0)).run Try.prog x = .ok (.string (str la)) x) := Lib.hid (fun x b => run_string x 22 9 5 Try.underlying22 Try.underlying5 Try.underlying9 (Rd.below TA.out b (Nat.le_refl _)))
  have HS2 : Hid (∀ x, Below w.heap.size w x → (convert 22 9 (.slice a1 len1 cap1)).run Try.prog x = .ok (.string (str lb)) x) := Lib.hid (fun x b => run_string x 22 9 5 Try.underlying22 Try.underlying5 Try.underlying9 (Rd.below TB.out b (Nat.le_refl _)))
  go_enter Try.func5, Try.ntmps5
  go_wp2_with fail
  refine (HA.out).mono ?_; rintro e x0 ⟨rfl, hb0⟩
  have B0 := Lib.hid hb0
  have q1 := HS.out x0 hb0
  have q2 := HS2.out x0 hb0
  have Q1 := Lib.hid (M1.out x0 hb0)
  have Q2 := Lib.hid (M2.out x0 hb0)
  have Q3 := Lib.hid (M3.out x0 hb0)
  have Q4 := Lib.hid (M4.out x0 hb0)
  have Q5 := Lib.hid (M5.out x0 hb0)
  clear hb0 M1 M2 M3 M4 r3 HS HS2
  have hend : ∀ t, t = true → (t = true) := fun _ h => h
  have HBl := Lib.hid (blankLen len0 x0)
  generalize hm1 : may la lb = m1 at *
  generalize hm2 : may lb lc = m2 at *
  generalize hm3 : may la lc = m3 at *
  generalize hm4 : may lb la = m4 at *
  clear hm1 hm2 hm3 hm4 hend
  cases m1
  · clear r1 r2
    go_wp2_with fail
    refine (Q1.out).mono ?_; rintro e w' ⟨rfl, rfl⟩
    go_wp2_with fail
    refine (Q1.out).mono ?_; rintro e w' ⟨rfl, rfl⟩
    go_wp2_with fail
    refine (Q5.out).mono ?_; rintro e w' ⟨rfl, rfl⟩
    go_wp2_with fail
    rcases HR4 with HR | HR
    · rw [HR.out] at HBl
      refine (HBl.out).mono ?_; rintro e x1 he; obtain ⟨A1, c1, rfl, t1, b1⟩ := TextErr.get (n := len0) he (by rw [List.length_replicate]; exact HN.out)
      have B1 : Hid (Below w.heap.size w x1) := Lib.hid (B0.out.trans (b1.mono B0.out.size))
      have HM := Lib.hid (mayAny _ _ _ _ _ _ _ _ _ _ x1 t1 (Rd.below TA.out B1.out (Nat.le_refl _)))
      rw [r5.out] at HM
      clear t1 b1 he
      unfold two
      go_wp2_with fail
      refine (HM.out).mono ?_; rintro e w' ⟨rfl, rfl⟩
      go_wp2_with fail
      go_ret
      exact ⟨rfl, B1.out⟩
    · rw [HR.out] at HBl
      refine (HBl.out).mono ?_; rintro e x1 he; obtain ⟨A1, c1, rfl, t1, b1⟩ := TextErr.get (n := 0) he rfl
      have B1 : Hid (Below w.heap.size w x1) := Lib.hid (B0.out.trans (b1.mono B0.out.size))
      clear t1 b1 he
      unfold two
      go_wp2_with fail
      go_ret
      exact ⟨rfl, B1.out⟩
  · cases m2
    · cases m4
      · clear r1 r2
        go_wp2_with fail
        refine (Q1.out).mono ?_; rintro e w' ⟨rfl, rfl⟩
        go_wp2_with fail
        refine (Q2.out).mono ?_; rintro e w' ⟨rfl, rfl⟩
        go_wp2_with fail
        refine (Q1.out).mono ?_; rintro e w' ⟨rfl, rfl⟩
        go_wp2_with fail
        refine (Q4.out).mono ?_; rintro e w' ⟨rfl, rfl⟩
        go_wp2_with fail
        refine (Q5.out).mono ?_; rintro e w' ⟨rfl, rfl⟩
        go_wp2_with fail
        rcases HR4 with HR | HR
        · rw [HR.out] at HBl
          refine (HBl.out).mono ?_; rintro e x1 he; obtain ⟨A1, c1, rfl, t1, b1⟩ := TextErr.get (n := len0) he (by rw [List.length_replicate]; exact HN.out)
          have B1 : Hid (Below w.heap.size w x1) := Lib.hid (B0.out.trans (b1.mono B0.out.size))
          have HM := Lib.hid (mayAny _ _ _ _ _ _ _ _ _ _ x1 t1 (Rd.below TA.out B1.out (Nat.le_refl _)))
          rw [r5.out] at HM
          clear t1 b1 he
          unfold two
          go_wp2_with fail
          refine (HM.out).mono ?_; rintro e w' ⟨rfl, rfl⟩
          go_wp2_with fail
          go_ret
          exact ⟨rfl, B1.out⟩
        · rw [HR.out] at HBl
          refine (HBl.out).mono ?_; rintro e x1 he; obtain ⟨A1, c1, rfl, t1, b1⟩ := TextErr.get (n := 0) he rfl
          have B1 : Hid (Below w.heap.size w x1) := Lib.hid (B0.out.trans (b1.mono B0.out.size))
          clear t1 b1 he
          unfold two
          go_wp2_with fail
          go_ret
          exact ⟨rfl, B1.out⟩
      · obtain rfl := r2 rfl rfl
        have sb : ((str la).toList == (str la).toList) = true := beq_self_eq_true _
        clear r1 r2
        go_wp2_with fail
        refine (Q1.out).mono ?_; rintro e w' ⟨rfl, rfl⟩
        go_wp2_with fail
        refine (Q2.out).mono ?_; rintro e w' ⟨rfl, rfl⟩
        go_wp2_with fail
        refine (Q1.out).mono ?_; rintro e w' ⟨rfl, rfl⟩
        go_wp2_with fail
        refine (Q4.out).mono ?_; rintro e w' ⟨rfl, rfl⟩
        go_wp2_with fail
        refine (Q5.out).mono ?_; rintro e w' ⟨rfl, rfl⟩
        go_wp2_with fail
        rcases HR4 with HR | HR
        · rw [HR.out] at HBl
          refine (HBl.out).mono ?_; rintro e x1 he; obtain ⟨A1, c1, rfl, t1, b1⟩ := TextErr.get (n := len0) he (by rw [List.length_replicate]; exact HN.out)
          have B1 : Hid (Below w.heap.size w x1) := Lib.hid (B0.out.trans (b1.mono B0.out.size))
          have HM := Lib.hid (mayAny _ _ _ _ _ _ _ _ _ _ x1 t1 (Rd.below TA.out B1.out (Nat.le_refl _)))
          rw [r5.out] at HM
          clear t1 b1 he
          unfold two
          go_wp2_with fail
          refine (HM.out).mono ?_; rintro e w' ⟨rfl, rfl⟩
          go_wp2_with fail
          go_ret
          exact ⟨rfl, B1.out⟩
        · rw [HR.out] at HBl
          refine (HBl.out).mono ?_; rintro e x1 he; obtain ⟨A1, c1, rfl, t1, b1⟩ := TextErr.get (n := 0) he rfl
          have B1 : Hid (Below w.heap.size w x1) := Lib.hid (B0.out.trans (b1.mono B0.out.size))
          clear t1 b1 he
          unfold two
          go_wp2_with fail
          go_ret
          exact ⟨rfl, B1.out⟩
    · obtain rfl : m3 = true := r1 rfl rfl
      cases m4
      · clear r1 r2
        go_wp2_with fail
        refine (Q1.out).mono ?_; rintro e w' ⟨rfl, rfl⟩
        go_wp2_with fail
        refine (Q2.out).mono ?_; rintro e w' ⟨rfl, rfl⟩
        go_wp2_with fail
        refine (Q3.out).mono ?_; rintro e w' ⟨rfl, rfl⟩
        go_wp2_with fail
        refine (Q1.out).mono ?_; rintro e w' ⟨rfl, rfl⟩
        go_wp2_with fail
        refine (Q4.out).mono ?_; rintro e w' ⟨rfl, rfl⟩
        go_wp2_with fail
        refine (Q5.out).mono ?_; rintro e w' ⟨rfl, rfl⟩
        go_wp2_with fail
        rcases HR4 with HR | HR
        · rw [HR.out] at HBl
          refine (HBl.out).mono ?_; rintro e x1 he; obtain ⟨A1, c1, rfl, t1, b1⟩ := TextErr.get (n := len0) he (by rw [List.length_replicate]; exact HN.out)
          have B1 : Hid (Below w.heap.size w x1) := Lib.hid (B0.out.trans (b1.mono B0.out.size))
          have HM := Lib.hid (mayAny _ _ _ _ _ _ _ _ _ _ x1 t1 (Rd.below TA.out B1.out (Nat.le_refl _)))
          rw [r5.out] at HM
          clear t1 b1 he
          unfold two
          go_wp2_with fail
          refine (HM.out).mono ?_; rintro e w' ⟨rfl, rfl⟩
          go_wp2_with fail
          go_ret
          exact ⟨rfl, B1.out⟩
        · rw [HR.out] at HBl
          refine (HBl.out).mono ?_; rintro e x1 he; obtain ⟨A1, c1, rfl, t1, b1⟩ := TextErr.get (n := 0) he rfl
          have B1 : Hid (Below w.heap.size w x1) := Lib.hid (B0.out.trans (b1.mono B0.out.size))
          clear t1 b1 he
          unfold two
          go_wp2_with fail
          go_ret
          exact ⟨rfl, B1.out⟩
      · obtain rfl := r2 rfl rfl
        have sb : ((str la).toList == (str la).toList) = true := beq_self_eq_true _
        clear r1 r2
        go_wp2_with fail
        refine (Q1.out).mono ?_; rintro e w' ⟨rfl, rfl⟩
        go_wp2_with fail
        refine (Q2.out).mono ?_; rintro e w' ⟨rfl, rfl⟩
        go_wp2_with fail
        refine (Q3.out).mono ?_; rintro e w' ⟨rfl, rfl⟩
        go_wp2_with fail
        refine (Q1.out).mono ?_; rintro e w' ⟨rfl, rfl⟩
        go_wp2_with fail
        refine (Q4.out).mono ?_; rintro e w' ⟨rfl, rfl⟩
        go_wp2_with fail
        refine (Q5.out).mono ?_; rintro e w' ⟨rfl, rfl⟩
        go_wp2_with fail
        rcases HR4 with HR | HR
        · rw [HR.out] at HBl
          refine (HBl.out).mono ?_; rintro e x1 he; obtain ⟨A1, c1, rfl, t1, b1⟩ := TextErr.get (n := len0) he (by rw [List.length_replicate]; exact HN.out)
          have B1 : Hid (Below w.heap.size w x1) := Lib.hid (B0.out.trans (b1.mono B0.out.size))
          have HM := Lib.hid (mayAny _ _ _ _ _ _ _ _ _ _ x1 t1 (Rd.below TA.out B1.out (Nat.le_refl _)))
          rw [r5.out] at HM
          clear t1 b1 he
          unfold two
          go_wp2_with fail
          refine (HM.out).mono ?_; rintro e w' ⟨rfl, rfl⟩
          go_wp2_with fail
          go_ret
          exact ⟨rfl, B1.out⟩
        · rw [HR.out] at HBl
          refine (HBl.out).mono ?_; rintro e x1 he; obtain ⟨A1, c1, rfl, t1, b1⟩ := TextErr.get (n := 0) he rfl
          have B1 : Hid (Below w.heap.size w x1) := Lib.hid (B0.out.trans (b1.mono B0.out.size))
          clear t1 b1 he
          unfold two
          go_wp2_with fail
          go_ret
          exact ⟨rfl, B1.out⟩

/-! ### THE ROW's STEP: WRITTEN OUT: LEAVE IT -/
set_option maxRecDepth 100000 in
theorem lifted (os : Os) (started : os.Started) (H : Type) (enc : TypeId × Value → H) :
    ReturnsInHanded {} Try.checked os 5 .any (Rows.cellDownSpec.pre6 enc Try.prog Try.f5 Rows.cellDownRow.domain false) (Rows.cellDownSpec.post enc Try.prog Try.f5 false true false false) := by
  refine returnsInHanded_of_change (C := Try.checked) own started (by kernel_rfl) Try.func5
    (ChangeSpec.witness6 (enc := enc) (C := Try.checked) false ⟨#[], #[.slice none 0 0, .slice none 0 0, .slice none 0 0], []⟩ 8 (by kernel_rfl) (by kernel_rfl) (by kernel_rfl) (by kernel_rfl)) ?_
  intro W base args ds gs before hval0 hW hcnd _
  have hval : ∀ (j : Nat) t v, Try.f5.params[j]? = some t → args[j]? = some v → Value.okWide Try.prog W .any base t v := hval0
  have hW' := hW
  obtain ⟨p, q, hA0, hV, rfl, hfz, hnd⟩ := hW
  have hA : DataW.TrodAll enc Try.prog W 0 (fun _ => true) true Try.f5.params.toList args.toList ds p := hA0
  rw [Try.params5] at hA hval
  obtain ⟨v0, vs0, d0, ds0, p0, q0, hargs, rfl, rfl, h0, r0⟩ := trodAll_cons hA
  obtain ⟨v1, vs1, d1, ds1, p1, q1, rfl, rfl, rfl, h1, r1⟩ := trodAll_cons r0
  obtain ⟨v2, vs2, d2, ds2, p2, q2, rfl, rfl, rfl, h2, r2⟩ := trodAll_cons r1
  obtain ⟨rfl, rfl, rfl⟩ := trodAll_nil r2
  obtain rfl : args = #[v0, v1, v2] := by cases args; simp_all
  obtain ⟨rfl, rfl⟩ := trodVars_none hV
  obtain ⟨a0, len0, cap0, rfl⟩ := okWide_slice Try.underlying22 (hval 0 22 v0 rfl rfl)
  have k0 := h0
  have lt0 : ∀ x ∈ p0, x.block < W.heap.size := by obtain ⟨m, hm⟩ := k0; exact DataW.trod_lt m _ _ _ hm
  obtain ⟨z0, w0⟩ : ∃ zs, IsRow .u8 W a0 len0 cap0 zs := by
    obtain ⟨fuel, hf⟩ := h0
    rcases open_ints Try.underlying22 Try.underlying5 (by kernel_rfl) hf with ⟨hcs, _⟩ | ⟨x, l, c, zs, hcs, _, hl, hm, hz, _, hcell, hwz⟩
    · simp [Value.cells] at hcs
      obtain ⟨rfl, rfl, rfl⟩ := hcs
      exact ⟨[], .inl ⟨rfl, rfl, rfl, rfl⟩⟩
    · simp [Value.cells] at hcs
      obtain ⟨rfl, rfl, rfl⟩ := hcs
      exact ⟨zs, .inr ⟨_, rfl, hl, hm, by simpa using hz, hcell, hwz⟩⟩
  obtain ⟨a1, len1, cap1, rfl⟩ := okWide_slice Try.underlying22 (hval 1 22 v1 rfl rfl)
  have k1 := h1
  have lt1 : ∀ x ∈ p1, x.block < W.heap.size := by obtain ⟨m, hm⟩ := k1; exact DataW.trod_lt m _ _ _ hm
  obtain ⟨z1, w1⟩ : ∃ zs, IsRow .u8 W a1 len1 cap1 zs := by
    obtain ⟨fuel, hf⟩ := h1
    rcases open_ints Try.underlying22 Try.underlying5 (by kernel_rfl) hf with ⟨hcs, _⟩ | ⟨x, l, c, zs, hcs, _, hl, hm, hz, _, hcell, hwz⟩
    · simp [Value.cells] at hcs
      obtain ⟨rfl, rfl, rfl⟩ := hcs
      exact ⟨[], .inl ⟨rfl, rfl, rfl, rfl⟩⟩
    · simp [Value.cells] at hcs
      obtain ⟨rfl, rfl, rfl⟩ := hcs
      exact ⟨zs, .inr ⟨_, rfl, hl, hm, by simpa using hz, hcell, hwz⟩⟩
  obtain ⟨a2, len2, cap2, rfl⟩ := okWide_slice Try.underlying22 (hval 2 22 v2 rfl rfl)
  have k2 := h2
  have lt2 : ∀ x ∈ p2, x.block < W.heap.size := by obtain ⟨m, hm⟩ := k2; exact DataW.trod_lt m _ _ _ hm
  obtain ⟨z2, w2⟩ : ∃ zs, IsRow .u8 W a2 len2 cap2 zs := by
    obtain ⟨fuel, hf⟩ := h2
    rcases open_ints Try.underlying22 Try.underlying5 (by kernel_rfl) hf with ⟨hcs, _⟩ | ⟨x, l, c, zs, hcs, _, hl, hm, hz, _, hcell, hwz⟩
    · simp [Value.cells] at hcs
      obtain ⟨rfl, rfl, rfl⟩ := hcs
      exact ⟨[], .inl ⟨rfl, rfl, rfl, rfl⟩⟩
    · simp [Value.cells] at hcs
      obtain ⟨rfl, rfl, rfl⟩ := hcs
      exact ⟨zs, .inr ⟨_, rfl, hl, hm, by simpa using hz, hcell, hwz⟩⟩
  clear hA0 hval0
  refine (walk a0 len0 cap0 z0 a1 len1 cap1 z1 a2 len2 cap2 z2 W w0 w1 w2).mono fun e W' ⟨he, bel⟩ => ?_
  subst he
  exact ⟨_, rfl, _, _, _, [], _, [], hW', trodAll_mk1 (shut_bool Try.underlying4 _), (trodAll_cons_mk (Below.trod laidOut (by kernel_rfl) (of_decide_eq_true (by kernel_rfl)) k0 bel lt0) (trodAll_cons_mk (Below.trod laidOut (by kernel_rfl) (of_decide_eq_true (by kernel_rfl)) k1 bel lt1) (trodAll_cons_mk (Below.trod laidOut (by kernel_rfl) (of_decide_eq_true (by kernel_rfl)) k2 bel lt2) trodAll_mk0))), rfl, bel.frame _, fun h => by cases h⟩

theorem over : Rows.cellDownRow.holds Try.pinned (OpenSpec.ofChange Rows.cellDownSpec) :=
  OpenClaim.holds_of_wide 5 Try.f5 rfl rfl rfl rfl rfl rfl rfl ⟨rfl, rfl, rfl, rfl, rfl⟩ rfl rfl rfl rfl rfl (by kernel_rfl) Try.func5 (by kernel_rfl)
    (of_decide_eq_true (by kernel_rfl)) (by unfold Func.isWrapper; first | (rw [if_pos (by decide +kernel)]; kernel_rfl) | (rw [if_neg (by decide +kernel)]; exact ⟨rfl, rfl⟩))
    (fun os started H enc _ => lifted os started H enc)

/-- ████ THE STATEMENT ████ -/
theorem proved : Rows.CellDownSaid := over
#print axioms proved
end Go.Proofs.Ytaombamfglljaaa.cellDown
