/-
  CellForce holds for every input: forced, it is the most of both that can be. No condition.
-/
import Derived.Test.YtaombamfglljaaaRows
import Derived.Test.YtaombamfglljaaaAlive
import Derived.WalkKit
import Derived.ProofKit
import Derived.OpenShut
import Derived.ShutString
import Derived.ChangeOld
import Derived.Below
import Derived.SizedLaws
import Derived.RegionTactic
import Derived.ChangeAlike
namespace Go.Proofs.Ytaombamfglljaaa.cellForce
open Go.ChangeShapes Go.WideShapes Go.ChangeAt Go.RowKit Words Go.Proofs.Ytaombamfglljaaa.Cell
open Go.ChangeMaps (open_string shut_string)
set_option linter.unusedVariables false

theorem own : ownKnob Try.prog.godebug = none := by kernel_rfl
theorem laidOut : laidOutB Try.prog = true := by kernel_rfl

/-! ### STEP 1: THE WALK: the Go text returns true, AND WRITES NOTHING THAT WAS THERE: 'Below w.heap.size w w'' (Derived/Below.lean: '.refl', '.alloc', '.drew', '.setCell' at a new block, '.trans'). Open each 'IsRow' by 'rcases' AHEAD of 'go_enter'; part every test ahead of the walk. -/
set_option maxHeartbeats 4000000 in
theorem walk (a0 : Option Addr) (len0 cap0 : Nat) (z0 : List Int) (a1 : Option Addr) (len1 cap1 : Nat) (z1 : List Int) (a2 : Option Addr) (len2 cap2 : Nat) (z2 : List Int) (w : World) (w0 : IsRow .u8 w a0 len0 cap0 z0) (w1 : IsRow .u8 w a1 len1 cap1 z1) (w2 : IsRow .u8 w a2 len2 cap2 z2) (r0z : cap0 * Try.prog.bytesOf 5 ≤ reachBytes) (r1z : cap1 * Try.prog.bytesOf 5 ≤ reachBytes) (r2z : cap2 * Try.prog.bytesOf 5 ≤ reachBytes) :
    Calls Try.prog 6 #[.slice a0 len0 cap0, .slice a1 len1 cap1, .slice a2 len2 cap2] w fun e w' => e = .returned (.bool true) ∧ Below w.heap.size w w' := by
  obtain ⟨la, ta⟩ := w0.txt
  obtain ⟨lb, tb⟩ := w1.txt
  obtain ⟨lc, tc⟩ := w2.txt
  rw [bytes5] at r0z r1z
  simp only [reachBytes] at r0z r1z
  have ra : len0 ≤ 140737488351232 := by have := Rd.le ta; omega
  have rb : len1 ≤ 140737488351232 := by have := Rd.le tb; omega
  have HA := Lib.hid (alive w)
  have TA := Lib.hid ta
  have TB := Lib.hid tb
  have TC := Lib.hid tc
  have LA := Lib.hid ta.len
  have LB := Lib.hid tb.len
  have HF1 := Lib.hid (fun x (b : Below w.heap.size w x) => forceAny _ _ _ _ _ _ _ _ _ _ x (Rd.below TA.out b (Nat.le_refl _)) (Rd.below TB.out b (Nat.le_refl _)) b.size b.size (by omega))
  have HF2 := Lib.hid (fun x (b : Below w.heap.size w x) => forceAny _ _ _ _ _ _ _ _ _ _ x (Rd.below TB.out b (Nat.le_refl _)) (Rd.below TA.out b (Nat.le_refl _)) b.size b.size (by omega))
  clear ta tb tc w0 w1 w2 r0z r1z
  by_cases hlen : len0 = len1
  · subst hlen
    have hab : la.length = lb.length := by rw [LA.out, LB.out]
    obtain ⟨X, hX⟩ : ∃ X, X = force la lb := ⟨_, rfl⟩
    have e1 : forceR la lb = (X, 0) := by unfold forceR; rw [if_pos hab, hX]
    have e2 : forceR lb la = (X, 0) := by unfold forceR; rw [if_pos hab.symm, hX, force_comm]
    have hXl : X.length = len0 := by rw [hX, force_length hab, LA.out]
    have e3 : forceR X lb = (X, 0) := by unfold forceR; rw [if_pos (by rw [hXl, LB.out]), hX, force_idem hab]
    have m1 : may la X = true := by rw [hX]; exact may_force_left hab
    have m2 : may lb X = true := by rw [hX]; exact may_force_right hab
    have m3 : (X = lb) = (may la lb = true) := by rw [hX]; exact propext (force_eq_iff hab)
    have m4 : may la lc = true → may lb lc = true → may X lc = true := by rw [hX]; exact may_of_both
    have LX := Lib.hid hXl
    have E3 := Lib.hid e3
    simp only [e1] at HF1
    simp only [e2] at HF2
    clear hX e1 e2 hXl e3 hab
    go_enter Try.func6, Try.ntmps6
    go_wp2_with fail
    refine (HA.out).mono ?_; rintro e x0 ⟨rfl, hb0⟩
    have B0 := Lib.hid hb0
    have H1 := Lib.hid (HF1.out x0 hb0)
    clear hb0
    go_wp2_with fail
    refine (H1.out).mono ?_; rintro e x1 he; obtain ⟨A1, c1, rfl, t1, b1⟩ := TextErr.get (n := len0) he LX.out
    have B1 : Below w.heap.size w x1 := B0.out.trans (b1.mono B0.out.size)
    have BB1 := Lib.hid B1
    have T1 := Lib.hid t1
    have H2 := Lib.hid (HF2.out x1 B1)
    clear t1 b1 he B1
    unfold two
    go_wp2_with fail
    refine (H2.out).mono ?_; rintro e x2 he; obtain ⟨A2, c2, rfl, t2, b2⟩ := TextErr.get (n := len0) he LX.out
    have B2 : Hid (Below w.heap.size w x2) := Lib.hid (BB1.out.trans (b2.mono BB1.out.size))
    have T1' : Hid (Txt x2 x2.heap.size A1 len0 c1 X) := Lib.hid (Rd.more (Rd.below T1.out b2 (Nat.le_refl _)) b2.size)
    have T2 := Lib.hid t2
    have H3 := Lib.hid (forceAny _ _ _ _ _ _ _ _ _ _ x2 T1'.out (Rd.below TB.out B2.out (Nat.le_refl _)) (Nat.le_refl _) B2.out.size (by omega))
    rw [E3.out] at H3
    clear t2 b2 he T1
    unfold two
    go_wp2_with fail
    refine (H3.out).mono ?_; rintro e x3 he; obtain ⟨A3, c3, rfl, t3, b3⟩ := TextErr.get (n := len0) he LX.out
    have B3 : Hid (Below w.heap.size w x3) := Lib.hid (B2.out.trans (b3.mono B2.out.size))
    have T1 : Txt x3 x2.heap.size A1 len0 c1 X := Rd.below T1'.out b3 (Nat.le_refl _)
    have T2e : Txt x3 x2.heap.size A2 len0 c2 X := Rd.below T2.out b3 (Nat.le_refl _)
    have T3 := Lib.hid t3
    have TA3 : Txt x3 w.heap.size a0 len0 cap0 la := Rd.below TA.out B3.out (Nat.le_refl _)
    have TB3 : Txt x3 w.heap.size a1 len0 cap1 lb := Rd.below TB.out B3.out (Nat.le_refl _)
    have TC3 := Lib.hid (Rd.below TC.out B3.out (Nat.le_refl _))
    have q1 := fun k => (mayAny _ _ _ _ _ _ _ _ _ _ (x3.drewN k) (Rd.drewN TA3 k) (Rd.drewN T1 k)).mono (R' := fun e w' => e = .returned (.bool true) ∧ w' = x3.drewN k) fun _ _ h => ⟨by rw [h.1, m1], h.2.symm⟩
    have q2 := fun k => (mayAny _ _ _ _ _ _ _ _ _ _ (x3.drewN k) (Rd.drewN TB3 k) (Rd.drewN T1 k)).mono (R' := fun e w' => e = .returned (.bool true) ∧ w' = x3.drewN k) fun _ _ h => ⟨by rw [h.1, m2], h.2.symm⟩
    have q3 := fun k => (mayAny _ _ _ _ _ _ _ _ _ _ (x3.drewN k) (Rd.drewN TA3 k) (Rd.drewN TB3 k)).mono (R' := fun e w' => e = .returned (.bool (may la lb)) ∧ w' = x3.drewN k) fun _ _ h => ⟨h.1, h.2.symm⟩
    have Q1 := Lib.hid q1
    have Q2 := Lib.hid q2
    have s1 := fun k => run_string (x3.drewN k) 22 9 5 Try.underlying22 Try.underlying5 Try.underlying9 (Rd.drewN T1 k)
    have s2 := fun k => run_string (x3.drewN k) 22 9 5 Try.underlying22 Try.underlying5 Try.underlying9 (Rd.drewN T2e k)
    have s3 := fun k => run_string (x3.drewN k) 22 9 5 Try.underlying22 Try.underlying5 Try.underlying9 (Rd.drewN t3 k)
    have s4 := fun k => run_string (x3.drewN k) 22 9 5 Try.underlying22 Try.underlying5 Try.underlying9 (Rd.drewN TB3 k)
    have sxx : ((str X).toList != (str X).toList) = false := by rw [bne_eq_false_iff_eq]
    have sxb := str_beq m3
    have T1h := Lib.hid T1
    have TAh := Lib.hid TA3
    have TBh := Lib.hid TB3
    clear t3 b3 he T1 T2e TA3 TB3 T1' T2 m1 m2 m3
    cases hml : may la lb <;> rw [hml] at q3 sxb
    all_goals
      have Q3 := Lib.hid q3
      clear q1 q2 q3 hml
      unfold two
      go_wp2_with fail
      go_quiet ((first | (go_at_call 16; (with_reducible exact Calls.quiet_of_same (Q1.out _))) | (go_at_call 16; (with_reducible exact Calls.quiet_of_same (Q2.out _))) | (go_at_call 16; (with_reducible exact Calls.quiet_of_same (Q3.out _)))))
      go_wp2_with fail
      have G1 := Lib.hid (mayAny _ _ _ _ _ _ _ _ _ _ (x3.drewN nq) (Rd.drewN TAh.out nq) (Rd.drewN TC3.out nq))
      have G2 := Lib.hid (mayAny _ _ _ _ _ _ _ _ _ _ (x3.drewN nq) (Rd.drewN TBh.out nq) (Rd.drewN TC3.out nq))
      have G3 := Lib.hid (mayAny _ _ _ _ _ _ _ _ _ _ (x3.drewN nq) (Rd.drewN T1h.out nq) (Rd.drewN TC3.out nq))
      have BE : Hid (Below w.heap.size w (x3.drewN nq)) := Lib.hid (B3.out.trans ⟨rfl, rfl, rfl, Nat.le_refl _, fun _ _ => rfl⟩)
      generalize may la lc = p1 at *
      generalize may lb lc = p2 at *
      generalize may X lc = p3 at *
      clear Q1 Q2 Q3 s1 s2 s3 s4 sxx sxb
      generalize x3.drewN nq = y3 at *
      cases p1
      · clear m4
        refine (G1.out).mono ?_; rintro e w' ⟨rfl, rfl⟩
        go_wp2_with fail
        go_ret
        exact ⟨rfl, BE.out⟩
      · cases p2
        · clear m4
          refine (G1.out).mono ?_; rintro e w' ⟨rfl, rfl⟩
          go_wp2_with fail
          refine (G2.out).mono ?_; rintro e w' ⟨rfl, rfl⟩
          go_wp2_with fail
          go_ret
          exact ⟨rfl, BE.out⟩
        · obtain rfl : p3 = true := m4 rfl rfl
          clear m4
          refine (G1.out).mono ?_; rintro e w' ⟨rfl, rfl⟩
          go_wp2_with fail
          refine (G2.out).mono ?_; rintro e w' ⟨rfl, rfl⟩
          go_wp2_with fail
          refine (G3.out).mono ?_; rintro e w' ⟨rfl, rfl⟩
          go_wp2_with fail
          go_ret
          exact ⟨rfl, BE.out⟩
  · have hab : la.length ≠ lb.length := by rw [LA.out, LB.out]; exact hlen
    have e1 : forceR la lb = ([], 1) := by unfold forceR; rw [if_neg hab]
    have e2 : forceR lb la = ([], 1) := by unfold forceR; rw [if_neg (Ne.symm hab)]
    simp only [e1] at HF1
    simp only [e2] at HF2
    have hne : ((len0 : Int) != (len1 : Int)) = true := by rw [bne_iff_ne]; omega
    clear e1 e2 hab
    go_enter Try.func6, Try.ntmps6
    go_wp2_with fail
    refine (HA.out).mono ?_; rintro e x0 ⟨rfl, hb0⟩
    have B0 := Lib.hid hb0
    have H1 := Lib.hid (HF1.out x0 hb0)
    clear hb0
    go_wp2_with fail
    refine (H1.out).mono ?_; rintro e x1 he; obtain ⟨A1, c1, rfl, t1, b1⟩ := TextErr.get (n := 0) he rfl
    have B1 : Below w.heap.size w x1 := B0.out.trans (b1.mono B0.out.size)
    have BB1 := Lib.hid B1
    have H2 := Lib.hid (HF2.out x1 B1)
    clear t1 b1 he B1
    unfold two
    go_wp2_with fail
    refine (H2.out).mono ?_; rintro e x2 he; obtain ⟨A2, c2, rfl, t2, b2⟩ := TextErr.get (n := 0) he rfl
    have B2 : Hid (Below w.heap.size w x2) := Lib.hid (BB1.out.trans (b2.mono BB1.out.size))
    clear t2 b2 he
    unfold two
    go_wp2_with fail
    go_ret
    exact ⟨rfl, B2.out⟩

/-! ### THE ROW's STEP: WRITTEN OUT: LEAVE IT -/
set_option maxRecDepth 100000 in
theorem lifted (os : Os) (started : os.Started) (H : Type) (enc : TypeId × Value → H) :
    ReturnsInHanded {} Try.checked os 6 .any (Rows.cellForceSpec.pre6 enc Try.prog Try.f6 Rows.cellForceRow.domain false) (Rows.cellForceSpec.post enc Try.prog Try.f6 false true false false) := by
  refine returnsInHanded_of_change_sized (C := Try.checked) own started (by kernel_rfl) Try.func6
    (ChangeSpec.witness6 (enc := enc) (C := Try.checked) false ⟨#[], #[.slice none 0 0, .slice none 0 0, .slice none 0 0], []⟩ 8 (by kernel_rfl) (by kernel_rfl) (by kernel_rfl) (by kernel_rfl)) ?_
  intro W base args ds gs before hval0 hW hcnd hsz0 _
  have hsz : (DataW.weightsEach Try.prog (Try.f6.params.toList ++ Rows.cellForceSpec.plain.varTypes Try.prog) (ds ++ gs)).all (· ≤ reachBytes) = true := hsz0
  clear hsz0
  have hval : ∀ (j : Nat) t v, Try.f6.params[j]? = some t → args[j]? = some v → Value.okWide Try.prog W .any base t v := hval0
  have hW' := hW
  obtain ⟨p, q, hA0, hV, rfl, hfz, hnd⟩ := hW
  have hA : DataW.TrodAll enc Try.prog W 0 (fun _ => true) true Try.f6.params.toList args.toList ds p := hA0
  rw [Try.params6] at hA hval hsz
  obtain ⟨v0, vs0, d0, ds0, p0, q0, hargs, rfl, rfl, h0, r0⟩ := trodAll_cons hA
  obtain ⟨v1, vs1, d1, ds1, p1, q1, rfl, rfl, rfl, h1, r1⟩ := trodAll_cons r0
  obtain ⟨v2, vs2, d2, ds2, p2, q2, rfl, rfl, rfl, h2, r2⟩ := trodAll_cons r1
  obtain ⟨rfl, rfl, rfl⟩ := trodAll_nil r2
  obtain rfl : args = #[v0, v1, v2] := by cases args; simp_all
  obtain ⟨rfl, rfl⟩ := trodVars_none hV
  obtain ⟨a0, len0, cap0, rfl⟩ := okWide_slice Try.underlying22 (hval 0 22 v0 rfl rfl)
  have k0 := h0
  have lt0 : ∀ x ∈ p0, x.block < W.heap.size := by obtain ⟨m, hm⟩ := k0; exact DataW.trod_lt m _ _ _ hm
  obtain ⟨z0, w0, r0z⟩ : ∃ zs, IsRow .u8 W a0 len0 cap0 zs ∧ cap0 * Try.prog.bytesOf 5 ≤ reachBytes := by
    obtain ⟨fuel, hf⟩ := h0
    rcases open_ints Try.underlying22 Try.underlying5 (by kernel_rfl) hf with ⟨hcs, _⟩ | ⟨x, l, c, zs, hcs, _, hl, hm, hz, hx, hcell, hwz⟩
    · simp [Value.cells] at hcs
      obtain ⟨rfl, rfl, rfl⟩ := hcs
      exact ⟨[], .inl ⟨rfl, rfl, rfl, rfl⟩, by omega⟩
    · simp [Value.cells] at hcs
      obtain ⟨rfl, rfl, rfl⟩ := hcs
      simp only [if_true] at hz
      simp only [Prod.mk.injEq] at hx
      obtain ⟨rfl, _⟩ := hx
      have hr := sized_slice hsz (j := 0) (t := 22) (e := 5) rfl rfl Try.underlying22
      refine ⟨zs, .inr ⟨_, rfl, hl, hm, hz, hcell, hwz⟩, ?_⟩
      simp only [lits, List.length_map, List.length_take, List.length_drop] at hr
      rwa [show min len0 zs.length + (zs.length - len0) = zs.length by omega, hz] at hr
  obtain ⟨a1, len1, cap1, rfl⟩ := okWide_slice Try.underlying22 (hval 1 22 v1 rfl rfl)
  have k1 := h1
  have lt1 : ∀ x ∈ p1, x.block < W.heap.size := by obtain ⟨m, hm⟩ := k1; exact DataW.trod_lt m _ _ _ hm
  obtain ⟨z1, w1, r1z⟩ : ∃ zs, IsRow .u8 W a1 len1 cap1 zs ∧ cap1 * Try.prog.bytesOf 5 ≤ reachBytes := by
    obtain ⟨fuel, hf⟩ := h1
    rcases open_ints Try.underlying22 Try.underlying5 (by kernel_rfl) hf with ⟨hcs, _⟩ | ⟨x, l, c, zs, hcs, _, hl, hm, hz, hx, hcell, hwz⟩
    · simp [Value.cells] at hcs
      obtain ⟨rfl, rfl, rfl⟩ := hcs
      exact ⟨[], .inl ⟨rfl, rfl, rfl, rfl⟩, by omega⟩
    · simp [Value.cells] at hcs
      obtain ⟨rfl, rfl, rfl⟩ := hcs
      simp only [if_true] at hz
      simp only [Prod.mk.injEq] at hx
      obtain ⟨rfl, _⟩ := hx
      have hr := sized_slice hsz (j := 1) (t := 22) (e := 5) rfl rfl Try.underlying22
      refine ⟨zs, .inr ⟨_, rfl, hl, hm, hz, hcell, hwz⟩, ?_⟩
      simp only [lits, List.length_map, List.length_take, List.length_drop] at hr
      rwa [show min len1 zs.length + (zs.length - len1) = zs.length by omega, hz] at hr
  obtain ⟨a2, len2, cap2, rfl⟩ := okWide_slice Try.underlying22 (hval 2 22 v2 rfl rfl)
  have k2 := h2
  have lt2 : ∀ x ∈ p2, x.block < W.heap.size := by obtain ⟨m, hm⟩ := k2; exact DataW.trod_lt m _ _ _ hm
  obtain ⟨z2, w2, r2z⟩ : ∃ zs, IsRow .u8 W a2 len2 cap2 zs ∧ cap2 * Try.prog.bytesOf 5 ≤ reachBytes := by
    obtain ⟨fuel, hf⟩ := h2
    rcases open_ints Try.underlying22 Try.underlying5 (by kernel_rfl) hf with ⟨hcs, _⟩ | ⟨x, l, c, zs, hcs, _, hl, hm, hz, hx, hcell, hwz⟩
    · simp [Value.cells] at hcs
      obtain ⟨rfl, rfl, rfl⟩ := hcs
      exact ⟨[], .inl ⟨rfl, rfl, rfl, rfl⟩, by omega⟩
    · simp [Value.cells] at hcs
      obtain ⟨rfl, rfl, rfl⟩ := hcs
      simp only [if_true] at hz
      simp only [Prod.mk.injEq] at hx
      obtain ⟨rfl, _⟩ := hx
      have hr := sized_slice hsz (j := 2) (t := 22) (e := 5) rfl rfl Try.underlying22
      refine ⟨zs, .inr ⟨_, rfl, hl, hm, hz, hcell, hwz⟩, ?_⟩
      simp only [lits, List.length_map, List.length_take, List.length_drop] at hr
      rwa [show min len2 zs.length + (zs.length - len2) = zs.length by omega, hz] at hr
  clear hA0 hval0
  refine (walk a0 len0 cap0 z0 a1 len1 cap1 z1 a2 len2 cap2 z2 W w0 w1 w2 r0z r1z r2z).mono fun e W' ⟨he, bel⟩ => ?_
  subst he
  exact ⟨_, rfl, _, _, _, [], _, [], hW', trodAll_mk1 (shut_bool Try.underlying4 _), (trodAll_cons_mk (Below.trod laidOut (by kernel_rfl) (of_decide_eq_true (by kernel_rfl)) k0 bel lt0) (trodAll_cons_mk (Below.trod laidOut (by kernel_rfl) (of_decide_eq_true (by kernel_rfl)) k1 bel lt1) (trodAll_cons_mk (Below.trod laidOut (by kernel_rfl) (of_decide_eq_true (by kernel_rfl)) k2 bel lt2) trodAll_mk0))), rfl, bel.frame _, fun h => by cases h⟩

theorem over : Rows.cellForceRow.holds Try.pinned (OpenSpec.ofChange Rows.cellForceSpec) :=
  OpenClaim.holds_of_wide 6 Try.f6 rfl rfl rfl rfl rfl rfl rfl ⟨rfl, rfl, rfl, rfl, rfl⟩ rfl rfl rfl rfl rfl (by kernel_rfl) Try.func6 (by kernel_rfl)
    (of_decide_eq_true (by kernel_rfl)) (by unfold Func.isWrapper; first | (rw [if_pos (by decide +kernel)]; kernel_rfl) | (rw [if_neg (by decide +kernel)]; exact ⟨rfl, rfl⟩))
    (fun os started H enc _ => lifted os started H enc)

/-- ████ THE STATEMENT ████ -/
theorem proved : Rows.CellForceSaid := over
#print axioms proved
end Go.Proofs.Ytaombamfglljaaa.cellForce
