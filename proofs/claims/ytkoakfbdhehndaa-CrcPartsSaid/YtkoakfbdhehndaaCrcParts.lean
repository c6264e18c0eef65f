/-
  CrcParts holds for every input: the sum of two texts, one behind the other, goes on from the first one's; mixed texts have mixed sums. No condition.
-/
import Derived.Test.YtkoakfbdhehndaaRows
import Derived.Test.YtkoakfbdhehndaaJoins
import Derived.WalkKit
import Derived.ProofKit
import Derived.OpenShut
import Derived.ShutString
import Derived.ChangeOld
import Derived.Below
import Derived.SizedLaws
import Derived.RegionTactic
import Derived.ChangeAlike
namespace Go.Proofs.Ytkoakfbdhehndaa.crcParts
open Go.ChangeShapes Go.WideShapes Go.ChangeAt Go.RowKit Words Crc
open Go.ChangeMaps (open_string shut_string)
set_option linter.unusedVariables false

theorem own : ownKnob Try.prog.godebug = none := by kernel_rfl
theorem laidOut : laidOutB Try.prog = true := by kernel_rfl

theorem bytes5 : Try.prog.bytesOf 5 = 1 := by kernel_rfl

/-! ### STEP 1: THE WALK: the Go text returns true, AND WRITES NOTHING THAT WAS THERE: 'Below w.heap.size w w'' (Derived/Below.lean: '.refl', '.alloc', '.drew', '.setCell' at a new block, '.trans'). Open each 'IsRow' by 'rcases' AHEAD of 'go_enter'; part every test ahead of the walk. -/
theorem walk (a0 : Int) (a1 : Int) (a2 : Option Addr) (len2 cap2 : Nat) (z2 : List Int) (a3 : Option Addr) (len3 cap3 : Nat) (z3 : List Int) (w : World) (w0 : (Lit.int .u16 a0).wf = true) (w1 : (Lit.int .u16 a1).wf = true) (w2 : IsRow .u8 w a2 len2 cap2 z2) (w3 : IsRow .u8 w a3 len3 cap3 z3) (r2z : cap2 * Try.prog.bytesOf 5 ≤ reachBytes) (r3z : cap3 * Try.prog.bytesOf 5 ≤ reachBytes) :
    Calls Try.prog 5 #[.int .u16 a0, .int .u16 a1, .slice a2 len2 cap2, .slice a3 len3 cap3] w fun e w' => e = .returned (.bool true) ∧ Below w.heap.size w w' := by
  obtain ⟨i0, hi0, hz0, hz1, hz2⟩ := info_parts info5
  rw [bytes5] at r2z r3z
  simp only [reachBytes] at r2z r3z
  obtain ⟨h0, h0'⟩ := bounds_u16 w0
  obtain ⟨h1, h1'⟩ := bounds_u16 w1
  obtain ⟨s, rfl⟩ := Int.eq_ofNat_of_zero_le h0
  obtain ⟨t, rfl⟩ := Int.eq_ofNat_of_zero_le h1
  obtain ⟨la, ha⟩ := w2.txt
  obtain ⟨lb, hb⟩ := w3.txt
  have hs : s < 65536 := by omega
  have ht : t < 65536 := by omega
  have ra : len2 ≤ 140737488351232 := by have := Rd.le ha; omega
  have rb : len3 ≤ 140737488351232 := by have := Rd.le hb; omega
  have ka := Rd.le ha
  have kb := Rd.le hb
  have HA := Lib.hid (alive w)
  obtain ⟨lj, hj⟩ : ∃ lj, lj = la ++ lb := ⟨_, rfl⟩
  have HE : Hid (sum s lj = sum (sum s la) lb) := Lib.hid (by rw [hj]; exact sum_append s la lb)
  have HJ := Lib.hid hj
  clear hj
  have TA := Lib.hid ha
  have TB := Lib.hid hb
  clear w0 w1 w2 w3 h0' h1' ha hb r2z r3z
  go_enter Try.func5, Try.ntmps5
  go_wp2_with fail
  refine (HA.out).mono ?_; rintro e x0 ⟨rfl, hb0⟩
  have B0 := Lib.hid hb0
  have b1 : Below w.heap.size w (x0.alloc (.cells #[.slice a2 len2 cap2, .slice a3 len3 cap3] 23)) := hb0.alloc hb0.size _
  have B1 := Lib.hid b1
  have HC := Lib.hid (concat w.heap.size a2 a3 len2 cap2 len3 cap3 la lb x0.heap.size _ (Rd.below TA.out b1 (Nat.le_refl _)) (Rd.below TB.out b1 (Nat.le_refl _)) b1.size (by simp)
    (by rw [cell_of_row _ _ 0 _ 23 (0, 0) (heap_alloc_new x0 _)]; rfl) (by rw [cell_of_row _ _ 1 _ 23 (0, 0) (heap_alloc_new x0 _)]; rfl) ra rb)
  rw [← HJ.out] at HC
  clear hb0 b1
  go_wp2_with fail
  refine (HC.out).mono ?_; rintro e x1 ⟨A, C, rfl, hown, hb⟩
  have B2 : Hid (Below w.heap.size w x1) := Lib.hid (B1.out.trans (hb.mono B1.out.size))
  have HS := Lib.hid (sumOf s hs _ _ _ _ _ x1 (Rd.of_own hown))
  have HS1 := Lib.hid (sumOf s hs _ _ _ _ la x1 (Rd.below TA.out B2.out (Nat.le_refl _)))
  have hs1 := sum_lt la s hs
  have HS2 := Lib.hid (sumOf (sum s la) hs1 _ _ _ _ lb x1 (Rd.below TB.out B2.out (Nat.le_refl _)))
  clear hown hb
  go_wp2_with fail
  refine (HS.out).mono ?_; rintro e w' ⟨rfl, rfl⟩
  go_wp2_with fail
  refine (HS1.out).mono ?_; rintro e w' ⟨rfl, rfl⟩
  go_wp2_with fail
  refine (HS2.out).mono ?_; rintro e w' ⟨rfl, rfl⟩
  rw [HE.out]
  go_wp2_with (at_make; refine wpList_make_full _ rfl _ _ 23 rfl w.heap.size 5 i0 (.int .u8 0) 1 Try.underlying23 hi0 hz0 hz1 .i64 .i64 _ _ (min len2 len3) rfl rfl (by omega) (by omega) (by rw [hz2]; omega) (by simp only [maxLen]; omega) B2.out.size ?_
               intro w2 hown2 hg2)
  have hb2 : Below w.heap.size w w2 := B2.out.grown hg2 B2.out.size (fun k hk => by cases hk)
  have hgw : w.heap.size ≤ x1.heap.size := B2.out.size
  rw [show (min (len2 : Int) (len3 : Int)) = ((min len2 len3 : Nat) : Int) by omega]
  have n2 : min len2 len3 ≤ len2 := Nat.min_le_left _ _
  have n3 : min len2 len3 ≤ len3 := Nat.min_le_right _ _
  generalize min len2 len3 = N at *
  have hown3 : w2.ownsRow w.heap.size 5 1 (.slice (some ⟨x1.heap.size, 0, none⟩) N N) N (bcells (List.replicate N 0)) := by
    have e : (madeCells (Value.int .u8 0).cells (N * 1)).toList = bcells (List.replicate N 0) := by
      rw [Nat.mul_one]
      show (madeCells #[Value.int .u8 0] N).toList = _
      rw [toList_madeCells_one]
      unfold bcells
      rw [List.map_replicate]
      rfl
    rw [e] at hown2
    exact hown2
  have la1 : N ≤ la.length := by rw [TA.out.len]; exact n2
  have lb1 : N ≤ lb.length := by rw [TB.out.len]; exact n3
  obtain ⟨Z, hZ⟩ : ∃ Z, Z = List.zipWith (· ^^^ ·) (la.take N) (lb.take N) := ⟨_, rfl⟩
  have LZ : Hid (Z.length = N) := Lib.hid (by rw [hZ, List.length_zipWith, List.length_take, List.length_take]; omega)
  have HZ := Lib.hid hZ
  have O3 := Lib.hid hown3
  have B3 := Lib.hid hb2
  clear hZ hown2 hown3 hb2 hg2 HC HS HS1 HS2
  generalize x1.heap.size = g at *
  go_loopw [35] (fun i wr => ∃ (k : Nat) (M : List UInt8), k ≤ N ∧ i = .int .i64 k ∧ M.length = N ∧ M.take k = Z.take k ∧ wr.ownsRow w.heap.size 5 1 (.slice (some ⟨g, 0, none⟩) N N) N (bcells M) ∧ Below w.heap.size w wr) (fun i _ => (N - intOf i).toNat)
  case atStart => exact ⟨0, _, by omega, rfl, List.length_replicate, rfl, O3.out, B3.out⟩
  case round =>
    obtain ⟨k, M, hk, rfl, hml, hmt, hown, hbel⟩ := hrel
    have O := Lib.hid hown
    have HML := Lib.hid hml
    have HMT := Lib.hid hmt
    have BW := Lib.hid hbel
    clear hown hml hmt
    by_cases hlt : k < N
    · obtain ⟨b2, o2, rfl, _, _⟩ := Rd.row TA.out (by omega)
      obtain ⟨b3, o3, rfl, _, _⟩ := Rd.row TB.out (by omega)
      obtain ⟨p, hp0⟩ : ∃ p, la[k]? = some p := ⟨_, List.getElem?_eq_getElem (by omega)⟩
      obtain ⟨q, hq0⟩ : ∃ q, lb[k]? = some q := ⟨_, List.getElem?_eq_getElem (by omega)⟩
      have d1 := Txt.cellAt (Rd.below TA.out hbel (Nat.le_refl _)) rfl hp0
      have d2 := Txt.cellAt (Rd.below TB.out hbel (Nat.le_refl _)) rfl hq0
      have f1 := O.out.frozenAt k
      obtain ⟨m0, hm0⟩ : ∃ m0, wr.cell? ⟨g, k, none⟩ = some m0 := ⟨_, by rw [O.out.cellAt k (by omega), bcells_get, List.getElem?_eq_getElem (by rw [HML.out]; exact hlt)]; rfl⟩
      have HP := Lib.hid hp0
      have HQ := Lib.hid hq0
      have i2 : (k : Int) < (len2 : Int) := by omega
      have i3 : (k : Int) < (len3 : Int) := by omega
      clear hbel hp0 hq0
      go_wp2_with fail
      go_region
      rw [xor_bytes p q]
      obtain ⟨O4, b4⟩ := stored_byte O.out k (p ^^^ q) hgw
      have HO4 := Lib.hid O4
      have HB4 := Lib.hid b4
      have HM4 : Hid ((M.set k (p ^^^ q)).take (k + 1) = Z.take (k + 1)) := Lib.hid (take_set_next (by rw [HML.out]; exact hlt) HMT.out (by rw [HZ.out]; exact mixed_get hlt HP.out HQ.out))
      clear O4 b4 d1 d2 f1 hm0
      go_wp2_with fail
      go_roundw
      case rel => exact ⟨k + 1, M.set k (p ^^^ q), by omega, by go_num, by rw [List.length_set, HML.out], HM4.out, HO4.out, (BW.out.trans HB4.out).drew⟩
      case measure => simp [intOf]; omega
    · obtain rfl : N = k := by omega
      have hM : M = Z := by
        have h := HMT.out
        rwa [List.take_of_length_le (by rw [HML.out]; omega), List.take_of_length_le (by rw [LZ.out]; omega)] at h
      subst hM
      have hst : bits .xor .u16 (s : Int) (t : Int) = ((s ^^^ t : Nat) : Int) := xor16' s t hs ht
      have R1 := Rd.of_own O.out
      have R2 := (Rd.below TA.out hbel (Nat.le_refl _))
      have R3 := (Rd.below TB.out hbel (Nat.le_refl _))
      have q1 := fun k => (sumOf (s ^^^ t) (xor16 hs ht) _ _ _ _ _ (wr.drewN k) (Rd.drewN R1 k)).mono (R' := fun e w' => e = .returned (.int .u16 (sum (s ^^^ t) M : Nat)) ∧ w' = wr.drewN k) fun _ _ h => ⟨h.1, h.2.symm⟩
      have q2 := fun k => (sumOf s hs _ _ _ _ _ (wr.drewN k) (Rd.drewN (Txt.head R2 n2) k)).mono (R' := fun e w' => e = .returned (.int .u16 (sum s (la.take N) : Nat)) ∧ w' = wr.drewN k) fun _ _ h => ⟨h.1, h.2.symm⟩
      have q3 := fun k => (sumOf t ht _ _ _ _ _ (wr.drewN k) (Rd.drewN (Txt.head R3 n3) k)).mono (R' := fun e w' => e = .returned (.int .u16 (sum t (lb.take N) : Nat)) ∧ w' = wr.drewN k) fun _ _ h => ⟨h.1, h.2.symm⟩
      have Q1 := Lib.hid q1
      have Q2 := Lib.hid q2
      have Q3 := Lib.hid q3
      have hmix : sum (s ^^^ t) M = sum s (la.take N) ^^^ sum t (lb.take N) := by
        rw [HZ.out]; exact sum_mix _ _ s t (by rw [List.length_take, List.length_take]; omega) hs ht
      have HX := Lib.hid hmix
      have p2 := sum_lt (la.take N) s hs
      have p3 := sum_lt (lb.take N) t ht
      have sl2 := fun w => run_head (P := Try.prog) w 23 5 i0 Try.underlying23 hi0 a2 len2 cap2 N (N : Int) rfl (by omega)
      have sl3 := fun w => run_head (P := Try.prog) w 23 5 i0 Try.underlying23 hi0 a3 len3 cap3 N (N : Int) rfl (by omega)
      clear q1 q2 q3 R1 R2 R3 hmix hbel
      go_wp2_with fail
      go_quiet ((first | (go_at_call 13; (with_reducible exact Calls.quiet_of_same (Q1.out _))) | (go_at_call 13; (with_reducible exact Calls.quiet_of_same (Q2.out _))) | (go_at_call 13; (with_reducible exact Calls.quiet_of_same (Q3.out _)))))
      go_wp2_with fail
      go_ret
      refine ⟨ret_bool ?_, ?_⟩
      · rw [xor16' _ _ p2 p3, HX.out]; exact beq_self_eq_true _
      · exact BW.out.trans (Below.mono (below_drewN wr nq) BW.out.size)

/-! ### THE ROW's STEP: WRITTEN OUT: LEAVE IT -/
set_option maxRecDepth 100000 in
theorem lifted (os : Os) (started : os.Started) (H : Type) (enc : TypeId × Value → H) :
    ReturnsInHanded {} Try.checked os 5 .any (Rows.crcPartsSpec.pre6 enc Try.prog Try.f5 Rows.crcPartsRow.domain false) (Rows.crcPartsSpec.post enc Try.prog Try.f5 false true false false) := by
  refine returnsInHanded_of_change_sized (C := Try.checked) own started (by kernel_rfl) Try.func5
    (ChangeSpec.witness6 (enc := enc) (C := Try.checked) false ⟨#[], #[.int .u16 0, .int .u16 0, .slice none 0 0, .slice none 0 0], []⟩ 8 (by kernel_rfl) (by kernel_rfl) (by kernel_rfl) (by kernel_rfl)) ?_
  intro W base args ds gs before hval0 hW hcnd hsz0 _
  have hsz : (DataW.weightsEach Try.prog (Try.f5.params.toList ++ Rows.crcPartsSpec.plain.varTypes Try.prog) (ds ++ gs)).all (· ≤ reachBytes) = true := hsz0
  clear hsz0
  have hval : ∀ (j : Nat) t v, Try.f5.params[j]? = some t → args[j]? = some v → Value.okWide Try.prog W .any base t v := hval0
  have hW' := hW
  obtain ⟨p, q, hA0, hV, rfl, hfz, hnd⟩ := hW
  have hA : DataW.TrodAll enc Try.prog W 0 (fun _ => true) true Try.f5.params.toList args.toList ds p := hA0
  rw [Try.params5] at hA hval hsz
  obtain ⟨v0, vs0, d0, ds0, p0, q0, hargs, rfl, rfl, h0, r0⟩ := trodAll_cons hA
  obtain ⟨v1, vs1, d1, ds1, p1, q1, rfl, rfl, rfl, h1, r1⟩ := trodAll_cons r0
  obtain ⟨v2, vs2, d2, ds2, p2, q2, rfl, rfl, rfl, h2, r2⟩ := trodAll_cons r1
  obtain ⟨v3, vs3, d3, ds3, p3, q3, rfl, rfl, rfl, h3, r3⟩ := trodAll_cons r2
  obtain ⟨rfl, rfl, rfl⟩ := trodAll_nil r3
  obtain rfl : args = #[v0, v1, v2, v3] := by cases args; simp_all
  obtain ⟨rfl, rfl⟩ := trodVars_none hV
  obtain ⟨a0, rfl, rfl, rfl, w0⟩ := open_int Try.underlying22 (hval 0 22 v0 rfl rfl) h0
  obtain ⟨a1, rfl, rfl, rfl, w1⟩ := open_int Try.underlying22 (hval 1 22 v1 rfl rfl) h1
  obtain ⟨a2, len2, cap2, rfl⟩ := okWide_slice Try.underlying23 (hval 2 23 v2 rfl rfl)
  have k2 := h2
  have lt2 : ∀ x ∈ p2, x.block < W.heap.size := by obtain ⟨m, hm⟩ := k2; exact DataW.trod_lt m _ _ _ hm
  obtain ⟨z2, w2, r2z⟩ : ∃ zs, IsRow .u8 W a2 len2 cap2 zs ∧ cap2 * Try.prog.bytesOf 5 ≤ reachBytes := by
    obtain ⟨fuel, hf⟩ := h2
    rcases open_ints Try.underlying23 Try.underlying5 (by kernel_rfl) hf with ⟨hcs, _⟩ | ⟨x, l, c, zs, hcs, _, hl, hm, hz, hx, hcell, hwz⟩
    · simp [Value.cells] at hcs
      obtain ⟨rfl, rfl, rfl⟩ := hcs
      exact ⟨[], .inl ⟨rfl, rfl, rfl, rfl⟩, by omega⟩
    · simp [Value.cells] at hcs
      obtain ⟨rfl, rfl, rfl⟩ := hcs
      simp only [if_true] at hz
      simp only [Prod.mk.injEq] at hx
      obtain ⟨rfl, _⟩ := hx
      have hr := sized_slice hsz (j := 2) (t := 23) (e := 5) rfl rfl Try.underlying23
      refine ⟨zs, .inr ⟨_, rfl, hl, hm, hz, hcell, hwz⟩, ?_⟩
      simp only [lits, List.length_map, List.length_take, List.length_drop] at hr
      rwa [show min len2 zs.length + (zs.length - len2) = zs.length by omega, hz] at hr
  obtain ⟨a3, len3, cap3, rfl⟩ := okWide_slice Try.underlying23 (hval 3 23 v3 rfl rfl)
  have k3 := h3
  have lt3 : ∀ x ∈ p3, x.block < W.heap.size := by obtain ⟨m, hm⟩ := k3; exact DataW.trod_lt m _ _ _ hm
  obtain ⟨z3, w3, r3z⟩ : ∃ zs, IsRow .u8 W a3 len3 cap3 zs ∧ cap3 * Try.prog.bytesOf 5 ≤ reachBytes := by
    obtain ⟨fuel, hf⟩ := h3
    rcases open_ints Try.underlying23 Try.underlying5 (by kernel_rfl) hf with ⟨hcs, _⟩ | ⟨x, l, c, zs, hcs, _, hl, hm, hz, hx, hcell, hwz⟩
    · simp [Value.cells] at hcs
      obtain ⟨rfl, rfl, rfl⟩ := hcs
      exact ⟨[], .inl ⟨rfl, rfl, rfl, rfl⟩, by omega⟩
    · simp [Value.cells] at hcs
      obtain ⟨rfl, rfl, rfl⟩ := hcs
      simp only [if_true] at hz
      simp only [Prod.mk.injEq] at hx
      obtain ⟨rfl, _⟩ := hx
      have hr := sized_slice hsz (j := 3) (t := 23) (e := 5) rfl rfl Try.underlying23
      refine ⟨zs, .inr ⟨_, rfl, hl, hm, hz, hcell, hwz⟩, ?_⟩
      simp only [lits, List.length_map, List.length_take, List.length_drop] at hr
      rwa [show min len3 zs.length + (zs.length - len3) = zs.length by omega, hz] at hr
  clear hA0 hval0
  refine (walk a0 a1 a2 len2 cap2 z2 a3 len3 cap3 z3 W w0 w1 w2 w3 r2z r3z).mono fun e W' ⟨he, bel⟩ => ?_
  subst he
  exact ⟨_, rfl, _, _, _, [], _, [], hW', trodAll_mk1 (shut_bool Try.underlying4 _), (trodAll_cons_mk (shut_int Try.underlying22 w0) (trodAll_cons_mk (shut_int Try.underlying22 w1) (trodAll_cons_mk (Below.trod laidOut (by kernel_rfl) (of_decide_eq_true (by kernel_rfl)) k2 bel lt2) (trodAll_cons_mk (Below.trod laidOut (by kernel_rfl) (of_decide_eq_true (by kernel_rfl)) k3 bel lt3) trodAll_mk0)))), rfl, bel.frame _, fun h => by cases h⟩

theorem over : Rows.crcPartsRow.holds Try.pinned (OpenSpec.ofChange Rows.crcPartsSpec) :=
  OpenClaim.holds_of_wide 5 Try.f5 rfl rfl rfl rfl rfl rfl rfl ⟨rfl, rfl, rfl, rfl, rfl⟩ rfl rfl rfl rfl rfl (by kernel_rfl) Try.func5 (by kernel_rfl)
    (of_decide_eq_true (by kernel_rfl)) (by unfold Func.isWrapper; first | (rw [if_pos (by decide +kernel)]; kernel_rfl) | (rw [if_neg (by decide +kernel)]; exact ⟨rfl, rfl⟩))
    (fun os started H enc _ => lifted os started H enc)

/-- ████ THE STATEMENT ████ -/
theorem proved : Rows.CrcPartsSaid := over
#print axioms proved
end Go.Proofs.Ytkoakfbdhehndaa.crcParts
