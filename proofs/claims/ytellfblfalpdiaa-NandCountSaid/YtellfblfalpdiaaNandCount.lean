/-
  NandCount holds for every input: as often as it was erased a block is worn, and reads wear nothing.
-/
import Derived.Test.YtellfblfalpdiaaRows
import Derived.Test.YtellfblfalpdiaaCounts
import Derived.Test.YtellfblfalpdiaaFrame
import Derived.WalkKit
import Derived.ProofKit
import Derived.OpenShut
import Derived.ShutString
import Derived.ChangeOld
import Derived.Below
import Derived.SizedLaws
import Derived.RegionTactic
import Derived.Deep.RegionWith
import Derived.Deep.CutBlock
import Derived.ChangeAlike
namespace Go.Proofs.Ytellfblfalpdiaa.nandCount
open Go.ChangeShapes Go.WideShapes Go.ChangeAt Go.RowKit Words Go.Proofs.Ytellfblfalpdiaa.Nand
open Go.ChangeMaps (open_string shut_string)
set_option linter.unusedVariables false

theorem own : ownKnob Try.prog.godebug = none := by kernel_rfl
theorem laidOut : laidOutB Try.prog = true := by kernel_rfl

set_option maxRecDepth 20000 in
set_option maxHeartbeats 4000000 in
/-- The walk: the Go text returns true and writes nothing that was there. -/
theorem walk (a0 : Option Addr) (len0 cap0 : Nat) (z0 : List Nop) (w : World) (w0 : Ops w w.heap.size a0 len0 cap0 z0) (r0 : cap0 * 32 ≤ 140737488351232) :
    Calls Try.prog 7 #[.slice a0 len0 cap0] w fun e w' => e = .returned (.bool true) ∧ Below w.heap.size w w' := by
  have q0 : len0 * 32 ≤ 140737488351232 := by have := Words.Rd.le w0; omega
  have H := Lib.hid w0
  have HA := Lib.hid (alive19 w)
  have HP := Lib.hid (fun x (b : Below w.heap.size w x) => play15 _ _ _ _ _ x (Words.Rd.below w0 b (Nat.le_refl _)) b.size q0)
  have L := Lib.hid w0.len
  clear w0 r0
  go_enter Try.func7, Try.ntmps7
  go_wp2_with fail
  refine (HA.out).mono ?_; rintro e x0 ⟨rfl, b0⟩
  have B0 := Lib.hid b0
  have H2 := Lib.hid (HP.out x0 b0)
  clear b0
  go_wp2_with fail
  refine (H2.out).mono ?_; rintro e x1 hp; obtain ⟨A5, c5, A6, c6, A7, m, c7, rfl, hm, i1⟩ := hp
  have I1 := Lib.hid i1
  have B1 := Lib.hid (B0.out.trans (i1.bel.mono B0.out.size))
  have LM := Lib.hid i1.read_.len
  have HRR : Hid (right (run z0).l = true) := Lib.hid (by rw [← runTo_all]; exact runTo_right _ _)
  clear i1
  go_wp2_with fail
  have C0 : Hid (Cnt w x1 (x1.alloc (.cells #[.int .i64 0, .int .i64 0, .int .i64 0, .int .i64 0, .int .i64 0, .int .i64 0, .int .i64 0, .int .i64 0] 45)) x1.heap.size (runTo z0 0).l) := Lib.hid ⟨(Below.refl _ _).alloc (Nat.le_refl _) _, by rw [runTo_zero, wv_fresh]; exact Whole.new _ _ _⟩
  go_loopw [7, 32] (fun r i' wr => ∃ k : Nat, k ≤ len0 ∧ i' = .int .i64 k ∧ r = .int .i64 ((runTo z0 k).read.length : Nat) ∧ Cnt w x1 wr x1.heap.size (runTo z0 k).l) (fun _ i' _ => (len0 - intOf i').toNat)
  case atStart => exact ⟨0, by omega, rfl, rfl, C0.out⟩
  case round =>
    obtain ⟨k, hk, rfl, rfl, hc⟩ := hrel
    have C := Lib.hid hc
    clear hc
    by_cases hlt : k < len0
    · obtain ⟨g, of, rfl, _, _⟩ := Words.Rd.row H.out (by omega)
      obtain ⟨o, ho⟩ : ∃ o, z0[k]? = some o := ⟨_, List.getElem?_eq_getElem (by rw [L.out]; exact hlt)⟩
      obtain ⟨c0, c1, c2, c3⟩ := Ops.cells (Words.Rd.below H.out (B1.out.trans (C.out.bel.mono B1.out.size)) (Nat.le_refl _)) rfl ho
      obtain ⟨g6, c6', hv6, _, hg6⟩ := own_form_pos I1.out.errs (by omega)
      injection hv6 with hv6 _ hv6'
      subst hv6 hv6'
      have ce := Ints.cellAt (Words.Rd.below I1.out.errs_ C.out.bel (Nat.le_refl _)) rfl (errs_run ho)
      rw [Nat.zero_add] at ce
      have ceA : (wr.alloc (.cells #[.int .i64 o.kind, .int .i64 o.block, .int .i64 o.page, .int .i64 o.data] 24)).cell? ⟨g6, k, none⟩ = some (.int .i64 (errOf (runTo z0 k).l o)) := (World.cell?_alloc_lt _ _ _ (Nat.lt_of_lt_of_le hg6 C.out.bel.size)).trans ce
      clear ce
      have HS := Lib.hid (runTo_succ ho)
      have hrl := (runTo_errs z0 k (by rw [L.out]; exact hk)).2
      have hrs := C.out.row.lt
      have HRk := Lib.hid (runTo_right z0 k)
      clear ho
      generalize runTo z0 k = s at *
      by_cases he : errOf s.l o = 0
      · have HE := Lib.hid he
        obtain ⟨_, hko, hwo, i, b, hi8, hib, hb, _⟩ := err_zero he
        rw [he] at ceA
        rcases kind_cases hko with ek | ek | ek
        · obtain ⟨n1, n2⟩ := count_other he ek
          have HN1 : Hid (wv (runTo z0 (k + 1)).l = wv s.l) := Lib.hid (by rw [HS.out, n1])
          have HN2 : Hid ((runTo z0 (k + 1)).read.length = s.read.length) := Lib.hid (by rw [HS.out, n2])
          rw [ek] at c0 ceA
          clear he hko hwo hib hb ek n1 n2
          go_wp2_with fail
          go_roundw
          case rel => exact ⟨k + 1, by omega, by go_num, by rw [HN2.out], ⟨C.out.bel.alloc C.out.bel.size _, by rw [HN1.out]; exact C.out.row.alloc _⟩⟩
          case measure => simp [intOf]; omega
        · obtain ⟨n1, n2⟩ := count_erase he ek hib hb
          have HN1 : Hid (wv (runTo z0 (k + 1)).l = (wv s.l).setIfInBounds i (.int .i64 (b.wear + 1))) := Lib.hid (by rw [HS.out, n1])
          have HN2 : Hid ((runTo z0 (k + 1)).read.length = s.read.length) := Lib.hid (by rw [HS.out, n2])
          obtain ⟨_, _, hw0, hw4, _⟩ := okB_iff.1 (right_get HRk.out hb)
          rw [ek] at c0 ceA
          rw [hib] at c1 ceA
          have e0 : decide ((i : Int) < 0) = false := by rw [decide_eq_false_iff_not]; omega
          have e8 : decide (8 ≤ (i : Int)) = false := by rw [decide_eq_false_iff_not]; omega
          have cw : (wr.alloc (.cells #[.int .i64 2, .int .i64 (i : Int), .int .i64 o.page, .int .i64 o.data] 24)).cell? ⟨x1.heap.size, i, none⟩ = some (.int .i64 b.wear) := by rw [(C.out.row.alloc _).cell]; exact wv_get hb
          have BS : Hid (Below x1.heap.size x1 (wr.setCell ⟨x1.heap.size, i, none⟩ (.int .i64 (b.wear + 1)))) := Lib.hid (C.out.bel.setCell (Nat.le_refl _) _)
          have fw : (wr.alloc (.cells #[.int .i64 2, .int .i64 (i : Int), .int .i64 o.page, .int .i64 o.data] 24)).frozen? ⟨x1.heap.size, i, none⟩ = false := (C.out.row.alloc _).frozen i
          clear he hko hwo hib hb ek n1 n2
          go_wp2_with fail
          go_roundw
          case rel => exact ⟨k + 1, by omega, by go_num, by rw [HN2.out], ⟨BS.out.alloc BS.out.size _, by rw [HN1.out]; exact (C.out.row.set_ _ _).alloc _⟩⟩
          case measure => simp [intOf]; omega
        · obtain ⟨n1, n2⟩ := count_read he ek
          have HN1 : Hid (wv (runTo z0 (k + 1)).l = wv s.l) := Lib.hid (by rw [HS.out, n1])
          have HN2 : Hid ((runTo z0 (k + 1)).read.length = s.read.length + 1) := Lib.hid (by rw [HS.out, n2])
          rw [ek] at c0 ceA
          clear he hko hwo hib hb ek n1 n2
          go_wp2_with fail
          go_roundw
          case rel => exact ⟨k + 1, by omega, by go_num, by rw [HN2.out]; go_num, ⟨C.out.bel.alloc C.out.bel.size _, by rw [HN1.out]; exact C.out.row.alloc _⟩⟩
          case measure => simp [intOf]; omega
      · have hne : (errOf s.l o != 0) = true := by rw [bne_iff_ne]; exact he
        obtain ⟨n1, n2⟩ := count_err he
        have HN1 : Hid (wv (runTo z0 (k + 1)).l = wv s.l) := Lib.hid (by rw [HS.out, n1])
        have HN2 : Hid ((runTo z0 (k + 1)).read.length = s.read.length) := Lib.hid (by rw [HS.out, n2])
        clear he n1 n2
        go_wp2_with fail
        go_roundw
        case rel => exact ⟨k + 1, by omega, by go_num, by rw [HN2.out], ⟨C.out.bel.alloc C.out.bel.size _, by rw [HN1.out]; exact C.out.row.alloc _⟩⟩
        case measure => simp [intOf]; omega
    · obtain rfl : k = len0 := by omega
      have HRA : Hid (runTo z0 k = run z0) := Lib.hid (by rw [← L.out, runTo_all])
      rw [HRA.out] at C ⊢
      obtain ⟨g5, rfl, _, _⟩ := I1.out.fl.addr (by omega)
      have ht : ((m : Int) == ((run z0).read.length : Nat)) = true := by rw [beq_iff_eq, LM.out]
      have ht2 : ((((run z0).read.length : Nat) : Int) == (m : Int)) = true := by rw [beq_iff_eq, LM.out]
      generalize hs : (run z0).read.length = rl at *
      clear hs
      go_wp2_with fail
      go_loopw [67] (fun i' wy => ∃ j : Nat, j ≤ 8 ∧ i' = .int .i64 j ∧ Cnt w x1 wy x1.heap.size (run z0).l) (fun i' _ => (8 - intOf i').toNat)
      case atStart => exact ⟨0, by omega, rfl, C.out⟩
      case round =>
        obtain ⟨j, hj, rfl, hc⟩ := hrel
        have CC := Lib.hid hc
        clear hc
        by_cases hj8 : j < 8
        · have o5 := own_below I1.out.fl CC.out.bel (Nat.le_refl _)
          obtain ⟨b, hb⟩ : ∃ b, (run z0).l[j]? = some b := ⟨_, List.getElem?_eq_getElem (by rw [right_len HRR.out]; exact hj8)⟩
          obtain ⟨d0, d1, d2, d3, d4, d5⟩ := OwnFl.cells o5 hb
          have hrs := CC.out.row.lt
          have cw : (wr.alloc (.cells #[.int .i64 b.d0, .int .i64 b.d1, .int .i64 b.d2, .int .i64 b.d3, .int .i64 b.done, .int .i64 b.wear] 31)).cell? ⟨x1.heap.size, j, none⟩ = some (.int .i64 b.wear) := by rw [(CC.out.row.alloc _).cell]; exact wv_get hb
          clear o5 hb
          go_wp2_with fail
          go_quiet (fail)
          go_wp2_with fail
          go_roundw
          case rel => exact ⟨j + 1, by omega, by go_num, ⟨below_drewN (CC.out.bel.alloc CC.out.bel.size _) _, (CC.out.row.alloc _).drewN _⟩⟩
          case measure => simp [intOf]; omega
        · obtain rfl : j = 8 := by omega
          have BF := Lib.hid (B1.out.trans (CC.out.bel.mono B1.out.size))
          go_wp2_with fail
          go_ret
          exact ⟨rfl, BF.out⟩

set_option maxRecDepth 100000 in
theorem contract (H : Type) (enc : TypeId × Value → H) (W : World) (base : Nat) (args : Array Value) (ds gs : List (DataW H)) (before : List MemPlace)
    (hval : ∀ (j : Nat) t v, Try.f7.params[j]? = some t → args[j]? = some v → Value.okWide Try.prog W .any base t v)
    (hW : DataW.Whole enc Try.prog Try.f7.params.toList Rows.nandCountSpec.vars false W args.toList ds gs before) (hsz : (DataW.weightsEach Try.prog (Try.f7.params.toList ++ Rows.nandCountSpec.plain.varTypes Try.prog) (ds ++ gs)).all (· ≤ reachBytes) = true) :
    Calls Try.prog 7 args W fun e W' => ∃ v, e = .returned v ∧ Rows.nandCountSpec.post enc Try.prog Try.f7 false true false false W args v W' := by
  have hW' := hW
  obtain ⟨p, q, hA0, hV, rfl, hfz, hnd⟩ := hW
  have hA : DataW.TrodAll enc Try.prog W 0 (fun _ => true) true Try.f7.params.toList args.toList ds p := hA0
  rw [Try.params7] at hA hval hsz
  obtain ⟨v0, vs0, d0, ds0, p0, q0, hargs, rfl, rfl, h0, rr0⟩ := trodAll_cons hA
  obtain ⟨rfl, rfl, rfl⟩ := trodAll_nil rr0
  obtain rfl : args = #[v0] := by cases args; simp_all
  obtain ⟨rfl, rfl⟩ := trodVars_none hV
  obtain ⟨a0, len0, cap0, rfl⟩ := okWide_slice Try.underlying35 (hval 0 35 v0 rfl rfl)
  have k0 := h0
  have lt0 : ∀ x ∈ p0, x.block < W.heap.size := by obtain ⟨m, hm⟩ := k0; exact DataW.trod_lt m _ _ _ hm
  obtain ⟨⟨z0, w0⟩, u0⟩ := open_ops h0
  have r0 := reach_ops hsz (j := 0) rfl rfl u0
  clear hA0
  refine (walk a0 len0 cap0 z0 W w0 r0).mono fun e W' ⟨he, bel⟩ => ?_
  subst he
  exact ⟨_, rfl, _, _, _, [], _, [], hW', trodAll_mk1 (shut_bool Try.underlying4 _), (trodAll_cons_mk (Below.trod laidOut (by kernel_rfl) (of_decide_eq_true (by kernel_rfl)) k0 bel lt0) trodAll_mk0), rfl, bel.frame _, fun h => by cases h⟩

set_option maxRecDepth 100000 in
theorem lifted (os : Os) (started : os.Started) (H : Type) (enc : TypeId × Value → H) :
    ReturnsInHanded {} Try.checked os 7 .any (Rows.nandCountSpec.pre6 enc Try.prog Try.f7 Rows.nandCountRow.domain false) (Rows.nandCountSpec.post enc Try.prog Try.f7 false true false false) := by
  refine returnsInHanded_of_change_sized (C := Try.checked) own started (by kernel_rfl) Try.func7
    (ChangeSpec.witness6 (enc := enc) (C := Try.checked) false ⟨#[], #[.slice none 0 0], []⟩ 8 (by kernel_rfl) (by kernel_rfl) (by kernel_rfl) (by kernel_rfl)) ?_
  intro W base args ds gs before hval hW _ hsz _
  exact contract H enc W base args ds gs before hval hW hsz

theorem over : Rows.nandCountRow.holds Try.pinned (OpenSpec.ofChange Rows.nandCountSpec) :=
  OpenClaim.holds_of_wide 7 Try.f7 rfl rfl rfl rfl rfl rfl rfl ⟨rfl, rfl, rfl, rfl, rfl⟩ rfl rfl rfl rfl rfl (by kernel_rfl) Try.func7 (by kernel_rfl)
    (of_decide_eq_true (by kernel_rfl)) (by unfold Func.isWrapper; first | (rw [if_pos (by decide +kernel)]; kernel_rfl) | (rw [if_neg (by decide +kernel)]; exact ⟨rfl, rfl⟩))
    (fun os started H enc _ => lifted os started H enc)

/-- ████ THE STATEMENT ████ -/
theorem proved : Rows.NandCountSaid := over
#print axioms proved
end Go.Proofs.Ytellfblfalpdiaa.nandCount
