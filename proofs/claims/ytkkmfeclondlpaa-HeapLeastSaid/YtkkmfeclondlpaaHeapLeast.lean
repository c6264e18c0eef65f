/-
  HeapLeast holds for every input: a block that is less than all others is popped first, and the others remain, for every list and every block.
-/
import Derived.Test.YtkkmfeclondlpaaRows
import Derived.Test.YtkkmfeclondlpaaMakes
import Derived.Test.YtkkmfeclondlpaaFrame
import Derived.WalkKit
import Derived.ProofKit
import Derived.OpenShut
import Derived.ShutString
import Derived.ChangeOld
import Derived.Below
import Derived.SizedLaws
import Derived.RegionTactic
import Derived.Deep.RegionWith
import Derived.Deep.CutBlock
import Derived.ChangeAlike
namespace Go.Proofs.Ytkkmfeclondlpaa.heapLeast
open Go.ChangeShapes Go.WideShapes Go.ChangeAt Go.RowKit Words Go.Proofs.Ytkkmfeclondlpaa.Heap
open Go.ChangeMaps (open_string shut_string)
set_option linter.unusedVariables false

theorem own : ownKnob Try.prog.godebug = none := by kernel_rfl
theorem laidOut : laidOutB Try.prog = true := by kernel_rfl

set_option maxRecDepth 20000 in
set_option maxHeartbeats 4000000 in
/-- The walk: the Go text returns true and writes nothing that was there. -/
theorem walk (a0 : Option Addr) (len0 cap0 : Nat) (z0 : List Wn) (o1 : Wn) (w : World) (w0 : Hp w w.heap.size a0 len0 cap0 z0) (r0 : cap0 * 16 ≤ 140737488351232) :
    Calls Try.prog 8 #[.slice a0 len0 cap0, wval o1] w fun e w' => e = .returned (.bool true) ∧ Below w.heap.size w w' := by
  have hs := small_of w0 r0
  have hn : len0 ≤ 8796093022207 := by unfold Small at hs; omega
  have hl := w0.len
  have R := Lib.hid (fun (wa : World) (b : Below w.heap.size w wa) => (Words.Rd.below w0 b (Nat.le_refl _) : Hp wa w.heap.size a0 len0 cap0 z0))
  have B0 := Lib.hid ((Below.refl w.heap.size w).alloc (Nat.le_refl _) (.cells #[.int .i64 o1.id, .int .i64 o1.wear] 24))
  have HA := Lib.hid (alive20 (w.alloc (.cells #[.int .i64 o1.id, .int .i64 o1.wear] 24)))
  have HP := Lib.hid (fun (wa : World) (b : Below w.heap.size w wa) => push9 _ a0 len0 cap0 z0 o1 wa (R.out wa b) b.size hs)
  have HC := Lib.hid (fun (wa : World) (b : Below w.heap.size w wa) (hb : w.heap.size < wa.heap.size) (c0 : wa.cell? ⟨w.heap.size, 0, none⟩ = some (.int .i64 o1.id)) (c1 : wa.cell? ⟨w.heap.size, 1, none⟩ = some (.int .i64 o1.wear)) =>
    has21 28 #[.pointer (some ⟨w.heap.size, 0, none⟩)] (fun x => !less o1 x) enter28 a0 len0 cap0 z0 wa (fun _ => tells28 w.heap.size o1 wa hb c0 c1) ((R.out wa b).more b.size))
  have HF := Lib.hid (fun (wa : World) (b : Below w.heap.size w wa) => fsorted19 _ a0 len0 cap0 z0 wa (R.out wa b) b.size hn)
  clear w0 r0 hn
  unfold wval at HP ⊢
  by_cases hp : perr z0 = 0
  · have hz := perr_zero hp
    have hpv := pval_ok (x := o1) hp
    rw [hp, hpv] at HP
    have hne : ((0 : Int) != 0) = false := by simp
    cases ha : z0.any (fun x => !less o1 x) with
    | true =>
      rw [ha] at HC
      clear ha hpv hz hp
      go_enter Try.func8, Try.ntmps8
      go_wp2_with fail
      refine (HA.out).mono ?_; rintro e w1 ⟨rfl, b1⟩
      have k1 := box_kept b1
      have B1 := Lib.hid (B0.out.trans (b1.mono B0.out.size))
      have hs1 : w.heap.size < w1.heap.size := by have := b1.size; simp at this; omega
      obtain ⟨k10, k11⟩ := k1
      clear b1
      go_wp2_with fail
      refine (HP.out _ B1.out).mono ?_; rintro e w2 ⟨A2, c2, m2, rfl, o2, b2⟩
      have B2 := Lib.hid (B1.out.trans (b2.mono B1.out.size))
      have k20 := (b2.cell (p := ⟨w.heap.size, 0, none⟩) hs1).trans k10
      have k21 := (b2.cell (p := ⟨w.heap.size, 1, none⟩) hs1).trans k11
      have hs2 : w.heap.size < w2.heap.size := by have := b2.size; omega
      have HC2 := Lib.hid (HC.out w2 B2.out hs2 k20 k21)
      clear o2 b2 k10 k11
      go_wp2_with fail
      refine (HC2.out).mono ?_; rintro e w3 ⟨rfl, b3⟩
      have B3 := Lib.hid (B2.out.trans (b3.mono B2.out.size))
      clear b3
      go_wp2_with fail
      go_ret
      exact ⟨rfl, B3.out⟩
    | false =>
      rw [ha] at HC
      have hheap := right_iff.1 hz.1
      have hall : ∀ y ∈ z0, less o1 y = true := fun y hy => by
        have := List.any_eq_false.1 ha y hy
        simpa using this
      have hlen : (pushed z0 o1).length = len0 + 1 := by rw [pushed_length, hl]
      have hrt : terr (pushed z0 o1) = 0 := terr_ok (right_iff.2 (pushed_heap hheap o1)) (by omega)
      have htv : tval (pushed z0 o1) = o1 := by rw [tval_ok hrt]; exact least_first hheap hall
      have htl : sorted (tlist (pushed z0 o1)) = sorted z0 := by rw [tlist_ok hrt]; exact least_rest hheap hall
      have htn : (tlist (pushed z0 o1)).length = len0 := by rw [tlist_ok hrt, popped_length]; omega
      have heq := fun w => (eql_wn o1 o1 w).trans (by rw [decide_eq_true rfl])
      have hz0 : ((0 : Int) == 0) = true := by simp
      have hz4 : len0 ≤ 4096 := by omega
      clear ha hall hheap hpv hz hp
      generalize pushed z0 o1 = pv at *
      have HRT := Lib.hid hrt
      have HTV := Lib.hid htv
      have HTL := Lib.hid htl
      have HTN := Lib.hid htn
      have HLN := Lib.hid hlen
      clear hrt htv htl htn hlen hl
      go_enter Try.func8, Try.ntmps8
      go_wp2_with fail
      refine (HA.out).mono ?_; rintro e w1 ⟨rfl, b1⟩
      have k1 := box_kept b1
      have B1 := Lib.hid (B0.out.trans (b1.mono B0.out.size))
      have hs1 : w.heap.size < w1.heap.size := by have := b1.size; simp at this; omega
      obtain ⟨k10, k11⟩ := k1
      clear b1
      go_wp2_with fail
      refine (HP.out _ B1.out).mono ?_; rintro e w2 ⟨A2, c2, m2, rfl, o2, b2⟩
      have B2 := Lib.hid (B1.out.trans (b2.mono B1.out.size))
      have k20 := (b2.cell (p := ⟨w.heap.size, 0, none⟩) hs1).trans k10
      have k21 := (b2.cell (p := ⟨w.heap.size, 1, none⟩) hs1).trans k11
      have hs2 : w.heap.size < w2.heap.size := by have := b2.size; omega
      have HC2 := Lib.hid (HC.out w2 B2.out hs2 k20 k21)
      have O2 := Lib.hid o2
      have hm2 : m2 = len0 + 1 := by rw [← o2.len]; exact HLN.out
      clear o2 b2 k10 k11
      subst hm2
      go_wp2_with fail
      refine (HC2.out).mono ?_; rintro e w3 ⟨rfl, b3⟩
      have B3 := Lib.hid (B2.out.trans (b3.mono B2.out.size))
      have k30 := (b3.cell (p := ⟨w.heap.size, 0, none⟩) hs2).trans k20
      have k31 := (b3.cell (p := ⟨w.heap.size, 1, none⟩) hs2).trans k21
      have hs3 : w.heap.size < w3.heap.size := by have := b3.size; omega
      have hq := pop11 _ A2 (len0 + 1) c2 pv w3 (O2.out.below b3 (Nat.le_refl _)).hp (Nat.le_refl _) (by unfold Small; omega)
      rw [HRT.out, HTV.out] at hq
      have HQ := Lib.hid hq
      clear b3 hq k20 k21
      go_wp2_with fail
      refine (HQ.out).mono ?_; rintro e w4 ⟨A4, c4, m4, rfl, o4, b4⟩
      have hm4 : m4 = len0 := by rw [← o4.len]; exact HTN.out
      subst hm4
      have bx := ((Below.refl w4.heap.size w4).alloc (Nat.le_refl _) (.cells #[.int .i64 o1.id, .int .i64 o1.wear] 24))
      have B4 := Lib.hid (B3.out.trans ((b4.trans (bx.mono b4.size)).mono B3.out.size))
      have k40 := (bx.cell (p := ⟨w.heap.size, 0, none⟩) (by have := b4.size; show w.heap.size < w4.heap.size; omega)).trans ((b4.cell (p := ⟨w.heap.size, 0, none⟩) hs3).trans k30)
      have k41 := (bx.cell (p := ⟨w.heap.size, 1, none⟩) (by have := b4.size; show w.heap.size < w4.heap.size; omega)).trans ((b4.cell (p := ⟨w.heap.size, 1, none⟩) hs3).trans k31)
      have k50 : (w4.alloc (.cells #[.int .i64 o1.id, .int .i64 o1.wear] 24)).cell? ⟨w4.heap.size, 0, none⟩ = some (.int .i64 o1.id) := cell_of_row _ _ 0 _ 24 (0, 0) (heap_alloc_new w4 _)
      have k51 : (w4.alloc (.cells #[.int .i64 o1.id, .int .i64 o1.wear] 24)).cell? ⟨w4.heap.size, 1, none⟩ = some (.int .i64 o1.wear) := cell_of_row _ _ 1 _ 24 (0, 0) (heap_alloc_new w4 _)
      have hb4 := OwnHp.below o4 bx (Nat.le_refl _)
      have hss := fsorted19 _ A4 m4 c4 (tlist pv) _ hb4.hp (Nat.le_refl _) (by omega)
      rw [HTL.out] at hss
      have HSS := Lib.hid hss
      clear o4 b4 bx hb4 hss k30 k31
      unfold wval
      go_wp2_with fail
      refine (HSS.out).mono ?_; rintro e w5 ⟨A5, c5, rfl, o5, b5⟩
      have B5 := Lib.hid (B4.out.trans (b5.mono B4.out.size))
      have O5 := Lib.hid o5
      clear o5 b5 k40 k41 k50 k51
      go_wp2_with fail
      refine (HF.out _ B5.out).mono ?_; rintro e w6 ⟨A6, c6, rfl, o6, b6⟩
      have B6 := Lib.hid (B5.out.trans (b6.mono B5.out.size))
      have HE := Lib.hid (equal15_yes _ _ A5 A6 m4 m4 c5 c6 (sorted z0) (sorted z0) w6 (O5.out.below b6 (Nat.le_refl _)).hp o6.hp rfl)
      clear o6 b6
      go_wp2_with fail
      refine (HE.out).mono ?_; rintro e w7 ⟨rfl, hw7⟩
      have B7 := Lib.hid (B6.out.trans (hw7.below.mono B6.out.size))
      clear hw7
      go_wp2_with fail
      go_ret
      exact ⟨rfl, B7.out⟩
  · have hne : (perr z0 != 0) = true := by rw [bne_iff_ne]; exact hp
    generalize perr z0 = pe at *
    generalize pval z0 o1 = pv at *
    clear hp
    go_enter Try.func8, Try.ntmps8
    go_wp2_with fail
    refine (HA.out).mono ?_; rintro e w1 ⟨rfl, b1⟩
    have k1 := box_kept b1
    have B1 := Lib.hid (B0.out.trans (b1.mono B0.out.size))
    obtain ⟨k10, k11⟩ := k1
    clear b1
    go_wp2_with fail
    refine (HP.out _ B1.out).mono ?_; rintro e w2 ⟨A2, c2, m2, rfl, o2, b2⟩
    have B2 := Lib.hid (B1.out.trans (b2.mono B1.out.size))
    clear o2 b2
    go_wp2_with fail
    go_ret
    exact ⟨rfl, B2.out⟩

set_option maxRecDepth 100000 in
theorem contract (H : Type) (enc : TypeId × Value → H) (W : World) (base : Nat) (args : Array Value) (ds gs : List (DataW H)) (before : List MemPlace)
    (hval : ∀ (j : Nat) t v, Try.f8.params[j]? = some t → args[j]? = some v → Value.okWide Try.prog W .any base t v)
    (hW : DataW.Whole enc Try.prog Try.f8.params.toList Rows.heapLeastSpec.vars false W args.toList ds gs before) (hsz : (DataW.weightsEach Try.prog (Try.f8.params.toList ++ Rows.heapLeastSpec.plain.varTypes Try.prog) (ds ++ gs)).all (· ≤ reachBytes) = true) :
    Calls Try.prog 8 args W fun e W' => ∃ v, e = .returned v ∧ Rows.heapLeastSpec.post enc Try.prog Try.f8 false true false false W args v W' := by
  have hW' := hW
  obtain ⟨p, q, hA0, hV, rfl, hfz, hnd⟩ := hW
  have hA : DataW.TrodAll enc Try.prog W 0 (fun _ => true) true Try.f8.params.toList args.toList ds p := hA0
  rw [Try.params8] at hA hval hsz
  obtain ⟨v0, vs0, d0, ds0, p0, q0, hargs, rfl, rfl, h0, rr0⟩ := trodAll_cons hA
  obtain ⟨v1, vs1, d1, ds1, p1, q1, rfl, rfl, rfl, h1, rr1⟩ := trodAll_cons rr0
  obtain ⟨rfl, rfl, rfl⟩ := trodAll_nil rr1
  obtain rfl : args = #[v0, v1] := by cases args; simp_all
  obtain ⟨rfl, rfl⟩ := trodVars_none hV
  obtain ⟨a0, len0, cap0, rfl⟩ := okWide_slice Try.underlying22 (hval 0 22 v0 rfl rfl)
  have k0 := h0
  have lt0 : ∀ x ∈ p0, x.block < W.heap.size := by obtain ⟨m, hm⟩ := k0; exact DataW.trod_lt m _ _ _ hm
  obtain ⟨⟨z0, w0⟩, u0⟩ := open_hp h0
  have r0 := reach_hp hsz (j := 0) rfl rfl u0
  have k1 := h1
  have lt1 : ∀ x ∈ p1, x.block < W.heap.size := by obtain ⟨m, hm⟩ := k1; exact DataW.trod_lt m _ _ _ hm
  obtain ⟨o1, rfl⟩ := open_wn (hval 1 24 v1 rfl rfl) h1
  clear hA0
  refine (walk a0 len0 cap0 z0 o1 W w0 r0).mono fun e W' ⟨he, bel⟩ => ?_
  subst he
  exact ⟨_, rfl, _, _, _, [], _, [], hW', trodAll_mk1 (shut_bool Try.underlying4 _), (trodAll_cons_mk (Below.trod laidOut (by kernel_rfl) (of_decide_eq_true (by kernel_rfl)) k0 bel lt0) (trodAll_cons_mk (Below.trod laidOut (by kernel_rfl) (of_decide_eq_true (by kernel_rfl)) k1 bel lt1) trodAll_mk0)), rfl, bel.frame _, fun h => by cases h⟩

set_option maxRecDepth 100000 in
theorem lifted (os : Os) (started : os.Started) (H : Type) (enc : TypeId × Value → H) :
    ReturnsInHanded {} Try.checked os 8 .any (Rows.heapLeastSpec.pre6 enc Try.prog Try.f8 Rows.heapLeastRow.domain false) (Rows.heapLeastSpec.post enc Try.prog Try.f8 false true false false) := by
  refine returnsInHanded_of_change_sized (C := Try.checked) own started (by kernel_rfl) Try.func8
    (ChangeSpec.witness6 (enc := enc) (C := Try.checked) false ⟨#[], #[.slice none 0 0, .agg #[.int .i64 0, .int .i64 0]], []⟩ 8 (by kernel_rfl) (by kernel_rfl) (by kernel_rfl) (by kernel_rfl)) ?_
  intro W base args ds gs before hval hW _ hsz _
  exact contract H enc W base args ds gs before hval hW hsz

theorem over : Rows.heapLeastRow.holds Try.pinned (OpenSpec.ofChange Rows.heapLeastSpec) :=
  OpenClaim.holds_of_wide 8 Try.f8 rfl rfl rfl rfl rfl rfl rfl ⟨rfl, rfl, rfl, rfl, rfl⟩ rfl rfl rfl rfl rfl (by kernel_rfl) Try.func8 (by kernel_rfl)
    (of_decide_eq_true (by kernel_rfl)) (by unfold Func.isWrapper; first | (rw [if_pos (by decide +kernel)]; kernel_rfl) | (rw [if_neg (by decide +kernel)]; exact ⟨rfl, rfl⟩))
    (fun os started H enc _ => lifted os started H enc)

/-- ████ THE STATEMENT ████ -/
theorem proved : Rows.HeapLeastSaid := over
#print axioms proved
end Go.Proofs.Ytkkmfeclondlpaa.heapLeast
