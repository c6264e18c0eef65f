/-
  HeapFirst holds for every input: the first block of a heap is the least, and a heap stays one when a block is pushed or popped, for every list and every block.
-/
import Derived.Test.YtkkmfeclondlpaaRows
import Derived.Test.YtkkmfeclondlpaaFirst
import Derived.WalkKit
import Derived.ProofKit
import Derived.OpenShut
import Derived.ShutString
import Derived.ChangeOld
import Derived.Below
import Derived.SizedLaws
import Derived.RegionTactic
import Derived.Deep.RegionWith
import Derived.Deep.CutBlock
import Derived.ChangeAlike
namespace Go.Proofs.Ytkkmfeclondlpaa.heapFirst
open Go.ChangeShapes Go.WideShapes Go.ChangeAt Go.RowKit Words Go.Proofs.Ytkkmfeclondlpaa.Heap
open Go.ChangeMaps (open_string shut_string)
set_option linter.unusedVariables false

theorem own : ownKnob Try.prog.godebug = none := by kernel_rfl
theorem laidOut : laidOutB Try.prog = true := by kernel_rfl

set_option maxRecDepth 20000 in
set_option maxHeartbeats 4000000 in
/-- The walk: the Go text returns true and writes nothing that was there. -/
theorem walk (a0 : Option Addr) (len0 cap0 : Nat) (z0 : List Wn) (o1 : Wn) (w : World) (w0 : Hp w w.heap.size a0 len0 cap0 z0) (r0 : cap0 * 16 ≤ 140737488351232) :
    Calls Try.prog 5 #[.slice a0 len0 cap0, wval o1] w fun e w' => e = .returned (.bool true) ∧ Below w.heap.size w w' := by
  have hs := small_of w0 r0
  have hl := w0.len
  have R := Lib.hid (fun (wa : World) (b : Below w.heap.size w wa) => (Words.Rd.below w0 b (Nat.le_refl _) : Hp wa w.heap.size a0 len0 cap0 z0))
  have B0 := Lib.hid ((Below.refl w.heap.size w).alloc (Nat.le_refl _) (.cells #[.int .i64 o1.id, .int .i64 o1.wear] 24))
  have HA := Lib.hid (alive20 (w.alloc (.cells #[.int .i64 o1.id, .int .i64 o1.wear] 24)))
  have HP := Lib.hid (fun (wa : World) (b : Below w.heap.size w wa) => push9 _ a0 len0 cap0 z0 o1 wa (R.out wa b) b.size hs)
  have HT := Lib.hid (fun (wa : World) (b : Below w.heap.size w wa) => pop11 _ a0 len0 cap0 z0 wa (R.out wa b) b.size hs)
  have HC := Lib.hid (fun (wa : World) (b : Below w.heap.size w wa) (b8 : Nat) (u : Wn) (hb : b8 < wa.heap.size) (c0 : wa.cell? ⟨b8, 0, none⟩ = some (.int .i64 u.id)) (c1 : wa.cell? ⟨b8, 1, none⟩ = some (.int .i64 u.wear)) =>
    has21 24 #[.pointer (some ⟨b8, 0, none⟩)] (fun x => less x u) enter24 a0 len0 cap0 z0 wa (fun _ => tells24 b8 u wa hb c0 c1) ((R.out wa b).more b.size))
  unfold wval at HP ⊢
  have hz0 : ((0 : Int) == 0) = true := by simp
  have hz1 : ((0 : Int) != 0) = false := by simp
  have hls : len0 * 16 ≤ 140737488351232 := hs
  clear w0 r0 hs
  by_cases hp : perr z0 = 0
  · have hz := perr_zero hp
    have hpv := pval_ok (x := o1) hp
    have HPR := Lib.hid (right_iff.2 (pushed_heap (right_iff.1 hz.1) o1))
    have HPA := Lib.hid (any_least (pushed_heap (right_iff.1 hz.1) o1))
    have HPL : Hid ((pushed z0 o1).length = len0 + 1) := Lib.hid (by rw [pushed_length, hl])
    have hlen : (((len0 + 1 : Nat) : Int) != (len0 : Int) + 1) = false := by simp
    have hl4 : len0 < 4096 := by omega
    rw [hp, hpv] at HP
    by_cases hte : terr z0 = 0
    · have ht := terr_zero hte
      have HTR : Hid (right (popped z0) = true) := Lib.hid (right_iff.2 (popped_heap (right_iff.1 ht.1)))
      have HTA := Lib.hid (any_least (right_iff.1 ht.1))
      have HTL : Hid ((popped z0).length = len0 - 1) := Lib.hid (by rw [popped_length, hl])
      rw [hte, tlist_ok hte, tval_ok hte] at HT
      clear hte ht hp hz hpv hl
      go_enter Try.func5, Try.ntmps5
      go_wp2_with fail
      refine (HA.out).mono ?_; rintro e w1 ⟨rfl, b1⟩
      have k1 := box_kept b1
      have B1 := Lib.hid (B0.out.trans (b1.mono B0.out.size))
      obtain ⟨k10, k11⟩ := k1
      clear b1
      go_wp2_with fail
      refine (HP.out _ B1.out).mono ?_; rintro e w2 ⟨A2, c2, m2, rfl, o2, b2⟩
      have B2 := Lib.hid (B1.out.trans (b2.mono B1.out.size))
      have O2 : Hid (OwnHp w2 w.heap.size A2 m2 c2 _) := Lib.hid (own_base o2 B1.out.size)
      have hm2 : m2 = len0 + 1 := by rw [← o2.len]; exact HPL.out
      subst hm2
      clear o2 b2 k10 k11
      have BY := Lib.hid (B2.out.alloc B2.out.size (.cells #[.slice A2 (len0 + 1) c2] 22))
      go_wp2_with fail
      refine (HT.out _ BY.out).mono ?_; rintro e w4 ⟨A4, c4, m4, rfl, o4, b4⟩
      have K := Lib.hid (K7.start (tv := nth z0 0) B2.out O2.out b4 o4)
      have hm4 : m4 * 16 ≤ 140737488351232 := by have := o4.len; have := HTL.out; omega
      obtain ⟨-, -, -, -, -, q5, q0, q1⟩ := K.out
      clear o4 b4
      unfold wval
      go_wp2_with fail
      obtain ⟨g2, rfl, _, _⟩ := K.out.own2.addr (by omega)
      have HRA := right13 _ _ (len0 + 1) c2 (pushed z0 o1) _ K.out.own2.hp (Nat.le_refl _) (by unfold Small; omega)
      rw [HPR.out] at HRA
      have HRA := Lib.hid HRA
      refine (HRA.out).mono ?_; rintro e w5 ⟨rfl, b5⟩
      have K := Lib.hid (K.out.next b5)
      clear b5 q5 q0 q1
      obtain ⟨-, -, -, -, -, q5, q0, q1⟩ := K.out
      have HCA := has21 22 #[.pointer (some ⟨w2.heap.size, 0, none⟩)] _ enter22 (some ⟨g2, 0, none⟩) (len0 + 1) c2 (pushed z0 o1) w5 (fun _ => tells22 w2.heap.size g2 (len0 + 1) c2 (pushed z0 o1) w5 K.out.lt5 q5 K.out.own2.hp (by omega)) K.out.own2.hp
      rw [HPA.out] at HCA
      have HCA := Lib.hid HCA
      go_wp2_with fail
      refine (HCA.out).mono ?_; rintro e w6 ⟨rfl, b6⟩
      have K := Lib.hid (K.out.next b6)
      clear b6 q5 q0 q1
      obtain ⟨-, -, -, -, -, q5, q0, q1⟩ := K.out
      have HRB := right13 _ A4 m4 c4 (popped z0) _ K.out.own4.hp (Nat.le_refl _) (by unfold Small; omega)
      rw [HTR.out] at HRB
      have HRB := Lib.hid HRB
      go_wp2_with fail
      refine (HRB.out).mono ?_; rintro e w7 ⟨rfl, b7⟩
      have K := Lib.hid (K.out.next b7)
      clear b7 q5 q0 q1
      have HCB := HC.out w7 K.out.bel w4.heap.size (nth z0 0) K.out.lt8 K.out.u0 K.out.u1
      rw [HTA.out] at HCB
      have HCB := Lib.hid HCB
      go_wp2_with fail
      refine (HCB.out).mono ?_; rintro e w8 ⟨rfl, b8⟩
      have B8 := Lib.hid (K.out.bel.trans (b8.mono K.out.bel.size))
      clear b8
      go_wp2_with fail
      go_ret
      exact ⟨rfl, B8.out⟩
    · have hnt : (terr z0 != 0) = true := by rw [bne_iff_ne]; exact hte
      have heq := fun w => (eql_wn ⟨0, 0⟩ ⟨0, 0⟩ w).trans (by rw [decide_eq_true rfl])
      rw [tlist_no hte, tval_no hte] at HT
      generalize terr z0 = te at *
      clear hte hp hz hpv hl
      go_enter Try.func5, Try.ntmps5
      go_wp2_with fail
      refine (HA.out).mono ?_; rintro e w1 ⟨rfl, b1⟩
      have k1 := box_kept b1
      have B1 := Lib.hid (B0.out.trans (b1.mono B0.out.size))
      obtain ⟨k10, k11⟩ := k1
      clear b1
      go_wp2_with fail
      refine (HP.out _ B1.out).mono ?_; rintro e w2 ⟨A2, c2, m2, rfl, o2, b2⟩
      have B2 := Lib.hid (B1.out.trans (b2.mono B1.out.size))
      have O2 : Hid (OwnHp w2 w.heap.size A2 m2 c2 _) := Lib.hid (own_base o2 B1.out.size)
      have hm2 : m2 = len0 + 1 := by rw [← o2.len]; exact HPL.out
      subst hm2
      clear o2 b2 k10 k11
      have BY := Lib.hid (B2.out.alloc B2.out.size (.cells #[.slice A2 (len0 + 1) c2] 22))
      go_wp2_with fail
      refine (HT.out _ BY.out).mono ?_; rintro e w4 ⟨A4, c4, m4, rfl, o4, b4⟩
      have K := Lib.hid (K7.start (tv := ⟨0, 0⟩) B2.out O2.out b4 o4)
      obtain ⟨-, -, -, -, -, q5, q0, q1⟩ := K.out
      clear o4 b4
      unfold wval
      go_wp2_with fail
      obtain ⟨g2, rfl, _, _⟩ := K.out.own2.addr (by omega)
      have HRA := right13 _ _ (len0 + 1) c2 (pushed z0 o1) _ K.out.own2.hp (Nat.le_refl _) (by unfold Small; omega)
      rw [HPR.out] at HRA
      have HRA := Lib.hid HRA
      refine (HRA.out).mono ?_; rintro e w5 ⟨rfl, b5⟩
      have K := Lib.hid (K.out.next b5)
      clear b5 q5 q0 q1
      obtain ⟨-, -, -, -, -, q5, q0, q1⟩ := K.out
      have HCA := has21 22 #[.pointer (some ⟨w2.heap.size, 0, none⟩)] _ enter22 (some ⟨g2, 0, none⟩) (len0 + 1) c2 (pushed z0 o1) w5 (fun _ => tells22 w2.heap.size g2 (len0 + 1) c2 (pushed z0 o1) w5 K.out.lt5 q5 K.out.own2.hp (by omega)) K.out.own2.hp
      rw [HPA.out] at HCA
      have HCA := Lib.hid HCA
      go_wp2_with fail
      refine (HCA.out).mono ?_; rintro e w6 ⟨rfl, b6⟩
      have K := Lib.hid (K.out.next b6)
      clear b6 q5 q0 q1
      obtain ⟨-, -, -, -, -, q5, q0, q1⟩ := K.out
      go_wp2_with fail
      go_ret
      exact ⟨rfl, K.out.bel⟩
  · have hne : (perr z0 == 0) = false := by rw [beq_eq_false_iff_ne]; exact hp
    generalize perr z0 = pe at *
    generalize pval z0 o1 = pv at *
    by_cases hte : terr z0 = 0
    · have ht := terr_zero hte
      have HTR : Hid (right (popped z0) = true) := Lib.hid (right_iff.2 (popped_heap (right_iff.1 ht.1)))
      have HTA := Lib.hid (any_least (right_iff.1 ht.1))
      have HTL : Hid ((popped z0).length = len0 - 1) := Lib.hid (by rw [popped_length, hl])
      rw [hte, tlist_ok hte, tval_ok hte] at HT
      clear hte ht hp hl
      go_enter Try.func5, Try.ntmps5
      go_wp2_with fail
      refine (HA.out).mono ?_; rintro e w1 ⟨rfl, b1⟩
      have k1 := box_kept b1
      have B1 := Lib.hid (B0.out.trans (b1.mono B0.out.size))
      obtain ⟨k10, k11⟩ := k1
      clear b1
      go_wp2_with fail
      refine (HP.out _ B1.out).mono ?_; rintro e w2 ⟨A2, c2, m2, rfl, o2, b2⟩
      have B2 := Lib.hid (B1.out.trans (b2.mono B1.out.size))
      have O2 : Hid (OwnHp w2 w.heap.size A2 m2 c2 _) := Lib.hid (own_base o2 B1.out.size)
      clear o2 b2 k10 k11
      have BY := Lib.hid (B2.out.alloc B2.out.size (.cells #[.slice A2 m2 c2] 22))
      go_wp2_with fail
      refine (HT.out _ BY.out).mono ?_; rintro e w4 ⟨A4, c4, m4, rfl, o4, b4⟩
      have K := Lib.hid (K7.start (tv := nth z0 0) B2.out O2.out b4 o4)
      have hm4 : m4 * 16 ≤ 140737488351232 := by have := o4.len; have := HTL.out; omega
      obtain ⟨-, -, -, -, -, q5, q0, q1⟩ := K.out
      clear o4 b4
      unfold wval
      have HRB := right13 _ A4 m4 c4 (popped z0) _ K.out.own4.hp (Nat.le_refl _) (by unfold Small; omega)
      rw [HTR.out] at HRB
      have HRB := Lib.hid HRB
      go_wp2_with fail
      refine (HRB.out).mono ?_; rintro e w7 ⟨rfl, b7⟩
      have K := Lib.hid (K.out.next b7)
      clear b7 q5 q0 q1
      have HCB := HC.out w7 K.out.bel w4.heap.size (nth z0 0) K.out.lt8 K.out.u0 K.out.u1
      rw [HTA.out] at HCB
      have HCB := Lib.hid HCB
      go_wp2_with fail
      refine (HCB.out).mono ?_; rintro e w8 ⟨rfl, b8⟩
      have B8 := Lib.hid (K.out.bel.trans (b8.mono K.out.bel.size))
      clear b8
      go_wp2_with fail
      go_ret
      exact ⟨rfl, B8.out⟩
    · have hnt : (terr z0 != 0) = true := by rw [bne_iff_ne]; exact hte
      have heq := fun w => (eql_wn ⟨0, 0⟩ ⟨0, 0⟩ w).trans (by rw [decide_eq_true rfl])
      rw [tlist_no hte, tval_no hte] at HT
      generalize terr z0 = te at *
      clear hte hp hl
      go_enter Try.func5, Try.ntmps5
      go_wp2_with fail
      refine (HA.out).mono ?_; rintro e w1 ⟨rfl, b1⟩
      have k1 := box_kept b1
      have B1 := Lib.hid (B0.out.trans (b1.mono B0.out.size))
      obtain ⟨k10, k11⟩ := k1
      clear b1
      go_wp2_with fail
      refine (HP.out _ B1.out).mono ?_; rintro e w2 ⟨A2, c2, m2, rfl, o2, b2⟩
      have B2 := Lib.hid (B1.out.trans (b2.mono B1.out.size))
      have O2 : Hid (OwnHp w2 w.heap.size A2 m2 c2 _) := Lib.hid (own_base o2 B1.out.size)
      clear o2 b2 k10 k11
      have BY := Lib.hid (B2.out.alloc B2.out.size (.cells #[.slice A2 m2 c2] 22))
      go_wp2_with fail
      refine (HT.out _ BY.out).mono ?_; rintro e w4 ⟨A4, c4, m4, rfl, o4, b4⟩
      have K := Lib.hid (K7.start (tv := ⟨0, 0⟩) B2.out O2.out b4 o4)
      obtain ⟨-, -, -, -, -, q5, q0, q1⟩ := K.out
      clear o4 b4
      unfold wval
      go_wp2_with fail
      go_ret
      exact ⟨rfl, K.out.bel⟩

set_option maxRecDepth 100000 in
theorem contract (H : Type) (enc : TypeId × Value → H) (W : World) (base : Nat) (args : Array Value) (ds gs : List (DataW H)) (before : List MemPlace)
    (hval : ∀ (j : Nat) t v, Try.f5.params[j]? = some t → args[j]? = some v → Value.okWide Try.prog W .any base t v)
    (hW : DataW.Whole enc Try.prog Try.f5.params.toList Rows.heapFirstSpec.vars false W args.toList ds gs before) (hsz : (DataW.weightsEach Try.prog (Try.f5.params.toList ++ Rows.heapFirstSpec.plain.varTypes Try.prog) (ds ++ gs)).all (· ≤ reachBytes) = true) :
    Calls Try.prog 5 args W fun e W' => ∃ v, e = .returned v ∧ Rows.heapFirstSpec.post enc Try.prog Try.f5 false true false false W args v W' := by
  have hW' := hW
  obtain ⟨p, q, hA0, hV, rfl, hfz, hnd⟩ := hW
  have hA : DataW.TrodAll enc Try.prog W 0 (fun _ => true) true Try.f5.params.toList args.toList ds p := hA0
  rw [Try.params5] at hA hval hsz
  obtain ⟨v0, vs0, d0, ds0, p0, q0, hargs, rfl, rfl, h0, rr0⟩ := trodAll_cons hA
  obtain ⟨v1, vs1, d1, ds1, p1, q1, rfl, rfl, rfl, h1, rr1⟩ := trodAll_cons rr0
  obtain ⟨rfl, rfl, rfl⟩ := trodAll_nil rr1
  obtain rfl : args = #[v0, v1] := by cases args; simp_all
  obtain ⟨rfl, rfl⟩ := trodVars_none hV
  obtain ⟨a0, len0, cap0, rfl⟩ := okWide_slice Try.underlying22 (hval 0 22 v0 rfl rfl)
  have k0 := h0
  have lt0 : ∀ x ∈ p0, x.block < W.heap.size := by obtain ⟨m, hm⟩ := k0; exact DataW.trod_lt m _ _ _ hm
  obtain ⟨⟨z0, w0⟩, u0⟩ := open_hp h0
  have r0 := reach_hp hsz (j := 0) rfl rfl u0
  have k1 := h1
  have lt1 : ∀ x ∈ p1, x.block < W.heap.size := by obtain ⟨m, hm⟩ := k1; exact DataW.trod_lt m _ _ _ hm
  obtain ⟨o1, rfl⟩ := open_wn (hval 1 24 v1 rfl rfl) h1
  clear hA0
  refine (walk a0 len0 cap0 z0 o1 W w0 r0).mono fun e W' ⟨he, bel⟩ => ?_
  subst he
  exact ⟨_, rfl, _, _, _, [], _, [], hW', trodAll_mk1 (shut_bool Try.underlying4 _), (trodAll_cons_mk (Below.trod laidOut (by kernel_rfl) (of_decide_eq_true (by kernel_rfl)) k0 bel lt0) (trodAll_cons_mk (Below.trod laidOut (by kernel_rfl) (of_decide_eq_true (by kernel_rfl)) k1 bel lt1) trodAll_mk0)), rfl, bel.frame _, fun h => by cases h⟩

set_option maxRecDepth 100000 in
theorem lifted (os : Os) (started : os.Started) (H : Type) (enc : TypeId × Value → H) :
    ReturnsInHanded {} Try.checked os 5 .any (Rows.heapFirstSpec.pre6 enc Try.prog Try.f5 Rows.heapFirstRow.domain false) (Rows.heapFirstSpec.post enc Try.prog Try.f5 false true false false) := by
  refine returnsInHanded_of_change_sized (C := Try.checked) own started (by kernel_rfl) Try.func5
    (ChangeSpec.witness6 (enc := enc) (C := Try.checked) false ⟨#[], #[.slice none 0 0, .agg #[.int .i64 0, .int .i64 0]], []⟩ 8 (by kernel_rfl) (by kernel_rfl) (by kernel_rfl) (by kernel_rfl)) ?_
  intro W base args ds gs before hval hW _ hsz _
  exact contract H enc W base args ds gs before hval hW hsz

theorem over : Rows.heapFirstRow.holds Try.pinned (OpenSpec.ofChange Rows.heapFirstSpec) :=
  OpenClaim.holds_of_wide 5 Try.f5 rfl rfl rfl rfl rfl rfl rfl ⟨rfl, rfl, rfl, rfl, rfl⟩ rfl rfl rfl rfl rfl (by kernel_rfl) Try.func5 (by kernel_rfl)
    (of_decide_eq_true (by kernel_rfl)) (by unfold Func.isWrapper; first | (rw [if_pos (by decide +kernel)]; kernel_rfl) | (rw [if_neg (by decide +kernel)]; exact ⟨rfl, rfl⟩))
    (fun os started H enc _ => lifted os started H enc)

/-- ████ THE STATEMENT ████ -/
theorem proved : Rows.HeapFirstSaid := over
#print axioms proved
end Go.Proofs.Ytkkmfeclondlpaa.heapFirst
