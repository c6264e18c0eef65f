/-
  package mount's Fold and Mount return what the document's own return, for every state, every number to start from and every list of pages.
-/
import Derived.Test.YtiiadclcfbghkaaRows
import Derived.Test.YtiiadclcfbghkaaEqs
import Derived.Test.YtiiadclcfbghkaaFrame
import Derived.WalkKit
import Derived.ProofKit
import Derived.OpenShut
import Derived.ShutString
import Derived.ChangeOld
import Derived.Below
import Derived.SizedLaws
import Derived.RegionTactic
import Derived.Deep.RegionWith
import Derived.Deep.CutBlock
import Derived.ChangeAlike
namespace Go.Proofs.Ytiiadclcfbghkaa.mountTells
open Go.ChangeShapes Go.WideShapes Go.ChangeAt Go.RowKit Words Go.Proofs.Ytiiadclcfbghkaa.Mnt
open Go.ChangeMaps (open_string shut_string)
set_option linter.unusedVariables false

theorem own : ownKnob Try.prog.godebug = none := by kernel_rfl
theorem laidOut : laidOutB Try.prog = true := by kernel_rfl

set_option maxRecDepth 20000 in
set_option maxHeartbeats 4000000 in
/-- The walk: the Go text returns true and writes nothing that was there. -/
theorem walk (s0 : List Int) (a1 : Int) (a2 : Option Addr) (len2 cap2 : Nat) (z2 : List Nop) (w : World) (e0 : s0.length = 16) (w1 : (Lit.int .i64 a1).wf = true) (w2 : PgsW w w.heap.size a2 len2 cap2 z2) (r2 : cap2 * 32 ≤ 140737488351232) :
    Calls Try.prog 3 #[av s0, .int .i64 a1, .slice a2 len2 cap2] w fun e w' => e = .returned (.bool true) ∧ Below w.heap.size w w' := by
  have hn : len2 * 32 ≤ 140737488351232 := by have := Words.Rd.le w2.rd; omega
  have HF7 := Lib.hid (fun x (b : Below w.heap.size w x) => fold7 s0 e0 _ _ _ _ z2 x (Words.Rd.below w2.rd b (Nat.le_refl _)) b.size)
  have HF8 := Lib.hid (fun x (b : Below w.heap.size w x) => lfold8 s0 e0 _ _ _ _ z2 x (Words.Rd.below w2.rd b (Nat.le_refl _)) b.size)
  have HM9 := Lib.hid (fun x (b : Below w.heap.size w x) => mount9 s0 e0 a1 _ _ _ _ z2 x (Words.Rd.below w2.rd b (Nat.le_refl _)) b.size w2.wf hn)
  have HM10 := Lib.hid (fun x (b : Below w.heap.size w x) => lmount10 s0 e0 a1 _ _ _ _ z2 x (Words.Rd.below w2.rd b (Nat.le_refl _)) b.size hn)
  have lf := foS_length (l := z2) e0
  have lm := moS_length (l := z2) (q := a1) e0
  unfold Folded at HF7 HF8
  unfold Mounted at HM9 HM10
  generalize foS s0 z2 = fs at *
  generalize foE z2 = fe at *
  generalize moS s0 z2 a1 = ms at *
  generalize moN z2 a1 = mn at *
  generalize moE z2 a1 = me at *
  clear w1 w2 r2 hn
  have s1 := size22_of lf
  have s2 := size22_of lm
  have o1 := arr_all fs
  have o2 := arr_all ms
  have HSs := size22_of e0
  have B0 := Lib.hid (boxed w (.cells (icells s0).toArray 22))
  have S0 := WI.new w 22 s0
  unfold av at HF7 HF8 HM9 HM10 ⊢
  go_enter Try.func3, Try.ntmps3
  go_wp2_with (refine wpList_load_row rfl 22 (.tmp 3) rfl w.heap.size rfl 22 (icells s0).toArray (0, 0) _ S0 Try.underlying22 rfl HSs ?_)
  refine (HF7.out _ B0.out).mono ?_; rintro e x1 ⟨rfl, b1⟩
  have S1 := (wi_next S0 b1).alloc (.cells (icells fs).toArray 22)
  have B1 := Lib.hid (next_below B0.out b1 B0.out.size)
  have B1' := Lib.hid (B1.out.alloc B1.out.size (.cells (icells fs).toArray 22))
  clear b1 S0
  go_wp2_with (first
    | (refine wpList_store_new rfl 22 (.tmp 7) (.tmp 21) rfl x1 (icells fs).toArray rfl rfl 22 (icells zero16).toArray s1 (z16_size lf) o1 ?_)
    | (refine wpList_load_row rfl 22 (.tmp 3) rfl w.heap.size rfl 22 (icells s0).toArray (0, 0) _ S1 Try.underlying22 rfl HSs ?_))
  refine (HF8.out _ B1'.out).mono ?_; rintro e x2 ⟨rfl, b2⟩
  have S2 := (wi_next S1 b2).alloc (.cells (icells fs).toArray 22)
  have K7 := Lib.hid ((box_wi b2).alloc (.cells (icells fs).toArray 22))
  have B2 := Lib.hid (next_below B1'.out b2 B1'.out.size)
  have B2' := Lib.hid (B2.out.alloc B2.out.size (.cells (icells fs).toArray 22))
  clear b2 S1
  go_wp2_with (first
    | (refine wpList_store_new rfl 22 (.tmp 9) (.tmp 27) rfl x2 (icells fs).toArray rfl rfl 22 (icells zero16).toArray s1 (z16_size lf) o1 ?_)
    | (refine wpList_load_row rfl 22 (.tmp 3) rfl w.heap.size rfl 22 (icells s0).toArray (0, 0) _ S2 Try.underlying22 rfl HSs ?_))
  refine (HM9.out _ B2'.out).mono ?_; rintro e x3 ⟨rfl, b3⟩
  have S3 := (wi_next S2 b3).alloc (.cells (icells ms).toArray 22)
  have K7b := Lib.hid ((wi_next K7.out b3).alloc (.cells (icells ms).toArray 22))
  have K9 := Lib.hid ((box_wi b3).alloc (.cells (icells ms).toArray 22))
  have B3 := Lib.hid (next_below B2'.out b3 B2'.out.size)
  have B3' := Lib.hid (B3.out.alloc B3.out.size (.cells (icells ms).toArray 22))
  clear b3 S2
  go_wp2_with (first
    | (refine wpList_store_new rfl 22 (.tmp 11) (.tmp 34) rfl x3 (icells ms).toArray rfl rfl 22 (icells zero16).toArray s2 (z16_size lm) o2 ?_)
    | (refine wpList_load_row rfl 22 (.tmp 3) rfl w.heap.size rfl 22 (icells s0).toArray (0, 0) _ S3 Try.underlying22 rfl HSs ?_))
  refine (HM10.out _ B3'.out).mono ?_; rintro e x4 ⟨rfl, b4⟩
  have K7c := (wi_next K7b.out b4).alloc (.cells (icells ms).toArray 22)
  have K9c := (wi_next K9.out b4).alloc (.cells (icells ms).toArray 22)
  have K11c := (box_wi b4).alloc (.cells (icells ms).toArray 22)
  have K14c := WI.new x4 22 ms
  have B4 := Lib.hid ((next_below B3'.out b4 B3'.out.size).alloc (next_below B3'.out b4 B3'.out.size).size (.cells (icells ms).toArray 22))
  clear b4 S3
  have l7 := K7c.range
  have l9 := K9c.range
  have l11 := K11c.range
  have l14 := K14c.range
  have hz1 := size22_len lf
  have hz2 := size22_len lm
  have heq := fun x => eq16 lf x
  have heq' := fun x => eq16' lf x
  have heq2 := fun x => eq16 lm x
  have heq2' := fun x => eq16' lm x
  clear K7c K9c K11c K14c
  go_wp2_with (first
    | (refine wpList_store_new rfl 22 (.tmp 14) (.tmp 42) rfl x4 (icells ms).toArray rfl rfl 22 (icells zero16).toArray s2 (z16_size lm) o2 ?_)
    | (refine wpList_load_guard (by rfl) 22 (.tmp 7) rfl x1.heap.size 0 rfl (icells fs) _ l7 Try.underlying22 rfl hz1 ?_)
    | (refine wpList_load_guard (by rfl) 22 (.tmp 9) rfl x2.heap.size 0 rfl (icells fs) _ l9 Try.underlying22 rfl hz1 ?_)
    | (refine wpList_load_guard (by rfl) 22 (.tmp 11) rfl x3.heap.size 0 rfl (icells ms) _ l11 Try.underlying22 rfl hz2 ?_)
    | (refine wpList_load_guard (by rfl) 22 (.tmp 14) rfl x4.heap.size 0 rfl (icells ms) _ l14 Try.underlying22 rfl hz2 ?_))
  go_ret
  exact ⟨rfl, B4.out⟩

set_option maxRecDepth 100000 in
theorem contract (H : Type) (enc : TypeId × Value → H) (W : World) (base : Nat) (args : Array Value) (ds gs : List (DataW H)) (before : List MemPlace)
    (hval : ∀ (j : Nat) t v, Try.f3.params[j]? = some t → args[j]? = some v → Value.okWide Try.prog W .any base t v)
    (hW : DataW.Whole enc Try.prog Try.f3.params.toList Rows.mountTellsSpec.vars false W args.toList ds gs before) (hsz : (DataW.weightsEach Try.prog (Try.f3.params.toList ++ Rows.mountTellsSpec.plain.varTypes Try.prog) (ds ++ gs)).all (· ≤ reachBytes) = true) :
    Calls Try.prog 3 args W fun e W' => ∃ v, e = .returned v ∧ Rows.mountTellsSpec.post enc Try.prog Try.f3 false true false false W args v W' := by
  have hW' := hW
  obtain ⟨p, q, hA0, hV, rfl, hfz, hnd⟩ := hW
  have hA : DataW.TrodAll enc Try.prog W 0 (fun _ => true) true Try.f3.params.toList args.toList ds p := hA0
  rw [Try.params3] at hA hval hsz
  obtain ⟨v0, vs0, d0, ds0, p0, q0, hargs, rfl, rfl, h0, rr0⟩ := trodAll_cons hA
  obtain ⟨v1, vs1, d1, ds1, p1, q1, rfl, rfl, rfl, h1, rr1⟩ := trodAll_cons rr0
  obtain ⟨v2, vs2, d2, ds2, p2, q2, rfl, rfl, rfl, h2, rr2⟩ := trodAll_cons rr1
  obtain ⟨rfl, rfl, rfl⟩ := trodAll_nil rr2
  obtain rfl : args = #[v0, v1, v2] := by cases args; simp_all
  obtain ⟨rfl, rfl⟩ := trodVars_none hV
  have k0 := h0
  have lt0 : ∀ x ∈ p0, x.block < W.heap.size := by obtain ⟨m, hm⟩ := k0; exact DataW.trod_lt m _ _ _ hm
  obtain ⟨s0, e0, rfl⟩ := open_a16 (hval 0 22 v0 rfl rfl) h0
  obtain ⟨a1, rfl, rfl, rfl, w1⟩ := open_int Try.underlying3 (hval 1 3 v1 rfl rfl) h1
  obtain ⟨a2, len2, cap2, rfl⟩ := okWide_slice Try.underlying23 (hval 2 23 v2 rfl rfl)
  have k2 := h2
  have lt2 : ∀ x ∈ p2, x.block < W.heap.size := by obtain ⟨m, hm⟩ := k2; exact DataW.trod_lt m _ _ _ hm
  obtain ⟨⟨z2, w2⟩, u2⟩ := open_ops h2
  have r2 := reach_ops hsz (j := 2) rfl rfl u2
  clear hA0
  refine (walk s0 a1 a2 len2 cap2 z2 W e0 w1 w2 r2).mono fun e W' ⟨he, bel⟩ => ?_
  subst he
  exact ⟨_, rfl, _, _, _, [], _, [], hW', trodAll_mk1 (shut_bool Try.underlying4 _), (trodAll_cons_mk (Below.trod laidOut (by kernel_rfl) (of_decide_eq_true (by kernel_rfl)) k0 bel lt0) (trodAll_cons_mk (shut_int Try.underlying3 w1) (trodAll_cons_mk (Below.trod laidOut (by kernel_rfl) (of_decide_eq_true (by kernel_rfl)) k2 bel lt2) trodAll_mk0))), rfl, bel.frame _, fun h => by cases h⟩

set_option maxRecDepth 100000 in
theorem lifted (os : Os) (started : os.Started) (H : Type) (enc : TypeId × Value → H) :
    ReturnsInHanded {} Try.checked os 3 .any (Rows.mountTellsSpec.pre6 enc Try.prog Try.f3 Rows.mountTellsRow.domain false) (Rows.mountTellsSpec.post enc Try.prog Try.f3 false true false false) := by
  refine returnsInHanded_of_change_sized (C := Try.checked) own started (by kernel_rfl) Try.func3
    (ChangeSpec.witness6 (enc := enc) (C := Try.checked) false ⟨#[], #[.agg #[.int .i64 0, .int .i64 0, .int .i64 0, .int .i64 0, .int .i64 0, .int .i64 0, .int .i64 0, .int .i64 0, .int .i64 0, .int .i64 0, .int .i64 0, .int .i64 0, .int .i64 0, .int .i64 0, .int .i64 0, .int .i64 0], .int .i64 0, .slice none 0 0], []⟩ 8 (by kernel_rfl) (by kernel_rfl) (by kernel_rfl) (by kernel_rfl)) ?_
  intro W base args ds gs before hval hW _ hsz _
  exact contract H enc W base args ds gs before hval hW hsz

theorem over : Rows.mountTellsRow.holds Try.pinned (OpenSpec.ofChange Rows.mountTellsSpec) :=
  OpenClaim.holds_of_wide 3 Try.f3 rfl rfl rfl rfl rfl rfl rfl ⟨rfl, rfl, rfl, rfl, rfl⟩ rfl rfl rfl rfl rfl (by kernel_rfl) Try.func3 (by kernel_rfl)
    (of_decide_eq_true (by kernel_rfl)) (by unfold Func.isWrapper; first | (rw [if_pos (by decide +kernel)]; kernel_rfl) | (rw [if_neg (by decide +kernel)]; exact ⟨rfl, rfl⟩))
    (fun os started H enc _ => lifted os started H enc)

/-- ████ THE STATEMENT ████ -/
theorem proved : Rows.MountTellsSaid := over
#print axioms proved
end Go.Proofs.Ytiiadclcfbghkaa.mountTells
