/-
  remap.Play and remap.Again return what the document's own functions return, whatever the arguments are.
-/
import Derived.Test.YtegllglfnngijaaRows
import Derived.Test.YtegllglfnngijaaBoth
import Derived.Test.YtegllglfnngijaaLaws
import Derived.WalkKit
import Derived.ProofKit
import Derived.OpenShut
import Derived.ShutString
import Derived.ChangeOld
import Derived.Below
import Derived.SizedLaws
import Derived.RegionTactic
import Derived.Deep.RegionWith
import Derived.Deep.CutBlock
import Derived.ChangeAlike
namespace Go.Proofs.Ytegllglfnngijaa.remapPlays
open Go.ChangeShapes Go.WideShapes Go.ChangeAt Go.RowKit Words Go.Proofs.Ytegllglfnngijaa.Rem
open Go.ChangeMaps (open_string shut_string)
set_option linter.unusedVariables false

theorem own : ownKnob Try.prog.godebug = none := by kernel_rfl
theorem laidOut : laidOutB Try.prog = true := by kernel_rfl

set_option maxRecDepth 20000 in
set_option maxHeartbeats 4000000 in
/-- The walk: the Go text returns true and writes nothing that was there. -/
theorem walk (a0 : Int) (a1 : Option Addr) (len1 cap1 : Nat) (z1 : List Nop) (a2 : Option Addr) (len2 cap2 : Nat) (z2 : List Int) (w : World) (w0 : (Lit.int .i64 a0).wf = true) (w1 : Ops w w.heap.size a1 len1 cap1 z1) (w2 : Ints w w.heap.size a2 len2 cap2 z2) (r1 : cap1 * 16 ≤ 140737488351232) :
    Calls Try.prog 3 #[.int .i64 a0, .slice a1 len1 cap1, .slice a2 len2 cap2] w fun e w' => e = .returned (.bool true) ∧ Below w.heap.size w w' := by
  have hn : len1 ≤ 8796093022208 := by have := Words.Rd.le w1; omega
  have HP8 := Lib.hid (play8 _ _ _ _ z1 a0 w w1 (Nat.le_refl _) hn)
  have HP9 := Lib.hid (fun x (b : Below w.heap.size w x) => hplay9 _ _ _ _ z1 a0 x (Words.Rd.below w1 b (Nat.le_refl _)) b.size hn)
  have HA10 := Lib.hid (fun x (b : Below w.heap.size w x) => again10 _ _ _ _ z2 x (Words.Rd.below w2 b (Nat.le_refl _)) b.size)
  have HA11 := Lib.hid (fun x (b : Below w.heap.size w x) => hagain11 _ _ _ _ z2 x (Words.Rd.below w2 b (Nat.le_refl _)) b.size)
  have E12 := Lib.hid (fun B1 B2 A1 A2 n1 n2 c1 c2 a b w h1 h2 => equal12 B1 B2 A1 A2 n1 n2 c1 c2 a b w h1 h2)
  have E13 := Lib.hid (fun B1 B2 A1 A2 n1 n2 c1 c2 a b w h1 h2 => equal13 B1 B2 A1 A2 n1 n2 c1 c2 a b w h1 h2)
  have lpa := pAt_length a0 z1
  have laa := aAt_length z2
  unfold Played at HP8 HP9
  unfold Rem.Found at HA10 HA11
  generalize pAt a0 z1 = pa at *
  generalize aAt z2 = aa at *
  generalize pErrs a0 z1 = pe at *
  generalize pNo a0 z1 = pn at *
  generalize perr a0 = er at *
  generalize aErr z2 = ar at *
  clear w0 w1 w2 r1 hn
  have s1 := size25_of lpa
  have s2 := size25_of laa
  have o1 := arr_all pa
  have o2 := arr_all aa
  go_enter Try.func3, Try.ntmps3
  go_wp2_with fail
  refine (HP8.out).mono ?_; rintro e x1 ⟨A1, c1, A2, c2, rfl, i1, i2, b1⟩
  have I1 := Lib.hid i1
  have I2 := Lib.hid i2
  have B1 := Lib.hid (b1.alloc b1.size (.cells (icells pa).toArray 25))
  clear i1 i2 b1
  go_wp2_with (refine wpList_store_new rfl 25 (.tmp 8) (.tmp 24) rfl x1 (icells pa).toArray rfl rfl 25 (icells zero16).toArray s1 (z16_size lpa) o1 ?_)
  refine (HP9.out _ B1.out).mono ?_; rintro e x2 ⟨A3, c3, A4, c4, rfl, i3, i4, b2⟩
  have t1 := box_new _ b2
  have I1b := Lib.hid (ints_next I1.out t1)
  have I2b := Lib.hid (ints_next I2.out t1)
  have K8 := Lib.hid (box_wi b2)
  have I3 := Lib.hid i3
  have I4 := Lib.hid i4
  have B2 := Lib.hid (next_below B1.out b2 B1.out.size)
  clear i3 i4 b2 t1
  have B2' := Lib.hid (B2.out.alloc B2.out.size (.cells (icells pa).toArray 25))
  go_wp2_with (refine wpList_store_new rfl 25 (.tmp 12) (.tmp 32) rfl x2 (icells pa).toArray rfl rfl 25 (icells zero16).toArray s1 (z16_size lpa) o1 ?_)
  refine (HA10.out _ B2'.out).mono ?_; rintro e x3 ⟨rfl, b3⟩
  have t2 := box_new _ b3
  have I1c := Lib.hid (ints_next I1b.out t2)
  have I2c := Lib.hid (ints_next I2b.out t2)
  have I3c := Lib.hid (ints_next I3.out t2)
  have I4c := Lib.hid (ints_next I4.out t2)
  have K8c := Lib.hid (wi_next K8.out t2)
  have K12 := Lib.hid (box_wi b3)
  have B3 := Lib.hid (next_below B2'.out b3 B2'.out.size)
  clear b3 t2
  have B3' := Lib.hid (B3.out.alloc B3.out.size (.cells (icells aa).toArray 25))
  go_wp2_with (refine wpList_store_new rfl 25 (.tmp 15) (.tmp 38) rfl x3 (icells aa).toArray rfl rfl 25 (icells zero16).toArray s2 (z16_size laa) o2 ?_)
  refine (HA11.out _ B3'.out).mono ?_; rintro e x4 ⟨rfl, b4⟩
  have t3 := box_new _ b4
  have t4 : Below x4.heap.size x4 (x4.alloc (.cells (icells aa).toArray 25)) := (Below.refl _ _).alloc (Nat.le_refl _) _
  have I1d := Lib.hid (ints_next (ints_next I1c.out t3) t4)
  have I2d := Lib.hid (ints_next (ints_next I2c.out t3) t4)
  have I3d := Lib.hid (ints_next (ints_next I3c.out t3) t4)
  have I4d := Lib.hid (ints_next (ints_next I4c.out t3) t4)
  have K8d := Lib.hid (wi_next (wi_next K8c.out t3) t4)
  have K12d := Lib.hid (wi_next (wi_next K12.out t3) t4)
  have K15d := Lib.hid (wi_next (box_wi b4) t4)
  have K17d := Lib.hid (WI.new x4 25 aa)
  have B4 := Lib.hid ((next_below B3'.out b4 B3'.out.size).alloc (next_below B3'.out b4 B3'.out.size).size (.cells (icells aa).toArray 25))
  clear b4 t3 t4
  go_wp2_with (refine wpList_store_new rfl 25 (.tmp 17) (.tmp 43) rfl x4 (icells aa).toArray rfl rfl 25 (icells zero16).toArray s2 (z16_size laa) o2 ?_)
  obtain ⟨x5, h5⟩ : ∃ x5, x5 = x4.alloc (.cells (icells aa).toArray 25) := ⟨_, rfl⟩
  rw [← h5] at I1d I2d I3d I4d K8d K12d K15d K17d B4 ⊢
  clear h5
  refine (E12.out _ _ _ _ _ _ _ _ _ _ _ I1d.out I3d.out).mono ?_; rintro e x6 he
  obtain ⟨rfl, q, rfl⟩ := he.yes rfl
  clear he
  have l8 := (WI.drewN K8d.out q).range
  have l12 := (WI.drewN K12d.out q).range
  have hz1 := size25_len lpa
  have hz2 := size25_len laa
  have heq := fun x => eq16 lpa x
  have heq' := fun x => eq16' lpa x
  have heq2 := fun x => eq16 laa x
  have heq2' := fun x => eq16' laa x
  go_wp2_with (first
    | (refine wpList_load_guard (by rfl) 25 (.tmp 8) rfl x1.heap.size 0 rfl (icells pa) _ l8 Try.underlying25 rfl hz1 ?_)
    | (refine wpList_load_guard (by rfl) 25 (.tmp 12) rfl x2.heap.size 0 rfl (icells pa) _ l12 Try.underlying25 rfl hz1 ?_))
  refine (E13.out _ _ _ _ _ _ _ _ _ _ _ (Words.Rd.drewN I2d.out q) (Words.Rd.drewN I4d.out q)).mono ?_; rintro e x6 he
  obtain ⟨rfl, q2, rfl⟩ := he.yes rfl
  clear he l8 l12
  have l15 := (WI.drewN (WI.drewN K15d.out q) q2).range
  have l17 := (WI.drewN (WI.drewN K17d.out q) q2).range
  go_wp2_with (first
    | (refine wpList_load_guard (by rfl) 25 (.tmp 15) rfl x3.heap.size 0 rfl (icells aa) _ l15 Try.underlying25 rfl hz2 ?_)
    | (refine wpList_load_guard (by rfl) 25 (.tmp 17) rfl x4.heap.size 0 rfl (icells aa) _ l17 Try.underlying25 rfl hz2 ?_))
  go_ret
  exact ⟨rfl, by first | exact below_drewN (below_drewN B4.out q) q2 | exact below_drewN B4.out _⟩

set_option maxRecDepth 100000 in
theorem contract (H : Type) (enc : TypeId × Value → H) (W : World) (base : Nat) (args : Array Value) (ds gs : List (DataW H)) (before : List MemPlace)
    (hval : ∀ (j : Nat) t v, Try.f3.params[j]? = some t → args[j]? = some v → Value.okWide Try.prog W .any base t v)
    (hW : DataW.Whole enc Try.prog Try.f3.params.toList Rows.remapPlaysSpec.vars false W args.toList ds gs before) (hsz : (DataW.weightsEach Try.prog (Try.f3.params.toList ++ Rows.remapPlaysSpec.plain.varTypes Try.prog) (ds ++ gs)).all (· ≤ reachBytes) = true) :
    Calls Try.prog 3 args W fun e W' => ∃ v, e = .returned v ∧ Rows.remapPlaysSpec.post enc Try.prog Try.f3 false true false false W args v W' := by
  have hW' := hW
  obtain ⟨p, q, hA0, hV, rfl, hfz, hnd⟩ := hW
  have hA : DataW.TrodAll enc Try.prog W 0 (fun _ => true) true Try.f3.params.toList args.toList ds p := hA0
  rw [Try.params3] at hA hval hsz
  obtain ⟨v0, vs0, d0, ds0, p0, q0, hargs, rfl, rfl, h0, rr0⟩ := trodAll_cons hA
  obtain ⟨v1, vs1, d1, ds1, p1, q1, rfl, rfl, rfl, h1, rr1⟩ := trodAll_cons rr0
  obtain ⟨v2, vs2, d2, ds2, p2, q2, rfl, rfl, rfl, h2, rr2⟩ := trodAll_cons rr1
  obtain ⟨rfl, rfl, rfl⟩ := trodAll_nil rr2
  obtain rfl : args = #[v0, v1, v2] := by cases args; simp_all
  obtain ⟨rfl, rfl⟩ := trodVars_none hV
  obtain ⟨a0, rfl, rfl, rfl, w0⟩ := open_int Try.underlying3 (hval 0 3 v0 rfl rfl) h0
  obtain ⟨a1, len1, cap1, rfl⟩ := okWide_slice Try.underlying22 (hval 1 22 v1 rfl rfl)
  have k1 := h1
  have lt1 : ∀ x ∈ p1, x.block < W.heap.size := by obtain ⟨m, hm⟩ := k1; exact DataW.trod_lt m _ _ _ hm
  obtain ⟨⟨z1, w1⟩, u1⟩ := open_ops h1
  have r1 := reach_ops hsz (j := 1) rfl rfl u1
  obtain ⟨a2, len2, cap2, rfl⟩ := okWide_slice Try.underlying23 (hval 2 23 v2 rfl rfl)
  have k2 := h2
  have lt2 : ∀ x ∈ p2, x.block < W.heap.size := by obtain ⟨m, hm⟩ := k2; exact DataW.trod_lt m _ _ _ hm
  obtain ⟨⟨z2, w2⟩, u2⟩ := open_ints h2
  clear hA0
  refine (walk a0 a1 len1 cap1 z1 a2 len2 cap2 z2 W w0 w1 w2 r1).mono fun e W' ⟨he, bel⟩ => ?_
  subst he
  exact ⟨_, rfl, _, _, _, [], _, [], hW', trodAll_mk1 (shut_bool Try.underlying4 _), (trodAll_cons_mk (shut_int Try.underlying3 w0) (trodAll_cons_mk (Below.trod laidOut (by kernel_rfl) (of_decide_eq_true (by kernel_rfl)) k1 bel lt1) (trodAll_cons_mk (Below.trod laidOut (by kernel_rfl) (of_decide_eq_true (by kernel_rfl)) k2 bel lt2) trodAll_mk0))), rfl, bel.frame _, fun h => by cases h⟩

set_option maxRecDepth 100000 in
theorem lifted (os : Os) (started : os.Started) (H : Type) (enc : TypeId × Value → H) :
    ReturnsInHanded {} Try.checked os 3 .any (Rows.remapPlaysSpec.pre6 enc Try.prog Try.f3 Rows.remapPlaysRow.domain false) (Rows.remapPlaysSpec.post enc Try.prog Try.f3 false true false false) := by
  refine returnsInHanded_of_change_sized (C := Try.checked) own started (by kernel_rfl) Try.func3
    (ChangeSpec.witness6 (enc := enc) (C := Try.checked) false ⟨#[], #[.int .i64 0, .slice none 0 0, .slice none 0 0], []⟩ 8 (by kernel_rfl) (by kernel_rfl) (by kernel_rfl) (by kernel_rfl)) ?_
  intro W base args ds gs before hval hW _ hsz _
  exact contract H enc W base args ds gs before hval hW hsz

theorem over : Rows.remapPlaysRow.holds Try.pinned (OpenSpec.ofChange Rows.remapPlaysSpec) :=
  OpenClaim.holds_of_wide 3 Try.f3 rfl rfl rfl rfl rfl rfl rfl ⟨rfl, rfl, rfl, rfl, rfl⟩ rfl rfl rfl rfl rfl (by kernel_rfl) Try.func3 (by kernel_rfl)
    (of_decide_eq_true (by kernel_rfl)) (by unfold Func.isWrapper; first | (rw [if_pos (by decide +kernel)]; kernel_rfl) | (rw [if_neg (by decide +kernel)]; exact ⟨rfl, rfl⟩))
    (fun os started H enc _ => lifted os started H enc)

/-- ████ THE STATEMENT ████ -/
theorem proved : Rows.RemapPlaysSaid := over
#print axioms proved
end Go.Proofs.Ytegllglfnngijaa.remapPlays
