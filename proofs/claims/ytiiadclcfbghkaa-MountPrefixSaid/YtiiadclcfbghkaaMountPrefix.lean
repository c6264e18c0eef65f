/-
  package mount: where one of the written pages is not found, those ahead of it are replayed, and nothing behind it.
-/
import Derived.Test.YtiiadclcfbghkaaRows
import Derived.Test.YtiiadclcfbghkaaKeep2
import Derived.WalkKit
import Derived.ProofKit
import Derived.OpenShut
import Derived.ShutString
import Derived.ChangeOld
import Derived.Below
import Derived.SizedLaws
import Derived.RegionTactic
import Derived.Deep.RegionWith
import Derived.Deep.CutBlock
import Derived.ChangeAlike
namespace Go.Proofs.Ytiiadclcfbghkaa.mountPrefix
open Go.ChangeShapes Go.WideShapes Go.ChangeAt Go.RowKit Words Go.Proofs.Ytiiadclcfbghkaa.Mnt
open Go.ChangeMaps (open_string shut_string)
set_option linter.unusedVariables false

theorem own : ownKnob Try.prog.godebug = none := by kernel_rfl
theorem laidOut : laidOutB Try.prog = true := by kernel_rfl

set_option maxRecDepth 100000 in
set_option maxHeartbeats 8000000 in
/-- The walk: the Go text returns true and writes nothing that was there. -/
theorem walk (a0 : Option Addr) (len0 cap0 : Nat) (z0 : List Nop) (a1 : Int) (w : World) (w0 : PgsW w w.heap.size a0 len0 cap0 z0) (w1 : (Lit.int .i64 a1).wf = true) (r0 : cap0 * 32 ≤ 140737488351232) :
    Calls Try.prog 5 #[.slice a0 len0 cap0, .int .i64 a1] w fun e w' => e = .returned (.bool true) ∧ Below w.heap.size w w' := by
  have hn : len0 * 32 ≤ 140737488351232 := by have := Words.Rd.le w0.rd; omega
  have HL := w0.rd.len
  have HAL := Lib.hid (alive11 w)
  have HW := Lib.hid (fun x (b : Below w.heap.size w x) => written12 _ _ _ _ z0 x (Words.Rd.below w0.rd b (Nat.le_refl _)) b.size hn)
  have hsm : z0.length ≤ 9223372036854775807 := by omega
  clear w0 r0
  go_enter Try.func5, Try.ntmps5
  go_wp2_with fail
  refine (HAL.out).mono ?_; rintro e x1 ⟨rfl, b1⟩
  have B1 := Lib.hid b1
  clear b1
  go_wp2_with fail
  refine (HW.out x1 B1.out).mono ?_; rintro e x2 hw
  rcases hw with ⟨_, rfl, b2⟩ | ⟨hok, A, c, rfl, o2, b2⟩
  · have B2 := Lib.hid (next_below B1.out b2 B1.out.size)
    clear b2
    go_wp2_with fail
    go_ret
    exact ⟨rfl, B2.out⟩
  · have B2 := Lib.hid (next_below B1.out b2 B1.out.size)
    rw [HL] at o2 ⊢
    have HP := Lib.hid o2.pgs
    clear b2 o2
    by_cases h0 : a1 < 0
    · go_wp2_with fail
      go_ret
      exact ⟨rfl, B2.out⟩
    · by_cases h1 : (len0 : Int) ≤ a1
      · go_wp2_with fail
        go_ret
        exact ⟨rfl, B2.out⟩
      · obtain ⟨k, rfl⟩ : ∃ k : Nat, a1 = k := ⟨a1.toNat, by omega⟩
        have hk : k < len0 := by omega
        have hlc := Words.Rd.le HP.out
        have HSL := run_head23 A len0 c k (by omega)
        have HF := fun x (b : Below x2.heap.size x2 x) => fold7 zero16 rfl _ _ _ _ _ x (Words.Rd.below (Pgs.head HP.out (show k ≤ len0 by omega)) b (Nat.le_refl _)) b.size
        have HC := Lib.hid (fun x (b : Below x2.heap.size x2 x) => clone13 _ _ _ _ _ x (Words.Rd.below HP.out b (Nat.le_refl _)) b.size (by omega))
        unfold Folded at HF
        rw [(fo_take (s := zero16) hok k).1, (fo_take (s := zero16) hok k).2] at HF
        obtain ⟨st, hst⟩ : ∃ st, st = run zero16 ((wrt z0).take k) := ⟨_, rfl⟩
        have hsl : st.length = 16 := by rw [hst, run_length]; rfl
        obtain ⟨p1, p2, p3⟩ := mo_lost (s := zero16) hok (m := k) (by omega)
        rw [← hst] at HF p1
        obtain ⟨m, hm⟩ : ∃ m, len0 = k + 1 + m := ⟨len0 - (k + 1), by omega⟩
        have HMM := Lib.hid hm
        clear hm
        have HM := fun A n c x y (b : Pgs x y A n c ((wrt z0).eraseIdx k)) (hy : y ≤ x.heap.size) (h32 : n * 32 ≤ 140737488351232) => mount9 zero16 rfl 0 y A n c _ x b hy (erase_wf hsm k) h32
        unfold Mounted at HM
        rw [p1, p2, p3] at HM
        have HF := Lib.hid HF
        have HM := Lib.hid HM
        have HWL : Hid ((wrt z0).length = len0) := Lib.hid (by rw [wrt_length, HL])
        have s1 := size22_of hsl
        have o1 := arr_all st
        have hz1 := size22_len hsl
        have zs1 := z16_size hsl
        have heq := fun x => eq16 hsl x
        have heq' := fun x => eq16' hsl x
        clear hst p1 p2 p3 HL hok hlc hsm
        unfold av at HF HM
        rw [zero_cells] at HF HM
        go_wp2_with fail
        refine (HF.out x2 (Below.refl _ _)).mono ?_; rintro e x3 ⟨rfl, b3⟩
        have C3 := Lib.hid (b3.alloc b3.size (.cells (icells st).toArray 22))
        have K7 := Lib.hid (WI.new x3 22 st)
        clear b3
        go_wp2_with (refine wpList_store_new rfl 22 (.tmp 7) (.tmp 37) rfl x3 (icells st).toArray rfl rfl 22 (icells zero16).toArray s1 zs1 o1 ?_)
        refine (HC.out _ C3.out).mono ?_; rintro e x4 ⟨A4, c4, rfl, o4, b4⟩
        rw [HWL.out] at o4 ⊢
        obtain ⟨g4, rfl, hg4, hg5⟩ := o4.addr (by omega)
        have hm := HMM.out
        subst hm
        have HD := Lib.hid (delete14 _ g4 k m c4 (wrt z0) x4 o4)
        have C4 := Lib.hid (next_below C3.out b4 C3.out.size)
        have K7b := Lib.hid (wi_next K7.out b4)
        have hx3 : x3.heap.size < g4 := by rw [World.size_alloc] at hg4; omega
        have hx2 : x2.heap.size ≤ g4 := by have := C3.out.size; omega
        clear b4 o4
        go_wp2_with fail
        refine (HD.out).mono ?_; rintro e x5 ⟨rfl, o5, gr5⟩
        have C5 := Lib.hid (Below.grown C4.out gr5 C4.out.size (fun j hj => by cases hj; exact hx2))
        have K7c : Hid (WI x5 x3.heap.size 22 st) := Lib.hid (by
          have hk7 := K7b.out
          have := gr5.block x3.heap.size hk7.lt (fun e => by injection e with e; omega)
          unfold WI Whole at *
          rw [this]; exact hk7)
        have HP5 := Lib.hid o5.pgs
        clear o5 gr5
        go_wp2_with fail
        refine (HM.out _ _ _ x5 _ HP5.out (Nat.le_refl _) (by omega)).mono ?_; rintro e x6 ⟨rfl, b6⟩
        have C6 := Lib.hid (next_below C5.out b6 C5.out.size)
        have C6' := Lib.hid (next_below B2.out (C6.out.alloc C6.out.size (.cells (icells st).toArray 22)) B2.out.size)
        have l7 := ((wi_next K7c.out b6).alloc (.cells (icells st).toArray 22)).range
        have l9 := (WI.new x6 22 st).range
        clear b6
        go_wp2_with (first
          | (refine wpList_store_new rfl 22 (.tmp 9) (.tmp 48) rfl x6 (icells st).toArray rfl rfl 22 (icells zero16).toArray s1 zs1 o1 ?_)
          | (refine wpList_load_guard (by rfl) 22 (.tmp 9) rfl x6.heap.size 0 rfl (icells st) _ l9 Try.underlying22 rfl hz1 ?_)
          | (refine wpList_load_guard (by rfl) 22 (.tmp 7) rfl x3.heap.size 0 rfl (icells st) _ l7 Try.underlying22 rfl hz1 ?_))
        go_ret
        exact ⟨rfl, C6'.out⟩

set_option maxRecDepth 100000 in
theorem contract (H : Type) (enc : TypeId × Value → H) (W : World) (base : Nat) (args : Array Value) (ds gs : List (DataW H)) (before : List MemPlace)
    (hval : ∀ (j : Nat) t v, Try.f5.params[j]? = some t → args[j]? = some v → Value.okWide Try.prog W .any base t v)
    (hW : DataW.Whole enc Try.prog Try.f5.params.toList Rows.mountPrefixSpec.vars false W args.toList ds gs before) (hsz : (DataW.weightsEach Try.prog (Try.f5.params.toList ++ Rows.mountPrefixSpec.plain.varTypes Try.prog) (ds ++ gs)).all (· ≤ reachBytes) = true) :
    Calls Try.prog 5 args W fun e W' => ∃ v, e = .returned v ∧ Rows.mountPrefixSpec.post enc Try.prog Try.f5 false true false false W args v W' := by
  have hW' := hW
  obtain ⟨p, q, hA0, hV, rfl, hfz, hnd⟩ := hW
  have hA : DataW.TrodAll enc Try.prog W 0 (fun _ => true) true Try.f5.params.toList args.toList ds p := hA0
  rw [Try.params5] at hA hval hsz
  obtain ⟨v0, vs0, d0, ds0, p0, q0, hargs, rfl, rfl, h0, rr0⟩ := trodAll_cons hA
  obtain ⟨v1, vs1, d1, ds1, p1, q1, rfl, rfl, rfl, h1, rr1⟩ := trodAll_cons rr0
  obtain ⟨rfl, rfl, rfl⟩ := trodAll_nil rr1
  obtain rfl : args = #[v0, v1] := by cases args; simp_all
  obtain ⟨rfl, rfl⟩ := trodVars_none hV
  obtain ⟨a0, len0, cap0, rfl⟩ := okWide_slice Try.underlying23 (hval 0 23 v0 rfl rfl)
  have k0 := h0
  have lt0 : ∀ x ∈ p0, x.block < W.heap.size := by obtain ⟨m, hm⟩ := k0; exact DataW.trod_lt m _ _ _ hm
  obtain ⟨⟨z0, w0⟩, u0⟩ := open_ops h0
  have r0 := reach_ops hsz (j := 0) rfl rfl u0
  obtain ⟨a1, rfl, rfl, rfl, w1⟩ := open_int Try.underlying3 (hval 1 3 v1 rfl rfl) h1
  clear hA0
  refine (walk a0 len0 cap0 z0 a1 W w0 w1 r0).mono fun e W' ⟨he, bel⟩ => ?_
  subst he
  exact ⟨_, rfl, _, _, _, [], _, [], hW', trodAll_mk1 (shut_bool Try.underlying4 _), (trodAll_cons_mk (Below.trod laidOut (by kernel_rfl) (of_decide_eq_true (by kernel_rfl)) k0 bel lt0) (trodAll_cons_mk (shut_int Try.underlying3 w1) trodAll_mk0)), rfl, bel.frame _, fun h => by cases h⟩

set_option maxRecDepth 100000 in
theorem lifted (os : Os) (started : os.Started) (H : Type) (enc : TypeId × Value → H) :
    ReturnsInHanded {} Try.checked os 5 .any (Rows.mountPrefixSpec.pre6 enc Try.prog Try.f5 Rows.mountPrefixRow.domain false) (Rows.mountPrefixSpec.post enc Try.prog Try.f5 false true false false) := by
  refine returnsInHanded_of_change_sized (C := Try.checked) own started (by kernel_rfl) Try.func5
    (ChangeSpec.witness6 (enc := enc) (C := Try.checked) false ⟨#[], #[.slice none 0 0, .int .i64 0], []⟩ 8 (by kernel_rfl) (by kernel_rfl) (by kernel_rfl) (by kernel_rfl)) ?_
  intro W base args ds gs before hval hW _ hsz _
  exact contract H enc W base args ds gs before hval hW hsz

theorem over : Rows.mountPrefixRow.holds Try.pinned (OpenSpec.ofChange Rows.mountPrefixSpec) :=
  OpenClaim.holds_of_wide 5 Try.f5 rfl rfl rfl rfl rfl rfl rfl ⟨rfl, rfl, rfl, rfl, rfl⟩ rfl rfl rfl rfl rfl (by kernel_rfl) Try.func5 (by kernel_rfl)
    (of_decide_eq_true (by kernel_rfl)) (by unfold Func.isWrapper; first | (rw [if_pos (by decide +kernel)]; kernel_rfl) | (rw [if_neg (by decide +kernel)]; exact ⟨rfl, rfl⟩))
    (fun os started H enc _ => lifted os started H enc)

/-- ████ THE STATEMENT ████ -/
theorem proved : Rows.MountPrefixSaid := over
#print axioms proved
end Go.Proofs.Ytiiadclcfbghkaa.mountPrefix
