/-
  package mount: a mounting from the state behind some of the written pages comes to the same as a mounting of all of them, and to the same again; for arguments of at most 1048576 values together.
-/
import Derived.Test.YtiiadclcfbghkaaRows
import Derived.Test.YtiiadclcfbghkaaKeep
import Derived.WalkKit
import Derived.ProofKit
import Derived.OpenShut
import Derived.ShutString
import Derived.ChangeOld
import Derived.Below
import Derived.SizedLaws
import Derived.RegionTactic
import Derived.Deep.RegionWith
import Derived.Deep.CutBlock
import Derived.ChangeAlike
import Derived.JoinedCond
import Derived.Deep.CondSized
namespace Go.Proofs.Ytiiadclcfbghkaa.mountOn
open Go.ChangeShapes Go.WideShapes Go.ChangeAt Go.RowKit Words Go.Proofs.Ytiiadclcfbghkaa.Mnt
open Go.ChangeMaps (open_string shut_string)
set_option linter.unusedVariables false

theorem own : ownKnob Try.prog.godebug = none := by kernel_rfl
theorem laidOut : laidOutB Try.prog = true := by kernel_rfl

set_option maxRecDepth 100000 in
set_option maxHeartbeats 8000000 in
/-- The walk: the Go text returns true and writes nothing that was there. -/
theorem walk (a0 : Option Addr) (len0 cap0 : Nat) (z0 : List Nop) (a1 : Int) (w : World) (w0 : PgsW w w.heap.size a0 len0 cap0 z0) (w1 : (Lit.int .i64 a1).wf = true) (r0 : cap0 ≤ 1048576) :
    Calls Try.prog 6 #[.slice a0 len0 cap0, .int .i64 a1] w fun e w' => e = .returned (.bool true) ∧ Below w.heap.size w w' := by
  have hn : len0 ≤ 1048576 := by have := Words.Rd.le w0.rd; omega
  have HL := w0.rd.len
  have HAL := Lib.hid (alive11 w)
  have HW := Lib.hid (fun x (b : Below w.heap.size w x) => written12 _ _ _ _ z0 x (Words.Rd.below w0.rd b (Nat.le_refl _)) b.size (by omega))
  have hwf : WfL (wrt z0) := wrt_wf (by omega)
  have hz16 : zero16.length = 16 := rfl
  clear w0 r0
  go_enter Try.func6, Try.ntmps6
  go_wp2_with fail
  refine (HAL.out).mono ?_; rintro e x1 ⟨rfl, b1⟩
  have B1 := Lib.hid b1
  clear b1
  go_wp2_with fail
  refine (HW.out x1 B1.out).mono ?_; rintro e x2 hw
  rcases hw with ⟨_, rfl, b2⟩ | ⟨hok, A, c, rfl, o2, b2⟩
  · have B2 := Lib.hid (next_below B1.out b2 B1.out.size)
    clear b2
    go_wp2_with fail
    go_ret
    exact ⟨rfl, B2.out⟩
  · have B2 := Lib.hid (next_below B1.out b2 B1.out.size)
    rw [HL] at o2 ⊢
    have HP := Lib.hid o2.pgs
    clear b2 o2
    by_cases h0 : a1 < 0
    · go_wp2_with fail
      go_ret
      exact ⟨rfl, B2.out⟩
    · by_cases h1 : (len0 : Int) < a1
      · go_wp2_with fail
        go_ret
        exact ⟨rfl, B2.out⟩
      · obtain ⟨k, rfl⟩ : ∃ k : Nat, a1 = k := ⟨a1.toNat, by omega⟩
        have hk : k ≤ len0 := by omega
        have hlc := Words.Rd.le HP.out
        have HSL := run_head23 A len0 c k (by omega)
        have HF := fun x (b : Below x2.heap.size x2 x) => fold7 zero16 rfl _ _ _ _ _ x (Words.Rd.below (Pgs.head HP.out hk) b (Nat.le_refl _)) b.size
        have HM := fun s hs q x (b : Below x2.heap.size x2 x) => mount9 s hs q _ _ _ _ _ x (Words.Rd.below HP.out b (Nat.le_refl _)) b.size hwf (by omega)
        unfold Folded at HF
        unfold Mounted at HM
        rw [(fo_take (s := zero16) hok k).1, (fo_take (s := zero16) hok k).2] at HF
        obtain ⟨st, hst⟩ : ∃ st, st = run zero16 ((wrt z0).take k) := ⟨_, rfl⟩
        obtain ⟨fs, hfs⟩ : ∃ fs, fs = run zero16 (wrt z0) := ⟨_, rfl⟩
        have hsl : st.length = 16 := by rw [hst, run_length]; rfl
        have hfl : fs.length = 16 := by rw [hfs, run_length]; rfl
        have HM1 := HM st hsl (k : Int)
        have HM2 := HM zero16 rfl ((0 : Nat) : Int)
        have HM3 := HM fs hfl (len0 : Int)
        obtain ⟨p1, p2, p3⟩ := mo_on (s := st) hok (k := k) (by omega) (by omega)
        obtain ⟨q1, q2, q3⟩ := mo_on (s := zero16) hok (k := 0) (by omega) (by omega)
        obtain ⟨t1, t2, t3⟩ := mo_on (s := fs) hok (k := len0) (by omega) (by omega)
        rw [p1, p2, p3, HL, hst, run_two, ← hfs, ← hst] at HM1
        rw [q1, q2, q3, HL, List.drop_zero, ← hfs] at HM2
        rw [t1, t2, t3, HL, List.drop_eq_nil_of_le (by rw [wrt_length]; omega), show run fs [] = fs from rfl] at HM3
        rw [← hst] at HF
        have HF := Lib.hid HF
        have HM1 := Lib.hid HM1
        have HM2 := Lib.hid HM2
        have HM3 := Lib.hid HM3
        have s1 := size22_of hsl
        have s2 := size22_of hfl
        have o1 := arr_all st
        have o2 := arr_all fs
        have hz1 := size22_len hsl
        have hz2 := size22_len hfl
        have zs1 := z16_size hsl
        have zs2 := z16_size hfl
        have heq2 := fun x => eq16 hfl x
        have heq2' := fun x => eq16' hfl x
        clear HM hst hfs p1 p2 p3 q1 q2 q3 t1 t2 t3 HL hok hlc hwf
        unfold av at HF HM1 HM2 HM3
        rw [zero_cells] at HF HM2
        have hsz0 : ((0 : Nat) : Int) = 0 := rfl
        rw [hsz0] at HM2
        clear hsz0
        go_wp2_with fail
        refine (HF.out x2 (Below.refl _ _)).mono ?_; rintro e x3 ⟨rfl, b3⟩
        have C3 := Lib.hid (b3.alloc b3.size (.cells (icells st).toArray 22))
        have K7 := WI.new x3 22 st
        clear b3
        go_wp2_with (first
          | (refine wpList_store_new rfl 22 (.tmp 7) (.tmp 43) rfl x3 (icells st).toArray rfl rfl 22 (icells zero16).toArray s1 zs1 o1 ?_)
          | (refine wpList_load_row rfl 22 (.tmp 7) rfl x3.heap.size rfl 22 (icells st).toArray (0, 0) _ K7 Try.underlying22 rfl s1 ?_))
        refine (HM1.out _ C3.out).mono ?_; rintro e x4 ⟨rfl, b4⟩
        have C4 := Lib.hid (next_below C3.out b4 C3.out.size)
        have C4' := Lib.hid (C4.out.alloc C4.out.size (.cells (icells fs).toArray 22))
        clear b4 K7
        go_wp2_with (refine wpList_store_new rfl 22 (.tmp 9) (.tmp 50) rfl x4 (icells fs).toArray rfl rfl 22 (icells zero16).toArray s2 zs2 o2 ?_)
        refine (HM2.out _ C4'.out).mono ?_; rintro e x5 ⟨rfl, b5⟩
        have C5 := Lib.hid (next_below C4'.out b5 C4'.out.size)
        have C5' := Lib.hid (C5.out.alloc C5.out.size (.cells (icells fs).toArray 22))
        have K9 := Lib.hid ((box_wi b5).alloc (.cells (icells fs).toArray 22))
        have K12 := WI.new x5 22 fs
        clear b5
        go_wp2_with (first
          | (refine wpList_store_new rfl 22 (.tmp 12) (.tmp 57) rfl x5 (icells fs).toArray rfl rfl 22 (icells zero16).toArray s2 zs2 o2 ?_)
          | (refine wpList_load_row rfl 22 (.tmp 12) rfl x5.heap.size rfl 22 (icells fs).toArray (0, 0) _ K12 Try.underlying22 rfl s2 ?_))
        refine (HM3.out _ C5'.out).mono ?_; rintro e x6 ⟨rfl, b6⟩
        have C6 := Lib.hid (next_below C5'.out b6 C5'.out.size)
        have C6' := Lib.hid (next_below B2.out (C6.out.alloc C6.out.size (.cells (icells fs).toArray 22)) B2.out.size)
        have l9 := ((wi_next K9.out b6).alloc (.cells (icells fs).toArray 22)).range
        have l12 := ((wi_next K12 b6).alloc (.cells (icells fs).toArray 22)).range
        have l15 := (WI.new x6 22 fs).range
        clear b6 K12
        go_wp2_with (first
          | (refine wpList_store_new rfl 22 (.tmp 15) (.tmp 65) rfl x6 (icells fs).toArray rfl rfl 22 (icells zero16).toArray s2 zs2 o2 ?_)
          | (refine wpList_load_guard (by rfl) 22 (.tmp 9) rfl x4.heap.size 0 rfl (icells fs) _ l9 Try.underlying22 rfl hz2 ?_)
          | (refine wpList_load_guard (by rfl) 22 (.tmp 12) rfl x5.heap.size 0 rfl (icells fs) _ l12 Try.underlying22 rfl hz2 ?_)
          | (refine wpList_load_guard (by rfl) 22 (.tmp 15) rfl x6.heap.size 0 rfl (icells fs) _ l15 Try.underlying22 rfl hz2 ?_))
        go_ret
        exact ⟨rfl, C6'.out⟩

set_option maxRecDepth 100000 in
theorem contract (H : Type) (enc : TypeId × Value → H) (W : World) (base : Nat) (args : Array Value) (ds gs : List (DataW H)) (before : List MemPlace)
    (hval : ∀ (j : Nat) t v, Try.f6.params[j]? = some t → args[j]? = some v → Value.okWide Try.prog W .any base t v)
    (hW : DataW.Whole enc Try.prog Try.f6.params.toList Rows.mountOnSpec.vars false W args.toList ds gs before) (hk : Rows.uptoSmall H (ds ++ gs) = true) :
    Calls Try.prog 6 args W fun e W' => ∃ v, e = .returned v ∧ Rows.mountOnSpec.post enc Try.prog Try.f6 false true false false W args v W' := by
  have hW' := hW
  obtain ⟨p, q, hA0, hV, rfl, hfz, hnd⟩ := hW
  have hA : DataW.TrodAll enc Try.prog W 0 (fun _ => true) true Try.f6.params.toList args.toList ds p := hA0
  rw [Try.params6] at hA hval
  obtain ⟨v0, vs0, d0, ds0, p0, q0, hargs, rfl, rfl, h0, rr0⟩ := trodAll_cons hA
  obtain ⟨v1, vs1, d1, ds1, p1, q1, rfl, rfl, rfl, h1, rr1⟩ := trodAll_cons rr0
  obtain ⟨rfl, rfl, rfl⟩ := trodAll_nil rr1
  obtain rfl : args = #[v0, v1] := by cases args; simp_all
  obtain ⟨rfl, rfl⟩ := trodVars_none hV
  obtain ⟨a0, len0, cap0, rfl⟩ := okWide_slice Try.underlying23 (hval 0 23 v0 rfl rfl)
  have k0 := h0
  have lt0 : ∀ x ∈ p0, x.block < W.heap.size := by obtain ⟨m, hm⟩ := k0; exact DataW.trod_lt m _ _ _ hm
  obtain ⟨⟨z0, w0⟩, u0⟩ := open_ops h0
  have r0 := bulk_cap hk (d := d0) (by simp) u0
  obtain ⟨a1, rfl, rfl, rfl, w1⟩ := open_int Try.underlying3 (hval 1 3 v1 rfl rfl) h1
  clear hA0
  refine (walk a0 len0 cap0 z0 a1 W w0 w1 r0).mono fun e W' ⟨he, bel⟩ => ?_
  subst he
  exact ⟨_, rfl, _, _, _, [], _, [], hW', trodAll_mk1 (shut_bool Try.underlying4 _), (trodAll_cons_mk (Below.trod laidOut (by kernel_rfl) (of_decide_eq_true (by kernel_rfl)) k0 bel lt0) (trodAll_cons_mk (shut_int Try.underlying3 w1) trodAll_mk0)), rfl, bel.frame _, fun h => by cases h⟩

set_option maxRecDepth 100000 in
theorem lifted (os : Os) (started : os.Started) (H : Type) (enc : TypeId × Value → H) (F : Stop.Interp) :
    ReturnsInHanded {} Try.checked os 6 .any ((Rows.OpenSpec.upto Rows.mountOnSpec).pre6 enc Try.prog Try.f6 Rows.mountOnUptoRow.domain false) (((Rows.OpenSpec.upto Rows.mountOnSpec).at F).post enc Try.prog Try.f6 false true false false) := by
  refine returnsInHanded_of_cond (C := Try.checked) (s := Rows.OpenSpec.upto Rows.mountOnSpec) (k := Rows.uptoSmall) rfl own started (by kernel_rfl) Try.func6
    (OpenSpec.witness (enc := enc) (C := Try.checked) (s := Rows.OpenSpec.upto Rows.mountOnSpec) (k := Rows.uptoSmall) rfl false ⟨#[], #[.slice none 0 0, .int .i64 0], []⟩ 8 (by kernel_rfl) (by kernel_rfl) (by kernel_rfl)
      (x := ([.nil, .lit (.int .i64 0)], [], [])) (by kernel_rfl) rfl (by kernel_rfl)) ?_
  intro W base args ds gs before hval hW _ hk _
  exact contract H enc W base args ds gs before hval hW hk

theorem over : Rows.mountOnUptoRow.holds Try.pinned (Rows.OpenSpec.upto Rows.mountOnSpec) :=
  OpenClaim.holds_of_cond 6 Try.f6 rfl rfl rfl rfl rfl rfl rfl ⟨rfl, rfl, rfl, rfl, rfl⟩ rfl rfl rfl rfl rfl (by kernel_rfl) Try.func6 (by kernel_rfl)
    (of_decide_eq_true (by kernel_rfl)) (by unfold Func.isWrapper; first | (rw [if_pos (by decide +kernel)]; kernel_rfl) | (rw [if_neg (by decide +kernel)]; exact ⟨rfl, rfl⟩))
    (fun os started H enc _ F => lifted os started H enc F)

/-- ████ THE STATEMENT ████ -/
theorem proved : Rows.MountOnUptoSaid := over
#print axioms proved
end Go.Proofs.Ytiiadclcfbghkaa.mountOn
