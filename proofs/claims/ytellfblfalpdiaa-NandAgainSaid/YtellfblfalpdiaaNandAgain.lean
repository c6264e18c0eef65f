/-
  NandAgain holds for every input: an erased block is as new but for its wear.
-/
import Derived.Test.YtellfblfalpdiaaRows
import Derived.Test.YtellfblfalpdiaaFills
import Derived.Test.YtellfblfalpdiaaFrame
import Derived.WalkKit
import Derived.ProofKit
import Derived.OpenShut
import Derived.ShutString
import Derived.ChangeOld
import Derived.Below
import Derived.SizedLaws
import Derived.RegionTactic
import Derived.Deep.RegionWith
import Derived.Deep.CutBlock
import Derived.ChangeAlike
namespace Go.Proofs.Ytellfblfalpdiaa.nandAgain
open Go.ChangeShapes Go.WideShapes Go.ChangeAt Go.RowKit Words Go.Proofs.Ytellfblfalpdiaa.Nand
open Go.ChangeMaps (open_string shut_string)
set_option linter.unusedVariables false

theorem own : ownKnob Try.prog.godebug = none := by kernel_rfl
theorem laidOut : laidOutB Try.prog = true := by kernel_rfl

set_option maxRecDepth 20000 in
set_option maxHeartbeats 4000000 in
/-- The walk: the Go text returns true and writes nothing that was there. -/
theorem walk (a0 : Option Addr) (len0 cap0 : Nat) (z0 : List Blk) (a1 : Int) (x2 y2 z2 t2 : Int) (w : World) (w0 : Fl w w.heap.size a0 len0 cap0 z0) (w1 : (Lit.int .i64 a1).wf = true)  :
    Calls Try.prog 8 #[.slice a0 len0 cap0, .int .i64 a1, aval x2 y2 z2 t2] w fun e w' => e = .returned (.bool true) ∧ Below w.heap.size w w' := by
  have HK0 : Hid (KeptA w x2 y2 z2 t2 (w.alloc (abox x2 y2 z2 t2))) := Lib.hid (Below.refl _ _)
  have H := Lib.hid w0
  have HA := Lib.hid (alive19 (w.alloc (abox x2 y2 z2 t2)))
  have H1 := Lib.hid (fun x (b : Below w.heap.size w x) => step9 _ _ _ _ _ ⟨2, a1, 0, 0⟩ x (Words.Rd.below w0 b (Nat.le_refl _)) b.size)
  have L := Lib.hid w0.len
  clear w0
  unfold oval at H1
  simp only at H1
  unfold abox at HA
  unfold aval
  by_cases he : errOf z0 ⟨2, a1, 0, 0⟩ = 0
  · obtain ⟨i, b, hi8, rfl, hb, hr, hw0, hw1, hn⟩ := erase_of he
    have hl8 := right_len hr
    obtain rfl : len0 = 8 := by rw [← L.out]; exact hl8
    have HM : Hid ((z0.set i (fillTo x2 y2 z2 t2 (b.wear + 1) 0)).length = 8) := Lib.hid (by rw [List.length_set, hl8])
    have hnr := next_right he
    rw [he] at H1
    have hn' : nextOf z0 ⟨2, (i : Int), 0, 0⟩ = z0.set i (fillTo x2 y2 z2 t2 (b.wear + 1) 0) := hn
    rw [hn'] at H1 hnr
    generalize dataOf z0 ⟨2, (i : Int), 0, 0⟩ = t1 at *
    have HR0 := Lib.hid hnr
    have HBl := Lib.hid hb
    have L8 := Lib.hid hl8
    obtain ⟨g, of, rfl, hg, _⟩ := Words.Rd.row H.out (by omega)
    clear he hb hr hn hn' hl8 hnr
    go_enter Try.func8, Try.ntmps8
    go_wp2_with fail
    refine (HA.out).mono ?_; rintro e v0 ⟨rfl, b0⟩
    have HK1 : Hid (KeptA w x2 y2 z2 t2 v0) := Lib.hid (HK0.out.next b0)
    have H2 := Lib.hid (H1.out v0 HK1.out.below)
    clear b0
    go_wp2_with fail
    refine (H2.out).mono ?_; rintro e v1 hq; obtain ⟨A1, c1, rfl, f1, b1⟩ := Made3.get (n := 8) hq HM.out
    have HK2 : Hid (KeptA w x2 y2 z2 t2 v1) := Lib.hid (HK1.out.next b1)
    obtain ⟨q0, q1, q2, q3⟩ := HK2.out.cells
    have F1 := Lib.hid f1.fl
    clear hq f1 b1
    go_wp2_with fail
    clear q0 q1 q2 q3
    go_loopw [7, 31] (fun s i' wr => ∃ (p : Nat) (A : Option Addr) (c : Nat), p ≤ 4 ∧ i' = .int .i64 p ∧ s = .slice A 8 c ∧ right (z0.set i (fillTo x2 y2 z2 t2 (b.wear + 1) p)) = true ∧ Fl wr wr.heap.size A 8 c (z0.set i (fillTo x2 y2 z2 t2 (b.wear + 1) p)) ∧ KeptA w x2 y2 z2 t2 wr) (fun _ i' _ => (4 - intOf i').toNat)
    case atStart => exact ⟨0, A1, c1, by omega, rfl, rfl, HR0.out, F1.out, HK2.out⟩
    case round =>
      obtain ⟨p, A, c, hp, rfl, rfl, hr, hf, hk⟩ := hrel
      have HF := Lib.hid hf
      have HK := Lib.hid hk
      have HR := Lib.hid hr
      clear hf hk hr
      by_cases hp4 : p < 4
      · obtain ⟨s1, s2, s3⟩ := fill_step hi8 HBl.out x2 y2 z2 t2 (b.wear + 1) hp4 HR.out
        have HX := Lib.hid (step9 _ _ _ _ _ ⟨1, (i : Int), (p : Int), pick4 x2 y2 z2 t2 p⟩ wr HF.out (Nat.le_refl _))
        rw [s1, s2] at HX
        have HR2 := Lib.hid s3
        have HL2 : Hid ((z0.set i (fillTo x2 y2 z2 t2 (b.wear + 1) (p + 1))).length = 8) := Lib.hid (by rw [List.length_set, L8.out])
        have hx := fun w => index_pick x2 y2 z2 t2 hp4 w
        generalize pick4 x2 y2 z2 t2 p = dv at *
        generalize dataOf (z0.set i (fillTo x2 y2 z2 t2 (b.wear + 1) p)) ⟨1, (i : Int), (p : Int), dv⟩ = tv at *
        unfold oval at HX
        simp only at HX
        clear s1 s2 s3
        go_wp2_with fail
        refine (HX.out).mono ?_; rintro e v2 hq; obtain ⟨A2, c2, rfl, f2, b2⟩ := Made3.get (n := 8) hq HL2.out
        have HK3 := Lib.hid (HK.out.next b2)
        have HF2 := Lib.hid f2.fl
        clear hq f2 b2
        go_wp2_with fail
        go_roundw
        case rel => exact ⟨p + 1, A2, c2, by omega, by go_num, rfl, HR2.out, HF2.out, HK3.out⟩
        case measure => simp [intOf]; omega
      · obtain rfl : p = 4 := by omega
        have hat : (z0.set i (fillTo x2 y2 z2 t2 (b.wear + 1) 4))[i]? = some ⟨x2, y2, z2, t2, 4, b.wear + 1⟩ := get_set_same HBl.out _
        obtain ⟨g1, o1, rfl, _, _⟩ := Words.Rd.row HF.out (by omega)
        obtain ⟨d0, d1, d2, d3, d4, d5⟩ := Fl.cells HF.out rfl hat
        obtain ⟨_, _, _, _, _, l5⟩ := Fl.cells (Words.Rd.below H.out HK.out.below (Nat.le_refl _)) rfl HBl.out
        obtain ⟨q0, q1, q2, q3⟩ := HK.out.cells
        have hsum : IntKind.i64.wrap (b.wear + 1) = b.wear + 1 := IntWalk.i64_in _ (by omega)
        have ht : ∀ w, (binOp .eql 29 (.agg #[.int .i64 x2, .int .i64 y2, .int .i64 z2, .int .i64 t2]) (.agg #[.int .i64 x2, .int .i64 y2, .int .i64 z2, .int .i64 t2])).run Try.prog w = .ok (.bool true) w := fun w => by rw [eq_array4']; simp
        have e0 : decide (0 ≤ (i : Int)) = true := by rw [decide_eq_true_iff]; omega
        have e8 : decide ((i : Int) < 8) = true := by rw [decide_eq_true_iff]; omega
        simp only at d0 d1 d2 d3 d4 d5
        clear hat
        go_wp2_with fail
        go_quiet (fail)
        go_wp2_with fail
        go_ret
        exact ⟨rfl, below_drewN HK.out.below _⟩
  · have hne : (errOf z0 ⟨2, a1, 0, 0⟩ != 0) = true := by rw [bne_iff_ne]; exact he
    have HN : Hid ((nextOf z0 ⟨2, a1, 0, 0⟩).length = 0) := Lib.hid (by unfold nextOf; rw [if_neg he]; rfl)
    clear he
    go_enter Try.func8, Try.ntmps8
    go_wp2_with fail
    refine (HA.out).mono ?_; rintro e v0 ⟨rfl, b0⟩
    have HK1 : Hid (KeptA w x2 y2 z2 t2 v0) := Lib.hid (HK0.out.next b0)
    have H2 := Lib.hid (H1.out v0 HK1.out.below)
    clear b0
    go_wp2_with fail
    refine (H2.out).mono ?_; rintro e v1 hq; obtain ⟨A1, c1, rfl, f1, b1⟩ := Made3.get (n := 0) hq HN.out
    have BF := Lib.hid (HK1.out.next b1).below
    clear hq f1 b1
    go_wp2_with fail
    go_ret
    exact ⟨rfl, BF.out⟩

set_option maxRecDepth 100000 in
theorem contract (H : Type) (enc : TypeId × Value → H) (W : World) (base : Nat) (args : Array Value) (ds gs : List (DataW H)) (before : List MemPlace)
    (hval : ∀ (j : Nat) t v, Try.f8.params[j]? = some t → args[j]? = some v → Value.okWide Try.prog W .any base t v)
    (hW : DataW.Whole enc Try.prog Try.f8.params.toList Rows.nandAgainSpec.vars false W args.toList ds gs before) :
    Calls Try.prog 8 args W fun e W' => ∃ v, e = .returned v ∧ Rows.nandAgainSpec.post enc Try.prog Try.f8 false true false false W args v W' := by
  have hW' := hW
  obtain ⟨p, q, hA0, hV, rfl, hfz, hnd⟩ := hW
  have hA : DataW.TrodAll enc Try.prog W 0 (fun _ => true) true Try.f8.params.toList args.toList ds p := hA0
  rw [Try.params8] at hA hval
  obtain ⟨v0, vs0, d0, ds0, p0, q0, hargs, rfl, rfl, h0, rr0⟩ := trodAll_cons hA
  obtain ⟨v1, vs1, d1, ds1, p1, q1, rfl, rfl, rfl, h1, rr1⟩ := trodAll_cons rr0
  obtain ⟨v2, vs2, d2, ds2, p2, q2, rfl, rfl, rfl, h2, rr2⟩ := trodAll_cons rr1
  obtain ⟨rfl, rfl, rfl⟩ := trodAll_nil rr2
  obtain rfl : args = #[v0, v1, v2] := by cases args; simp_all
  obtain ⟨rfl, rfl⟩ := trodVars_none hV
  obtain ⟨a0, len0, cap0, rfl⟩ := okWide_slice Try.underlying22 (hval 0 22 v0 rfl rfl)
  have k0 := h0
  have lt0 : ∀ x ∈ p0, x.block < W.heap.size := by obtain ⟨m, hm⟩ := k0; exact DataW.trod_lt m _ _ _ hm
  obtain ⟨⟨z0, w0⟩, u0⟩ := open_fl h0
  obtain ⟨a1, rfl, rfl, rfl, w1⟩ := open_int Try.underlying3 (hval 1 3 v1 rfl rfl) h1
  have k2 := h2
  have lt2 : ∀ x ∈ p2, x.block < W.heap.size := by obtain ⟨m, hm⟩ := k2; exact DataW.trod_lt m _ _ _ hm
  obtain ⟨x2, y2, z2, t2, rfl⟩ := open_arr (hval 2 29 v2 rfl rfl) h2
  clear hA0
  refine (walk a0 len0 cap0 z0 a1 x2 y2 z2 t2 W w0 w1).mono fun e W' ⟨he, bel⟩ => ?_
  subst he
  exact ⟨_, rfl, _, _, _, [], _, [], hW', trodAll_mk1 (shut_bool Try.underlying4 _), (trodAll_cons_mk (Below.trod laidOut (by kernel_rfl) (of_decide_eq_true (by kernel_rfl)) k0 bel lt0) (trodAll_cons_mk (shut_int Try.underlying3 w1) (trodAll_cons_mk (Below.trod laidOut (by kernel_rfl) (of_decide_eq_true (by kernel_rfl)) k2 bel lt2) trodAll_mk0))), rfl, bel.frame _, fun h => by cases h⟩

set_option maxRecDepth 100000 in
theorem lifted (os : Os) (started : os.Started) (H : Type) (enc : TypeId × Value → H) :
    ReturnsInHanded {} Try.checked os 8 .any (Rows.nandAgainSpec.pre6 enc Try.prog Try.f8 Rows.nandAgainRow.domain false) (Rows.nandAgainSpec.post enc Try.prog Try.f8 false true false false) := by
  refine returnsInHanded_of_change (C := Try.checked) own started (by kernel_rfl) Try.func8
    (ChangeSpec.witness6 (enc := enc) (C := Try.checked) false ⟨#[], #[.slice none 0 0, .int .i64 0, .agg #[.int .i64 0, .int .i64 0, .int .i64 0, .int .i64 0]], []⟩ 8 (by kernel_rfl) (by kernel_rfl) (by kernel_rfl) (by kernel_rfl)) ?_
  intro W base args ds gs before hval hW _ _
  exact contract H enc W base args ds gs before hval hW

theorem over : Rows.nandAgainRow.holds Try.pinned (OpenSpec.ofChange Rows.nandAgainSpec) :=
  OpenClaim.holds_of_wide 8 Try.f8 rfl rfl rfl rfl rfl rfl rfl ⟨rfl, rfl, rfl, rfl, rfl⟩ rfl rfl rfl rfl rfl (by kernel_rfl) Try.func8 (by kernel_rfl)
    (of_decide_eq_true (by kernel_rfl)) (by unfold Func.isWrapper; first | (rw [if_pos (by decide +kernel)]; kernel_rfl) | (rw [if_neg (by decide +kernel)]; exact ⟨rfl, rfl⟩))
    (fun os started H enc _ => lifted os started H enc)

/-- ████ THE STATEMENT ████ -/
theorem proved : Rows.NandAgainSaid := over
#print axioms proved
end Go.Proofs.Ytellfblfalpdiaa.nandAgain
