/-
  NandBack holds for every input: what was written last is read.
-/
import Derived.Test.YtellfblfalpdiaaRows
import Derived.Test.YtellfblfalpdiaaBacks
import Derived.Test.YtellfblfalpdiaaFrame
import Derived.WalkKit
import Derived.ProofKit
import Derived.OpenShut
import Derived.ShutString
import Derived.ChangeOld
import Derived.Below
import Derived.SizedLaws
import Derived.RegionTactic
import Derived.Deep.RegionWith
import Derived.Deep.CutBlock
import Derived.ChangeAlike
namespace Go.Proofs.Ytellfblfalpdiaa.nandBack
open Go.ChangeShapes Go.WideShapes Go.ChangeAt Go.RowKit Words Go.Proofs.Ytellfblfalpdiaa.Nand
open Go.ChangeMaps (open_string shut_string)
set_option linter.unusedVariables false

theorem own : ownKnob Try.prog.godebug = none := by kernel_rfl
theorem laidOut : laidOutB Try.prog = true := by kernel_rfl

set_option maxRecDepth 20000 in
set_option maxHeartbeats 4000000 in
/-- The walk: the Go text returns true and writes nothing that was there. -/
theorem walk (a0 : Option Addr) (len0 cap0 : Nat) (z0 : List Blk) (a1 : Int) (a2 : Int) (w : World) (w0 : Fl w w.heap.size a0 len0 cap0 z0) (w1 : (Lit.int .i64 a1).wf = true) (w2 : (Lit.int .i64 a2).wf = true)  :
    Calls Try.prog 6 #[.slice a0 len0 cap0, .int .i64 a1, .int .i64 a2] w fun e w' => e = .returned (.bool true) ∧ Below w.heap.size w w' := by
  have H := Lib.hid w0
  have HA := Lib.hid (alive19 w)
  have HR := Lib.hid (fun x (b : Below w.heap.size w x) => right13 _ _ _ _ _ x (Words.Rd.below w0 b (Nat.le_refl _)) b.size)
  have L := Lib.hid w0.len
  clear w0
  cases hr : right z0 with
  | false =>
    rw [hr] at HR
    clear hr
    go_enter Try.func6, Try.ntmps6
    go_wp2_with fail
    refine (HA.out).mono ?_; rintro e x0 ⟨rfl, b0⟩
    have B0 := Lib.hid b0
    have H2 := Lib.hid (HR.out x0 b0)
    clear b0
    go_wp2_with fail
    refine (H2.out).mono ?_; rintro e x1 ⟨rfl, b1⟩
    have B1 := Lib.hid (B0.out.trans (b1.mono B0.out.size))
    clear b1
    go_wp2_with fail
    go_ret
    exact ⟨rfl, B1.out⟩
  | true =>
    have HRR := Lib.hid hr
    have hl8 := right_len hr
    obtain rfl : len0 = 8 := by rw [← L.out]; exact hl8
    rw [hr] at HR
    clear hr
    by_cases hlo : a1 < 0
    · go_enter Try.func6, Try.ntmps6
      go_wp2_with fail
      refine (HA.out).mono ?_; rintro e x0 ⟨rfl, b0⟩
      have B0 := Lib.hid b0
      have H2 := Lib.hid (HR.out x0 b0)
      clear b0
      go_wp2_with fail
      refine (H2.out).mono ?_; rintro e x1 ⟨rfl, b1⟩
      have B1 := Lib.hid (B0.out.trans (b1.mono B0.out.size))
      clear b1
      go_wp2_with fail
      go_ret
      exact ⟨rfl, B1.out⟩
    · by_cases hhi : 8 ≤ a1
      · go_enter Try.func6, Try.ntmps6
        go_wp2_with fail
        refine (HA.out).mono ?_; rintro e x0 ⟨rfl, b0⟩
        have B0 := Lib.hid b0
        have H2 := Lib.hid (HR.out x0 b0)
        clear b0
        go_wp2_with fail
        refine (H2.out).mono ?_; rintro e x1 ⟨rfl, b1⟩
        have B1 := Lib.hid (B0.out.trans (b1.mono B0.out.size))
        clear b1
        go_wp2_with fail
        go_ret
        exact ⟨rfl, B1.out⟩
      · obtain ⟨i, rfl⟩ : ∃ i : Nat, a1 = (i : Int) := ⟨a1.toNat, by omega⟩
        have hi8 : i < 8 := by omega
        obtain ⟨b, hb⟩ : ∃ b, z0[i]? = some b := ⟨_, List.getElem?_eq_getElem (by omega)⟩
        obtain ⟨hd0, hd4, _⟩ := okB_iff.1 (right_get HRR.out hb)
        have HBl := Lib.hid hb
        obtain ⟨p, hp⟩ : ∃ p : Nat, b.done = (p : Int) := ⟨b.done.toNat, by omega⟩
        have HP := Lib.hid hp
        obtain ⟨g, of, rfl, hg, _⟩ := Words.Rd.row H.out (by omega)
        have HCell : Hid (∀ x, Below w.heap.size w x → x.cell? ⟨g, of + i * 6 + 4, none⟩ = some (.int .i64 (p : Int))) := Lib.hid fun x bx => by
          have := (Fl.cells (Words.Rd.below H.out bx (Nat.le_refl _)) rfl HBl.out).2.2.2.2.1
          rwa [HP.out] at this
        by_cases hp4 : p < 4
        · obtain ⟨m, e, hnx, _, _⟩ := next_of (d := a2) HRR.out hi8 hp4 hb hp
          obtain ⟨r1, r2⟩ := hnx.read hi8 hp4
          have r3 := hnx.held (d' := a2) hi8 hp4
          have HX1 := Lib.hid (fun x (b : Below w.heap.size w x) => step9 _ _ _ _ _ ⟨1, (i : Int), (p : Int), a2⟩ x (Words.Rd.below H.out b (Nat.le_refl _)) b.size)
          rw [hnx.next, hnx.err] at HX1
          have LM := Lib.hid hnx.len
          have HX2 := Lib.hid (fun x (A : Option Addr) (c : Nat) (h : Fl x x.heap.size A 8 c m) => step9 _ _ _ _ _ ⟨3, (i : Int), (p : Int), 0⟩ x h (Nat.le_refl _))
          have HX3 := Lib.hid (fun x (A : Option Addr) (c : Nat) (h : Fl x x.heap.size A 8 c m) => step9 _ _ _ _ _ ⟨1, (i : Int), (p : Int), a2⟩ x h (Nat.le_refl _))
          rw [r1, r2] at HX2
          rw [r3] at HX3
          have L2 : Hid ((nextOf m ⟨3, (i : Int), (p : Int), 0⟩).length = 8) := Lib.hid (next_len r1)
          have L3 : Hid ((nextOf m ⟨1, (i : Int), (p : Int), a2⟩).length = 0) := Lib.hid (by unfold nextOf; rw [if_neg (by rw [r3]; decide)]; rfl)
          generalize nextOf m ⟨3, (i : Int), (p : Int), 0⟩ = m2 at *
          generalize nextOf m ⟨1, (i : Int), (p : Int), a2⟩ = m3 at *
          generalize dataOf z0 ⟨1, (i : Int), (p : Int), a2⟩ = t1 at *
          generalize dataOf m ⟨1, (i : Int), (p : Int), a2⟩ = t3 at *
          unfold oval at HX1 HX2 HX3
          simp only at HX1 HX2 HX3
          clear hnx r1 r2 r3 hb hp
          have e0 : decide ((i : Int) < 0) = false := by rw [decide_eq_false_iff_not]; omega
          have e8 : decide (8 ≤ (i : Int)) = false := by rw [decide_eq_false_iff_not]; omega
          have e4 : ((p : Int) == 4) = false := by rw [beq_eq_false_iff_ne]; omega
          go_enter Try.func6, Try.ntmps6
          go_wp2_with fail
          refine (HA.out).mono ?_; rintro e x0 ⟨rfl, b0⟩
          have B0 := Lib.hid b0
          have H2 := Lib.hid (HR.out x0 b0)
          clear b0
          go_wp2_with fail
          refine (H2.out).mono ?_; rintro e x1 ⟨rfl, b1⟩
          have B1 := Lib.hid (B0.out.trans (b1.mono B0.out.size))
          have cc1 := HCell.out x1 B1.out
          have H3 := Lib.hid (HX1.out x1 B1.out)
          clear b1
          go_wp2_with fail
          refine (H3.out).mono ?_; rintro e x2 hq; obtain ⟨A2, c2, rfl, f2, b2⟩ := Made3.get (n := 8) hq LM.out
          have B2 := Lib.hid (B1.out.trans (b2.mono B1.out.size))
          have F2 := Lib.hid f2.fl
          have cc2 := HCell.out x2 B2.out
          have H4 := Lib.hid (HX2.out x2 A2 c2 f2.fl)
          clear cc1 hq f2 b2
          go_wp2_with fail
          refine (H4.out).mono ?_; rintro e x3 hq; obtain ⟨A3, c3, rfl, f3, b3⟩ := Made3.get (n := 8) hq L2.out
          have B3 := Lib.hid (B2.out.trans (b3.mono B2.out.size))
          have cc3 := HCell.out x3 B3.out
          have H5 := Lib.hid (HX3.out x3 A2 c2 (Words.Rd.more (Words.Rd.below F2.out b3 (Nat.le_refl _)) b3.size))
          clear cc2 hq f3 b3
          go_wp2_with fail
          refine (H5.out).mono ?_; rintro e x4 hq; obtain ⟨A4, c4, rfl, f4, b4⟩ := Made3.get (n := 0) hq L3.out
          have B4 := Lib.hid (B3.out.trans (b4.mono B3.out.size))
          clear cc3 hq f4 b4
          go_wp2_with fail
          go_ret
          exact ⟨rfl, B4.out⟩
        · have hpe : ((p : Int) == 4) = true := by rw [beq_iff_eq]; omega
          clear hb hp
          go_enter Try.func6, Try.ntmps6
          go_wp2_with fail
          refine (HA.out).mono ?_; rintro e x0 ⟨rfl, b0⟩
          have B0 := Lib.hid b0
          have H2 := Lib.hid (HR.out x0 b0)
          clear b0
          go_wp2_with fail
          refine (H2.out).mono ?_; rintro e x1 ⟨rfl, b1⟩
          have B1 := Lib.hid (B0.out.trans (b1.mono B0.out.size))
          have cc1 := HCell.out x1 B1.out
          clear b1
          go_wp2_with fail
          go_ret
          exact ⟨rfl, B1.out⟩

set_option maxRecDepth 100000 in
theorem contract (H : Type) (enc : TypeId × Value → H) (W : World) (base : Nat) (args : Array Value) (ds gs : List (DataW H)) (before : List MemPlace)
    (hval : ∀ (j : Nat) t v, Try.f6.params[j]? = some t → args[j]? = some v → Value.okWide Try.prog W .any base t v)
    (hW : DataW.Whole enc Try.prog Try.f6.params.toList Rows.nandBackSpec.vars false W args.toList ds gs before) :
    Calls Try.prog 6 args W fun e W' => ∃ v, e = .returned v ∧ Rows.nandBackSpec.post enc Try.prog Try.f6 false true false false W args v W' := by
  have hW' := hW
  obtain ⟨p, q, hA0, hV, rfl, hfz, hnd⟩ := hW
  have hA : DataW.TrodAll enc Try.prog W 0 (fun _ => true) true Try.f6.params.toList args.toList ds p := hA0
  rw [Try.params6] at hA hval
  obtain ⟨v0, vs0, d0, ds0, p0, q0, hargs, rfl, rfl, h0, rr0⟩ := trodAll_cons hA
  obtain ⟨v1, vs1, d1, ds1, p1, q1, rfl, rfl, rfl, h1, rr1⟩ := trodAll_cons rr0
  obtain ⟨v2, vs2, d2, ds2, p2, q2, rfl, rfl, rfl, h2, rr2⟩ := trodAll_cons rr1
  obtain ⟨rfl, rfl, rfl⟩ := trodAll_nil rr2
  obtain rfl : args = #[v0, v1, v2] := by cases args; simp_all
  obtain ⟨rfl, rfl⟩ := trodVars_none hV
  obtain ⟨a0, len0, cap0, rfl⟩ := okWide_slice Try.underlying22 (hval 0 22 v0 rfl rfl)
  have k0 := h0
  have lt0 : ∀ x ∈ p0, x.block < W.heap.size := by obtain ⟨m, hm⟩ := k0; exact DataW.trod_lt m _ _ _ hm
  obtain ⟨⟨z0, w0⟩, u0⟩ := open_fl h0
  obtain ⟨a1, rfl, rfl, rfl, w1⟩ := open_int Try.underlying3 (hval 1 3 v1 rfl rfl) h1
  obtain ⟨a2, rfl, rfl, rfl, w2⟩ := open_int Try.underlying3 (hval 2 3 v2 rfl rfl) h2
  clear hA0
  refine (walk a0 len0 cap0 z0 a1 a2 W w0 w1 w2).mono fun e W' ⟨he, bel⟩ => ?_
  subst he
  exact ⟨_, rfl, _, _, _, [], _, [], hW', trodAll_mk1 (shut_bool Try.underlying4 _), (trodAll_cons_mk (Below.trod laidOut (by kernel_rfl) (of_decide_eq_true (by kernel_rfl)) k0 bel lt0) (trodAll_cons_mk (shut_int Try.underlying3 w1) (trodAll_cons_mk (shut_int Try.underlying3 w2) trodAll_mk0))), rfl, bel.frame _, fun h => by cases h⟩

set_option maxRecDepth 100000 in
theorem lifted (os : Os) (started : os.Started) (H : Type) (enc : TypeId × Value → H) :
    ReturnsInHanded {} Try.checked os 6 .any (Rows.nandBackSpec.pre6 enc Try.prog Try.f6 Rows.nandBackRow.domain false) (Rows.nandBackSpec.post enc Try.prog Try.f6 false true false false) := by
  refine returnsInHanded_of_change (C := Try.checked) own started (by kernel_rfl) Try.func6
    (ChangeSpec.witness6 (enc := enc) (C := Try.checked) false ⟨#[], #[.slice none 0 0, .int .i64 0, .int .i64 0], []⟩ 8 (by kernel_rfl) (by kernel_rfl) (by kernel_rfl) (by kernel_rfl)) ?_
  intro W base args ds gs before hval hW _ _
  exact contract H enc W base args ds gs before hval hW

theorem over : Rows.nandBackRow.holds Try.pinned (OpenSpec.ofChange Rows.nandBackSpec) :=
  OpenClaim.holds_of_wide 6 Try.f6 rfl rfl rfl rfl rfl rfl rfl ⟨rfl, rfl, rfl, rfl, rfl⟩ rfl rfl rfl rfl rfl (by kernel_rfl) Try.func6 (by kernel_rfl)
    (of_decide_eq_true (by kernel_rfl)) (by unfold Func.isWrapper; first | (rw [if_pos (by decide +kernel)]; kernel_rfl) | (rw [if_neg (by decide +kernel)]; exact ⟨rfl, rfl⟩))
    (fun os started H enc _ => lifted os started H enc)

/-- ████ THE STATEMENT ████ -/
theorem proved : Rows.NandBackSaid := over
#print axioms proved
end Go.Proofs.Ytellfblfalpdiaa.nandBack
