/-
  Who is refused finds no gap, and a single gap can be taken whole.
-/
import Derived.Test.YtkhcaobmohppnaaRows
import Derived.Test.YtkhcaobmohppnaaSFrame
import Derived.Test.YtkhcaobmohppnaaDPlay
import Derived.Test.YtkhcaobmohppnaaSHas
import Derived.Test.YtkhcaobmohppnaaSFacts
import Derived.WalkKit
import Derived.ProofKit
import Derived.OpenShut
import Derived.ShutString
import Derived.ChangeOld
import Derived.Below
import Derived.SizedLaws
import Derived.RegionTactic
import Derived.Deep.RegionWith
import Derived.Deep.CutBlock
import Derived.ChangeAlike
namespace Go.Proofs.Ytkhcaobmohppnaa.spaceFull
open Go.ChangeShapes Go.WideShapes Go.ChangeAt Go.RowKit Words Go.Proofs.Ytkhcaobmohppnaa.Spc
open Go.ChangeMaps (open_string shut_string)
set_option linter.unusedVariables false

theorem own : ownKnob Try.prog.godebug = none := by kernel_rfl
theorem laidOut : laidOutB Try.prog = true := by kernel_rfl

set_option maxRecDepth 100000 in
set_option maxHeartbeats 8000000 in
/-- The walk: the Go text returns true and writes nothing that was there. -/
theorem walk (a0 : Int) (a1 : Option Addr) (len1 cap1 : Nat) (z1 : List Gp) (a2 : Int) (w : World) (w0 : (Lit.int .i64 a0).wf = true) (w1 : Fl w w.heap.size a1 len1 cap1 z1) (w2 : (Lit.int .i64 a2).wf = true)  :
    Calls Try.prog 7 #[.int .i64 a0, .slice a1 len1 cap1, .int .i64 a2] w fun e w' => e = .returned (.bool true) ∧ Below w.heap.size w w' := by
  have CON := con
  have H := Lib.hid w1.rd
  have HWF := Lib.hid w1.wf
  obtain ⟨wb, hwb⟩ : ∃ wb, w.alloc (.cells #[.int .i64 a2] 3) = wb := ⟨_, rfl⟩
  have BX : Hid (Below w.heap.size w wb) := Lib.hid (by rw [← hwb]; exact boxed w _)
  have gx : Whole wb w.heap.size 3 #[.int .i64 a2] := by rw [← hwb]; exact Whole.new w 3 _
  have HB1 : Hid (∀ x : World, Below wb.heap.size wb x → x.cell? ⟨w.heap.size, 0, none⟩ = some (.int .i64 a2)) := Lib.hid fun x b => by rw [Whole.cell (whole_below2 gx b)]; rfl
  have HWB := Lib.hid hwb
  have rd := fun (x : World) (b : Below wb.heap.size wb x) => Words.Rd.below H.out (BX.out.trans (b.mono BX.out.size)) (Nat.le_refl _)
  have HA := Lib.hid (alive17 CON wb)
  have H1 := fun (x : World) (b : Below wb.heap.size wb x) => CON.step w.heap.size a1 len1 cap1 z1 a0 ⟨1, 0, a2⟩ x (rd x b) HWF.out (Nat.le_trans BX.out.size b.size)
  have H2 := fun (x : World) (b : Below wb.heap.size wb x) => CON.step w.heap.size a1 len1 cap1 z1 a0 ⟨2, 0, a2⟩ x (rd x b) HWF.out (Nat.le_trans BX.out.size b.size)
  have H3 := Lib.hid (fun (x : World) (b : Below wb.heap.size wb x) => contains18_full w.heap.size (fun g => decide (a2 ≤ g.m)) w.heap.size a1 len1 cap1 z1 x (rd x b) (Nat.le_trans BX.out.size b.size) fun g wr _ bw => full21 g w.heap.size a2 wr (HB1.out wr (b.trans (bw.mono b.size))))
  have F1 := full_same (s := a0) (l := z1) (m := a2)
  have F2 := full_room (s := a0) (l := z1) (m := a2)
  unfold NS at H1 H2
  generalize sgl a0 z1 ⟨1, 0, a2⟩ = gs1 at *
  generalize ser a0 z1 ⟨1, 0, a2⟩ = en1 at *
  generalize sat a0 z1 ⟨1, 0, a2⟩ = an1 at *
  generalize sgl a0 z1 ⟨2, 0, a2⟩ = gs2 at *
  generalize ser a0 z1 ⟨2, 0, a2⟩ = en2 at *
  generalize sat a0 z1 ⟨2, 0, a2⟩ = an2 at *
  generalize (z1.any fun g => decide (a2 ≤ g.m)) = room at *
  unfold aval sval at H1 H2
  simp only at H1 H2
  have H1 := Lib.hid H1
  have H2 := Lib.hid H2
  have F1 := Lib.hid F1
  have F2 := Lib.hid F2
  clear hwb gx rd
  go_enter Try.func7, Try.ntmps7
  go_wp2_with fail
  rw [HWB.out]
  refine (HA.out).mono ?_; rintro e x1 ⟨rfl, b1⟩
  have B1 := Lib.hid b1
  have g0 := HB1.out _ b1
  clear b1
  go_wp2_with fail
  refine (H1.out _ B1.out).mono ?_; rintro e x2 ⟨A2, c2, rfl, _, b2⟩
  have bq := boxed x2 (.cells #[.int .i64 en1, .int .i64 an1] 27)
  have B2 := Lib.hid ((B1.out.trans (b2.mono B1.out.size)).trans (bq.mono (B1.out.trans (b2.mono B1.out.size)).size))
  have X2 := Lib.hid (Whole.new x2 27 #[.int .i64 en1, .int .i64 an1])
  clear b2 bq g0
  have g0 := HB1.out _ B2.out
  have h2 := Lib.hid (H2.out _ B2.out)
  go_wp2_with fail
  refine (h2.out).mono ?_; rintro e x3 ⟨A3, c3, rfl, _, b3⟩
  have bq := boxed x3 (.cells #[.int .i64 en2, .int .i64 an2] 27)
  have B3 := Lib.hid ((B2.out.trans (b3.mono B2.out.size)).trans (bq.mono (B2.out.trans (b3.mono B2.out.size)).size))
  have Y1 := Lib.hid ((whole_below2 X2.out b3).alloc (.cells #[.int .i64 en2, .int .i64 an2] 27))
  have Y2 := Lib.hid (Whole.new x3 27 #[.int .i64 en2, .int .i64 an2])
  clear b3 bq g0
  have k0 := Whole.cell Y1.out 0
  have k1 := Whole.cell Y1.out 1
  have k2 := Whole.cell Y2.out 0
  have k3 := Whole.cell Y2.out 1
  simp at k0 k1 k2 k3
  have h3 := Lib.hid (H3.out _ B3.out)
  by_cases t0 : en1 = 0
  · rcases F2.out (.inl t0) with ⟨_, q2, q3, q4⟩ | ⟨q1, _, _⟩
    · subst t0 q2
      rw [q3] at h3
      clear q3
      go_wp2_with fail
      refine (h3.out).mono ?_; rintro e x4 ⟨rfl, b4⟩
      have f0 := Whole.cell (whole_below2 Y1.out b4) 0
      have f1 := Whole.cell (whole_below2 Y1.out b4) 1
      have f2 := Whole.cell (whole_below2 Y2.out b4) 0
      have f3 := Whole.cell (whole_below2 Y2.out b4) 1
      simp at f0 f1 f2 f3
      have B4 := Lib.hid (B3.out.trans (b4.mono B3.out.size))
      clear b4
      go_wp2_with fail
      go_ret
      exact ⟨rfl, BX.out.trans (B4.out.mono BX.out.size)⟩
    · exfalso; omega
  · by_cases t4 : en1 = 4
    · rcases F2.out (.inr t4) with ⟨q1, _, _, _⟩ | ⟨_, q2, q3⟩
      · exfalso; omega
      · subst t4 q2
        rw [q3] at h3
        clear q3
        go_wp2_with fail
        refine (h3.out).mono ?_; rintro e x4 ⟨rfl, b4⟩
        have f0 := Whole.cell (whole_below2 Y1.out b4) 0
        have f1 := Whole.cell (whole_below2 Y1.out b4) 1
        have f2 := Whole.cell (whole_below2 Y2.out b4) 0
        have f3 := Whole.cell (whole_below2 Y2.out b4) 1
        simp at f0 f1 f2 f3
        have B4 := Lib.hid (B3.out.trans (b4.mono B3.out.size))
        clear b4
        go_wp2_with fail
        go_ret
        exact ⟨rfl, BX.out.trans (B4.out.mono BX.out.size)⟩
    · have q := F1.out t0 t4
      have n0 : (en1 != 0) = true := by rw [bne_iff_ne]; exact t0
      have n4 : (en1 != 4) = true := by rw [bne_iff_ne]; exact t4
      subst q
      clear t0 t4
      go_wp2_with fail
      go_ret
      exact ⟨by simp, BX.out.trans (B3.out.mono BX.out.size)⟩

set_option maxRecDepth 100000 in
theorem contract (H : Type) (enc : TypeId × Value → H) (W : World) (base : Nat) (args : Array Value) (ds gs : List (DataW H)) (before : List MemPlace)
    (hval : ∀ (j : Nat) t v, Try.f7.params[j]? = some t → args[j]? = some v → Value.okWide Try.prog W .any base t v)
    (hW : DataW.Whole enc Try.prog Try.f7.params.toList Rows.spaceFullSpec.vars false W args.toList ds gs before) :
    Calls Try.prog 7 args W fun e W' => ∃ v, e = .returned v ∧ Rows.spaceFullSpec.post enc Try.prog Try.f7 false true false false W args v W' := by
  have hW' := hW
  obtain ⟨p, q, hA0, hV, rfl, hfz, hnd⟩ := hW
  have hA : DataW.TrodAll enc Try.prog W 0 (fun _ => true) true Try.f7.params.toList args.toList ds p := hA0
  rw [Try.params7] at hA hval
  obtain ⟨v0, vs0, d0, ds0, p0, q0, hargs, rfl, rfl, h0, rr0⟩ := trodAll_cons hA
  obtain ⟨v1, vs1, d1, ds1, p1, q1, rfl, rfl, rfl, h1, rr1⟩ := trodAll_cons rr0
  obtain ⟨v2, vs2, d2, ds2, p2, q2, rfl, rfl, rfl, h2, rr2⟩ := trodAll_cons rr1
  obtain ⟨rfl, rfl, rfl⟩ := trodAll_nil rr2
  obtain rfl : args = #[v0, v1, v2] := by cases args; simp_all
  obtain ⟨rfl, rfl⟩ := trodVars_none hV
  obtain ⟨a0, rfl, rfl, rfl, w0⟩ := open_int Try.underlying3 (hval 0 3 v0 rfl rfl) h0
  obtain ⟨a1, len1, cap1, rfl⟩ := okWide_slice Try.underlying22 (hval 1 22 v1 rfl rfl)
  have k1 := h1
  have lt1 : ∀ x ∈ p1, x.block < W.heap.size := by obtain ⟨m, hm⟩ := k1; exact DataW.trod_lt m _ _ _ hm
  obtain ⟨⟨z1, w1⟩, u1⟩ := open_fl h1
  obtain ⟨a2, rfl, rfl, rfl, w2⟩ := open_int Try.underlying3 (hval 2 3 v2 rfl rfl) h2
  clear hA0
  refine (walk a0 a1 len1 cap1 z1 a2 W w0 w1 w2).mono fun e W' ⟨he, bel⟩ => ?_
  subst he
  exact ⟨_, rfl, _, _, _, [], _, [], hW', trodAll_mk1 (shut_bool Try.underlying4 _), (trodAll_cons_mk (shut_int Try.underlying3 w0) (trodAll_cons_mk (Below.trod laidOut (by kernel_rfl) (of_decide_eq_true (by kernel_rfl)) k1 bel lt1) (trodAll_cons_mk (shut_int Try.underlying3 w2) trodAll_mk0))), rfl, bel.frame _, fun h => by cases h⟩

set_option maxRecDepth 100000 in
theorem lifted (os : Os) (started : os.Started) (H : Type) (enc : TypeId × Value → H) :
    ReturnsInHanded {} Try.checked os 7 .any (Rows.spaceFullSpec.pre6 enc Try.prog Try.f7 Rows.spaceFullRow.domain false) (Rows.spaceFullSpec.post enc Try.prog Try.f7 false true false false) := by
  refine returnsInHanded_of_change (C := Try.checked) own started (by kernel_rfl) Try.func7
    (ChangeSpec.witness6 (enc := enc) (C := Try.checked) false ⟨#[], #[.int .i64 0, .slice none 0 0, .int .i64 0], []⟩ 8 (by kernel_rfl) (by kernel_rfl) (by kernel_rfl) (by kernel_rfl)) ?_
  intro W base args ds gs before hval hW _ _
  exact contract H enc W base args ds gs before hval hW

theorem over : Rows.spaceFullRow.holds Try.pinned (OpenSpec.ofChange Rows.spaceFullSpec) :=
  OpenClaim.holds_of_wide 7 Try.f7 rfl rfl rfl rfl rfl rfl rfl ⟨rfl, rfl, rfl, rfl, rfl⟩ rfl rfl rfl rfl rfl (by kernel_rfl) Try.func7 (by kernel_rfl)
    (of_decide_eq_true (by kernel_rfl)) (by unfold Func.isWrapper; first | (rw [if_pos (by decide +kernel)]; kernel_rfl) | (rw [if_neg (by decide +kernel)]; exact ⟨rfl, rfl⟩))
    (fun os started H enc _ => lifted os started H enc)

/-- ████ THE STATEMENT ████ -/
theorem proved : Rows.SpaceFullSaid := over
#print axioms proved
end Go.Proofs.Ytkhcaobmohppnaa.spaceFull
