/-
  What is taken and given back is as it was.
-/
import Derived.Test.YtkhcaobmohppnaaRows
import Derived.Test.YtkhcaobmohppnaaSFrame
import Derived.Test.YtkhcaobmohppnaaDPlay
import Derived.Test.YtkhcaobmohppnaaSHas
import Derived.Test.YtkhcaobmohppnaaSFacts
import Derived.Test.YtkhcaobmohppnaaDWf
import Derived.WalkKit
import Derived.ProofKit
import Derived.OpenShut
import Derived.ShutString
import Derived.ChangeOld
import Derived.Below
import Derived.SizedLaws
import Derived.RegionTactic
import Derived.Deep.RegionWith
import Derived.Deep.CutBlock
import Derived.ChangeAlike
namespace Go.Proofs.Ytkhcaobmohppnaa.spaceBack
open Go.ChangeShapes Go.WideShapes Go.ChangeAt Go.RowKit Words Go.Proofs.Ytkhcaobmohppnaa.Spc
open Go.ChangeMaps (open_string shut_string)
set_option linter.unusedVariables false

theorem own : ownKnob Try.prog.godebug = none := by kernel_rfl
theorem laidOut : laidOutB Try.prog = true := by kernel_rfl

set_option maxRecDepth 100000 in
set_option maxHeartbeats 8000000 in
/-- The walk: the Go text returns true and writes nothing that was there. -/
theorem walk (a0 : Int) (a1 : Option Addr) (len1 cap1 : Nat) (z1 : List Gp) (a2 : Int) (a3 : Bool) (w : World) (w0 : (Lit.int .i64 a0).wf = true) (w1 : Fl w w.heap.size a1 len1 cap1 z1) (w2 : (Lit.int .i64 a2).wf = true)  :
    Calls Try.prog 5 #[.int .i64 a0, .slice a1 len1 cap1, .int .i64 a2, .bool a3] w fun e w' => e = .returned (.bool true) ∧ Below w.heap.size w w' := by
  have CON := con
  have H := Lib.hid w1.rd
  have HWF := Lib.hid w1.wf
  obtain ⟨wb, hwb⟩ : ∃ wb, w.alloc (.cells #[.int .i64 a2] 3) = wb := ⟨_, rfl⟩
  have BX : Hid (Below w.heap.size w wb) := Lib.hid (by rw [← hwb]; exact boxed w _)
  have gx : Whole wb w.heap.size 3 #[.int .i64 a2] := by rw [← hwb]; exact Whole.new w 3 _
  have HB1 : Hid (∀ x : World, Below wb.heap.size wb x → x.cell? ⟨w.heap.size, 0, none⟩ = some (.int .i64 a2)) := Lib.hid fun x b => by rw [Whole.cell (whole_below2 gx b)]; rfl
  have HWB := Lib.hid hwb
  have rd := fun (x : World) (b : Below wb.heap.size wb x) => Words.Rd.below H.out (BX.out.trans (b.mono BX.out.size)) (Nat.le_refl _)
  have HA := Lib.hid (alive17 CON wb)
  obtain ⟨K, hK⟩ : ∃ K : Int, K = if a3 = true then 2 else 1 := ⟨_, rfl⟩
  have K12 : K = 1 ∨ K = 2 := by rw [hK]; cases a3 <;> simp
  have KT : Hid (a3 = true → K = 2) := Lib.hid fun h => by rw [hK, if_pos h]
  have KF : Hid (a3 = false → K = 1) := Lib.hid fun h => by rw [hK, if_neg (by rw [h]; simp)]
  have H1 := fun (x : World) (b : Below wb.heap.size wb x) => CON.step w.heap.size a1 len1 cap1 z1 a0 ⟨K, 0, a2⟩ x (rd x b) HWF.out (Nat.le_trans BX.out.size b.size)
  have HE := fun h : ser a0 z1 ⟨K, 0, a2⟩ ≠ 0 => back_none (s := a0) (l := z1) (o := ⟨K, 0, a2⟩) h
  have HF := fun h => back_facts (s := a0) (l := z1) (K := K) (m := a2) K12 h
  have HT := fun h => take_parts (s := a0) (l := z1) (K := K) (m := a2) K12 h
  have HW : ser a0 z1 ⟨K, 0, a2⟩ = 0 → 1 ≤ a2 ∧ a2 ≤ 4096 ∧ a0 ≤ 4096 := fun h => by
    obtain ⟨q1, q2, q3, g, hg, q4, q5, q6, q7⟩ := HT h
    obtain ⟨p1, p2, p3⟩ := ok_ch q1
    exact ⟨q2, by omega, p2⟩
  have HG : ser a0 z1 ⟨K, 0, a2⟩ = 0 → ∀ x ∈ z1, 0 ≤ x.a + x.m ∧ x.a + x.m ≤ 4096 := fun h x hx => by
    obtain ⟨q1, _⟩ := HT h
    obtain ⟨p1, p2, p3⟩ := ok_ch q1
    have := p3.each x hx
    omega
  unfold NS at H1
  generalize ha : sat a0 z1 ⟨K, 0, a2⟩ = an at *
  have H2 := fun (x : World) (A : Option Addr) (n c : Nat) (h : Gps x x.heap.size A n c (sgl a0 z1 ⟨K, 0, a2⟩)) => CON.step x.heap.size A n c (sgl a0 z1 ⟨K, 0, a2⟩) a0 ⟨3, an, a2⟩ x h (sgl_wf _ _ _) (Nat.le_refl _)
  have H3 := fun (x : World) (A : Option Addr) (n c : Nat) (h : Gps x x.heap.size A n c z1) => CON.step x.heap.size A n c z1 a0 ⟨3, an, a2⟩ x h HWF.out (Nat.le_refl _)
  have H4 := fun (x : World) (A : Option Addr) (n c : Nat) (h : Gps x x.heap.size A n c (sgl a0 z1 ⟨K, 0, a2⟩)) => CON.right x.heap.size A n c (sgl a0 z1 ⟨K, 0, a2⟩) x h (sgl_wf _ _ _) (Nat.le_refl _)
  clear ha HT
  unfold NS at H2 H3
  generalize sgl a0 z1 ⟨K, 0, a2⟩ = gs at *
  generalize ser a0 z1 ⟨K, 0, a2⟩ = en at *
  unfold aval sval at H1 H2 H3
  simp only at H1 H2 H3
  have H1 := Lib.hid H1
  have H2 := Lib.hid H2
  have H3 := Lib.hid H3
  have H4 := Lib.hid H4
  have HE := Lib.hid HE
  have HF := Lib.hid HF
  have HW := Lib.hid HW
  have HG := Lib.hid HG
  have RD := Lib.hid rd
  have HKK := Lib.hid hK
  clear hwb gx rd hK K12
  go_enter Try.func5, Try.ntmps5
  go_wp2_with fail
  rw [HWB.out]
  refine (HA.out).mono ?_; rintro e x1 ⟨rfl, b1⟩
  have B1 := Lib.hid b1
  have g0 := HB1.out _ b1
  have h1 := H1.out _ b1
  clear b1
  cases a3 with
  | true =>
    have hk : K = 2 := KT.out rfl
    subst hk
    have h1 := Lib.hid h1
    go_wp2_with fail
    refine (h1.out).mono ?_; rintro e x2 ⟨A2, c2, rfl, o2, b2⟩
    have bq := boxed x2 (.cells #[.int .i64 en, .int .i64 an] 27)
    have B2 := Lib.hid ((B1.out.trans (b2.mono B1.out.size)).trans (bq.mono (B1.out.trans (b2.mono B1.out.size)).size))
    have X2 := Lib.hid (Whole.new x2 27 #[.int .i64 en, .int .i64 an])
    have O2 := Lib.hid (o2.below bq (Nat.le_refl _))
    clear o2 b2 bq g0
    have g0 := HB1.out _ B2.out
    have k0 := Whole.cell X2.out 0
    have k1 := Whole.cell X2.out 1
    simp at k0 k1
    by_cases t0 : en = 0
    · obtain ⟨q0, q1, q2, q3, q4, q5, q6, q7⟩ := HF.out t0
      obtain ⟨w1, w2, w3⟩ := HW.out t0
      have HGG := Lib.hid (fun x hx => HG.out t0 x hx)
      have hwa : IntKind.i64.wrap (an + a2) = an + a2 := by rw [IntKind.wrap_i64]; omega
      have hC := Lib.hid (contains18_back (x2.heap.size) w.heap.size (fun g => decide (g.a ≤ an) && decide (an + a2 ≤ g.a + g.m)) w.heap.size a1 len1 cap1 z1 _ (RD.out _ B2.out) (Nat.le_trans BX.out.size B2.out.size) fun g wr hg bw =>
        back19 g x2.heap.size w.heap.size an a2 wr (by rw [Whole.cell (whole_below2 X2.out bw)]; rfl) (HB1.out wr (B2.out.trans (bw.mono B2.out.size))) hwa (by have := HGG.out g hg; rw [IntKind.wrap_i64]; omega))
      rw [q2] at hC
      rw [q4, q5, q6] at H2
      rw [q7] at H3
      rw [q3] at H4
      generalize sgl a0 z1 ⟨3, an, a2⟩ = gs3 at *
      generalize sat a0 z1 ⟨3, an, a2⟩ = an3 at *
      have HEQ := Lib.hid (fun x : World => (show (binOp .eql 27 (.agg #[.int .i64 0, .int .i64 an]) (.agg #[.int .i64 0, .int .i64 an])).run Try.prog x = .ok (.bool true) x by simp [go_sem, binOp, Op.equal, Op.maxDepth]))
      subst t0
      clear q0 q1 q2 q3 q4 q5 q6 q7 w1 w2 w3 hwa
      go_wp2_with fail
      refine (hC.out).mono ?_; rintro e x3 ⟨rfl, b3⟩
      have B3 := Lib.hid (B2.out.trans (b3.mono B2.out.size))
      have X3 := Lib.hid (whole_below2 X2.out b3)
      have O3 := Lib.hid (O2.out.below b3 (Nat.le_refl _))
      have g0 := HB1.out _ B3.out
      have k0 := Whole.cell X3.out 0
      have k1 := Whole.cell X3.out 1
      simp at k0 k1
      have h2 := Lib.hid (H2.out _ _ _ _ O3.out.gps)
      clear b3
      go_wp2_with fail
      refine (h2.out).mono ?_; rintro e x4 ⟨A4, c4, rfl, o4, b4⟩
      have bq := boxed x4 (.cells #[.int .i64 0, .int .i64 an] 27)
      have B4 := Lib.hid ((B3.out.trans (b4.mono B3.out.size)).trans (bq.mono (B3.out.trans (b4.mono B3.out.size)).size))
      have X4 := Lib.hid ((whole_below2 X3.out b4).alloc (.cells #[.int .i64 0, .int .i64 an] 27))
      have Y4 := Lib.hid (Whole.new x4 27 #[.int .i64 0, .int .i64 an])
      have O4 := Lib.hid ((O3.out.below b4 (Nat.le_refl _)).below bq (Nat.le_refl _))
      have L4 := Lib.hid (o4.below bq (Nat.le_refl _))
      clear o4 b4 bq g0 k0 k1
      have g0 := HB1.out _ B4.out
      have k0 := Whole.cell X4.out 0
      have k1 := Whole.cell X4.out 1
      simp at k0 k1
      have h3 := Lib.hid (H3.out _ _ _ _ L4.out.gps)
      go_wp2_with fail
      refine (h3.out).mono ?_; rintro e x5 ⟨A5, c5, rfl, _, b5⟩
      have bq := boxed x5 (.cells #[.int .i64 6, .int .i64 an3] 27)
      have B5 := Lib.hid ((B4.out.trans (b5.mono B4.out.size)).trans (bq.mono (B4.out.trans (b5.mono B4.out.size)).size))
      have X5 := Lib.hid ((whole_below2 X4.out b5).alloc (.cells #[.int .i64 6, .int .i64 an3] 27))
      have Y5 := Lib.hid ((whole_below2 Y4.out b5).alloc (.cells #[.int .i64 6, .int .i64 an3] 27))
      have Z5 := Lib.hid (Whole.new x5 27 #[.int .i64 6, .int .i64 an3])
      have O5 := Lib.hid ((O4.out.below b5 (Nat.le_refl _)).below bq (Nat.le_refl _))
      have L5 := Lib.hid ((L4.out.below b5 (Nat.le_refl _)).below bq (Nat.le_refl _))
      have h4 := Lib.hid (H4.out _ _ _ _ O5.out.gps)
      clear b5 bq g0 k0 k1
      obtain ⟨ln, hln⟩ : ∃ ln, ln = z1.length := ⟨_, rfl⟩
      rw [← hln] at L5 ⊢
      clear hln
      go_wp2_with fail
      refine (h4.out).mono ?_; rintro e x6 ⟨rfl, b6⟩
      have B6 := Lib.hid (B5.out.trans (b6.mono B5.out.size))
      have f0 := Whole.cell (whole_below2 X5.out b6) 0
      have f1 := Whole.cell (whole_below2 X5.out b6) 1
      have f2 := Whole.cell (whole_below2 Y5.out b6) 0
      have f3 := Whole.cell (whole_below2 Y5.out b6) 1
      have Z6 := Lib.hid (whole_below2 Z5.out b6)
      simp at f0 f1 f2 f3
      have heq := HEQ.out
      have E1 := Lib.hid (equal13_yes _ _ A4 a1 ln len1 c4 cap1 z1 z1 x6 (L5.out.below b6 (Nat.le_refl _)).gps (RD.out _ B6.out) rfl)
      clear b6
      go_wp2_with fail
      refine (E1.out).mono ?_; rintro e x7 ⟨rfl, L7⟩
      have B7 := Lib.hid (B6.out.trans (L7.below.mono B6.out.size))
      have s0 := Whole.cell (whole_below2 Z6.out L7.below) 0
      have s1 := Whole.cell (whole_below2 Z6.out L7.below) 1
      simp at s0 s1
      clear L7
      go_wp2_with fail
      go_ret
      exact ⟨rfl, BX.out.trans (B7.out.mono BX.out.size)⟩
    · obtain ⟨q1, q2⟩ := HE.out t0
      have n0 : (en != 0) = true := by rw [bne_iff_ne]; exact t0
      have q2 : an = 0 := q2
      subst q1 q2
      clear t0
      go_wp2_with fail
      go_ret
      exact ⟨rfl, BX.out.trans (B2.out.mono BX.out.size)⟩
  | false =>
    have hk : K = 1 := KF.out rfl
    subst hk
    have h1 := Lib.hid h1
    go_wp2_with fail
    refine (h1.out).mono ?_; rintro e x2 ⟨A2, c2, rfl, o2, b2⟩
    have bq := boxed x2 (.cells #[.int .i64 en, .int .i64 an] 27)
    have B2 := Lib.hid ((B1.out.trans (b2.mono B1.out.size)).trans (bq.mono (B1.out.trans (b2.mono B1.out.size)).size))
    have X2 := Lib.hid (Whole.new x2 27 #[.int .i64 en, .int .i64 an])
    have O2 := Lib.hid (o2.below bq (Nat.le_refl _))
    clear o2 b2 bq g0
    have g0 := HB1.out _ B2.out
    have k0 := Whole.cell X2.out 0
    have k1 := Whole.cell X2.out 1
    simp at k0 k1
    by_cases t0 : en = 0
    · obtain ⟨q0, q1, q2, q3, q4, q5, q6, q7⟩ := HF.out t0
      obtain ⟨w1, w2, w3⟩ := HW.out t0
      have HGG := Lib.hid (fun x hx => HG.out t0 x hx)
      have hwa : IntKind.i64.wrap (an + a2) = an + a2 := by rw [IntKind.wrap_i64]; omega
      have hC := Lib.hid (contains18_back (x2.heap.size) w.heap.size (fun g => decide (g.a ≤ an) && decide (an + a2 ≤ g.a + g.m)) w.heap.size a1 len1 cap1 z1 _ (RD.out _ B2.out) (Nat.le_trans BX.out.size B2.out.size) fun g wr hg bw =>
        back19 g x2.heap.size w.heap.size an a2 wr (by rw [Whole.cell (whole_below2 X2.out bw)]; rfl) (HB1.out wr (B2.out.trans (bw.mono B2.out.size))) hwa (by have := HGG.out g hg; rw [IntKind.wrap_i64]; omega))
      rw [q2] at hC
      rw [q4, q5, q6] at H2
      rw [q7] at H3
      rw [q3] at H4
      generalize sgl a0 z1 ⟨3, an, a2⟩ = gs3 at *
      generalize sat a0 z1 ⟨3, an, a2⟩ = an3 at *
      have HEQ := Lib.hid (fun x : World => (show (binOp .eql 27 (.agg #[.int .i64 0, .int .i64 an]) (.agg #[.int .i64 0, .int .i64 an])).run Try.prog x = .ok (.bool true) x by simp [go_sem, binOp, Op.equal, Op.maxDepth]))
      subst t0
      clear q0 q1 q2 q3 q4 q5 q6 q7 w1 w2 w3 hwa
      go_wp2_with fail
      refine (hC.out).mono ?_; rintro e x3 ⟨rfl, b3⟩
      have B3 := Lib.hid (B2.out.trans (b3.mono B2.out.size))
      have X3 := Lib.hid (whole_below2 X2.out b3)
      have O3 := Lib.hid (O2.out.below b3 (Nat.le_refl _))
      have g0 := HB1.out _ B3.out
      have k0 := Whole.cell X3.out 0
      have k1 := Whole.cell X3.out 1
      simp at k0 k1
      have h2 := Lib.hid (H2.out _ _ _ _ O3.out.gps)
      clear b3
      go_wp2_with fail
      refine (h2.out).mono ?_; rintro e x4 ⟨A4, c4, rfl, o4, b4⟩
      have bq := boxed x4 (.cells #[.int .i64 0, .int .i64 an] 27)
      have B4 := Lib.hid ((B3.out.trans (b4.mono B3.out.size)).trans (bq.mono (B3.out.trans (b4.mono B3.out.size)).size))
      have X4 := Lib.hid ((whole_below2 X3.out b4).alloc (.cells #[.int .i64 0, .int .i64 an] 27))
      have Y4 := Lib.hid (Whole.new x4 27 #[.int .i64 0, .int .i64 an])
      have O4 := Lib.hid ((O3.out.below b4 (Nat.le_refl _)).below bq (Nat.le_refl _))
      have L4 := Lib.hid (o4.below bq (Nat.le_refl _))
      clear o4 b4 bq g0 k0 k1
      have g0 := HB1.out _ B4.out
      have k0 := Whole.cell X4.out 0
      have k1 := Whole.cell X4.out 1
      simp at k0 k1
      have h3 := Lib.hid (H3.out _ _ _ _ L4.out.gps)
      go_wp2_with fail
      refine (h3.out).mono ?_; rintro e x5 ⟨A5, c5, rfl, _, b5⟩
      have bq := boxed x5 (.cells #[.int .i64 6, .int .i64 an3] 27)
      have B5 := Lib.hid ((B4.out.trans (b5.mono B4.out.size)).trans (bq.mono (B4.out.trans (b5.mono B4.out.size)).size))
      have X5 := Lib.hid ((whole_below2 X4.out b5).alloc (.cells #[.int .i64 6, .int .i64 an3] 27))
      have Y5 := Lib.hid ((whole_below2 Y4.out b5).alloc (.cells #[.int .i64 6, .int .i64 an3] 27))
      have Z5 := Lib.hid (Whole.new x5 27 #[.int .i64 6, .int .i64 an3])
      have O5 := Lib.hid ((O4.out.below b5 (Nat.le_refl _)).below bq (Nat.le_refl _))
      have L5 := Lib.hid ((L4.out.below b5 (Nat.le_refl _)).below bq (Nat.le_refl _))
      have h4 := Lib.hid (H4.out _ _ _ _ O5.out.gps)
      clear b5 bq g0 k0 k1
      obtain ⟨ln, hln⟩ : ∃ ln, ln = z1.length := ⟨_, rfl⟩
      rw [← hln] at L5 ⊢
      clear hln
      go_wp2_with fail
      refine (h4.out).mono ?_; rintro e x6 ⟨rfl, b6⟩
      have B6 := Lib.hid (B5.out.trans (b6.mono B5.out.size))
      have f0 := Whole.cell (whole_below2 X5.out b6) 0
      have f1 := Whole.cell (whole_below2 X5.out b6) 1
      have f2 := Whole.cell (whole_below2 Y5.out b6) 0
      have f3 := Whole.cell (whole_below2 Y5.out b6) 1
      have Z6 := Lib.hid (whole_below2 Z5.out b6)
      simp at f0 f1 f2 f3
      have heq := HEQ.out
      have E1 := Lib.hid (equal13_yes _ _ A4 a1 ln len1 c4 cap1 z1 z1 x6 (L5.out.below b6 (Nat.le_refl _)).gps (RD.out _ B6.out) rfl)
      clear b6
      go_wp2_with fail
      refine (E1.out).mono ?_; rintro e x7 ⟨rfl, L7⟩
      have B7 := Lib.hid (B6.out.trans (L7.below.mono B6.out.size))
      have s0 := Whole.cell (whole_below2 Z6.out L7.below) 0
      have s1 := Whole.cell (whole_below2 Z6.out L7.below) 1
      simp at s0 s1
      clear L7
      go_wp2_with fail
      go_ret
      exact ⟨rfl, BX.out.trans (B7.out.mono BX.out.size)⟩
    · obtain ⟨q1, q2⟩ := HE.out t0
      have n0 : (en != 0) = true := by rw [bne_iff_ne]; exact t0
      have q2 : an = 0 := q2
      subst q1 q2
      clear t0
      go_wp2_with fail
      go_ret
      exact ⟨rfl, BX.out.trans (B2.out.mono BX.out.size)⟩

set_option maxRecDepth 100000 in
theorem contract (H : Type) (enc : TypeId × Value → H) (W : World) (base : Nat) (args : Array Value) (ds gs : List (DataW H)) (before : List MemPlace)
    (hval : ∀ (j : Nat) t v, Try.f5.params[j]? = some t → args[j]? = some v → Value.okWide Try.prog W .any base t v)
    (hW : DataW.Whole enc Try.prog Try.f5.params.toList Rows.spaceBackSpec.vars false W args.toList ds gs before) :
    Calls Try.prog 5 args W fun e W' => ∃ v, e = .returned v ∧ Rows.spaceBackSpec.post enc Try.prog Try.f5 false true false false W args v W' := by
  have hW' := hW
  obtain ⟨p, q, hA0, hV, rfl, hfz, hnd⟩ := hW
  have hA : DataW.TrodAll enc Try.prog W 0 (fun _ => true) true Try.f5.params.toList args.toList ds p := hA0
  rw [Try.params5] at hA hval
  obtain ⟨v0, vs0, d0, ds0, p0, q0, hargs, rfl, rfl, h0, rr0⟩ := trodAll_cons hA
  obtain ⟨v1, vs1, d1, ds1, p1, q1, rfl, rfl, rfl, h1, rr1⟩ := trodAll_cons rr0
  obtain ⟨v2, vs2, d2, ds2, p2, q2, rfl, rfl, rfl, h2, rr2⟩ := trodAll_cons rr1
  obtain ⟨v3, vs3, d3, ds3, p3, q3, rfl, rfl, rfl, h3, rr3⟩ := trodAll_cons rr2
  obtain ⟨rfl, rfl, rfl⟩ := trodAll_nil rr3
  obtain rfl : args = #[v0, v1, v2, v3] := by cases args; simp_all
  obtain ⟨rfl, rfl⟩ := trodVars_none hV
  obtain ⟨a0, rfl, rfl, rfl, w0⟩ := open_int Try.underlying3 (hval 0 3 v0 rfl rfl) h0
  obtain ⟨a1, len1, cap1, rfl⟩ := okWide_slice Try.underlying22 (hval 1 22 v1 rfl rfl)
  have k1 := h1
  have lt1 : ∀ x ∈ p1, x.block < W.heap.size := by obtain ⟨m, hm⟩ := k1; exact DataW.trod_lt m _ _ _ hm
  obtain ⟨⟨z1, w1⟩, u1⟩ := open_fl h1
  obtain ⟨a2, rfl, rfl, rfl, w2⟩ := open_int Try.underlying3 (hval 2 3 v2 rfl rfl) h2
  obtain ⟨a3, rfl, rfl, rfl⟩ := open_bool Try.underlying4 (hval 3 4 v3 rfl rfl) h3
  clear hA0
  refine (walk a0 a1 len1 cap1 z1 a2 a3 W w0 w1 w2).mono fun e W' ⟨he, bel⟩ => ?_
  subst he
  exact ⟨_, rfl, _, _, _, [], _, [], hW', trodAll_mk1 (shut_bool Try.underlying4 _), (trodAll_cons_mk (shut_int Try.underlying3 w0) (trodAll_cons_mk (Below.trod laidOut (by kernel_rfl) (of_decide_eq_true (by kernel_rfl)) k1 bel lt1) (trodAll_cons_mk (shut_int Try.underlying3 w2) (trodAll_cons_mk (shut_bool Try.underlying4 a3) trodAll_mk0)))), rfl, bel.frame _, fun h => by cases h⟩

set_option maxRecDepth 100000 in
theorem lifted (os : Os) (started : os.Started) (H : Type) (enc : TypeId × Value → H) :
    ReturnsInHanded {} Try.checked os 5 .any (Rows.spaceBackSpec.pre6 enc Try.prog Try.f5 Rows.spaceBackRow.domain false) (Rows.spaceBackSpec.post enc Try.prog Try.f5 false true false false) := by
  refine returnsInHanded_of_change (C := Try.checked) own started (by kernel_rfl) Try.func5
    (ChangeSpec.witness6 (enc := enc) (C := Try.checked) false ⟨#[], #[.int .i64 0, .slice none 0 0, .int .i64 0, .bool false], []⟩ 8 (by kernel_rfl) (by kernel_rfl) (by kernel_rfl) (by kernel_rfl)) ?_
  intro W base args ds gs before hval hW _ _
  exact contract H enc W base args ds gs before hval hW

theorem over : Rows.spaceBackRow.holds Try.pinned (OpenSpec.ofChange Rows.spaceBackSpec) :=
  OpenClaim.holds_of_wide 5 Try.f5 rfl rfl rfl rfl rfl rfl rfl ⟨rfl, rfl, rfl, rfl, rfl⟩ rfl rfl rfl rfl rfl (by kernel_rfl) Try.func5 (by kernel_rfl)
    (of_decide_eq_true (by kernel_rfl)) (by unfold Func.isWrapper; first | (rw [if_pos (by decide +kernel)]; kernel_rfl) | (rw [if_neg (by decide +kernel)]; exact ⟨rfl, rfl⟩))
    (fun os started H enc _ => lifted os started H enc)

/-- ████ THE STATEMENT ████ -/
theorem proved : Rows.SpaceBackSaid := over
#print axioms proved
end Go.Proofs.Ytkhcaobmohppnaa.spaceBack
