/-
  NandKeeps holds for every input: what was programmed stays till its block is erased.
-/
import Derived.Test.YtellfblfalpdiaaRows
import Derived.Test.YtellfblfalpdiaaKeeps
import Derived.Test.YtellfblfalpdiaaFrame
import Derived.WalkKit
import Derived.ProofKit
import Derived.OpenShut
import Derived.ShutString
import Derived.ChangeOld
import Derived.Below
import Derived.SizedLaws
import Derived.RegionTactic
import Derived.Deep.RegionWith
import Derived.Deep.CutBlock
import Derived.ChangeAlike
namespace Go.Proofs.Ytellfblfalpdiaa.nandKeeps
open Go.ChangeShapes Go.WideShapes Go.ChangeAt Go.RowKit Words Go.Proofs.Ytellfblfalpdiaa.Nand
open Go.ChangeMaps (open_string shut_string)
set_option linter.unusedVariables false

theorem own : ownKnob Try.prog.godebug = none := by kernel_rfl
theorem laidOut : laidOutB Try.prog = true := by kernel_rfl

set_option maxRecDepth 20000 in
set_option maxHeartbeats 8000000 in
/-- The walk: the Go text returns true and writes nothing that was there. -/
theorem walk (a0 : Option Addr) (len0 cap0 : Nat) (z0 : List Blk) (o1 : Nop) (w : World) (w0 : Fl w w.heap.size a0 len0 cap0 z0)  :
    Calls Try.prog 5 #[.slice a0 len0 cap0, oval o1] w fun e w' => e = .returned (.bool true) ∧ Below w.heap.size w w' := by
  have HK0 : Hid (Kept w o1 (w.alloc (bx o1))) := Lib.hid (Below.refl _ _)
  have H := Lib.hid w0
  have HA := Lib.hid (alive19 (w.alloc (bx o1)))
  have H1 := Lib.hid (fun x (b : Kept w o1 x) => step9 _ _ _ _ _ o1 x (Words.Rd.below w0 b.below (Nat.le_refl _)) b.below.size)
  have L := Lib.hid w0.len
  clear w0
  unfold bx at HA
  unfold oval at H1 ⊢
  by_cases he : errOf z0 o1 = 0
  · obtain ⟨hr, hk, hw, i, b, hi, hib, hb, hbe⟩ := err_zero he
    have hl8 := right_len hr
    obtain rfl : len0 = 8 := by rw [← L.out]; exact hl8
    obtain ⟨hu, hd⟩ := upd_of hib hb
    have HN : Hid (nextOf z0 o1 = z0.set i (doB b o1)) := Lib.hid (by unfold nextOf; rw [if_pos he, hu])
    have HL8 : Hid ((nextOf z0 o1).length = 8) := Lib.hid (next_len he)
    have HNR := Lib.hid (next_right he)
    have HBl := Lib.hid hb
    have HZR := Lib.hid hr
    have HKO := Lib.hid hk
    have HWO := Lib.hid hw
    have HBE := Lib.hid hbe
    have HIB := Lib.hid hib
    rw [he] at H1
    clear he hr hk hw hb hu hd hbe hl8 hib
    generalize hm : nextOf z0 o1 = m at *
    generalize dataOf z0 o1 = dd at *
    clear hm
    go_enter Try.func5, Try.ntmps5
    go_wp2_with fail
    refine (HA.out).mono ?_; rintro e x0 ⟨rfl, b0⟩
    have HK1 : Hid (Kept w o1 x0) := Lib.hid (HK0.out.next b0)
    obtain ⟨q0, q1, q2, q3⟩ := HK1.out.cells
    have H2 := Lib.hid (H1.out x0 HK1.out)
    clear b0
    go_wp2_with fail
    refine (H2.out).mono ?_; rintro e x1 hq; obtain ⟨A1, c1, rfl, f1, b1⟩ := Made3.get (n := 8) hq HL8.out
    have KP1 : Hid (Kp w o1 x0.heap.size A1 c1 m x1) := Lib.hid ⟨HK1.out.next b1, f1⟩
    have HR := Lib.hid (right13 _ _ _ _ _ x1 f1.fl (Nat.le_refl _))
    rw [HNR.out] at HR
    obtain ⟨g1, rfl, _, _⟩ := f1.addr (by omega)
    obtain ⟨g, of, rfl, hg, _⟩ := Words.Rd.row H.out (by omega)
    clear hq f1 b1 q0 q1 q2 q3
    go_wp2_with fail
    refine (HR.out).mono ?_; rintro e x2 ⟨rfl, b2⟩
    have KP2 := Lib.hid (KP1.out.next b2)
    clear b2
    go_wp2_with fail
    go_loopw [35] (fun i' wr => ∃ k : Nat, k ≤ 8 ∧ i' = .int .i64 k ∧ Kp w o1 x0.heap.size (some ⟨g1, 0, none⟩) c1 m wr) (fun i' _ => (8 - intOf i').toNat)
    case atStart => exact ⟨0, by omega, rfl, KP2.out⟩
    case round =>
      obtain ⟨k, hk8, rfl, hkp⟩ := hrel
      have KP := Lib.hid hkp
      clear hkp
      by_cases hlt : k < 8
      · obtain ⟨cb, hcb⟩ : ∃ cb, z0[k]? = some cb := ⟨_, List.getElem?_eq_getElem (by rw [L.out]; exact hlt)⟩
        obtain ⟨e, he⟩ : ∃ e, m[k]? = some e := ⟨_, List.getElem?_eq_getElem (by rw [HL8.out]; exact hlt)⟩
        obtain ⟨c0, c1', c2, c3, c4, c5⟩ := Fl.cells (Words.Rd.below H.out KP.out.kept.below (Nat.le_refl _)) rfl hcb
        obtain ⟨d0, d1, d2, d3, d4, d5⟩ := KP.out.own.cells he
        obtain ⟨q0, q1, q2, q3⟩ := KP.out.kept.cells
        rw [HIB.out] at q1
        obtain ⟨hd0, hd4, hw0, hw4, _⟩ := okB_iff.1 (right_get HZR.out hcb)
        have hsum : IntKind.i64.wrap (cb.wear + 1) = cb.wear + 1 := IntWalk.i64_in _ (by omega)
        have hdp : cb.done = ((cb.done.toNat : Nat) : Int) := by omega
        obtain ⟨x0', x1', x2', x3', dn, we⟩ := cb
        simp only at c0 c1' c2 c3 c4 c5 hd0 hd4 hw0 hw4 hsum hdp
        generalize hpn : dn.toNat = p at hdp
        subst hdp
        have hp4 : p ≤ 4 := by omega
        clear hpn
        by_cases hki : k = i
        · subst hki
          have hbc : b = ⟨x0', x1', x2', x3', (p : Int), we⟩ := by have := HBl.out; rw [hcb] at this; injection this with this; exact this.symm
          subst hbc
          have hed : e = doB ⟨x0', x1', x2', x3', (p : Int), we⟩ o1 := by
            rw [HN.out, get_set_same HBl.out] at he
            injection he with he; exact he.symm
          have hkk : ((k : Int) == (k : Int)) = true := beq_self_eq_true _
          rcases kind_cases HKO.out with ek | ek | ek
          · obtain ⟨pg, hp, hpg4⟩ := page_nat (by omega) HWO.out
            have hpp : pg = p := by
              have := HBE.out
              unfold blkErr at this
              simp only at this
              by_cases a1 : o1.page < (p : Int)
              · rw [if_pos ⟨ek, a1⟩] at this; omega
              · rw [if_neg (by omega)] at this
                by_cases a2 : (p : Int) < o1.page
                · rw [if_pos ⟨ek, a2⟩] at this; omega
                · omega
            subst hpp
            have hE : doB ⟨x0', x1', x2', x3', (pg : Int), we⟩ o1 = { (Blk.mk x0' x1' x2' x3' (pg : Int) we).put pg o1.data with done := (pg : Int) + 1 } := by unfold doB; rw [if_pos ek, hp]; rfl
            have hew : e.wear = we := by rw [hed, hE]; exact put_rest _ _ _
            have hen : e.done = (pg : Int) + 1 := by rw [hed, hE]
            have hep : e.pages.take pg = (Blk.mk x0' x1' x2' x3' (pg : Int) we).pages.take pg := by rw [hed, hE]; exact put_take _ _ hpg4
            have hne : ¬ e = ⟨x0', x1', x2', x3', (pg : Int), we⟩ := fun h => by rw [h] at hen; simp only at hen; omega
            have HC := Lib.hid (fun j => same_heads (p := pg) (b := ⟨x0', x1', x2', x3', (pg : Int), we⟩) (by omega) d0 d1 d2 d3 c0 c1' c2 c3 hep j)
            obtain ⟨y0, y1, y2, y3, z4, z5⟩ := e
            simp only at hew hen
            subst hew hen
            rw [ek] at q0
            have ht : ∀ w, (binOp .neq 31 (.agg #[.int .i64 y0, .int .i64 y1, .int .i64 y2, .int .i64 y3, .int .i64 ((pg : Int) + 1), .int .i64 z5]) (.agg #[.int .i64 x0', .int .i64 x1', .int .i64 x2', .int .i64 x3', .int .i64 (pg : Int), .int .i64 z5])).run Try.prog w = .ok (.bool true) w := fun w => neq_other hne w
            simp only at d0 d1 d2 d3 d4 d5
            have hd1 : decide ((pg : Int) + 1 < (pg : Int)) = false := by rw [decide_eq_false_iff_not]; omega
            clear hed hep hne hcb he ek hp hE
            go_wp2_with fail
            go_quiet ((go_at_call 18; exact HC.out _))
            go_wp2_with fail
            go_roundw
            case rel => exact ⟨k + 1, by omega, by go_num, KP.out.drewN _⟩
            case measure => simp [intOf]; omega
          · have hE : doB ⟨x0', x1', x2', x3', (p : Int), we⟩ o1 = Nand.blank (we + 1) := by unfold doB; rw [if_neg (by omega), if_pos ek]
            rw [hE] at hed
            subst hed
            rw [ek] at q0
            have ht : ∀ w, (binOp .neq 31 (.agg #[.int .i64 0, .int .i64 0, .int .i64 0, .int .i64 0, .int .i64 0, .int .i64 (we + 1)]) (.agg #[.int .i64 0, .int .i64 0, .int .i64 0, .int .i64 0, .int .i64 0, .int .i64 (we + 1)])).run Try.prog w = .ok (.bool false) w := fun w => neq_same (x := Nand.blank (we + 1)) rfl w
            unfold Nand.blank at d0 d1 d2 d3 d4 d5
            simp only at d0 d1 d2 d3 d4 d5
            clear hcb he ek hE
            go_wp2_with fail
            go_quiet (fail)
            go_wp2_with fail
            go_roundw
            case rel => exact ⟨k + 1, by omega, by go_num, KP.out.drewN _⟩
            case measure => simp [intOf]; omega
          · have hE : doB ⟨x0', x1', x2', x3', (p : Int), we⟩ o1 = ⟨x0', x1', x2', x3', (p : Int), we⟩ := by unfold doB; rw [if_neg (by omega), if_neg (by omega)]
            rw [hE] at hed
            subst hed
            rw [ek] at q0
            have HC := Lib.hid (fun j => same_heads (p := p) (e := ⟨x0', x1', x2', x3', (p : Int), we⟩) (b := ⟨x0', x1', x2', x3', (p : Int), we⟩) hp4 d0 d1 d2 d3 c0 c1' c2 c3 rfl j)
            have ht : ∀ w, (binOp .neq 31 (.agg #[.int .i64 x0', .int .i64 x1', .int .i64 x2', .int .i64 x3', .int .i64 (p : Int), .int .i64 we]) (.agg #[.int .i64 x0', .int .i64 x1', .int .i64 x2', .int .i64 x3', .int .i64 (p : Int), .int .i64 we])).run Try.prog w = .ok (.bool false) w := fun w => neq_same (x := ⟨x0', x1', x2', x3', (p : Int), we⟩) rfl w
            simp only at d0 d1 d2 d3 d4 d5
            have hd1 : decide ((p : Int) < (p : Int)) = false := by rw [decide_eq_false_iff_not]; omega
            clear hcb he ek hE
            go_wp2_with fail
            go_quiet ((go_at_call 18; exact HC.out _))
            go_wp2_with fail
            go_roundw
            case rel => exact ⟨k + 1, by omega, by go_num, KP.out.drewN _⟩
            case measure => simp [intOf]; omega
        · have hkn : ((k : Int) == (i : Int)) = false := by rw [beq_eq_false_iff_ne]; omega
          have hkn2 : ((k : Int) != (i : Int)) = true := by rw [bne_iff_ne]; omega
          have hed : e = ⟨x0', x1', x2', x3', (p : Int), we⟩ := by
            rw [HN.out, List.getElem?_set, if_neg (by omega), hcb] at he
            injection he with he; exact he.symm
          subst hed
          have HC := Lib.hid (fun j => same_heads (p := p) (e := ⟨x0', x1', x2', x3', (p : Int), we⟩) (b := ⟨x0', x1', x2', x3', (p : Int), we⟩) hp4 d0 d1 d2 d3 c0 c1' c2 c3 rfl j)
          have ht : ∀ w, (binOp .neq 31 (.agg #[.int .i64 x0', .int .i64 x1', .int .i64 x2', .int .i64 x3', .int .i64 (p : Int), .int .i64 we]) (.agg #[.int .i64 x0', .int .i64 x1', .int .i64 x2', .int .i64 x3', .int .i64 (p : Int), .int .i64 we])).run Try.prog w = .ok (.bool false) w := fun w => neq_same (x := ⟨x0', x1', x2', x3', (p : Int), we⟩) rfl w
          simp only at d0 d1 d2 d3 d4 d5
          have hd1 : decide ((p : Int) < (p : Int)) = false := by rw [decide_eq_false_iff_not]; omega
          clear hcb he hki
          go_wp2_with fail
          go_quiet ((go_at_call 18; exact HC.out _))
          go_wp2_with fail
          go_roundw
          case rel => exact ⟨k + 1, by omega, by go_num, KP.out.drewN _⟩
          case measure => simp [intOf]; omega
      · obtain rfl : k = 8 := by omega
        go_wp2_with fail
        go_ret
        exact ⟨rfl, KP.out.kept.below⟩
  · have hne : (errOf z0 o1 != 0) = true := by rw [bne_iff_ne]; exact he
    have HN : Hid ((nextOf z0 o1).length = 0) := Lib.hid (by unfold nextOf; rw [if_neg he]; rfl)
    clear he
    go_enter Try.func5, Try.ntmps5
    go_wp2_with fail
    refine (HA.out).mono ?_; rintro e x0 ⟨rfl, b0⟩
    have HK1 : Hid (Kept w o1 x0) := Lib.hid (HK0.out.next b0)
    obtain ⟨q0, q1, q2, q3⟩ := HK1.out.cells
    have H2 := Lib.hid (H1.out x0 HK1.out)
    clear b0
    go_wp2_with fail
    refine (H2.out).mono ?_; rintro e x1 hq; obtain ⟨A1, c1, rfl, f1, b1⟩ := Made3.get (n := 0) hq HN.out
    have BF := Lib.hid (HK1.out.below.trans (b1.mono HK1.out.below.size))
    clear hq f1 b1
    go_wp2_with fail
    go_ret
    exact ⟨rfl, BF.out⟩

set_option maxRecDepth 100000 in
theorem contract (H : Type) (enc : TypeId × Value → H) (W : World) (base : Nat) (args : Array Value) (ds gs : List (DataW H)) (before : List MemPlace)
    (hval : ∀ (j : Nat) t v, Try.f5.params[j]? = some t → args[j]? = some v → Value.okWide Try.prog W .any base t v)
    (hW : DataW.Whole enc Try.prog Try.f5.params.toList Rows.nandKeepsSpec.vars false W args.toList ds gs before) :
    Calls Try.prog 5 args W fun e W' => ∃ v, e = .returned v ∧ Rows.nandKeepsSpec.post enc Try.prog Try.f5 false true false false W args v W' := by
  have hW' := hW
  obtain ⟨p, q, hA0, hV, rfl, hfz, hnd⟩ := hW
  have hA : DataW.TrodAll enc Try.prog W 0 (fun _ => true) true Try.f5.params.toList args.toList ds p := hA0
  rw [Try.params5] at hA hval
  obtain ⟨v0, vs0, d0, ds0, p0, q0, hargs, rfl, rfl, h0, rr0⟩ := trodAll_cons hA
  obtain ⟨v1, vs1, d1, ds1, p1, q1, rfl, rfl, rfl, h1, rr1⟩ := trodAll_cons rr0
  obtain ⟨rfl, rfl, rfl⟩ := trodAll_nil rr1
  obtain rfl : args = #[v0, v1] := by cases args; simp_all
  obtain ⟨rfl, rfl⟩ := trodVars_none hV
  obtain ⟨a0, len0, cap0, rfl⟩ := okWide_slice Try.underlying22 (hval 0 22 v0 rfl rfl)
  have k0 := h0
  have lt0 : ∀ x ∈ p0, x.block < W.heap.size := by obtain ⟨m, hm⟩ := k0; exact DataW.trod_lt m _ _ _ hm
  obtain ⟨⟨z0, w0⟩, u0⟩ := open_fl h0
  have k1 := h1
  have lt1 : ∀ x ∈ p1, x.block < W.heap.size := by obtain ⟨m, hm⟩ := k1; exact DataW.trod_lt m _ _ _ hm
  obtain ⟨o1, rfl⟩ := open_op (hval 1 24 v1 rfl rfl) h1
  clear hA0
  refine (walk a0 len0 cap0 z0 o1 W w0).mono fun e W' ⟨he, bel⟩ => ?_
  subst he
  exact ⟨_, rfl, _, _, _, [], _, [], hW', trodAll_mk1 (shut_bool Try.underlying4 _), (trodAll_cons_mk (Below.trod laidOut (by kernel_rfl) (of_decide_eq_true (by kernel_rfl)) k0 bel lt0) (trodAll_cons_mk (Below.trod laidOut (by kernel_rfl) (of_decide_eq_true (by kernel_rfl)) k1 bel lt1) trodAll_mk0)), rfl, bel.frame _, fun h => by cases h⟩

set_option maxRecDepth 100000 in
theorem lifted (os : Os) (started : os.Started) (H : Type) (enc : TypeId × Value → H) :
    ReturnsInHanded {} Try.checked os 5 .any (Rows.nandKeepsSpec.pre6 enc Try.prog Try.f5 Rows.nandKeepsRow.domain false) (Rows.nandKeepsSpec.post enc Try.prog Try.f5 false true false false) := by
  refine returnsInHanded_of_change (C := Try.checked) own started (by kernel_rfl) Try.func5
    (ChangeSpec.witness6 (enc := enc) (C := Try.checked) false ⟨#[], #[.slice none 0 0, .agg #[.int .i64 0, .int .i64 0, .int .i64 0, .int .i64 0]], []⟩ 8 (by kernel_rfl) (by kernel_rfl) (by kernel_rfl) (by kernel_rfl)) ?_
  intro W base args ds gs before hval hW _ _
  exact contract H enc W base args ds gs before hval hW

theorem over : Rows.nandKeepsRow.holds Try.pinned (OpenSpec.ofChange Rows.nandKeepsSpec) :=
  OpenClaim.holds_of_wide 5 Try.f5 rfl rfl rfl rfl rfl rfl rfl ⟨rfl, rfl, rfl, rfl, rfl⟩ rfl rfl rfl rfl rfl (by kernel_rfl) Try.func5 (by kernel_rfl)
    (of_decide_eq_true (by kernel_rfl)) (by unfold Func.isWrapper; first | (rw [if_pos (by decide +kernel)]; kernel_rfl) | (rw [if_neg (by decide +kernel)]; exact ⟨rfl, rfl⟩))
    (fun os started H enc _ => lifted os started H enc)

/-- ████ THE STATEMENT ████ -/
theorem proved : Rows.NandKeepsSaid := over
#print axioms proved
end Go.Proofs.Ytellfblfalpdiaa.nandKeeps
