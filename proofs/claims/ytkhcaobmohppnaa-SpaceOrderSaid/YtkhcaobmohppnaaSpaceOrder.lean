/-
  Given back in whatever order, it is all one gap.
-/
import Derived.Test.YtkhcaobmohppnaaRows
import Derived.Test.YtkhcaobmohppnaaSFrame
import Derived.Test.YtkhcaobmohppnaaSOrd
import Derived.Test.YtkhcaobmohppnaaDPlay
import Derived.WalkKit
import Derived.ProofKit
import Derived.OpenShut
import Derived.ShutString
import Derived.ChangeOld
import Derived.Below
import Derived.SizedLaws
import Derived.RegionTactic
import Derived.Deep.RegionWith
import Derived.Deep.CutBlock
import Derived.ChangeAlike
namespace Go.Proofs.Ytkhcaobmohppnaa.spaceOrder
open Go.ChangeShapes Go.WideShapes Go.ChangeAt Go.RowKit Words Go.Proofs.Ytkhcaobmohppnaa.Spc
open Go.ChangeMaps (open_string shut_string)
set_option linter.unusedVariables false

theorem own : ownKnob Try.prog.godebug = none := by kernel_rfl
theorem laidOut : laidOutB Try.prog = true := by kernel_rfl

set_option maxRecDepth 100000 in
set_option maxHeartbeats 8000000 in
/-- The walk: the Go text returns true and writes nothing that was there. -/
theorem walk (a0 : Int) (a1 : Option Addr) (len1 cap1 : Nat) (z1 : List Int) (w : World) (w0 : (Lit.int .i64 a0).wf = true) (w1 : Ints w w.heap.size a1 len1 cap1 z1)  :
    Calls Try.prog 8 #[.int .i64 a0, .slice a1 len1 cap1] w fun e w' => e = .returned (.bool true) ∧ Below w.heap.size w w' := by
  have CON := con
  have H := Lib.hid w1
  have HLp := Lib.hid w1.len
  have HN := w1.small
  have HA := Lib.hid (alive17 CON w)
  go_enter Try.func8, Try.ntmps8
  go_wp2_with fail
  refine (HA.out).mono ?_; rintro e x1 ⟨rfl, b1⟩
  have B1 := Lib.hid b1
  clear b1
  by_cases t1 : a0 < 1
  · go_wp2_with fail
    go_ret
    exact ⟨rfl, B1.out⟩
  by_cases t2 : 40 < a0
  · go_wp2_with fail
    go_ret
    exact ⟨rfl, B1.out⟩
  obtain ⟨s, rfl⟩ : ∃ s : Nat, a0 = s := ⟨a0.toNat, by omega⟩
  obtain ⟨i24, hi, hz0, hz1, hz2⟩ := info_parts info24
  have hi24 := Lib.hid hi
  have hz0 := Lib.hid hz0
  have hz1 := Lib.hid hz1
  have hz2 := Lib.hid hz2
  obtain ⟨i3, hj, hy0, hy1, hy2⟩ := info_parts info3
  have hi3 := Lib.hid hj
  have hy0 := Lib.hid hy0
  have hy1 := Lib.hid hy1
  have hy2 := Lib.hid hy2
  clear hi hj
  have Q0 : Hid (QI w none 0 0 (takes 0) none 0 0 (rng 0) x1) := Lib.hid ⟨B1.out, Go.World.ownsRow_nil x1 _ 24 3, Go.World.ownsRow_nil x1 _ 3 1⟩
  go_wp2_with fail
  go_loopw [5, 6, 22] (fun so sl i wr => ∃ (k : Nat) (A1 A2 : Option Addr) (c1 c2 : Nat), so = .slice A1 k c1 ∧ sl = .slice A2 k c2 ∧ i = .int .i64 k ∧ k ≤ s ∧ QI w A1 k c1 (takes k) A2 k c2 (rng k) wr) (fun _ _ i _ => (s - intOf i).toNat)
  case atStart => exact ⟨0, none, none, 0, 0, rfl, rfl, rfl, by omega, Q0.out⟩
  case round =>
    obtain ⟨k, A1, A2, c1, c2, rfl, rfl, rfl, hk, hq⟩ := hrel
    have QQ := Lib.hid hq
    clear hq
    by_cases hlt : k < s
    · have QA := Lib.hid (QQ.out.next (boxed wr (.cells (scells ⟨1, 0, 1⟩).toArray 24)))
      have NR := Lib.hid (one_op wr ⟨1, 0, 1⟩)
      have HZ : w.heap.size ≤ (wr.alloc (.cells (scells ⟨1, 0, 1⟩).toArray 24)).heap.size := QA.out.bel.size
      have m1 : k + 1 ≤ maxLen := by unfold maxLen; omega
      have m2 : (k + 1) * 24 ≤ 140737488355328 := by omega
      have m3 : (k + 1) * 8 ≤ 140737488355328 := by omega
      go_wp2_with (first | (at_builtin; refine wpList_append_rd _ rfl (.tmp 25) (.tmp 27) 38 rfl w.heap.size 24 i24 _ 3 24 Try.underlying38 hi24.out hz0.out hz1.out hz2.out rfl (by decide) _ k (pcells (takes k)) rfl QA.out.ops _ _ 1 1 (pcells [⟨1, 0, 1⟩]) rfl NR.out (pcells_one _) m1 m2 HZ ?_
                            intro A6 c6 w6 hown6 hg6
                            have q6 := QA.out.had1 hown6 hg6
                            rw [← takes_next] at q6
                            have Q7 := Lib.hid (q6.next (boxed w6 (.cells #[.int .i64 k] 3)))
                            have NI := Lib.hid (one_int w6 k)
                            have HZ2 : w.heap.size ≤ (w6.alloc (.cells #[.int .i64 k] 3)).heap.size := Q7.out.bel.size
                            clear hown6 hg6 q6) |
                           (at_builtin; refine wpList_append_rd _ rfl (.tmp 29) (.tmp 31) 50 rfl w.heap.size 3 i3 _ 1 8 Try.underlying50 hi3.out hy0.out hy1.out hy2.out rfl (by decide) _ k (icells (rng k)) rfl Q7.out.left _ _ 1 1 (icells [(k : Int)]) rfl NI.out (Words.icells_one _) m1 m3 HZ2 ?_
                            intro A8 c8 w8 hown8 hg8))
      have q8 := Q7.out.had2 hown8 hg8
      rw [← rng_next] at q8
      have Q8 := Lib.hid q8
      clear hown8 hg8 q8
      go_wp2_with fail
      go_roundw
      case rel => exact ⟨k + 1, A6, A8, c6, c8, rfl, rfl, by go_num, by omega, Q8.out⟩
      case measure => simp [intOf]; omega
    · obtain rfl : s = k := by omega
      have O0 := Lib.hid (oi_start (s := s) (by omega) (by omega))
      generalize wr = wq at *
      clear hlt
      go_wp2_with fail
      go_loopw [5, 6, 8] (fun so sl i wr => ∃ (k n1 n2 : Nat) (A1 A2 : Option Addr) (c1 c2 : Nat) (ops : List Sp) (left : List Int), so = .slice A1 n1 c1 ∧ sl = .slice A2 n2 c2 ∧ i = .int .i64 k ∧ k + n2 = s ∧ n1 + n2 = 2 * s ∧ OI s ops left ∧ QI w A1 n1 c1 ops A2 n2 c2 left wr) (fun _ sl _ _ => slen sl)
      case atStart => exact ⟨0, s, s, A1, A2, c1, c2, _, _, rfl, rfl, rfl, by omega, by omega, O0.out, QQ.out⟩
      case round =>
        obtain ⟨k, n1, n2, A1, A2, c1, c2, ops, left, rfl, rfl, rfl, hkn, hnn, hoi, hq⟩ := hrel
        have OO := Lib.hid hoi
        have QR := Lib.hid hq
        clear hoi hq
        rcases Nat.eq_zero_or_pos n2 with h0 | h0
        · subst h0
          have hl0 : left = [] := List.eq_nil_of_length_eq_zero QR.out.left.len
          obtain ⟨q1, q2, q3⟩ := OI.done (s := s) (ops := ops) (by omega) (by rw [← hl0]; exact OO.out)
          have hzz : szOk s = true := by unfold szOk; simp; omega
          have z1 : pans s ops = (played s ops).2 := by unfold pans; rw [if_pos hzz]
          have z2 : pgaps s ops = (played s ops).1 := by unfold pgaps; rw [if_pos hzz]
          have z3 : perr s = 0 := by unfold perr; rw [if_pos hzz]
          have HP := CON.play wr.heap.size A1 n1 c1 ops s wr QR.out.ops.ops (Nat.le_refl _) (by omega)
          rw [z1, z2, z3, q1, q2] at HP
          have HAN := Lib.hid q3
          generalize (played s ops).2 = xs at *
          have HP := Lib.hid HP
          have hw2 : IntKind.i64.wrap (2 * (s : Int)) = ((2 * s : Nat) : Int) := by rw [IntKind.wrap_i64]; omega
          have BR := Lib.hid QR.out.bel
          clear hl0 q1 q2 q3 hzz z1 z2 z3
          go_wp2_with fail
          refine (HP.out).mono ?_; rintro e x2 ⟨A3, c3, A4, c4, rfl, o3, o4, b2⟩
          have B2 := Lib.hid (BR.out.trans (b2.mono BR.out.size))
          have O3 := Lib.hid o3
          have O4 := Lib.hid o4
          have HC := contains23_order (fun a => a.e != 0) x2.heap.size A3 (2 * s) c3 xs x2 o3.ans (Nat.le_refl _) fun a wr' _ _ => order24 a wr'
          rw [HAN.out] at HC
          have HC := Lib.hid HC
          clear o3 o4 b2
          go_wp2_with fail
          refine (HC.out).mono ?_; rintro e x3 ⟨rfl, b3⟩
          have B3 := Lib.hid (B2.out.trans (b3.mono B2.out.size))
          have bn := boxed x3 (.cells (gcells ⟨0, s⟩).toArray 36)
          have B4 := Lib.hid (B3.out.trans (bn.mono B3.out.size))
          have E1 := Lib.hid (equal13_yes _ _ A4 (some ⟨x3.heap.size, 0, none⟩) 1 1 c4 1 [⟨0, s⟩] [⟨0, s⟩] _ ((O4.out.below b3 (Nat.le_refl _)).below bn (Nat.le_refl _)).gps (one_gap x3 ⟨0, s⟩) rfl)
          clear b3 bn
          go_wp2_with fail
          refine (E1.out).mono ?_; rintro e x5 ⟨rfl, L5⟩
          have B5 := Lib.hid (B4.out.trans (L5.below.mono B4.out.size))
          clear L5
          go_wp2_with fail
          go_ret
          exact ⟨rfl, B5.out⟩
        · obtain ⟨g2, rfl, hg2a, hg2b⟩ := QR.out.left.addr h0
          obtain ⟨i, hi, hi2⟩ : ∃ i : Nat, i < n2 ∧ (if k < len1 then (wrap64 ((z1.getD k 0).tmod n2 + n2)).tmod n2 = (i : Int) else i = 0) := by
            by_cases hpk : k < len1
            · have hsp := spot_lt (z1.getD k 0) h0
              refine ⟨(spot (z1.getD k 0) n2).toNat, by omega, ?_⟩
              rw [if_pos hpk, wrap_spot _ h0 (by omega)]
              show spot _ _ = _
              omega
            · exact ⟨0, h0, by rw [if_neg hpk]⟩
          obtain ⟨m, hm⟩ : ∃ m, n2 = i + 1 + m := ⟨n2 - (i + 1), by omega⟩
          obtain ⟨x, hx⟩ : ∃ x, left[i]? = some x := ⟨_, List.getElem?_eq_getElem (by rw [QR.out.left.len]; exact hi)⟩
          have c0 := QR.out.left.at_ hx
          have ON := Lib.hid (OO.out.next hx)
          have QA := Lib.hid (QR.out.next (boxed wr (.cells (scells ⟨3, x, 1⟩).toArray 24)))
          have NR := Lib.hid (one_op wr ⟨3, x, 1⟩)
          have HZ : w.heap.size ≤ (wr.alloc (.cells (scells ⟨3, x, 1⟩).toArray 24)).heap.size := QA.out.bel.size
          have m1 : n1 + 1 ≤ maxLen := by unfold maxLen; omega
          have m2 : (n1 + 1) * 24 ≤ 140737488355328 := by omega
          have HDL := Lib.hid (fun W (h : OwnIn W w.heap.size (some ⟨g2, 0, none⟩) (i + 1 + m) c2 left) => delete22 w.heap.size g2 i m c2 left W h)
          have HMM := Lib.hid hm
          have hbw := QR.out.bel
          clear hm hx
          by_cases hpk : k < len1
          · rw [if_pos hpk] at hi2
            obtain ⟨gp, op, rfl, _, _⟩ := Words.Rd.row H.out (by omega)
            obtain ⟨v, hv⟩ : ∃ v, z1[k]? = some v := ⟨_, List.getElem?_eq_getElem (by rw [HLp.out]; omega)⟩
            have cv := Ints.cellAt (Words.Rd.below H.out hbw (Nat.le_refl _)) rfl hv
            rw [show z1.getD k 0 = v by simp [List.getD, hv]] at hi2
            clear hv hbw
            go_wp2_with (at_builtin; refine wpList_append_rd _ rfl (.tmp 56) (.tmp 62) 38 rfl w.heap.size 24 i24 _ 3 24 Try.underlying38 hi24.out hz0.out hz1.out hz2.out rfl (by decide) _ n1 (pcells ops) rfl QA.out.ops _ _ 1 1 (pcells [⟨3, x, 1⟩]) rfl NR.out (pcells_one _) m1 m2 HZ ?_
                         intro A5 c5 w5 hown5 hg5)
            have QB := Lib.hid (QA.out.had1 hown5 hg5)
            have hmm := HMM.out
            subst hmm
            clear hown5 hg5
            refine (HDL.out w5 QB.out.left).mono ?_; rintro e w6 ⟨rfl, o6, g6⟩
            have Q6 := Lib.hid (QB.out.del o6 g6)
            clear o6 g6
            go_wp2_with fail
            go_roundw
            case rel => exact ⟨k + 1, n1 + 1, i + m, A5, _, c5, c2, _, _, by first | rfl | simp, rfl, by go_num, by omega, by omega, ON.out, Q6.out⟩
            case measure => simp [slen]; try omega
          · rw [if_neg hpk] at hi2
            subst hi2
            clear hbw
            go_wp2_with (at_builtin; refine wpList_append_rd _ rfl (.tmp 56) (.tmp 62) 38 rfl w.heap.size 24 i24 _ 3 24 Try.underlying38 hi24.out hz0.out hz1.out hz2.out rfl (by decide) _ n1 (pcells ops) rfl QA.out.ops _ _ 1 1 (pcells [⟨3, x, 1⟩]) rfl NR.out (pcells_one _) m1 m2 HZ ?_
                         intro A5 c5 w5 hown5 hg5)
            have QB := Lib.hid (QA.out.had1 hown5 hg5)
            have hmm := HMM.out
            subst hmm
            clear hown5 hg5
            refine (HDL.out w5 QB.out.left).mono ?_; rintro e w6 ⟨rfl, o6, g6⟩
            have Q6 := Lib.hid (QB.out.del o6 g6)
            clear o6 g6
            go_wp2_with fail
            go_roundw
            case rel => exact ⟨k + 1, n1 + 1, m, A5, _, c5, c2, _, _, by first | rfl | simp, rfl, by go_num, by omega, by omega, ON.out, by simpa using Q6.out⟩
            case measure => simp [slen]; try omega

set_option maxRecDepth 100000 in
theorem contract (H : Type) (enc : TypeId × Value → H) (W : World) (base : Nat) (args : Array Value) (ds gs : List (DataW H)) (before : List MemPlace)
    (hval : ∀ (j : Nat) t v, Try.f8.params[j]? = some t → args[j]? = some v → Value.okWide Try.prog W .any base t v)
    (hW : DataW.Whole enc Try.prog Try.f8.params.toList Rows.spaceOrderSpec.vars false W args.toList ds gs before) :
    Calls Try.prog 8 args W fun e W' => ∃ v, e = .returned v ∧ Rows.spaceOrderSpec.post enc Try.prog Try.f8 false true false false W args v W' := by
  have hW' := hW
  obtain ⟨p, q, hA0, hV, rfl, hfz, hnd⟩ := hW
  have hA : DataW.TrodAll enc Try.prog W 0 (fun _ => true) true Try.f8.params.toList args.toList ds p := hA0
  rw [Try.params8] at hA hval
  obtain ⟨v0, vs0, d0, ds0, p0, q0, hargs, rfl, rfl, h0, rr0⟩ := trodAll_cons hA
  obtain ⟨v1, vs1, d1, ds1, p1, q1, rfl, rfl, rfl, h1, rr1⟩ := trodAll_cons rr0
  obtain ⟨rfl, rfl, rfl⟩ := trodAll_nil rr1
  obtain rfl : args = #[v0, v1] := by cases args; simp_all
  obtain ⟨rfl, rfl⟩ := trodVars_none hV
  obtain ⟨a0, rfl, rfl, rfl, w0⟩ := open_int Try.underlying3 (hval 0 3 v0 rfl rfl) h0
  obtain ⟨a1, len1, cap1, rfl⟩ := okWide_slice Try.underlying50 (hval 1 50 v1 rfl rfl)
  have k1 := h1
  have lt1 : ∀ x ∈ p1, x.block < W.heap.size := by obtain ⟨m, hm⟩ := k1; exact DataW.trod_lt m _ _ _ hm
  obtain ⟨⟨z1, w1⟩, u1⟩ := open_ints h1
  clear hA0
  refine (walk a0 a1 len1 cap1 z1 W w0 w1).mono fun e W' ⟨he, bel⟩ => ?_
  subst he
  exact ⟨_, rfl, _, _, _, [], _, [], hW', trodAll_mk1 (shut_bool Try.underlying4 _), (trodAll_cons_mk (shut_int Try.underlying3 w0) (trodAll_cons_mk (Below.trod laidOut (by kernel_rfl) (of_decide_eq_true (by kernel_rfl)) k1 bel lt1) trodAll_mk0)), rfl, bel.frame _, fun h => by cases h⟩

set_option maxRecDepth 100000 in
theorem lifted (os : Os) (started : os.Started) (H : Type) (enc : TypeId × Value → H) :
    ReturnsInHanded {} Try.checked os 8 .any (Rows.spaceOrderSpec.pre6 enc Try.prog Try.f8 Rows.spaceOrderRow.domain false) (Rows.spaceOrderSpec.post enc Try.prog Try.f8 false true false false) := by
  refine returnsInHanded_of_change (C := Try.checked) own started (by kernel_rfl) Try.func8
    (ChangeSpec.witness6 (enc := enc) (C := Try.checked) false ⟨#[], #[.int .i64 0, .slice none 0 0], []⟩ 8 (by kernel_rfl) (by kernel_rfl) (by kernel_rfl) (by kernel_rfl)) ?_
  intro W base args ds gs before hval hW _ _
  exact contract H enc W base args ds gs before hval hW

theorem over : Rows.spaceOrderRow.holds Try.pinned (OpenSpec.ofChange Rows.spaceOrderSpec) :=
  OpenClaim.holds_of_wide 8 Try.f8 rfl rfl rfl rfl rfl rfl rfl ⟨rfl, rfl, rfl, rfl, rfl⟩ rfl rfl rfl rfl rfl (by kernel_rfl) Try.func8 (by kernel_rfl)
    (of_decide_eq_true (by kernel_rfl)) (by unfold Func.isWrapper; first | (rw [if_pos (by decide +kernel)]; kernel_rfl) | (rw [if_neg (by decide +kernel)]; exact ⟨rfl, rfl⟩))
    (fun os started H enc _ => lifted os started H enc)

/-- ████ THE STATEMENT ████ -/
theorem proved : Rows.SpaceOrderSaid := over
#print axioms proved
end Go.Proofs.Ytkhcaobmohppnaa.spaceOrder
