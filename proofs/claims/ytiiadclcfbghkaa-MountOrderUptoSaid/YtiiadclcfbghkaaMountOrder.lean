/-
  package mount: the written pages, found in whatever order and with pages among them that are not whole, are replayed as they were written; for arguments of at most 1048576 values together.
-/
import Derived.Test.YtiiadclcfbghkaaRows
import Derived.Test.YtiiadclcfbghkaaOrder
import Derived.WalkKit
import Derived.ProofKit
import Derived.OpenShut
import Derived.ShutString
import Derived.ChangeOld
import Derived.Below
import Derived.SizedLaws
import Derived.RegionTactic
import Derived.Deep.RegionWith
import Derived.Deep.CutBlock
import Derived.ChangeAlike
import Derived.JoinedCond
import Derived.Deep.CondSized
namespace Go.Proofs.Ytiiadclcfbghkaa.mountOrder
open Go.ChangeShapes Go.WideShapes Go.ChangeAt Go.RowKit Words Go.Proofs.Ytiiadclcfbghkaa.Mnt
open Go.ChangeMaps (open_string shut_string)
set_option linter.unusedVariables false

theorem own : ownKnob Try.prog.godebug = none := by kernel_rfl
theorem laidOut : laidOutB Try.prog = true := by kernel_rfl

set_option maxRecDepth 100000 in
set_option maxHeartbeats 8000000 in
/-- The walk: the Go text returns true and writes nothing that was there. -/
theorem walk (a0 : Option Addr) (len0 cap0 : Nat) (z0 : List Nop) (a1 : Option Addr) (len1 cap1 : Nat) (z1 : List Int) (a2 : Option Addr) (len2 cap2 : Nat) (z2 : List Nop) (w : World) (w0 : PgsW w w.heap.size a0 len0 cap0 z0) (w1 : Ints w w.heap.size a1 len1 cap1 z1) (w2 : PgsW w w.heap.size a2 len2 cap2 z2) (r0 : cap0 ≤ 1048576) (r1 : cap1 ≤ 1048576) (r2 : cap2 ≤ 1048576) :
    Calls Try.prog 4 #[.slice a0 len0 cap0, .slice a1 len1 cap1, .slice a2 len2 cap2] w fun e w' => e = .returned (.bool true) ∧ Below w.heap.size w w' := by
  have hn : len0 ≤ 1048576 := by have := Words.Rd.le w0.rd; omega
  have hn2 : len2 ≤ 1048576 := by have := Words.Rd.le w2.rd; omega
  have hn1 : len1 ≤ 1048576 := by have := Words.Rd.le w1; omega
  have HL := w0.rd.len
  have HL1 := Lib.hid (Ints.len w1)
  have HL2 := Lib.hid w2.rd.len
  have HAL := Lib.hid (alive11 w)
  have HW := Lib.hid (fun x (b : Below w.heap.size w x) => written12 _ _ _ _ z0 x (Words.Rd.below w0.rd b (Nat.le_refl _)) b.size (by omega))
  have hwf : WfL (wrt z0) := wrt_wf (by omega)
  have P1 := Lib.hid w1
  have P2 := Lib.hid w2
  clear w0 w1 w2 r0 r1 r2
  go_enter Try.func4, Try.ntmps4
  go_wp2_with fail
  refine (HAL.out).mono ?_; rintro e x1 ⟨rfl, b1⟩
  have B1 := Lib.hid b1
  clear b1
  go_wp2_with fail
  refine (HW.out x1 B1.out).mono ?_; rintro e x2 hw
  rcases hw with ⟨_, rfl, b2⟩ | ⟨hok, A, c, rfl, o2, b2⟩
  · have B2 := Lib.hid (next_below B1.out b2 B1.out.size)
    clear b2
    go_wp2_with fail
    go_ret
    exact ⟨rfl, B2.out⟩
  · have B2 := Lib.hid (next_below B1.out b2 B1.out.size)
    rw [HL] at o2 ⊢
    have HP := Lib.hid o2.pgs
    clear b2 o2
    have HF := fun x (b : Below x2.heap.size x2 x) => fold7 zero16 rfl _ _ _ _ _ x (Words.Rd.below HP.out b (Nat.le_refl _)) b.size
    have HC := Lib.hid (fun x (b : Below x2.heap.size x2 x) => clone13 _ _ _ _ _ x (Words.Rd.below HP.out b (Nat.le_refl _)) b.size (by omega))
    unfold Folded at HF
    rw [(fo_all (s := zero16) hok).1, (fo_all (s := zero16) hok).2] at HF
    obtain ⟨st, hst⟩ : ∃ st, st = run zero16 (wrt z0) := ⟨_, rfl⟩
    have hsl : st.length = 16 := by rw [hst, run_length]; rfl
    have HMO := fun f hf => mo_all (s := zero16) (f := f) hok hf
    rw [← hst] at HF HMO
    rw [HL] at HMO
    have HMO := Lib.hid HMO
    have HF := Lib.hid HF
    have HWL : Hid ((wrt z0).length = len0) := Lib.hid (by rw [wrt_length, HL])
    have HWF := Lib.hid hwf
    have s1 := size22_of hsl
    have o1 := arr_all st
    have zs1 := z16_size hsl
    clear hst HL hok hwf
    unfold av at HF
    rw [zero_cells] at HF
    go_wp2_with fail
    refine (HF.out x2 (Below.refl _ _)).mono ?_; rintro e x3 ⟨rfl, b3⟩
    have C3 := Lib.hid (b3.alloc b3.size (.cells (icells st).toArray 22))
    have K9 := Lib.hid (WI.new x3 22 st)
    clear b3
    go_wp2_with (refine wpList_store_new rfl 22 (.tmp 9) (.tmp 33) rfl x3 (icells st).toArray rfl rfl 22 (icells zero16).toArray s1 zs1 o1 ?_)
    refine (HC.out _ C3.out).mono ?_; rintro e x4 ⟨A4, c4, rfl, o4, b4⟩
    obtain ⟨w3, hw3⟩ : ∃ w3, w3 = x3.alloc (.cells (icells st).toArray 22) := ⟨_, rfl⟩
    rw [← hw3] at C3 K9 o4 b4
    rw [HWL.out] at o4 ⊢
    have hx3 : x3.heap.size < w3.heap.size := by rw [hw3, World.size_alloc]; omega
    have I0 : Hid (OInv w3 w3.heap.size x4.heap.size A4 len0 c4 (wrt z0) none 0 0 [] x4) := Lib.hid ⟨b4, b4.size, Nat.le_refl _, fun g hA => by subst hA; exact (o4.lt g rfl).2, o4, by
      have := x4.ownsRow_nil x4.heap.size 36 4
      unfold OwnPg
      simpa [lcells] using this⟩
    have hcap4 := Words.Rd.le o4.pgs
    clear hw3 o4 b4 s1 o1 zs1 hcap4
    obtain ⟨i0, hi0, hz0, hz1, hz2⟩ := info_parts info36
    have hi0 := Lib.hid hi0; have hz0 := Lib.hid hz0; have hz1 := Lib.hid hz1; have hz2 := Lib.hid hz2
    go_wp2_with fail
    go_loopw [11, 12, 13] (fun a b k wr => ∃ (n1 : Nat) (lf : List Pg) (A2 : Option Addr) (c2 : Nat) (fd : List Pg) (j : Nat), a = .slice A4 n1 c4 ∧ b = .slice A2 j c2 ∧ k = .int .i64 j ∧ j + n1 = len0 ∧ OInv w3 w3.heap.size x4.heap.size A4 n1 c4 lf A2 j c2 fd wr ∧ ∀ x, (x ∈ fd ∨ x ∈ lf) ↔ x ∈ wrt z0) (fun a _ _ _ => slen a)
    case atStart => exact ⟨len0, wrt z0, none, 0, [], 0, rfl, rfl, rfl, by omega, I0.out, fun x => by simp⟩
    case round =>
      obtain ⟨n1, lf, A2, c2, fd, j, rfl, rfl, rfl, hjn, hinv, hmem⟩ := hrel
      have I := Lib.hid hinv
      have M := Lib.hid hmem
      clear hinv hmem I0
      rcases Nat.eq_zero_or_pos n1 with h0 | h0
      · subst h0
        have hlf : lf = [] := List.eq_nil_of_length_eq_zero I.out.left.len
        subst hlf
        have G0 : Hid (GInv w3 w3.heap.size z0 A2 j c2 fd wr) := Lib.hid ⟨I.out.bel, Nat.le_trans I.out.le I.out.le2, I.out.found.more I.out.le, shuffled_of M.out, fun p hp => HWF.out p ((M.out p).1 (.inl hp))⟩
        clear M
        go_wp2_with fail
        go_loopw [12, 73] (fun b i wx => ∃ (A : Option Addr) (n c : Nat) (f : List Pg) (k : Nat), b = .slice A n c ∧ i = .int .i64 k ∧ k ≤ len2 ∧ n = len0 + k ∧ GInv w3 w3.heap.size z0 A n c f wx) (fun _ i _ => (len2 - intOf i).toNat)
        case atStart => exact ⟨A2, j, c2, fd, 0, rfl, rfl, by omega, by omega, G0.out⟩
        case round =>
          obtain ⟨A, n, c, f, k, rfl, rfl, hk, hnk, hinv⟩ := hrel
          have G := Lib.hid hinv
          have HNK := Lib.hid hnk
          clear hinv G0 hnk
          have hbw : Below w.heap.size w wr := Below.trans (next_below B2.out C3.out B2.out.size) (G.out.bel.mono (Nat.le_trans B2.out.size C3.out.size))
          by_cases hlt : k < len2
          · obtain ⟨gl, ol, rfl, _, _⟩ := Words.Rd.row P2.out.rd (by omega)
            obtain ⟨⟨xq, xn, xd, xw⟩, hx⟩ : ∃ x, z2[k]? = some x := ⟨_, List.getElem?_eq_getElem (by rw [HL2.out]; exact hlt)⟩
            obtain ⟨c0, c1, c2, c3⟩ := Pgs.cells (Words.Rd.below P2.out.rd hbw (Nat.le_refl _)) rfl hx
            have HWX : Hid ((Lit.int .i64 xq).wf = true) := Lib.hid (P2.out.wf _ (List.mem_of_getElem? hx))
            clear hx hbw
            have GB := Lib.hid ((G.out.alloc (.cells (pcells ⟨xq, xn, xd, false⟩).toArray 36)).alloc (.cells (pcells ⟨xq, xn, xd, false⟩).toArray 36))
            have hbx := box_new (wr.alloc (.cells (pcells ⟨xq, xn, xd, false⟩).toArray 36)) ⟨xq, xn, xd, false⟩
            rw [World.size_alloc] at hbx
            have HI := Lib.hid (insert15 w3.heap.size (wr.heap.size + 1) A n c f ⟨xq, xn, xd, false⟩ _ GB.out.row (by have := HNK.out; omega) hbx (G.out.apart (by omega)) GB.out.le)
            clear hbx
            go_wp2_with fail
            refine (HI.out).mono ?_; rintro e w6 ⟨A6, c6, rfl, o6, b6⟩
            have G6 := Lib.hid (GInv.next GB.out rfl HWX.out o6 b6)
            clear o6 b6
            go_wp2_with fail
            go_roundw
            case rel => exact ⟨A6, n + 1, c6, _, k + 1, rfl, by go_num, by omega, by have := HNK.out; omega, G6.out⟩
            case measure => simp [intOf]; omega
          · obtain rfl : k = len2 := by omega
            obtain ⟨m1, m2, m3⟩ := HMO.out f G.out.sh
            have HM := mount9 zero16 rfl 0 _ A n c f wr G.out.row.pgs (Nat.le_refl _) G.out.wf (by have := HNK.out; omega)
            unfold Mounted at HM
            rw [m1, m2, m3] at HM
            have HM := Lib.hid HM
            have K9b := Lib.hid (whole_below K9.out G.out.bel hx3)
            have hz1 := size22_len hsl
            have s1 := size22_of hsl
            have o1 := arr_all st
            have zs1 := z16_size hsl
            have heq := fun x => eq16 hsl x
            have heq' := fun x => eq16' hsl x
            clear m1 m2 m3 hbw
            unfold av at HM
            rw [zero_cells] at HM
            go_wp2_with fail
            refine (HM.out).mono ?_; rintro e w6 ⟨rfl, b6⟩
            have l9 := (WI.alloc (wi_next (WI.of K9b.out) b6) (.cells (icells st).toArray 22)).range
            have l17 := (WI.new w6 22 st).range
            have BF : Hid (Below w.heap.size w (w6.alloc (.cells (icells st).toArray 22))) := Lib.hid (by
              have hbw : Below w.heap.size w wr := Below.trans (next_below B2.out C3.out B2.out.size) (G.out.bel.mono (Nat.le_trans B2.out.size C3.out.size))
              have h6 := next_below hbw b6 hbw.size
              exact h6.alloc h6.size _)
            clear b6
            go_wp2_with (first
              | (refine wpList_store_new rfl 22 (.tmp 17) (.tmp 87) rfl w6 (icells st).toArray rfl rfl 22 (icells zero16).toArray s1 zs1 o1 ?_)
              | (refine wpList_load_guard (by rfl) 22 (.tmp 17) rfl w6.heap.size 0 rfl (icells st) _ l17 Try.underlying22 rfl hz1 ?_)
              | (refine wpList_load_guard (by rfl) 22 (.tmp 9) rfl x3.heap.size 0 rfl (icells st) _ l9 Try.underlying22 rfl hz1 ?_))
            go_ret
            exact ⟨rfl, BF.out⟩
      · obtain ⟨g1, rfl, hg1a, hg1b⟩ := I.out.left.addr h0
        have hbw : Below w.heap.size w wr := Below.trans (next_below B2.out C3.out B2.out.size) (I.out.bel.mono (Nat.le_trans B2.out.size C3.out.size))
        have hlw : w3.heap.size ≤ wr.heap.size := Nat.le_trans I.out.le I.out.le2
        have hj63 : IntKind.i64.wrap ((j : Int) + 1) = (j : Int) + 1 := by rw [IntKind.wrap_i64]; omega
        -- the round from its place on
        obtain ⟨i, hi, hi2⟩ : ∃ i : Nat, i < n1 ∧ (if j < len1 then (wrap64 ((z1.getD j 0).tmod n1 + n1)).tmod n1 = (i : Int) else i = 0) := by
          by_cases hpk : j < len1
          · have hsp := spot_lt (z1.getD j 0) h0
            refine ⟨(spot (z1.getD j 0) n1).toNat, by omega, ?_⟩
            rw [if_pos hpk, wrap_spot _ h0 (by omega)]
            show spot _ _ = _
            omega
          · exact ⟨0, h0, by rw [if_neg hpk]⟩
        obtain ⟨m, hm⟩ : ∃ m, n1 = i + 1 + m := ⟨n1 - (i + 1), by omega⟩
        obtain ⟨pg, hpg⟩ : ∃ pg, lf[i]? = some pg := ⟨_, List.getElem?_eq_getElem (by rw [I.out.left.len]; exact hi)⟩
        have HPG := Lib.hid hpg
        obtain ⟨c0, c1, c2, c3⟩ := Pgs.cells I.out.left.pgs rfl hpg
        simp only [Nat.zero_add] at c0 c1 c2 c3
        have HNW := one_page wr pg
        have HNW := Lib.hid HNW
        have HO := Lib.hid (I.out.alloc (.cells (pcells pg).toArray 36))
        have hle2 : x4.heap.size ≤ (wr.alloc (.cells (pcells pg).toArray 36)).heap.size := HO.out.le2
        have HDL := Lib.hid (fun W (h : OwnPg W w3.heap.size (some ⟨g1, 0, none⟩) (i + 1 + m) c4 lf) => delete14 w3.heap.size g1 i m c4 lf W h)
        have HMM := Lib.hid hm
        have hn2m : (j + 1) * 32 ≤ 140737488355328 := by omega
        have hn2x : j + 1 ≤ maxLen := by unfold maxLen; omega
        clear hm hpg
        by_cases hpk : j < len1
        · rw [if_pos hpk] at hi2
          obtain ⟨gp, op, rfl, _, _⟩ := Words.Rd.row P1.out (by omega)
          obtain ⟨v, hv⟩ : ∃ v, z1[j]? = some v := ⟨_, List.getElem?_eq_getElem (by rw [HL1.out]; omega)⟩
          have cv := Ints.cellAt (Words.Rd.below P1.out hbw (Nat.le_refl _)) rfl hv
          rw [show z1.getD j 0 = v by simp [List.getD, hv]] at hi2
          clear hv hbw
          go_wp2_with (at_builtin; refine wpList_append_rd _ rfl (.tmp 59) (.tmp 64) 23 rfl x4.heap.size 36 i0 _ 4 32 Try.underlying23 hi0.out hz0.out hz1.out hz2.out rfl (by decide) _ j (lcells fd) rfl HO.out.found _ _ 1 1 (lcells [pg]) rfl HNW.out (lcells_one _) hn2x hn2m hle2 ?_
                       intro A5 c5 w5 hown5 hg5)
          have HA := Lib.hid (OInv.had HO.out hown5 hg5)
          have hmm := HMM.out
          subst hmm
          clear hown5 hg5
          refine (HDL.out w5 HA.out.left).mono ?_; rintro e w6 ⟨rfl, o6, g6⟩
          have I6 := Lib.hid (OInv.del HA.out o6 g6)
          clear o6 g6
          go_wp2_with fail
          go_roundw
          case rel => exact ⟨i + m, lf.eraseIdx i, A5, c5, fd ++ [pg], j + 1, by first | rfl | simp, rfl, by go_num, by omega, I6.out, mem_take HPG.out M.out⟩
          case measure => simp [slen]; try omega
        · rw [if_neg hpk] at hi2
          subst hi2
          clear hbw
          simp only [Nat.zero_mul, Nat.zero_add] at c0 c1 c2 c3
          go_wp2_with (at_builtin; refine wpList_append_rd _ rfl (.tmp 59) (.tmp 64) 23 rfl x4.heap.size 36 i0 _ 4 32 Try.underlying23 hi0.out hz0.out hz1.out hz2.out rfl (by decide) _ j (lcells fd) rfl HO.out.found _ _ 1 1 (lcells [pg]) rfl HNW.out (lcells_one _) hn2x hn2m hle2 ?_
                       intro A5 c5 w5 hown5 hg5)
          have HA := Lib.hid (OInv.had HO.out hown5 hg5)
          have hmm := HMM.out
          subst hmm
          clear hown5 hg5
          refine (HDL.out w5 HA.out.left).mono ?_; rintro e w6 ⟨rfl, o6, g6⟩
          have I6 := Lib.hid (OInv.del HA.out o6 g6)
          clear o6 g6
          go_wp2_with fail
          go_roundw
          case rel => exact ⟨0 + m, lf.eraseIdx 0, A5, c5, fd ++ [pg], j + 1, by first | rfl | simp, rfl, by go_num, by omega, I6.out, mem_take HPG.out M.out⟩
          case measure => simp [slen]; try omega

set_option maxRecDepth 100000 in
theorem contract (H : Type) (enc : TypeId × Value → H) (W : World) (base : Nat) (args : Array Value) (ds gs : List (DataW H)) (before : List MemPlace)
    (hval : ∀ (j : Nat) t v, Try.f4.params[j]? = some t → args[j]? = some v → Value.okWide Try.prog W .any base t v)
    (hW : DataW.Whole enc Try.prog Try.f4.params.toList Rows.mountOrderSpec.vars false W args.toList ds gs before) (hk : Rows.uptoSmall H (ds ++ gs) = true) :
    Calls Try.prog 4 args W fun e W' => ∃ v, e = .returned v ∧ Rows.mountOrderSpec.post enc Try.prog Try.f4 false true false false W args v W' := by
  have hW' := hW
  obtain ⟨p, q, hA0, hV, rfl, hfz, hnd⟩ := hW
  have hA : DataW.TrodAll enc Try.prog W 0 (fun _ => true) true Try.f4.params.toList args.toList ds p := hA0
  rw [Try.params4] at hA hval
  obtain ⟨v0, vs0, d0, ds0, p0, q0, hargs, rfl, rfl, h0, rr0⟩ := trodAll_cons hA
  obtain ⟨v1, vs1, d1, ds1, p1, q1, rfl, rfl, rfl, h1, rr1⟩ := trodAll_cons rr0
  obtain ⟨v2, vs2, d2, ds2, p2, q2, rfl, rfl, rfl, h2, rr2⟩ := trodAll_cons rr1
  obtain ⟨rfl, rfl, rfl⟩ := trodAll_nil rr2
  obtain rfl : args = #[v0, v1, v2] := by cases args; simp_all
  obtain ⟨rfl, rfl⟩ := trodVars_none hV
  obtain ⟨a0, len0, cap0, rfl⟩ := okWide_slice Try.underlying23 (hval 0 23 v0 rfl rfl)
  have k0 := h0
  have lt0 : ∀ x ∈ p0, x.block < W.heap.size := by obtain ⟨m, hm⟩ := k0; exact DataW.trod_lt m _ _ _ hm
  obtain ⟨⟨z0, w0⟩, u0⟩ := open_ops h0
  have r0 := bulk_cap hk (d := d0) (by simp) u0
  obtain ⟨a1, len1, cap1, rfl⟩ := okWide_slice Try.underlying30 (hval 1 30 v1 rfl rfl)
  have k1 := h1
  have lt1 : ∀ x ∈ p1, x.block < W.heap.size := by obtain ⟨m, hm⟩ := k1; exact DataW.trod_lt m _ _ _ hm
  obtain ⟨⟨z1, w1⟩, u1⟩ := open_ints h1
  have r1 := bulk_cap hk (d := d1) (by simp) u1
  obtain ⟨a2, len2, cap2, rfl⟩ := okWide_slice Try.underlying23 (hval 2 23 v2 rfl rfl)
  have k2 := h2
  have lt2 : ∀ x ∈ p2, x.block < W.heap.size := by obtain ⟨m, hm⟩ := k2; exact DataW.trod_lt m _ _ _ hm
  obtain ⟨⟨z2, w2⟩, u2⟩ := open_ops h2
  have r2 := bulk_cap hk (d := d2) (by simp) u2
  clear hA0
  refine (walk a0 len0 cap0 z0 a1 len1 cap1 z1 a2 len2 cap2 z2 W w0 w1 w2 r0 r1 r2).mono fun e W' ⟨he, bel⟩ => ?_
  subst he
  exact ⟨_, rfl, _, _, _, [], _, [], hW', trodAll_mk1 (shut_bool Try.underlying4 _), (trodAll_cons_mk (Below.trod laidOut (by kernel_rfl) (of_decide_eq_true (by kernel_rfl)) k0 bel lt0) (trodAll_cons_mk (Below.trod laidOut (by kernel_rfl) (of_decide_eq_true (by kernel_rfl)) k1 bel lt1) (trodAll_cons_mk (Below.trod laidOut (by kernel_rfl) (of_decide_eq_true (by kernel_rfl)) k2 bel lt2) trodAll_mk0))), rfl, bel.frame _, fun h => by cases h⟩

set_option maxRecDepth 100000 in
theorem lifted (os : Os) (started : os.Started) (H : Type) (enc : TypeId × Value → H) (F : Stop.Interp) :
    ReturnsInHanded {} Try.checked os 4 .any ((Rows.OpenSpec.upto Rows.mountOrderSpec).pre6 enc Try.prog Try.f4 Rows.mountOrderUptoRow.domain false) (((Rows.OpenSpec.upto Rows.mountOrderSpec).at F).post enc Try.prog Try.f4 false true false false) := by
  refine returnsInHanded_of_cond (C := Try.checked) (s := Rows.OpenSpec.upto Rows.mountOrderSpec) (k := Rows.uptoSmall) rfl own started (by kernel_rfl) Try.func4
    (OpenSpec.witness (enc := enc) (C := Try.checked) (s := Rows.OpenSpec.upto Rows.mountOrderSpec) (k := Rows.uptoSmall) rfl false ⟨#[], #[.slice none 0 0, .slice none 0 0, .slice none 0 0], []⟩ 8 (by kernel_rfl) (by kernel_rfl) (by kernel_rfl)
      (x := ([.nil, .nil, .nil], [], [])) (by kernel_rfl) rfl (by kernel_rfl)) ?_
  intro W base args ds gs before hval hW _ hk _
  exact contract H enc W base args ds gs before hval hW hk

theorem over : Rows.mountOrderUptoRow.holds Try.pinned (Rows.OpenSpec.upto Rows.mountOrderSpec) :=
  OpenClaim.holds_of_cond 4 Try.f4 rfl rfl rfl rfl rfl rfl rfl ⟨rfl, rfl, rfl, rfl, rfl⟩ rfl rfl rfl rfl rfl (by kernel_rfl) Try.func4 (by kernel_rfl)
    (of_decide_eq_true (by kernel_rfl)) (by unfold Func.isWrapper; first | (rw [if_pos (by decide +kernel)]; kernel_rfl) | (rw [if_neg (by decide +kernel)]; exact ⟨rfl, rfl⟩))
    (fun os started H enc _ F => lifted os started H enc F)

/-- ████ THE STATEMENT ████ -/
theorem proved : Rows.MountOrderUptoSaid := over
#print axioms proved
end Go.Proofs.Ytiiadclcfbghkaa.mountOrder
