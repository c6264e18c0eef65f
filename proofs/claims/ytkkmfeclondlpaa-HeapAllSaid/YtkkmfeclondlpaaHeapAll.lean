/-
  HeapAll holds for every input: what was pushed, or made a heap of, is there, and all that is popped comes sorted, for every two lists.
-/
import Derived.Test.YtkkmfeclondlpaaRows
import Derived.Test.YtkkmfeclondlpaaAll
import Derived.WalkKit
import Derived.ProofKit
import Derived.OpenShut
import Derived.ShutString
import Derived.ChangeOld
import Derived.Below
import Derived.SizedLaws
import Derived.RegionTactic
import Derived.Deep.RegionWith
import Derived.Deep.CutBlock
import Derived.ChangeAlike
namespace Go.Proofs.Ytkkmfeclondlpaa.heapAll
open Go.ChangeShapes Go.WideShapes Go.ChangeAt Go.RowKit Words Go.Proofs.Ytkkmfeclondlpaa.Heap
open Go.ChangeMaps (open_string shut_string)
set_option linter.unusedVariables false

theorem own : ownKnob Try.prog.godebug = none := by kernel_rfl
theorem laidOut : laidOutB Try.prog = true := by kernel_rfl

set_option maxRecDepth 20000 in
set_option maxHeartbeats 4000000 in
/-- The walk: the Go text returns true and writes nothing that was there. -/
theorem walk (a0 : Option Addr) (len0 cap0 : Nat) (z0 : List Wn) (a1 : Option Addr) (len1 cap1 : Nat) (z1 : List Wn) (w : World) (w0 : Hp w w.heap.size a0 len0 cap0 z0) (w1 : Hp w w.heap.size a1 len1 cap1 z1) (r0 : cap0 * 16 ≤ 140737488351232) (r1 : cap1 * 16 ≤ 140737488351232) :
    Calls Try.prog 6 #[.slice a0 len0 cap0, .slice a1 len1 cap1] w fun e w' => e = .returned (.bool true) ∧ Below w.heap.size w w' := by
  have hs0 := small_of w0 r0
  have hs1 := small_of w1 r1
  have hl0 := Lib.hid w0.len
  have hl1 := Lib.hid w1.len
  have m0 : len0 * 16 ≤ 140737488351232 := hs0
  have m1 : len1 * 16 ≤ 140737488351232 := hs1
  have R0 := Lib.hid (fun (wa : World) (b : Below w.heap.size w wa) => (Words.Rd.below w0 b (Nat.le_refl _) : Hp wa w.heap.size a0 len0 cap0 z0))
  have R1 := Lib.hid (fun (wa : World) (b : Below w.heap.size w wa) => (Words.Rd.below w1 b (Nat.le_refl _) : Hp wa w.heap.size a1 len1 cap1 z1))
  have HA := Lib.hid (alive20 w)
  clear w0 w1 r0 r1 hs0 hs1
  by_cases hbig : 300 < len0 + len1
  · have hbi : (300 : Int) < (len0 : Int) + (len1 : Int) := by omega
    go_enter Try.func6, Try.ntmps6
    go_wp2_with fail
    refine (HA.out).mono ?_; rintro e x1 ⟨rfl, b1⟩
    have B1 := Lib.hid b1
    clear b1
    go_wp2_with fail
    go_ret
    exact ⟨rfl, B1.out⟩
  · obtain ⟨i0, hi0, hz0, hz1, hz2⟩ := info_parts info24
    have hbi : ¬ (300 : Int) < (len0 : Int) + (len1 : Int) := by omega
    have hn3 : len0 + len1 ≤ 300 := by omega
    have HM := Lib.hid (fun (wa : World) (b : Below w.heap.size w wa) => make16 _ a0 len0 cap0 z0 wa (R0.out wa b) b.size (by omega))
    have HS := Lib.hid (fun (wa : World) (b : Below w.heap.size w wa) => fsorted19 _ a0 len0 cap0 z0 wa (R0.out wa b) b.size (by omega))
    clear hbig
    go_enter Try.func6, Try.ntmps6
    go_wp2_with fail
    refine (HA.out).mono ?_; rintro e x1 ⟨rfl, b1⟩
    have B1 := Lib.hid b1
    clear b1
    go_wp2_with fail
    refine (HM.out _ B1.out).mono ?_; rintro e x2 ⟨A2, c2, rfl, o2, b2⟩
    have B2 := Lib.hid (B1.out.trans (b2.mono B1.out.size))
    have O2 : Hid (OwnHp x2 w.heap.size A2 len0 c2 (made z0)) := Lib.hid (own_base o2 B1.out.size)
    have hr := right13 _ A2 len0 c2 (made z0) x2 o2.hp (Nat.le_refl _) (by unfold Small; omega)
    rw [right_iff.2 (made_heap z0)] at hr
    have HR := Lib.hid hr
    clear o2 b2 hr
    go_wp2_with fail
    refine (HR.out).mono ?_; rintro e x3 ⟨rfl, b3⟩
    have B3 := Lib.hid (B2.out.trans (b3.mono B2.out.size))
    have O3 := Lib.hid (O2.out.below b3 (Nat.le_refl _))
    have hs := fsorted19 _ A2 len0 c2 (made z0) x3 O3.out.hp (Nat.le_refl _) (by omega)
    rw [sorted_of_perm (made_perm z0)] at hs
    have HS2 := Lib.hid hs
    clear b3 hs
    go_wp2_with fail
    refine (HS2.out).mono ?_; rintro e x4 ⟨A4, c4, rfl, o4, b4⟩
    have B4 := Lib.hid (B3.out.trans (b4.mono B3.out.size))
    have O34 := Lib.hid (O3.out.below b4 (Nat.le_refl _))
    have O4 := Lib.hid o4
    clear o4 b4
    go_wp2_with fail
    refine (HS.out _ B4.out).mono ?_; rintro e x5 ⟨A5, c5, rfl, o5, b5⟩
    have B5 := Lib.hid (B4.out.trans (b5.mono B4.out.size))
    have O35 := Lib.hid (O34.out.below b5 (Nat.le_refl _))
    have HQ := Lib.hid (equal15_yes _ _ A4 A5 len0 len0 c4 c5 (sorted z0) (sorted z0) x5 (O4.out.below b5 (Nat.le_refl _)).hp o5.hp rfl)
    clear o5 b5
    go_wp2_with fail
    refine (HQ.out).mono ?_; rintro e x6 ⟨rfl, hx6⟩
    have B6 := Lib.hid (B5.out.trans (hx6.below.mono B5.out.size))
    have O36 := Lib.hid (O35.out.below hx6.below (Nat.le_refl _))
    clear hx6
    go_wp2_with fail
    go_loopw [5, 37] (fun h i wr => ∃ (k : Nat) (A : Option Addr) (m c : Nat), i = .int .i64 k ∧ k ≤ len1 ∧ h = .slice A m c ∧ OwnHp wr w.heap.size A m c (pushAll (made z0) (z1.take k)) ∧ Below w.heap.size w wr) (fun _ i _ => (len1 - intOf i).toNat)
    case atStart => exact ⟨0, A2, len0, c2, rfl, by omega, rfl, O36.out, B6.out⟩
    case round =>
      obtain ⟨k, A, m, c, rfl, hk, rfl, ho, hb⟩ := hrel
      have HO := Lib.hid ho
      have HB := Lib.hid hb
      clear ho hb
      by_cases hlt : k < len1
      · obtain ⟨hpe, hpv⟩ := push_next (l := z0) (more := z1) (k := k) (by rw [hl1.out]; exact hlt) (by rw [hl0.out, hl1.out]; exact hn3)
        have hr1 := R1.out wr HB.out
        obtain ⟨g, o, rfl, _, _⟩ := Words.Rd.row hr1 (by omega)
        obtain ⟨d0, d1⟩ := Hp.cells hr1 rfl (nth_get (l := z1) (k := k) (by rw [hl1.out]; exact hlt))
        have hml : m = len0 + k := by rw [← HO.out.len, pushAll_length, made_length, List.length_take, hl0.out, hl1.out]; omega
        have hp := fun (wa : World) (b : Below wr.heap.size wr wa) => push9 _ A m c _ (nth z1 k) wa (HO.out.below b (Nat.le_refl _)).hp (Nat.le_refl _) (by unfold Small; omega)
        rw [hpe, hpv] at hp
        have HPE := Lib.hid (fun (wa : World) (b : Below w.heap.size w wa) => R1.out wa b)
        generalize nth z1 k = y at *
        have hbx : Below wr.heap.size wr (wr.alloc (.cells #[.int .i64 y.id, .int .i64 y.wear] 24)) := (Below.refl _ _).alloc (Nat.le_refl _) _
        have HP := Lib.hid (hp _ hbx)
        have BX := Lib.hid (HB.out.trans (hbx.mono HB.out.size))
        clear hpe hpv hp hr1 hbx hml
        unfold wval at HP
        go_wp2_with fail
        refine (HP.out).mono ?_; rintro e x8 ⟨A8, c8, m8, rfl, o8, b8⟩
        have B8 := Lib.hid (BX.out.trans (b8.mono BX.out.size))
        have O8 : Hid (OwnHp x8 w.heap.size A8 m8 c8 _) := Lib.hid (own_base o8 BX.out.size)
        clear o8 b8 d0 d1
        go_wp2_with fail
        go_roundw
        case rel => exact ⟨k + 1, A8, m8, c8, by go_num, by omega, rfl, O8.out, B8.out⟩
        case measure => simp [intOf]; omega
      · obtain rfl : k = len1 := by omega
        have ho := HO.out
        rw [List.take_of_length_le (by rw [hl1.out]; omega)] at ho
        have hheap := pushAll_heap z1 _ (made_heap z0)
        have hlen : (pushAll (made z0) z1).length = len0 + k := by rw [pushAll_length, made_length, hl0.out, hl1.out]
        have hall : taken (pushAll (made z0) z1) (len0 + k) = sorted (z0 ++ z1) := by rw [← all_taken, hl0.out, hl1.out]
        generalize pushAll (made z0) z1 = H at *
        have HO := Lib.hid ho
        have HH := Lib.hid hheap
        have HL := Lib.hid hlen
        have HALL := Lib.hid hall
        have HM0 : Hid (m = len0 + k) := Lib.hid (by rw [← ho.len]; exact hlen)
        clear ho hheap hlen hall
        go_wp2_with fail
        go_loopw [5, 10, 56] (fun h o i wr => ∃ (j : Nat) (A : Option Addr) (m c : Nat) (A' : Option Addr) (c' : Nat), i = .int .i64 j ∧ j ≤ len0 + k ∧ h = .slice A m c ∧ o = .slice A' j c' ∧ OwnHp wr w.heap.size A m c (pops H j) ∧ OwnHp wr w.heap.size A' j c' (taken H j) ∧ Below w.heap.size w wr) (fun _ _ i _ => ((len0 + k : Nat) - intOf i).toNat)
        case atStart => exact ⟨0, A, m, c, none, 0, rfl, by omega, rfl, rfl, HO.out, World.ownsRow_nil _ _ _ _, HB.out⟩
        case round =>
          obtain ⟨j, A5, m5, c5, A6, c6, rfl, hj, rfl, rfl, ho5, ho6, hb⟩ := hrel
          have O5 := Lib.hid ho5
          have O6 := Lib.hid ho6
          have HB := Lib.hid hb
          clear ho5 ho6 hb
          by_cases hlt : j < len0 + k
          · have hji : (j : Int) < (len0 : Int) + (k : Int) := by omega
            obtain ⟨he, htl, htk⟩ := pop_next HH.out (j := j) (by rw [HL.out]; exact hlt)
            have hm5 : m5 = len0 + k - j := by rw [← O5.out.len, pops_length, HL.out]
            have hp := pop11 _ A5 m5 c5 _ wr O5.out.hp (Nat.le_refl _) (by unfold Small; omega)
            rw [he, htl] at hp
            generalize tval (pops H j) = y at *
            have HP := Lib.hid hp
            have HTK := Lib.hid htk
            clear he htl htk hp hm5
            go_wp2_with fail
            refine (HP.out).mono ?_; rintro e x8 ⟨A8, c8, m8, rfl, o8, b8⟩
            have bx : Below x8.heap.size x8 ((x8.alloc (.cells #[.int .i64 y.id, .int .i64 y.wear] 24)).alloc (.cells #[.int .i64 y.id, .int .i64 y.wear] 24)) := two_blocks x8 _ _
            have O8 := Lib.hid (OwnHp.below o8 bx (Nat.le_refl _))
            have O68 := Lib.hid ((O6.out.below b8 (Nat.le_refl _)).below bx (Nat.le_refl _))
            have K68 := Lib.hid (own_block O6.out)
            have B8 := Lib.hid (HB.out.trans ((b8.trans (bx.mono b8.size)).mono HB.out.size))
            have rx := lit_one (x8.alloc (.cells #[.int .i64 y.id, .int .i64 y.wear] 24)) y
            rw [World.size_alloc] at rx
            unfold Hp wb at rx
            have RX := Lib.hid rx
            have SX : w.heap.size ≤ ((x8.alloc (.cells #[.int .i64 y.id, .int .i64 y.wear] 24)).alloc (.cells #[.int .i64 y.id, .int .i64 y.wear] 24)).heap.size := B8.out.size
            clear o8 b8 bx rx
            unfold wval
            go_wp2_with (first
              | (at_builtin; refine wpList_append_rd _ rfl (.tmp 67) (.tmp 69) 22 rfl w.heap.size 24 i0 _ 2 16 Try.underlying22 hi0 hz0 hz1 hz2 rfl (by decide) _ j (hcells (taken H j)) rfl O68.out _ _ 1 1 (hcells [y]) rfl RX.out (hcells_one _) (by simp only [maxLen]; omega) (by omega) SX ?_
                 intro A9 c9 x9 hown9 hg9
                 have B9 := Lib.hid (Words.below_grown B8.out O68.out hg9 SX (Nat.le_refl _))
                 have O9 : Hid (OwnHp x9 w.heap.size A9 (j + 1) c9 (taken H (j + 1))) := Lib.hid (by unfold OwnHp; rw [← HTK.out, hcells_append]; exact hown9)
                 have O89 : Hid (OwnHp x9 w.heap.size A8 m8 c8 (pops H (j + 1))) := Lib.hid (own_base (own_grown O8.out hg9 (fun q hq => K68.out q hq)) HB.out.size)
                 clear hown9 hg9))
            go_roundw
            case rel => exact ⟨j + 1, A8, m8, c8, A9, c9, by go_num, by omega, rfl, rfl, O89.out, O9.out, B9.out⟩
            case measure => simp [intOf]; omega
          · obtain rfl : j = len0 + k := by omega
            have hm5 : m5 = 0 := by rw [← O5.out.len, pops_length, HL.out]; omega
            subst hm5
            have hji : ¬ ((len0 + k : Nat) : Int) < (len0 : Int) + (k : Int) := by omega
            have ho6 := O6.out
            rw [HALL.out] at ho6
            have bx : Below wr.heap.size wr (wr.alloc (.cells #[.slice a0 len0 cap0, .slice a1 k cap1] 22)) := (Below.refl _ _).alloc (Nat.le_refl _) _
            have BX := Lib.hid (HB.out.trans (bx.mono HB.out.size))
            have O6X := Lib.hid (ho6.below bx (Nat.le_refl _))
            have HC := Lib.hid (concat25 w.heap.size a0 a1 len0 cap0 k cap1 z0 z1 wr.heap.size (wr.alloc (.cells #[.slice a0 len0 cap0, .slice a1 k cap1] 22)) (R0.out _ BX.out) (R1.out _ BX.out) BX.out.size (by simp)
              (cell_of_row _ _ 0 _ 22 (0, 0) (heap_alloc_new wr _)) (cell_of_row _ _ 1 _ 22 (0, 0) (heap_alloc_new wr _)) (by omega) (by omega))
            clear ho6 bx
            go_wp2_with fail
            refine (HC.out).mono ?_; rintro e y1 ⟨A10, c10, rfl, o10, b10⟩
            have B10 := Lib.hid (BX.out.trans (b10.mono BX.out.size))
            have O610 := Lib.hid (O6X.out.below b10 (Nat.le_refl _))
            have HS9 := Lib.hid (fsorted19 _ A10 (len0 + k) c10 (z0 ++ z1) y1 o10.hp (Nat.le_refl _) (by omega))
            clear o10 b10
            go_wp2_with fail
            refine (HS9.out).mono ?_; rintro e y2 ⟨A11, c11, rfl, o11, b11⟩
            have B11 := Lib.hid (B10.out.trans (b11.mono B10.out.size))
            have HQ9 := Lib.hid (equal15_yes _ _ A6 A11 (len0 + k) (len0 + k) c6 c11 _ _ y2 (O610.out.below b11 (Nat.le_refl _)).hp o11.hp rfl)
            clear o11 b11
            go_wp2_with fail
            refine (HQ9.out).mono ?_; rintro e y3 ⟨rfl, hy3⟩
            have B12 := Lib.hid (B11.out.trans (hy3.below.mono B11.out.size))
            clear hy3
            go_wp2_with fail
            go_ret
            exact ⟨rfl, B12.out⟩

set_option maxRecDepth 100000 in
theorem contract (H : Type) (enc : TypeId × Value → H) (W : World) (base : Nat) (args : Array Value) (ds gs : List (DataW H)) (before : List MemPlace)
    (hval : ∀ (j : Nat) t v, Try.f6.params[j]? = some t → args[j]? = some v → Value.okWide Try.prog W .any base t v)
    (hW : DataW.Whole enc Try.prog Try.f6.params.toList Rows.heapAllSpec.vars false W args.toList ds gs before) (hsz : (DataW.weightsEach Try.prog (Try.f6.params.toList ++ Rows.heapAllSpec.plain.varTypes Try.prog) (ds ++ gs)).all (· ≤ reachBytes) = true) :
    Calls Try.prog 6 args W fun e W' => ∃ v, e = .returned v ∧ Rows.heapAllSpec.post enc Try.prog Try.f6 false true false false W args v W' := by
  have hW' := hW
  obtain ⟨p, q, hA0, hV, rfl, hfz, hnd⟩ := hW
  have hA : DataW.TrodAll enc Try.prog W 0 (fun _ => true) true Try.f6.params.toList args.toList ds p := hA0
  rw [Try.params6] at hA hval hsz
  obtain ⟨v0, vs0, d0, ds0, p0, q0, hargs, rfl, rfl, h0, rr0⟩ := trodAll_cons hA
  obtain ⟨v1, vs1, d1, ds1, p1, q1, rfl, rfl, rfl, h1, rr1⟩ := trodAll_cons rr0
  obtain ⟨rfl, rfl, rfl⟩ := trodAll_nil rr1
  obtain rfl : args = #[v0, v1] := by cases args; simp_all
  obtain ⟨rfl, rfl⟩ := trodVars_none hV
  obtain ⟨a0, len0, cap0, rfl⟩ := okWide_slice Try.underlying22 (hval 0 22 v0 rfl rfl)
  have k0 := h0
  have lt0 : ∀ x ∈ p0, x.block < W.heap.size := by obtain ⟨m, hm⟩ := k0; exact DataW.trod_lt m _ _ _ hm
  obtain ⟨⟨z0, w0⟩, u0⟩ := open_hp h0
  have r0 := reach_hp hsz (j := 0) rfl rfl u0
  obtain ⟨a1, len1, cap1, rfl⟩ := okWide_slice Try.underlying22 (hval 1 22 v1 rfl rfl)
  have k1 := h1
  have lt1 : ∀ x ∈ p1, x.block < W.heap.size := by obtain ⟨m, hm⟩ := k1; exact DataW.trod_lt m _ _ _ hm
  obtain ⟨⟨z1, w1⟩, u1⟩ := open_hp h1
  have r1 := reach_hp hsz (j := 1) rfl rfl u1
  clear hA0
  refine (walk a0 len0 cap0 z0 a1 len1 cap1 z1 W w0 w1 r0 r1).mono fun e W' ⟨he, bel⟩ => ?_
  subst he
  exact ⟨_, rfl, _, _, _, [], _, [], hW', trodAll_mk1 (shut_bool Try.underlying4 _), (trodAll_cons_mk (Below.trod laidOut (by kernel_rfl) (of_decide_eq_true (by kernel_rfl)) k0 bel lt0) (trodAll_cons_mk (Below.trod laidOut (by kernel_rfl) (of_decide_eq_true (by kernel_rfl)) k1 bel lt1) trodAll_mk0)), rfl, bel.frame _, fun h => by cases h⟩

set_option maxRecDepth 100000 in
theorem lifted (os : Os) (started : os.Started) (H : Type) (enc : TypeId × Value → H) :
    ReturnsInHanded {} Try.checked os 6 .any (Rows.heapAllSpec.pre6 enc Try.prog Try.f6 Rows.heapAllRow.domain false) (Rows.heapAllSpec.post enc Try.prog Try.f6 false true false false) := by
  refine returnsInHanded_of_change_sized (C := Try.checked) own started (by kernel_rfl) Try.func6
    (ChangeSpec.witness6 (enc := enc) (C := Try.checked) false ⟨#[], #[.slice none 0 0, .slice none 0 0], []⟩ 8 (by kernel_rfl) (by kernel_rfl) (by kernel_rfl) (by kernel_rfl)) ?_
  intro W base args ds gs before hval hW _ hsz _
  exact contract H enc W base args ds gs before hval hW hsz

theorem over : Rows.heapAllRow.holds Try.pinned (OpenSpec.ofChange Rows.heapAllSpec) :=
  OpenClaim.holds_of_wide 6 Try.f6 rfl rfl rfl rfl rfl rfl rfl ⟨rfl, rfl, rfl, rfl, rfl⟩ rfl rfl rfl rfl rfl (by kernel_rfl) Try.func6 (by kernel_rfl)
    (of_decide_eq_true (by kernel_rfl)) (by unfold Func.isWrapper; first | (rw [if_pos (by decide +kernel)]; kernel_rfl) | (rw [if_neg (by decide +kernel)]; exact ⟨rfl, rfl⟩))
    (fun os started H enc _ => lifted os started H enc)

/-- ████ THE STATEMENT ████ -/
theorem proved : Rows.HeapAllSaid := over
#print axioms proved
end Go.Proofs.Ytkkmfeclondlpaa.heapAll
