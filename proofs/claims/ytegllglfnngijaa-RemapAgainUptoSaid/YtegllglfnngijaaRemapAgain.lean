/-
  Found again by what was written alone: where nothing was trimmed, what remap.Again finds is where remap.Play has put the numbers.
-/
import Derived.Test.YtegllglfnngijaaRows
import Derived.Test.YtegllglfnngijaaBulk
import Derived.WalkKit
import Derived.ProofKit
import Derived.OpenShut
import Derived.ShutString
import Derived.ChangeOld
import Derived.Below
import Derived.SizedLaws
import Derived.RegionTactic
import Derived.Deep.RegionWith
import Derived.Deep.CutBlock
import Derived.ChangeAlike
import Derived.JoinedCond
import Derived.Deep.CondSized
namespace Go.Proofs.Ytegllglfnngijaa.remapAgain
open Go.ChangeShapes Go.WideShapes Go.ChangeAt Go.RowKit Words Go.Proofs.Ytegllglfnngijaa.Rem
open Go.ChangeMaps (open_string shut_string)
set_option linter.unusedVariables false

theorem own : ownKnob Try.prog.godebug = none := by kernel_rfl
theorem laidOut : laidOutB Try.prog = true := by kernel_rfl

set_option maxRecDepth 20000 in
set_option maxHeartbeats 4000000 in
/-- The walk: the Go text returns true and writes nothing that was there. -/
theorem walk (a0 : Int) (a1 : Option Addr) (len1 cap1 : Nat) (z1 : List Int) (w : World) (w0 : (Lit.int .i64 a0).wf = true) (w1 : Ints w w.heap.size a1 len1 cap1 z1) (r1 : cap1 ≤ 1048576) :
    Calls Try.prog 6 #[.int .i64 a0, .slice a1 len1 cap1] w fun e w' => e = .returned (.bool true) ∧ Below w.heap.size w w' := by
  have hlen := w1.len
  have hle := Words.Rd.le w1
  have HAL := Lib.hid (alive14 w)
  have H := Lib.hid w1
  have L := Lib.hid hlen
  obtain ⟨i37, hi37, hz70, hz71, hz72⟩ := info_parts info37
  have hzz : (Value.agg #[.int .i64 0, .int .i64 0]).cells.size = 2 := rfl
  have HP8 := Lib.hid (fun B A n c l x h hB hn => play8 B A n c l a0 x h hB hn)
  have HA10 := Lib.hid (fun B A n c l x h hB => again10 B A n c l x h hB)
  clear w1 hlen
  go_enter Try.func6, Try.ntmps6
  go_wp2_with fail
  refine (HAL.out).mono ?_; rintro e x1 ⟨rfl, b1⟩
  have G0 : Hid (WInv x1 x1 none 0 0 z1) := Lib.hid ⟨Below.refl _ _, x1.ownsRow_nil _ _ _⟩
  have B1 := Lib.hid b1
  clear b1
  go_wp2_with fail
  go_loopw [5, 18] (fun a i wr => ∃ (k : Nat) (A : Option Addr) (c : Nat), a = .slice A k c ∧ i = .int .i64 k ∧ k ≤ len1 ∧ WInv x1 wr A k c z1 ∧ okTo z1 k) (fun _ i _ => (len1 - intOf i).toNat)
  case atStart => exact ⟨0, none, 0, rfl, rfl, by omega, G0.out, okTo_zero z1⟩
  case round =>
    obtain ⟨k, A, c, rfl, rfl, hk, hinv, hok⟩ := hrel
    have I := Lib.hid hinv
    have OK := Lib.hid hok
    clear hinv hok G0
    have BW := Lib.hid (B1.out.trans (I.out.bel.mono B1.out.size))
    by_cases hlt : k < len1
    · obtain ⟨gl, ol, rfl, _, _⟩ := Words.Rd.row H.out (by omega)
      obtain ⟨x, hx⟩ : ∃ x, z1[k]? = some x := ⟨_, List.getElem?_eq_getElem (by rw [L.out]; exact hlt)⟩
      have c0 := Ints.cellAt (Words.Rd.below H.out BW.out (Nat.le_refl _)) rfl hx
      have HX := Lib.hid hx
      clear hx
      by_cases h0 : x < 0
      · go_wp2_with fail
        go_ret
        exact ⟨rfl, BW.out⟩
      · by_cases h1 : x ≥ 16
        · go_wp2_with fail
          go_ret
          exact ⟨rfl, BW.out⟩
        · have OK1 := Lib.hid (okTo_next OK.out HX.out (isN_yes.2 ⟨by omega, by omega⟩))
          have I1 := Lib.hid (I.out.alloc (.cells #[.int .i64 1, .int .i64 x] 37))
          have hsX : x1.heap.size ≤ (wr.alloc (.cells #[.int .i64 1, .int .i64 x] 37)).heap.size := I1.out.bel.size
          have HR := Lib.hid (one_op wr ⟨1, x⟩)
          go_wp2_with (first
            | (at_builtin; refine wpList_append_rd _ rfl (.tmp 28) (.tmp 31) 22 rfl x1.heap.size 37 i37 _ 2 16 Try.underlying22 hi37 hz70 hz71 hz72 hzz (by decide) _ k (lcells (wops (z1.take k))) rfl I1.out.row (wr.heap.size + 1) (some ⟨wr.heap.size, 0, none⟩) 1 1 (lcells [⟨1, x⟩]) rfl HR.out (lcells_one _) (by simp only [maxLen]; omega) (by omega) hsX ?_
               intro A9 c9 x9 hown9 hg9
               have I2 := Lib.hid (I1.out.next HX.out hown9 hg9)
               clear hown9 hg9))
          go_roundw
          case rel => exact ⟨k + 1, A9, c9, rfl, by go_num, by omega, I2.out, OK1.out⟩
          case measure => simp [intOf]; omega
    · obtain rfl : k = len1 := by omega
      have HALL := Lib.hid (okTo_all OK.out (by rw [L.out]; exact Nat.le_refl _))
      have hops := I.out.ops
      rw [List.take_of_length_le (by rw [L.out]; exact Nat.le_refl _)] at hops
      have HP := HP8.out _ _ _ _ _ wr hops (Nat.le_refl _) (by omega)
      unfold Played at HP
      have lpa := pAt_length a0 (wops z1)
      have s1 := size25_of lpa
      have o1 := arr_all (pAt a0 (wops z1))
      have HP := Lib.hid HP
      have BW2 := Lib.hid BW.out
      clear hops
      generalize pErrs a0 (wops z1) = pe at *
      generalize pNo a0 (wops z1) = pn at *
      go_wp2_with fail
      refine (HP.out).mono ?_; rintro e x2 ⟨A1, c1, A2, c2, rfl, i1, i2, b2⟩
      have B2 := Lib.hid ((next_below BW2.out b2 BW2.out.size).alloc (next_below BW2.out b2 BW2.out.size).size (.cells (icells (pAt a0 (wops z1))).toArray 25))
      clear i1 i2 b2
      go_wp2_with (first
        | (refine wpList_store_new rfl 25 (.tmp 9) (.tmp 39) rfl x2 (icells (pAt a0 (wops z1))).toArray rfl rfl 25 (icells zero16).toArray s1 (z16_size lpa) o1 ?_))
      obtain ⟨m, hm⟩ : ∃ m, m = (max (min (k : Int) a0) 0).toNat := ⟨_, rfl⟩
      have hmk : m ≤ k := by omega
      rw [← hm]
      have hrd := ints_head (Words.Rd.below H.out B2.out (Nat.le_refl _)) hmk
      have HA := HA10.out _ _ _ _ _ _ hrd B2.out.size
      unfold Rem.Found at HA
      have laa := aAt_length (z1.take m)
      have s2 := size25_of laa
      have o2 := arr_all (aAt (z1.take m))
      have HA := Lib.hid HA
      clear hrd
      refine (HA.out).mono ?_; rintro e x3 ⟨rfl, b3⟩
      have t4 : Below x3.heap.size x3 (x3.alloc (.cells (icells (aAt (z1.take m))).toArray 25)) := (Below.refl _ _).alloc (Nat.le_refl _) _
      have K9 := Lib.hid (wi_next (box_wi b3) t4)
      have K12 := Lib.hid (WI.new x3 25 (aAt (z1.take m)))
      have B3 := Lib.hid ((next_below B2.out b3 B2.out.size).alloc (next_below B2.out b3 B2.out.size).size (.cells (icells (aAt (z1.take m))).toArray 25))
      clear b3 t4
      cases hpk : pok a0 with
      | false =>
        obtain ⟨_, _, e3, _⟩ := bad_of hpk (wops z1)
        rw [e3]
        clear hpk e3 hm
        go_wp2_with (first
          | (refine wpList_store_new rfl 25 (.tmp 12) (.tmp 51) rfl x3 (icells (aAt (z1.take m))).toArray rfl rfl 25 (icells zero16).toArray s2 (z16_size laa) o2 ?_))
        go_ret
        exact ⟨rfl, B3.out⟩
      | true =>
        obtain ⟨P, wr0, G⟩ := good_of hpk (wops z1)
        have hpg := G.pg
        obtain ⟨q1, q2⟩ := again_same (P := P) HALL.out (m := m) (by rw [L.out]; omega)
        have hwr := G.is
        have hat : pAt a0 (wops z1) = aAt (z1.take m) := by rw [G.at_, q1, hwr]
        have k9 : WI (x3.alloc (.cells (icells (aAt (z1.take m))).toArray 25)) x2.heap.size 25 (aAt (z1.take m)) := hat ▸ K9.out
        have l9 := k9.range
        have l12 := K12.out.range
        have hz2 := size25_len laa
        have heq := fun x => eq16 laa x
        have heq' := fun x => eq16' laa x
        rw [G.code, q2]
        clear hpk G hpg q1 q2 hwr hat k9 hm
        go_wp2_with (first
          | (refine wpList_store_new rfl 25 (.tmp 12) (.tmp 51) rfl x3 (icells (aAt (z1.take m))).toArray rfl rfl 25 (icells zero16).toArray s2 (z16_size laa) o2 ?_)
          | (refine wpList_load_guard (by rfl) 25 (.tmp 9) rfl x2.heap.size 0 rfl (icells (aAt (z1.take m))) _ l9 Try.underlying25 rfl hz2 ?_)
          | (refine wpList_load_guard (by rfl) 25 (.tmp 12) rfl x3.heap.size 0 rfl (icells (aAt (z1.take m))) _ l12 Try.underlying25 rfl hz2 ?_))
        go_ret
        exact ⟨rfl, B3.out⟩

set_option maxRecDepth 100000 in
theorem contract (H : Type) (enc : TypeId × Value → H) (W : World) (base : Nat) (args : Array Value) (ds gs : List (DataW H)) (before : List MemPlace)
    (hval : ∀ (j : Nat) t v, Try.f6.params[j]? = some t → args[j]? = some v → Value.okWide Try.prog W .any base t v)
    (hW : DataW.Whole enc Try.prog Try.f6.params.toList Rows.remapAgainSpec.vars false W args.toList ds gs before) (hk : Rows.uptoSmall H (ds ++ gs) = true) :
    Calls Try.prog 6 args W fun e W' => ∃ v, e = .returned v ∧ Rows.remapAgainSpec.post enc Try.prog Try.f6 false true false false W args v W' := by
  have hW' := hW
  obtain ⟨p, q, hA0, hV, rfl, hfz, hnd⟩ := hW
  have hA : DataW.TrodAll enc Try.prog W 0 (fun _ => true) true Try.f6.params.toList args.toList ds p := hA0
  rw [Try.params6] at hA hval
  obtain ⟨v0, vs0, d0, ds0, p0, q0, hargs, rfl, rfl, h0, rr0⟩ := trodAll_cons hA
  obtain ⟨v1, vs1, d1, ds1, p1, q1, rfl, rfl, rfl, h1, rr1⟩ := trodAll_cons rr0
  obtain ⟨rfl, rfl, rfl⟩ := trodAll_nil rr1
  obtain rfl : args = #[v0, v1] := by cases args; simp_all
  obtain ⟨rfl, rfl⟩ := trodVars_none hV
  obtain ⟨a0, rfl, rfl, rfl, w0⟩ := open_int Try.underlying3 (hval 0 3 v0 rfl rfl) h0
  obtain ⟨a1, len1, cap1, rfl⟩ := okWide_slice Try.underlying23 (hval 1 23 v1 rfl rfl)
  have k1 := h1
  have lt1 : ∀ x ∈ p1, x.block < W.heap.size := by obtain ⟨m, hm⟩ := k1; exact DataW.trod_lt m _ _ _ hm
  obtain ⟨⟨z1, w1⟩, u1⟩ := open_ints h1
  have r1 := bulk_cap hk (d := d1) (by simp) u1
  clear hA0
  refine (walk a0 a1 len1 cap1 z1 W w0 w1 r1).mono fun e W' ⟨he, bel⟩ => ?_
  subst he
  exact ⟨_, rfl, _, _, _, [], _, [], hW', trodAll_mk1 (shut_bool Try.underlying4 _), (trodAll_cons_mk (shut_int Try.underlying3 w0) (trodAll_cons_mk (Below.trod laidOut (by kernel_rfl) (of_decide_eq_true (by kernel_rfl)) k1 bel lt1) trodAll_mk0)), rfl, bel.frame _, fun h => by cases h⟩

set_option maxRecDepth 100000 in
theorem lifted (os : Os) (started : os.Started) (H : Type) (enc : TypeId × Value → H) (F : Stop.Interp) :
    ReturnsInHanded {} Try.checked os 6 .any ((Rows.OpenSpec.upto Rows.remapAgainSpec).pre6 enc Try.prog Try.f6 Rows.remapAgainUptoRow.domain false) (((Rows.OpenSpec.upto Rows.remapAgainSpec).at F).post enc Try.prog Try.f6 false true false false) := by
  refine returnsInHanded_of_cond (C := Try.checked) (s := Rows.OpenSpec.upto Rows.remapAgainSpec) (k := Rows.uptoSmall) rfl own started (by kernel_rfl) Try.func6
    (OpenSpec.witness (enc := enc) (C := Try.checked) (s := Rows.OpenSpec.upto Rows.remapAgainSpec) (k := Rows.uptoSmall) rfl false ⟨#[], #[.int .i64 0, .slice none 0 0], []⟩ 8 (by kernel_rfl) (by kernel_rfl) (by kernel_rfl)
      (x := ([.lit (.int .i64 0), .nil], [], [])) (by kernel_rfl) rfl (by kernel_rfl)) ?_
  intro W base args ds gs before hval hW _ hk _
  exact contract H enc W base args ds gs before hval hW hk

theorem over : Rows.remapAgainUptoRow.holds Try.pinned (Rows.OpenSpec.upto Rows.remapAgainSpec) :=
  OpenClaim.holds_of_cond 6 Try.f6 rfl rfl rfl rfl rfl rfl rfl ⟨rfl, rfl, rfl, rfl, rfl⟩ rfl rfl rfl rfl rfl (by kernel_rfl) Try.func6 (by kernel_rfl)
    (of_decide_eq_true (by kernel_rfl)) (by unfold Func.isWrapper; first | (rw [if_pos (by decide +kernel)]; kernel_rfl) | (rw [if_neg (by decide +kernel)]; exact ⟨rfl, rfl⟩))
    (fun os started H enc _ F => lifted os started H enc F)

/-- ████ THE STATEMENT ████ -/
theorem proved : Rows.RemapAgainUptoSaid := over
#print axioms proved
end Go.Proofs.Ytegllglfnngijaa.remapAgain
