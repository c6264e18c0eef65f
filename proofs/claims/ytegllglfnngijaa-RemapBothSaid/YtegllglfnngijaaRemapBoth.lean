/-
  Where a number is, it is: what remap.Play tells of the numbers' pages and of the pages' numbers is the same.
-/
import Derived.Test.YtegllglfnngijaaRows
import Derived.Test.YtegllglfnngijaaKeep
import Derived.WalkKit
import Derived.ProofKit
import Derived.OpenShut
import Derived.ShutString
import Derived.ChangeOld
import Derived.Below
import Derived.SizedLaws
import Derived.RegionTactic
import Derived.Deep.RegionWith
import Derived.Deep.CutBlock
import Derived.ChangeAlike
namespace Go.Proofs.Ytegllglfnngijaa.remapBoth
open Go.ChangeShapes Go.WideShapes Go.ChangeAt Go.RowKit Words Go.Proofs.Ytegllglfnngijaa.Rem
open Go.ChangeMaps (open_string shut_string)
set_option linter.unusedVariables false

theorem own : ownKnob Try.prog.godebug = none := by kernel_rfl
theorem laidOut : laidOutB Try.prog = true := by kernel_rfl

set_option maxRecDepth 20000 in
set_option maxHeartbeats 4000000 in
/-- The walk: the Go text returns true and writes nothing that was there. -/
theorem walk (a0 : Int) (a1 : Option Addr) (len1 cap1 : Nat) (z1 : List Nop) (w : World) (w0 : (Lit.int .i64 a0).wf = true) (w1 : Ops w w.heap.size a1 len1 cap1 z1) (r1 : cap1 * 16 ≤ 140737488351232) :
    Calls Try.prog 4 #[.int .i64 a0, .slice a1 len1 cap1] w fun e w' => e = .returned (.bool true) ∧ Below w.heap.size w w' := by
  have hn : len1 ≤ 8796093022208 := by have := Words.Rd.le w1; omega
  have HAL := Lib.hid (alive14 w)
  have HP8 := (fun x (b : Below w.heap.size w x) => play8 _ _ _ _ z1 a0 x (Words.Rd.below w1 b (Nat.le_refl _)) b.size hn)
  unfold Played at HP8
  have lpa := pAt_length a0 z1
  have s1 := size25_of lpa
  have o1 := arr_all (pAt a0 z1)
  cases hpk : pok a0 with
  | false =>
    obtain ⟨e1, e2, e3, e4⟩ := bad_of hpk z1
    simp only [e1, e2, e3, e4, List.length_nil] at HP8
    simp only [e4] at lpa s1 o1
    have HP8 := Lib.hid HP8
    clear w0 w1 r1 hn e1 e2 e3 e4 hpk
    go_enter Try.func4, Try.ntmps4
    go_wp2_with fail
    refine (HAL.out).mono ?_; rintro e x1 ⟨rfl, b1⟩
    have B1 := Lib.hid b1
    clear b1
    go_wp2_with fail
    refine (HP8.out _ B1.out).mono ?_; rintro e x2 ⟨A1, c1, A2, c2, rfl, i1, i2, b2⟩
    have B2 := Lib.hid ((next_below B1.out b2 B1.out.size).alloc (next_below B1.out b2 B1.out.size).size (.cells (icells zero16).toArray 25))
    clear i1 i2 b2
    go_wp2_with (refine wpList_store_new rfl 25 (.tmp 6) (.tmp 20) rfl x2 (icells zero16).toArray rfl rfl 25 (icells zero16).toArray s1 (z16_size lpa) o1 ?_)
    go_ret
    exact ⟨rfl, B2.out⟩
  | true =>
    obtain ⟨P, wr0, G⟩ := good_of hpk z1
    obtain rfl := G.pg
    have hpl := nos_length G.len
    simp only [G.no, G.code, hpl, G.at_] at HP8
    have HP8 := Lib.hid HP8
    rw [G.at_] at lpa s1 o1
    have BA := Lib.hid (fun n p h => both_at (n := n) (p := p) G.ok G.len h)
    have BN := Lib.hid (fun p x h => both_no (p := p) (x := x) G.ok G.len h)
    have AG := Lib.hid (fun n h => ats_get wr0 (n := n) h)
    have IG := Lib.hid (fun n => idx_ge wr0 n)
    have hP := G.le
    have NR : Hid (∀ p x, (nos P wr0)[p]? = some x → p < P ∧ -1 ≤ x) := Lib.hid (fun p x h => by
      have h2 := (List.getElem?_eq_some_iff.1 h).1
      rw [nos_length G.len] at h2
      refine ⟨h2, ?_⟩
      rcases Nat.lt_or_ge p wr0.length with h1 | h1
      · rw [nos_left h1] at h; exact (G.ok.rng p x h).1
      · rw [nos_right h1 h2] at h; injection h with h; omega)
    have HPL := Lib.hid hpl
    generalize pErrs P z1 = pe at *
    clear w0 w1 r1 hn hpk G hpl
    go_enter Try.func4, Try.ntmps4
    go_wp2_with fail
    refine (HAL.out).mono ?_; rintro e x1 ⟨rfl, b1⟩
    have B1 := Lib.hid b1
    clear b1
    go_wp2_with fail
    refine (HP8.out _ B1.out).mono ?_; rintro e x2 ⟨A1, c1, A2, c2, rfl, i1, i2, b2⟩
    have B2 := Lib.hid ((next_below B1.out b2 B1.out.size).alloc (next_below B1.out b2 B1.out.size).size (.cells (icells (ats wr0)).toArray 25))
    obtain ⟨x3, h3⟩ : ∃ x3, x2.alloc (.cells (icells (ats wr0)).toArray 25) = x3 := ⟨_, rfl⟩
    have I2 : Ints x3 x3.heap.size A2 P c2 (nos P wr0) := h3 ▸ ints_next i2 ((Below.refl _ _).alloc (Nat.le_refl _) _)
    have K6 : WI x3 x2.heap.size 25 (ats wr0) := h3 ▸ WI.new x2 25 (ats wr0)
    have I2 := Lib.hid I2
    have K6 := Lib.hid K6
    rw [h3] at B2
    have hr := K6.out.range
    have hz1 := size25_len lpa
    clear i1 i2 b2
    go_wp2_with (first
      | (refine wpList_store_new rfl 25 (.tmp 6) (.tmp 20) rfl x2 (icells (ats wr0)).toArray rfl rfl 25 (icells zero16).toArray s1 (z16_size lpa) o1 ?_; rw [h3]; clear h3)
      | (refine wpList_load_mid rfl 25 (.tmp 6) rfl x2.heap.size 0 rfl (icells (ats wr0)) _ hr Try.underlying25 rfl hz1 ?_))
    go_loopw [29] (fun i wr => ∃ (k : Nat), i = .int .i64 k ∧ k ≤ 16 ∧ wr = x3) (fun i _ => (16 - intOf i).toNat)
    case atStart => exact ⟨0, rfl, by omega, rfl⟩
    case round =>
      obtain ⟨k, rfl, hk, rfl⟩ := hrel
      by_cases hlt : k < 16
      · have hx := fun w => index16 (AG.out k hlt) lpa w
        have hge := IG.out (k : Int)
        have HB := Lib.hid (BA.out k)
        generalize idx wr0 k = p at *
        by_cases hp : p < 0
        · go_wp2_with fail
          go_roundw
          case rel => exact ⟨k + 1, by go_num, by omega, by first | rfl | trivial⟩
          case measure => simp [intOf]; omega
        · obtain ⟨q, rfl⟩ : ∃ q : Nat, p = q := ⟨p.toNat, by omega⟩
          obtain ⟨hq, hg⟩ := HB.out q rfl
          obtain ⟨g2, o2, rfl, _, _⟩ := Words.Rd.row I2.out (by omega)
          have c0 := Ints.cellAt I2.out rfl hg
          clear hg
          go_wp2_with fail
          go_roundw
          case rel => exact ⟨k + 1, by go_num, by omega, by first | rfl | trivial⟩
          case measure => simp [intOf]; omega
      · go_wp2_with fail
        go_loopw [52] (fun i ws => ∃ (k2 : Nat), i = .int .i64 k2 ∧ k2 ≤ P ∧ ws = wr) (fun i _ => (P - intOf i).toNat)
        case atStart => exact ⟨0, rfl, by omega, rfl⟩
        case round =>
          obtain ⟨k2, rfl, hk2, rfl⟩ := hrel
          by_cases hlt2 : k2 < P
          · obtain ⟨g2, o2, rfl, _, _⟩ := Words.Rd.row I2.out (by omega)
            obtain ⟨y, hy⟩ : ∃ y, (nos P wr0)[k2]? = some y := ⟨_, List.getElem?_eq_getElem (by rw [HPL.out]; exact hlt2)⟩
            have c0 := Ints.cellAt I2.out rfl hy
            have hge := (NR.out k2 y hy).2
            by_cases hp : y < 0
            · clear hy
              go_wp2_with fail
              go_roundw
              case rel => exact ⟨k2 + 1, by go_num, by omega, by first | rfl | trivial⟩
              case measure => simp [intOf]; omega
            · obtain ⟨q, rfl⟩ : ∃ q : Nat, y = q := ⟨y.toNat, by omega⟩
              obtain ⟨hq, hg⟩ := BN.out k2 q hy
              have c1 := K6.out.cell hg
              clear hg hy
              go_wp2_with fail
              go_roundw
              case rel => exact ⟨k2 + 1, by go_num, by omega, by first | rfl | trivial⟩
              case measure => simp [intOf]; omega
          · obtain rfl : k2 = P := by omega
            go_wp2_with fail
            go_ret
            exact ⟨ret_bool (by simp), B2.out⟩

set_option maxRecDepth 100000 in
theorem contract (H : Type) (enc : TypeId × Value → H) (W : World) (base : Nat) (args : Array Value) (ds gs : List (DataW H)) (before : List MemPlace)
    (hval : ∀ (j : Nat) t v, Try.f4.params[j]? = some t → args[j]? = some v → Value.okWide Try.prog W .any base t v)
    (hW : DataW.Whole enc Try.prog Try.f4.params.toList Rows.remapBothSpec.vars false W args.toList ds gs before) (hsz : (DataW.weightsEach Try.prog (Try.f4.params.toList ++ Rows.remapBothSpec.plain.varTypes Try.prog) (ds ++ gs)).all (· ≤ reachBytes) = true) :
    Calls Try.prog 4 args W fun e W' => ∃ v, e = .returned v ∧ Rows.remapBothSpec.post enc Try.prog Try.f4 false true false false W args v W' := by
  have hW' := hW
  obtain ⟨p, q, hA0, hV, rfl, hfz, hnd⟩ := hW
  have hA : DataW.TrodAll enc Try.prog W 0 (fun _ => true) true Try.f4.params.toList args.toList ds p := hA0
  rw [Try.params4] at hA hval hsz
  obtain ⟨v0, vs0, d0, ds0, p0, q0, hargs, rfl, rfl, h0, rr0⟩ := trodAll_cons hA
  obtain ⟨v1, vs1, d1, ds1, p1, q1, rfl, rfl, rfl, h1, rr1⟩ := trodAll_cons rr0
  obtain ⟨rfl, rfl, rfl⟩ := trodAll_nil rr1
  obtain rfl : args = #[v0, v1] := by cases args; simp_all
  obtain ⟨rfl, rfl⟩ := trodVars_none hV
  obtain ⟨a0, rfl, rfl, rfl, w0⟩ := open_int Try.underlying3 (hval 0 3 v0 rfl rfl) h0
  obtain ⟨a1, len1, cap1, rfl⟩ := okWide_slice Try.underlying22 (hval 1 22 v1 rfl rfl)
  have k1 := h1
  have lt1 : ∀ x ∈ p1, x.block < W.heap.size := by obtain ⟨m, hm⟩ := k1; exact DataW.trod_lt m _ _ _ hm
  obtain ⟨⟨z1, w1⟩, u1⟩ := open_ops h1
  have r1 := reach_ops hsz (j := 1) rfl rfl u1
  clear hA0
  refine (walk a0 a1 len1 cap1 z1 W w0 w1 r1).mono fun e W' ⟨he, bel⟩ => ?_
  subst he
  exact ⟨_, rfl, _, _, _, [], _, [], hW', trodAll_mk1 (shut_bool Try.underlying4 _), (trodAll_cons_mk (shut_int Try.underlying3 w0) (trodAll_cons_mk (Below.trod laidOut (by kernel_rfl) (of_decide_eq_true (by kernel_rfl)) k1 bel lt1) trodAll_mk0)), rfl, bel.frame _, fun h => by cases h⟩

set_option maxRecDepth 100000 in
theorem lifted (os : Os) (started : os.Started) (H : Type) (enc : TypeId × Value → H) :
    ReturnsInHanded {} Try.checked os 4 .any (Rows.remapBothSpec.pre6 enc Try.prog Try.f4 Rows.remapBothRow.domain false) (Rows.remapBothSpec.post enc Try.prog Try.f4 false true false false) := by
  refine returnsInHanded_of_change_sized (C := Try.checked) own started (by kernel_rfl) Try.func4
    (ChangeSpec.witness6 (enc := enc) (C := Try.checked) false ⟨#[], #[.int .i64 0, .slice none 0 0], []⟩ 8 (by kernel_rfl) (by kernel_rfl) (by kernel_rfl) (by kernel_rfl)) ?_
  intro W base args ds gs before hval hW _ hsz _
  exact contract H enc W base args ds gs before hval hW hsz

theorem over : Rows.remapBothRow.holds Try.pinned (OpenSpec.ofChange Rows.remapBothSpec) :=
  OpenClaim.holds_of_wide 4 Try.f4 rfl rfl rfl rfl rfl rfl rfl ⟨rfl, rfl, rfl, rfl, rfl⟩ rfl rfl rfl rfl rfl (by kernel_rfl) Try.func4 (by kernel_rfl)
    (of_decide_eq_true (by kernel_rfl)) (by unfold Func.isWrapper; first | (rw [if_pos (by decide +kernel)]; kernel_rfl) | (rw [if_neg (by decide +kernel)]; exact ⟨rfl, rfl⟩))
    (fun os started H enc _ => lifted os started H enc)

/-- ████ THE STATEMENT ████ -/
theorem proved : Rows.RemapBothSaid := over
#print axioms proved
end Go.Proofs.Ytegllglfnngijaa.remapBoth
