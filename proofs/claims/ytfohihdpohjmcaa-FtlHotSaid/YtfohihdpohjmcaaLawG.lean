/-
  FtlHot, walked under what is asked of Play.
-/
import Derived.Test.YtfohihdpohjmcaaLawF
namespace Go.Proofs.Ytfohihdpohjmcaa.Ftl
open Go.ChangeShapes Go.WideShapes Go.ChangeAt Go.RowKit Words
set_option linter.unusedVariables false

set_option maxRecDepth 100000 in
set_option maxHeartbeats 8000000 in
theorem ftlHot_walk (HPC : PlayC) (B : Nat) (A0 : Option Addr) (n c : Nat) (l : List Int) (N t : Int) (w : World) (w0 : Ints w B A0 n c l) (hB : B ≤ w.heap.size) (wf : ∀ x ∈ l, (Lit.int .i64 x).wf = true) (hwN : (Lit.int .i64 N).wf = true) :
    Calls Try.prog 5 #[.slice A0 n c, .int .i64 N, .int .i64 t] w fun e w' => e = .returned (.bool true) ∧ Below w.heap.size w w' := by
  have hlen := w0.len
  have HAL := Lib.hid (alive12 HPC w)
  by_cases t0 : t < 0
  · clear w0 wf HPC hlen hwN
    go_enter Try.func5, Try.ntmps5
    go_wp2_with fail
    refine (HAL.out).mono ?_; rintro e x0 ⟨rfl, hb0⟩
    go_wp2_with fail
    go_ret
    exact ⟨rfl, hb0⟩
  · by_cases t1 : t > 300
    · clear w0 wf HPC hlen hwN
      go_enter Try.func5, Try.ntmps5
      go_wp2_with fail
      refine (HAL.out).mono ?_; rintro e x0 ⟨rfl, hb0⟩
      go_wp2_with fail
      go_ret
      exact ⟨rfl, hb0⟩
    · by_cases n0 : N < 0
      · clear w0 wf HPC hlen hwN
        go_enter Try.func5, Try.ntmps5
        go_wp2_with fail
        refine (HAL.out).mono ?_; rintro e x0 ⟨rfl, hb0⟩
        go_wp2_with fail
        go_ret
        exact ⟨rfl, hb0⟩
      · by_cases n1 : N ≥ 16
        · clear w0 wf HPC hlen hwN
          go_enter Try.func5, Try.ntmps5
          go_wp2_with fail
          refine (HAL.out).mono ?_; rintro e x0 ⟨rfl, hb0⟩
          go_wp2_with fail
          go_ret
          exact ⟨rfl, hb0⟩
        · obtain ⟨T, rfl⟩ : ∃ T : Nat, t = T := ⟨t.toNat, by omega⟩
          obtain ⟨m, hmm⟩ : ∃ m : Nat, m = min n 16 := ⟨_, rfl⟩
          have hmin : min (n : Int) 16 = (m : Int) := by omega
          have hmn : m ≤ n := by omega
          have hm16 : m ≤ 16 := by omega
          have hT : T ≤ 300 := by omega
          have hnc := Words.Rd.le w0
          have hN : 0 ≤ N ∧ N < 16 := by omega
          have HPO := Lib.hid (fun B A q c x h hB => HPC B A q c ((hot1 l m ++ hot2 N T) ++ hot3 m) x h hB (hot_wf l wf hwN hm16 (by omega) hT))
          have hl3 : ((hot1 l m ++ hot2 N T) ++ hot3 m).length = m + T + m := by rw [List.length_append, List.length_append, hot1_length, hot2_length, hot3_length]
          have HGO := (fun v e x h p => fplayed_ok (w := v) (w' := x) (l := (hot1 l m ++ hot2 N T) ++ hot3 m) (e := e) h p)
          simp only [hl3] at HGO
          have HGO := Lib.hid HGO
          have HAN := Lib.hid (fun j (hj : j < m) => hot_ans l hN T hm16 hj)
          have H := Lib.hid w0
          have L := Lib.hid hlen
          have M13 := Lib.hid (fun B A n c l w h hn => max13 B A n c l w h hn)
          have M14 := Lib.hid (fun B A n c l w h hn => min14 B A n c l w h hn)
          obtain ⟨i37, hi37, hz0, hz1, hz2⟩ := info_parts info37
          have hzz : (Value.agg #[.int .i64 0, .int .i64 0, .int .i64 0]).cells.size = 3 := rfl
          clear w0 wf HPC hlen hwN hmm hl3 hN
          go_enter Try.func5, Try.ntmps5
          go_wp2_with fail
          refine (HAL.out).mono ?_; rintro e x0 ⟨rfl, hb0⟩
          have B0 := Lib.hid hb0
          have I0 : Hid (OInv x0 x0 none 0 0 (hot1 l 0)) := Lib.hid ⟨Below.refl _ _, x0.ownsRow_nil _ _ _⟩
          clear hb0
          go_wp2_with fail
          go_loopw [7, 40] (fun a i wr => ∃ (k : Nat) (A : Option Addr) (c5 : Nat), a = .slice A k c5 ∧ i = .int .i64 k ∧ k ≤ m ∧ OInv x0 wr A k c5 (hot1 l k)) (fun _ i _ => (m - intOf i).toNat)
          case atStart => exact ⟨0, none, 0, rfl, rfl, by omega, I0.out⟩
          case round =>
            obtain ⟨k, A, c5, rfl, rfl, hk, hinv⟩ := hrel
            have I := Lib.hid hinv
            have BW := Lib.hid (next_below B0.out hinv.bel B0.out.size)
            clear hinv I0
            by_cases hlt : k < m
            · obtain ⟨gl, ol, rfl, _, _⟩ := Words.Rd.row H.out (by omega)
              obtain ⟨x, hx⟩ : ∃ x, l[k]? = some x := ⟨_, List.getElem?_eq_getElem (by rw [L.out]; omega)⟩
              have c0 := Ints.cellAt (Words.Rd.below H.out BW.out hB) rfl hx
              have HO : Hid (hot1 l (k + 1) = hot1 l k ++ [⟨1, (k : Int), x⟩]) := Lib.hid (by rw [hot1_next, List.getD_eq_getElem?_getD, hx]; rfl)
              have I2 := Lib.hid (I.out.alloc (.cells #[.int .i64 1, .int .i64 k, .int .i64 x] 37))
              have hsX : x0.heap.size ≤ (wr.alloc (.cells #[.int .i64 1, .int .i64 k, .int .i64 x] 37)).heap.size := I2.out.bel.size
              have HR := Lib.hid (one_fop wr ⟨1, (k : Int), x⟩)
              clear hx
              go_wp2_with (first
                | (at_builtin; refine wpList_append_rd _ rfl (.tmp 45) (.tmp 49) 22 rfl x0.heap.size 37 i37 _ 3 24 Try.underlying22 hi37 hz0 hz1 hz2 hzz (by decide) _ k (pcells (hot1 l k)) rfl I2.out.row _ _ 1 1 (pcells [⟨1, (k : Int), x⟩]) rfl HR.out (pcells_one _) (by simp only [maxLen]; omega) (by omega) hsX ?_
                   intro A9 c9 x9 hown9 hg9
                   have I3 := Lib.hid ((I2.out.next hown9 hg9).as HO.out)
                   clear hown9 hg9))
              go_roundw
              case rel => exact ⟨k + 1, A9, c9, rfl, by go_num, by omega, I3.out⟩
              case measure => simp [intOf]; omega
            · obtain rfl : k = m := by omega
              have J0 : Hid (OInv x0 wr A (k + 0) c5 (hot1 l k ++ hot2 N 0)) := Lib.hid (I.out.as (by simp [hot2]))
              go_wp2_with fail
              go_loopw [7, 53] (fun a i wy => ∃ (j : Nat) (A : Option Addr) (c5 : Nat), a = .slice A (k + j) c5 ∧ i = .int .i64 j ∧ j ≤ T ∧ OInv x0 wy A (k + j) c5 (hot1 l k ++ hot2 N j)) (fun _ i _ => (T - intOf i).toNat)
              case atStart => exact ⟨0, A, c5, rfl, rfl, by omega, J0.out⟩
              case round =>
                obtain ⟨j, A, c5, rfl, rfl, hj, hinv⟩ := hrel
                have J := Lib.hid hinv
                clear hinv J0
                by_cases hlt2 : j < T
                · have HO : Hid (hot1 l k ++ hot2 N (j + 1) = (hot1 l k ++ hot2 N j) ++ [⟨1, N, (j : Int)⟩]) := Lib.hid (by rw [hot2_next, List.append_assoc])
                  have I2 := Lib.hid (J.out.alloc (.cells #[.int .i64 1, .int .i64 N, .int .i64 j] 37))
                  have hsX : x0.heap.size ≤ (wr.alloc (.cells #[.int .i64 1, .int .i64 N, .int .i64 j] 37)).heap.size := I2.out.bel.size
                  have HR := Lib.hid (one_fop wr ⟨1, N, (j : Int)⟩)
                  go_wp2_with (first
                    | (at_builtin; refine wpList_append_rd _ rfl (.tmp 56) (.tmp 60) 22 rfl x0.heap.size 37 i37 _ 3 24 Try.underlying22 hi37 hz0 hz1 hz2 hzz (by decide) _ (k + j) (pcells (hot1 l k ++ hot2 N j)) rfl I2.out.row _ _ 1 1 (pcells [⟨1, N, (j : Int)⟩]) rfl HR.out (pcells_one _) (by simp only [maxLen]; omega) (by omega) hsX ?_
                       intro A9 c9 x9 hown9 hg9
                       have I3 := Lib.hid ((I2.out.next hown9 hg9).as HO.out)
                       clear hown9 hg9))
                  go_roundw
                  case rel => exact ⟨j + 1, A9, c9, rfl, by go_num, by omega, I3.out⟩
                  case measure => simp [intOf]; omega
                · obtain rfl : j = T := by omega
                  have K0 : Hid (OInv x0 wr A (k + j + 0) c5 ((hot1 l k ++ hot2 N j) ++ hot3 0)) := Lib.hid (J.out.as (by simp [hot3]))
                  go_wp2_with fail
                  go_loopw [7, 71] (fun a i wy => ∃ (q : Nat) (A : Option Addr) (c5 : Nat), a = .slice A (k + j + q) c5 ∧ i = .int .i64 q ∧ q ≤ k ∧ OInv x0 wy A (k + j + q) c5 ((hot1 l k ++ hot2 N j) ++ hot3 q)) (fun _ i _ => (k - intOf i).toNat)
                  case atStart => exact ⟨0, A, c5, rfl, rfl, by omega, K0.out⟩
                  case round =>
                    obtain ⟨q, A, c5, rfl, rfl, hq, hinv⟩ := hrel
                    have K := Lib.hid hinv
                    have BK := Lib.hid (next_below B0.out hinv.bel B0.out.size)
                    clear hinv K0
                    by_cases hlt3 : q < k
                    · have HO : Hid ((hot1 l k ++ hot2 N j) ++ hot3 (q + 1) = ((hot1 l k ++ hot2 N j) ++ hot3 q) ++ [⟨2, (q : Int), 0⟩]) := Lib.hid (by rw [hot3_next, List.append_assoc (hot1 l k ++ hot2 N j)])
                      have I2 := Lib.hid (K.out.alloc (.cells #[.int .i64 2, .int .i64 q, .int .i64 0] 37))
                      have hsX : x0.heap.size ≤ (wr.alloc (.cells #[.int .i64 2, .int .i64 q, .int .i64 0] 37)).heap.size := I2.out.bel.size
                      have HR := Lib.hid (one_fop wr ⟨2, (q : Int), 0⟩)
                      go_wp2_with (first
                        | (at_builtin; refine wpList_append_rd _ rfl (.tmp 74) (.tmp 77) 22 rfl x0.heap.size 37 i37 _ 3 24 Try.underlying22 hi37 hz0 hz1 hz2 hzz (by decide) _ (k + j + q) (pcells ((hot1 l k ++ hot2 N j) ++ hot3 q)) rfl I2.out.row _ _ 1 1 (pcells [⟨2, (q : Int), 0⟩]) rfl HR.out (pcells_one _) (by simp only [maxLen]; omega) (by omega) hsX ?_
                           intro A9 c9 x9 hown9 hg9
                           have I3 := Lib.hid ((I2.out.next hown9 hg9).as HO.out)
                           clear hown9 hg9))
                      go_roundw
                      case rel => exact ⟨q + 1, A9, c9, rfl, by go_num, by omega, I3.out⟩
                      case measure => simp [intOf]; omega
                    · obtain rfl : q = k := by omega
                      have R5 := Lib.hid (show Ops wr wr.heap.size A (q + j + q) c5 ((hot1 l q ++ hot2 N j) ++ hot3 q) from Words.Rd.of_own K.out.row)
                      have HPP := Lib.hid (HPO.out _ _ _ _ wr R5.out (Nat.le_refl _))
                      go_wp2_with fail
                      refine (HPP.out).mono ?_; rintro e x2 hx
                      obtain ⟨A1, c1, A2, wl, c2, rfl, hi1, hi2, hw, hb2⟩ := HGO.out _ _ _ (by omega) hx
                      have X1 := Lib.hid hi1
                      have X2 := Lib.hid hi2
                      have B2 := Lib.hid (next_below BK.out hb2 BK.out.size)
                      have h1 := hw.near _ (maxU_mem (l := wl) (k := wl.length - 1) (by rw [hw.len]; decide)) _ (minU_mem (l := wl) (k := wl.length - 1) (by rw [hw.len]; decide))
                      have h2 := hw.pos _ (minU_mem (l := wl) (k := wl.length - 1) (by rw [hw.len]; decide))
                      have h3 := hw.pos _ (maxU_mem (l := wl) (k := wl.length - 1) (by rw [hw.len]; decide))
                      have HM := Lib.hid (M13.out _ _ _ _ wl x2 X2.out (by decide))
                      have HL := Lib.hid (M14.out _ _ _ _ wl x2 X2.out (by decide))
                      unfold lmax at HM
                      unfold lmin at HL
                      generalize maxU wl (wl.length - 1) = mx at *
                      generalize minU wl (wl.length - 1) = mn at *
                      have hwr : IntKind.i64.wrap (mx - mn) = mx - mn := by rw [IntKind.wrap_i64]; omega
                      have hd3 : mx - mn ≤ 3 := by omega
                      clear hx hi1 hi2 hw hb2 h1 h2 h3
                      go_wp2_with fail
                      go_loopw [106] (fun i wz => ∃ (p : Nat), i = .int .i64 p ∧ p ≤ q ∧ wz = x2) (fun i _ => (q - intOf i).toNat)
                      case atStart => exact ⟨0, rfl, by omega, rfl⟩
                      case round =>
                        obtain ⟨p, rfl, hp, rfl⟩ := hrel
                        by_cases hlt4 : p < q
                        · obtain ⟨gl, ol, rfl, _, _⟩ := Words.Rd.row H.out (by omega)
                          obtain ⟨g1, o1, rfl, _, _⟩ := Words.Rd.row X1.out (by omega)
                          obtain ⟨x, hx⟩ : ∃ x, l[p]? = some x := ⟨_, List.getElem?_eq_getElem (by rw [L.out]; omega)⟩
                          have c0 := Ints.cellAt (Words.Rd.below H.out B2.out hB) rfl hx
                          have ha := HAN.out p hlt4
                          rw [List.getD_eq_getElem?_getD, hx] at ha
                          obtain ⟨d0, d1⟩ := Fans.cells X1.out rfl ha
                          have d0 : wr.cell? ⟨g1, o1 + (q + j + p) * 2, none⟩ = some (.int .i64 0) := d0
                          have d1 : wr.cell? ⟨g1, o1 + (q + j + p) * 2 + 1, none⟩ = some (.int .i64 (if (p : Int) = N ∧ 0 < j then (j : Int) - 1 else x)) := d1
                          have hwr3 : IntKind.i64.wrap ((j : Int) - 1) = (j : Int) - 1 := by rw [IntKind.wrap_i64]; omega
                          clear hx ha
                          by_cases hpN : (p : Int) = N
                          · subst hpN
                            have hb : ((p : Int) == (p : Int)) = true := by simp
                            by_cases hj0 : 0 < j
                            · rw [if_pos ⟨rfl, hj0⟩] at d1
                              have hjb : (j : Int) > 0 := by omega
                              have ht := fun w => neq_same (x := ⟨0, (j : Int) - 1⟩) (y := ⟨0, (j : Int) - 1⟩) rfl w
                              go_wp2_with fail
                              go_roundw
                              case rel => exact ⟨p + 1, by go_num, by omega, by first | rfl | trivial⟩
                              case measure => simp [intOf]; omega
                            · rw [if_neg (fun h => hj0 h.2)] at d1
                              have hjb : ¬ (j : Int) > 0 := by omega
                              have ht := fun w => neq_same (x := ⟨0, x⟩) (y := ⟨0, x⟩) rfl w
                              go_wp2_with fail
                              go_roundw
                              case rel => exact ⟨p + 1, by go_num, by omega, by first | rfl | trivial⟩
                              case measure => simp [intOf]; omega
                          · have hb : ((p : Int) == N) = false := by rw [beq_eq_false_iff_ne]; exact hpN
                            rw [if_neg (fun h => hpN h.1)] at d1
                            have ht := fun w => neq_same (x := ⟨0, x⟩) (y := ⟨0, x⟩) rfl w
                            go_wp2_with fail
                            go_roundw
                            case rel => exact ⟨p + 1, by go_num, by omega, by first | rfl | trivial⟩
                            case measure => simp [intOf]; omega
                        · go_wp2_with fail
                          refine (HM.out).mono ?_; rintro e x2 ⟨rfl, rfl⟩
                          go_wp2_with fail
                          refine (HL.out).mono ?_; rintro e x2 ⟨rfl, rfl⟩
                          go_wp2_with fail
                          go_ret
                          exact ⟨ret_bool (by first | (simp; done) | (simp; omega)), B2.out⟩
end Go.Proofs.Ytfohihdpohjmcaa.Ftl
