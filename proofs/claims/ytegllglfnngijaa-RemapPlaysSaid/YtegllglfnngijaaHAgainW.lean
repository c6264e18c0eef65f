/-
  What the document's own Again returns.
-/
import Derived.Test.YtegllglfnngijaaAgainW
namespace Go.Proofs.Ytegllglfnngijaa.Rem
open Go.ChangeShapes Go.WideShapes Go.ChangeAt Go.RowKit Words
set_option linter.unusedVariables false

/-- Behind m rounds of the second loop. -/
def hs (l : List Int) (m : Nat) : List Int := (lasts l l.length).take m ++ List.replicate (16 - m) 0
theorem hs_zero (l : List Int) : hs l 0 = zero16 := by unfold hs; simp; rfl
theorem hs_all (l : List Int) : hs l 16 = lasts l l.length := by
  unfold hs
  rw [List.take_of_length_le (by rw [lasts_length]; exact Nat.le_refl _)]; simp
theorem hs_length (l : List Int) {m : Nat} (hm : m ≤ 16) : (hs l m).length = 16 := by
  unfold hs
  rw [List.length_append, List.length_take, lasts_length, List.length_replicate]; omega
theorem hs_set {l : List Int} {m : Nat} (hm : m < 16) {v : Int} (hv : (lasts l l.length)[m]? = some v) : (hs l m).set m v = hs l (m + 1) := by
  have hl : ((lasts l l.length).take m).length = m := by rw [List.length_take, lasts_length]; omega
  unfold hs
  rw [List.set_append_right _ _ (by rw [hl]; exact Nat.le_refl _), hl, Nat.sub_self, show 16 - m = (16 - (m + 1)) + 1 by omega, List.replicate_succ, List.set_cons_zero, List.take_add_one, hv, List.append_assoc]
  rfl
/-- None of n above j. -/
def Above (l : List Int) (n : Nat) (j : Int) : Prop := -1 ≤ j ∧ j < l.length ∧ ∀ i : Nat, j < i → i < l.length → l[i]? ≠ some (n : Int)
theorem above_start (l : List Int) (n : Nat) : Above l n ((l.length : Int) - 1) := ⟨by omega, by omega, fun i h1 h2 => by omega⟩
theorem above_next {l : List Int} {n : Nat} {j : Nat} {x : Int} (h : Above l n j) (hx : l[j]? = some x) (hne : x ≠ n) : Above l n ((j : Int) - 1) := by
  refine ⟨by omega, by have := h.2.1; omega, fun i h1 h2 => ?_⟩
  by_cases e : i = j
  · subst e
    rw [hx]
    intro h
    injection h with h
    exact hne h
  · exact h.2.2 i (by omega) h2
theorem above_none {l : List Int} {n : Nat} (h : Above l n (-1)) : IsLast l l.length n (-1) := .inl ⟨rfl, fun i hi => h.2.2 i (by omega) hi⟩
theorem above_some {l : List Int} {n j : Nat} (h : Above l n j) (hx : l[j]? = some (n : Int)) : IsLast l l.length n j := .inr ⟨j, rfl, by have := h.2.1; omega, hx, fun i h1 h2 => h.2.2 i (by omega) h2⟩
theorem last_at {l : List Int} (ha : allN l = true) {n : Nat} (hn : n < 16) {v : Int} (h : IsLast l l.length n v) : (lasts l l.length)[n]? = some v := by
  obtain ⟨u, hu, hi⟩ := lasts_is ha (Nat.le_refl _) hn
  rw [hu, isLast_one hi h]
structure HInv (w : World) (l : List Int) (wx : World) : Prop where
  bel : Below w.heap.size w wx
  res : WI wx w.heap.size 25 zero16
  cur : WI wx (w.heap.size + 1) 25 zero16
structure HInv2 (w : World) (l : List Int) (cur : List Int) (wx : World) : Prop where
  bel : Below w.heap.size w wx
  res : WI wx w.heap.size 25 zero16
  cur : WI wx (w.heap.size + 1) 25 cur
theorem HInv2.put {w wx : World} {l cur : List Int} (h : HInv2 w l cur wx) (m : Nat) (v : Int) : HInv2 w l (cur.set m v) (wx.setCell ⟨w.heap.size + 1, m, none⟩ (.int .i64 v)) :=
  ⟨h.bel.setCell (Nat.le_succ _) _, h.res.other (by show w.heap.size + 1 ≠ w.heap.size; omega) _, h.cur.set_ m v⟩
theorem HInv2.as {w wx : World} {l cur cur' : List Int} (h : HInv2 w l cur wx) (e : cur' = cur) : HInv2 w l cur' wx := by subst e; exact h
def cellI (w : World) (a : Addr) : Int := match w.cell? a with | some (.int .i64 v) => v | _ => 0
theorem cellI_is {w : World} {a : Addr} {v : Int} (h : w.cell? a = some (.int .i64 v)) : cellI w a = v := by unfold cellI; rw [h]
set_option maxHeartbeats 4000000 in
theorem hagain11 (B : Nat) (A : Option Addr) (n c : Nat) (l : List Int) (w : World) (h : Ints w B A n c l) (hB : B ≤ w.heap.size) :
    Calls Try.prog 11 #[.slice A n c] w (Found w l) := by
  have HS := size25_of (l := zero16) rfl
  have HA := arr_all zero16
  have hz2 : WI ((w.alloc (.cells (icells zero16).toArray 25)).alloc (.cells (icells zero16).toArray 25)) (w.heap.size + 1) 25 zero16 := by
    have := WI.new (w.alloc (.cells (icells zero16).toArray 25)) 25 zero16
    rw [World.size_alloc] at this
    exact this
  have I0 : Hid (HInv2 w l zero16 ((w.alloc (.cells (icells zero16).toArray 25)).alloc (.cells (icells zero16).toArray 25))) := Lib.hid
    ⟨two_blocks w _ _, (WI.new w 25 _).alloc _, hz2⟩
  have L := Lib.hid h.len
  have hm := Words.Rd.small h
  have H := Lib.hid h
  clear h hz2
  go_enter Try.func11, Try.ntmps11
  go_wp2_with fail
  go_loopw [10] (fun i wr => ∃ (k : Nat), i = .int .i64 k ∧ k ≤ n ∧ HInv2 w l zero16 wr ∧ okTo l k) (fun i _ => (n - intOf i).toNat)
  case atStart => exact ⟨0, rfl, by omega, I0.out, okTo_zero l⟩
  case round =>
    obtain ⟨k, rfl, hk, hinv, hok⟩ := hrel
    have I := Lib.hid hinv
    have OK := Lib.hid hok
    clear hinv hok I0
    by_cases hlt : k < n
    · obtain ⟨gl, ol, rfl, _, _⟩ := Words.Rd.row H.out (by omega)
      obtain ⟨x, hx⟩ : ∃ x, l[k]? = some x := ⟨_, List.getElem?_eq_getElem (by rw [L.out]; exact hlt)⟩
      have c0 := Ints.cellAt (Words.Rd.below H.out I.out.bel hB) rfl hx
      have HX := Lib.hid hx
      clear hx
      by_cases hr : 0 ≤ x ∧ x < 16
      · have OK1 := Lib.hid (okTo_next OK.out HX.out (isN_yes.2 hr))
        go_wp2_with fail
        go_roundw
        case rel => exact ⟨k + 1, by go_num, by omega, I.out, OK1.out⟩
        case measure => simp [intOf]; omega
      · have HD := Lib.hid (not_all HX.out (isN_no.2 hr))
        have h0 := I.out.res
        have HW := Lib.hid (wi_setRow h0 zero16)
        have HB := Lib.hid (below_setRow I.out.bel (Nat.le_refl _) (icells zero16).toArray)
        by_cases h1 : x < 0
        · clear hr
          go_wp2_with (refine wpList_store_row rfl 25 (.tmp 2) (.tmp 20) rfl w.heap.size (icells zero16).toArray rfl rfl 25 (icells zero16).toArray h0 HS rfl HA ?_)
          refine bodyPost_ret (results_ac rfl _ _ w.heap.size 25 (icells zero16).toArray _ rfl HW.out Try.underlying25 rfl HS) rfl ?_
          exact found_bad HD.out HB.out
        · have h2 : x > 15 := by omega
          clear hr
          go_wp2_with (refine wpList_store_row rfl 25 (.tmp 2) (.tmp 20) rfl w.heap.size (icells zero16).toArray rfl rfl 25 (icells zero16).toArray h0 HS rfl HA ?_)
          refine bodyPost_ret (results_ac rfl _ _ w.heap.size 25 (icells zero16).toArray _ rfl HW.out Try.underlying25 rfl HS) rfl ?_
          exact found_bad HD.out HB.out
    · obtain rfl : k = n := by omega
      have HALL := Lib.hid (okTo_all OK.out (by rw [L.out]; exact Nat.le_refl _))
      have J0 := Lib.hid (I.out.as (hs_zero l))
      go_wp2_with fail
      go_loopw [22] (fun i ws => ∃ (m : Nat), i = .int .i64 m ∧ m ≤ 16 ∧ HInv2 w l (hs l m) ws) (fun i _ => (16 - intOf i).toNat)
      case atStart => exact ⟨0, rfl, by omega, J0.out⟩
      case round =>
        obtain ⟨m, rfl, hm2, hinv⟩ := hrel
        have J := Lib.hid hinv
        clear hinv J0
        by_cases hlt2 : m < 16
        · obtain ⟨z, hz⟩ : ∃ z, (hs l m)[m]? = some z := ⟨_, List.getElem?_eq_getElem (by rw [hs_length l (by omega)]; exact hlt2)⟩
          have q0 := J.out.cur.cell hz
          have q1 := J.out.cur.frozen m
          have K0 := Lib.hid (J.out.put m ((k : Int) - 1))
          have hwr : IntKind.i64.wrap ((k : Int) - 1) = (k : Int) - 1 := by rw [IntKind.wrap_i64]; omega
          have A0 := Lib.hid (above_start l m)
          rw [L.out] at A0
          clear hz
          go_wp2_with fail
          go_loopw [] (fun wt => ∃ (j : Int), HInv2 w l ((hs l m).set m j) wt ∧ Above l m j) (fun wt => (cellI wt ⟨w.heap.size + 1, m, none⟩ + 1).toNat)
          case atStart => exact ⟨(k : Int) - 1, K0.out, A0.out⟩
          case round =>
            obtain ⟨j, hinv, hab⟩ := hrel
            have K := Lib.hid hinv
            have AB := Lib.hid hab
            clear hinv hab K0 A0 q0 q1
            have hj1 := AB.out.1
            have hj2 := AB.out.2.1
            rw [L.out] at hj2
            have hcur : ((hs l m).set m j)[m]? = some j := by rw [List.getElem?_set, if_pos rfl, if_pos (by rw [hs_length l (by omega)]; exact hlt2)]
            have q0 := K.out.cur.cell hcur
            have q1 := K.out.cur.frozen m
            clear hcur
            by_cases hj : j = -1
            · subst hj
              have J1 := Lib.hid (K.out.as (hs_set hlt2 (last_at HALL.out hlt2 (above_none AB.out))).symm)
              go_wp2_with fail
              go_roundw
              case rel => exact ⟨m + 1, by go_num, by omega, J1.out⟩
              case measure => simp [intOf]; omega
            · obtain ⟨jn, rfl⟩ : ∃ y : Nat, j = y := ⟨j.toNat, by omega⟩
              have hjn : jn < k := by omega
              obtain ⟨gl, ol, rfl, _, _⟩ := Words.Rd.row H.out (by omega)
              obtain ⟨x, hx⟩ : ∃ x, l[jn]? = some x := ⟨_, List.getElem?_eq_getElem (by rw [L.out]; exact hjn)⟩
              have c0 := Ints.cellAt (Words.Rd.below H.out K.out.bel hB) rfl hx
              have HX := Lib.hid hx
              clear hx hj
              by_cases hxm : x = (m : Int)
              · subst hxm
                have J1 := Lib.hid (K.out.as (hs_set hlt2 (last_at HALL.out hlt2 (above_some AB.out HX.out))).symm)
                have hbn : ((m : Int) != (m : Int)) = false := by simp
                go_wp2_with fail
                go_roundw
                case rel => exact ⟨m + 1, by go_num, by omega, J1.out⟩
                case measure => simp [intOf]; omega
              · have hbn : (x != (m : Int)) = true := by rw [bne_iff_ne]; exact hxm
                have A1 := Lib.hid (above_next AB.out HX.out hxm)
                have K1 := Lib.hid ((K.out.put m ((jn : Int) - 1)).as (cur' := (hs l m).set m ((jn : Int) - 1)) (by rw [List.set_set]))
                have hwr1 : IntKind.i64.wrap ((jn : Int) - 1) = (jn : Int) - 1 := by rw [IntKind.wrap_i64]; omega
                have hC1 := cellI_is q0
                have hC2 : cellI (wr.setCell ⟨w.heap.size + 1, m, none⟩ (.int .i64 ((jn : Int) - 1))) ⟨w.heap.size + 1, m, none⟩ = (jn : Int) - 1 := cellI_is (K1.out.cur.cell (by rw [List.getElem?_set, if_pos rfl, if_pos (by rw [hs_length l (by omega)]; exact hlt2)]))
                have HC1 := Lib.hid hC1
                have HC2 := Lib.hid hC2
                clear hxm hC1 hC2
                go_wp2_with fail
                go_roundw
                case rel => exact ⟨(jn : Int) - 1, K1.out, A1.out⟩
                case measure => rw [HC1.out, HC2.out]; omega
        · obtain rfl : m = 16 := by omega
          have h0 := J.out.res
          have h1 := J.out.cur.as (hs_all l).symm
          rw [L.out] at h1
          have hal := lasts_length l k
          have HSL := size25_of hal
          have HAL := arr_all (lasts l k)
          have HW := Lib.hid (wi_setRow h0 (lasts l k))
          have HB := Lib.hid (below_setRow J.out.bel (Nat.le_refl _) (icells (lasts l k)).toArray)
          have hzs : (icells zero16).toArray.size = (icells (lasts l k)).toArray.size := by simp [icells_length, hal]; rfl
          go_wp2_with (first
            | (refine wpList_load_row rfl 25 (.tmp 4) rfl (w.heap.size + 1) rfl 25 (icells (lasts l k)).toArray (0, 0) _ h1 Try.underlying25 rfl HSL ?_)
            | (refine wpList_store_row rfl 25 (.tmp 2) (.tmp 50) rfl w.heap.size (icells (lasts l k)).toArray rfl rfl 25 (icells zero16).toArray h0 HSL hzs HAL ?_))
          refine bodyPost_ret (results_ac rfl _ _ w.heap.size 25 (icells (lasts l k)).toArray _ rfl HW.out Try.underlying25 rfl HSL) rfl ?_
          exact found_ok HALL.out L.out HB.out
end Go.Proofs.Ytegllglfnngijaa.Rem
