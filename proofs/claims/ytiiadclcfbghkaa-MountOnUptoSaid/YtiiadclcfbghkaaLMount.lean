/-
  What the document's own mounting returns.
-/
import Derived.Test.YtiiadclcfbghkaaCuts
namespace Go.Proofs.Ytiiadclcfbghkaa.Mnt
open Go.ChangeShapes Go.WideShapes Go.ChangeAt Go.RowKit Words
set_option linter.unusedVariables false

theorem sixteen {l : List Int} (h : l.length = 16) : ∃ t0 t1 t2 t3 t4 t5 t6 t7 t8 t9 t10 t11 t12 t13 t14 t15, l = [t0, t1, t2, t3, t4, t5, t6, t7, t8, t9, t10, t11, t12, t13, t14, t15] := by
  match l, h with
  | [t0, t1, t2, t3, t4, t5, t6, t7, t8, t9, t10, t11, t12, t13, t14, t15], _ => exact ⟨_, _, _, _, _, _, _, _, _, _, _, _, _, _, _, _, rfl⟩
structure LInv (w : World) (s : List Int) (ps : List Pg) (k : Nat) (W : World) : Prop where
  bel : Below w.heap.size w W
  cur : WI W w.heap.size 22 (run s (ps.take k))
  res : WI W (w.heap.size + 1) 22 zero16
  ok : allN (ps.take k) = true
theorem LInv.next {w W W' : World} {s fs : List Int} {ps : List Pg} {k : Nat} {p : Pg} (h : LInv w s ps k W) (hp : ps[k]? = some p) (hn : inN p = true) (hf : fs = foS (run s (ps.take k)) [p])
    (b : Below w.heap.size w W') (c : WI W' w.heap.size 22 fs) (r : WI W' (w.heap.size + 1) 22 zero16) : LInv w s ps (k + 1) W' :=
  ⟨b, c.as (by rw [hf, foS_yes (by rw [allN_one, hn]), take_next hp, run_app]), r, by rw [take_next hp, allN_app, allN_one, h.ok, hn]; rfl⟩
set_option maxRecDepth 100000 in
set_option maxHeartbeats 8000000 in
theorem lmount10 (s : List Int) (hs : s.length = 16) (q : Int) (B : Nat) (A : Option Addr) (n c : Nat) (l : List Pg) (w : World) (h : Pgs w B A n c l) (hB : B ≤ w.heap.size) (hn32 : n * 32 ≤ 140737488351232) :
    Calls Try.prog 10 #[av s, .int .i64 q, .slice A n c] w (Mounted w s l q) := by
  have HS := size22_of (l := zero16) rfl
  have HA := arr_all zero16
  have HSs := size22_of hs
  have HAs := arr_all s
  have W0 : Hid (WI ((w.alloc (.cells (icells s).toArray 22)).alloc (.cells (icells zero16).toArray 22)) w.heap.size 22 s) := Lib.hid ((WI.new w 22 s).alloc _)
  have W1 : Hid (WI ((w.alloc (.cells (icells s).toArray 22)).alloc (.cells (icells zero16).toArray 22)) (w.heap.size + 1) 22 zero16) := Lib.hid (by
    have := WI.new (w.alloc (.cells (icells s).toArray 22)) 22 zero16; rw [World.size_alloc] at this; exact this)
  have B0 : Hid (Below w.heap.size w ((w.alloc (.cells (icells s).toArray 22)).alloc (.cells (icells zero16).toArray 22))) := Lib.hid (two_blocks w _ _)
  cases hq : okF q with
  | false =>
    have HD := Lib.hid (okM_no (l := l) hq)
    have h0 := W1.out
    have HW := Lib.hid (wi_setRow h0 zero16)
    have HB := Lib.hid (below_setRow B0.out (show w.heap.size ≤ w.heap.size + 1 by omega) (icells zero16).toArray)
    have hq2 := okF_no.1 hq
    unfold av
    by_cases h1 : q < 0
    · clear hq hq2
      go_enter Try.func10, Try.ntmps10
      go_wp2_with (refine wpList_store_row rfl 22 (.tmp 6) (.tmp 19) rfl (w.heap.size + 1) (icells zero16).toArray rfl rfl 22 (icells zero16).toArray h0 HS rfl HA ?_)
      refine bodyPost_ret (results_acc rfl _ _ (w.heap.size + 1) 22 (icells zero16).toArray _ rfl HW.out Try.underlying22 rfl HS) rfl ?_
      exact mounted_bad HD.out HB.out
    · have h2 : 1099511627776 < q := by omega
      clear hq hq2
      go_enter Try.func10, Try.ntmps10
      go_wp2_with (refine wpList_store_row rfl 22 (.tmp 6) (.tmp 19) rfl (w.heap.size + 1) (icells zero16).toArray rfl rfl 22 (icells zero16).toArray h0 HS rfl HA ?_)
      refine bodyPost_ret (results_acc rfl _ _ (w.heap.size + 1) 22 (icells zero16).toArray _ rfl HW.out Try.underlying22 rfl HS) rfl ?_
      exact mounted_bad HD.out HB.out
  | true =>
    have HK := Lib.hid (okM_of (l := l) hq)
    have hle := sq_le l q
    have HL := Lib.hid h.len
    rw [HL.out] at hle
    obtain ⟨q0, q1⟩ := okF_yes.1 hq
    have HG := Lib.hid (sq_get l)
    have HE := Lib.hid (sq_end l q)
    obtain ⟨ps, hps⟩ : ∃ ps, ps = sq l q := ⟨_, rfl⟩
    have HP := Lib.hid hps
    rw [← hps] at HK hle HE
    obtain ⟨m, hm⟩ : ∃ m, m = ps.length := ⟨_, rfl⟩
    have HM := Lib.hid hm
    rw [← hm] at hle HE
    have hsm := Words.Rd.small h
    have H := Lib.hid h
    have I0 : Hid (LInv w s ps 0 ((w.alloc (.cells (icells s).toArray 22)).alloc (.cells (icells zero16).toArray 22))) := Lib.hid ⟨B0.out, W0.out, W1.out, rfl⟩
    have hn : n ≤ 4398046511000 := by omega
    clear hq hps hm h hn32 W0 W1
    unfold av
    go_enter Try.func10, Try.ntmps10
    go_wp2_with fail
    go_loopw [1] (fun v wr => ∃ (k : Nat) (z : Int), v = .int .i64 z ∧ z = q + k ∧ k ≤ m ∧ LInv w s ps k wr) (fun v _ => (q + m - intOf v).toNat)
    case atStart => exact ⟨0, q, rfl, by omega, by omega, I0.out⟩
    case round =>
      obtain ⟨k, z, rfl, hz, hk, hinv⟩ := hrel
      have I := Lib.hid hinv
      have HZ := Lib.hid hz
      have HF : Hid (ps[k]? = fi l z) := Lib.hid (by rw [HP.out, hz]; exact HG.out k q (by rw [← HP.out, ← HM.out]; exact hk))
      clear hinv I0
      have hzr : 0 ≤ z ∧ z ≤ 5500000000000 := by omega
      clear hz
      go_wp2_with fail
      go_loopw [9, 10] (fun x y wx => ∃ (j : Nat) (a b : Int), x = .int .i64 a ∧ y = .int .i64 b ∧ b = (j : Int) - 1 ∧ j ≤ n ∧ Sc l z j a ∧ wx = wr) (fun x y _ => (intOf y + 1).toNat)
      case atStart => exact ⟨n, -1, (n : Int) - 1, rfl, by go_num, rfl, by omega, by have := Sc.start (l := l) (q := z); rw [HL.out] at this; exact this, rfl⟩
      case round =>
        obtain ⟨j, a, b, rfl, rfl, hb, hj, hsc, rfl⟩ := hrel
        have SC := Lib.hid hsc
        clear hsc
        rcases Nat.eq_zero_or_pos j with h0 | h0
        · subst h0
          obtain rfl : b = -1 := by omega
          clear hb hj
          rcases SC.out.done with ⟨rfl, hfi⟩ | ⟨j, p, rfl, hlj, hfi⟩
          · have hkm : ¬ k < m := fun hlt => by
              have := HF.out
              rw [hfi, List.getElem?_eq_getElem (by rw [← HM.out]; exact hlt)] at this
              cases this
            obtain rfl : k = m := by omega
            have hall : ps.take k = ps := List.take_of_length_le (by rw [HM.out]; exact Nat.le_refl _)
            have hinv := I.out
            obtain ⟨bel, cur, res, ok⟩ := hinv
            rw [hall] at cur ok
            rw [ok] at HK
            have hal : (run s ps).length = 16 := by rw [run_length, hs]
            have HSL := size22_of hal
            have HAL := arr_all (run s ps)
            have HW := Lib.hid (wi_setRow res (run s ps))
            have HB := Lib.hid (below_setRow bel (show w.heap.size ≤ w.heap.size + 1 by omega) (icells (run s ps)).toArray)
            have hzs := z16_size hal
            have HQ : Hid (z = q + (sq l q).length) := Lib.hid (by rw [← HP.out, ← HM.out]; exact HZ.out)
            clear hfi hall bel ok hkm
            go_wp2_with (first
              | (refine wpList_load_row rfl 22 (.tmp 3) rfl w.heap.size rfl 22 (icells (run s ps)).toArray (0, 0) _ cur Try.underlying22 rfl HSL ?_)
              | (refine wpList_store_row rfl 22 (.tmp 6) (.tmp 44) rfl (w.heap.size + 1) (icells (run s ps)).toArray rfl rfl 22 (icells zero16).toArray res HSL hzs HAL ?_))
            refine bodyPost_ret (results_acc rfl _ _ (w.heap.size + 1) 22 (icells (run s ps)).toArray _ rfl HW.out Try.underlying22 rfl HSL) rfl ?_
            exact mounted_ok (ps := []) HK.out (by rw [HP.out]) HQ.out HB.out
          · have hk1 : k < m := by
              rcases Nat.lt_or_ge k m with h1 | h1
              · exact h1
              · have := HF.out
                rw [hfi, List.getElem?_eq_none (by rw [← HM.out]; exact h1)] at this
                cases this
            have hp : ps[k]? = some p := by rw [HF.out, hfi]
            have hjn : j < n := by have := (List.getElem?_eq_some_iff.1 hlj).1; rw [HL.out] at this; exact this
            obtain ⟨gl, ol, rfl, _, _⟩ := Words.Rd.row H.out (by omega)
            have hnc := Words.Rd.le H.out
            have hone : (l.take (j + 1)).drop j = [p] := by
              rw [take_next hlj, List.drop_append, List.drop_eq_nil_of_le (by rw [List.length_take]; omega), List.length_take, Nat.min_eq_left (by rw [HL.out]; omega), Nat.sub_self]; rfl
            have hr := I.out.cur
            have hal : (run s (ps.take k)).length = 16 := by rw [run_length, hs]
            have HSR := size22_of hal
            have HPC := Lib.hid (Pgs.mid (Words.Rd.below H.out I.out.bel hB) (show j ≤ j + 1 by omega) (show j + 1 ≤ n by omega))
            rw [hone, Nat.add_sub_cancel_left] at HPC
            clear hfi hlj hone
            have hw1 : IntKind.i64.wrap ((j : Int) + 1) = (j : Int) + 1 := by rw [IntKind.wrap_i64]; omega
            have hb1 : (0 : Int) ≤ (j : Int) + 1 := by omega
            have hb2 : (j : Int) + 1 ≤ (c : Int) := by omega
            have hb3 : ((j : Int) + 1).toNat = j + 1 := by omega
            have hb4 : ¬ (c = j) := by omega
            have hb5 : j + 1 - j = 1 := by omega
            have mx : Try.prog.follows .mixedOrders = true := by kernel_rfl
            obtain ⟨st, hst⟩ : ∃ st, run s (ps.take k) = st := ⟨_, rfl⟩
            have HST := Lib.hid hst
            rw [hst] at hr hal HSR
            clear hst
            have hBw : B ≤ wr.heap.size := Nat.le_trans hB I.out.bel.size
            have hza : (wr.alloc (.cells #[.int .i64 0, .int .i64 0, .int .i64 0, .int .i64 0, .int .i64 0, .int .i64 0, .int .i64 0, .int .i64 0, .int .i64 0, .int .i64 0, .int .i64 0, .int .i64 0, .int .i64 0, .int .i64 0, .int .i64 0, .int .i64 0] 22)).heap.size = wr.heap.size + 1 := World.size_alloc _ _
            have hrz := hr.alloc (.cells #[.int .i64 0, .int .i64 0, .int .i64 0, .int .i64 0, .int .i64 0, .int .i64 0, .int .i64 0, .int .i64 0, .int .i64 0, .int .i64 0, .int .i64 0, .int .i64 0, .int .i64 0, .int .i64 0, .int .i64 0, .int .i64 0] 22)
            have HC0 := lfold8 st hal _ _ _ _ [p] wr.drew (Words.Rd.drew HPC) hBw
            have HC1 := lfold8 st hal _ _ _ _ [p] (wr.alloc (.cells #[.int .i64 0, .int .i64 0, .int .i64 0, .int .i64 0, .int .i64 0, .int .i64 0, .int .i64 0, .int .i64 0, .int .i64 0, .int .i64 0, .int .i64 0, .int .i64 0, .int .i64 0, .int .i64 0, .int .i64 0, .int .i64 0] 22)).drew (Words.Rd.drew (Words.Rd.alloc HPC hBw (.cells #[.int .i64 0, .int .i64 0, .int .i64 0, .int .i64 0, .int .i64 0, .int .i64 0, .int .i64 0, .int .i64 0, .int .i64 0, .int .i64 0, .int .i64 0, .int .i64 0, .int .i64 0, .int .i64 0, .int .i64 0, .int .i64 0] 22))) (by show B ≤ (wr.alloc (.cells #[.int .i64 0, .int .i64 0, .int .i64 0, .int .i64 0, .int .i64 0, .int .i64 0, .int .i64 0, .int .i64 0, .int .i64 0, .int .i64 0, .int .i64 0, .int .i64 0, .int .i64 0, .int .i64 0, .int .i64 0, .int .i64 0] 22)).heap.size; omega)
            have hfl := foS_length (l := [p]) hal
            obtain ⟨fs, hfs⟩ : ∃ fs, fs = foS st [p] := ⟨_, rfl⟩
            obtain ⟨fe, hfe⟩ : ∃ fe, fe = foE [p] := ⟨_, rfl⟩
            unfold Folded at HC0 HC1
            rw [← hfs, ← hfe] at HC0 HC1
            rw [← hfs] at hfl
            have HFS := Lib.hid hfs
            obtain ⟨fb, hfb⟩ : ∃ fb, inN p = fb := ⟨_, rfl⟩
            have HPN := Lib.hid hfb
            have HPS := Lib.hid hp
            have HFE : Hid (fe = if fb = true then 0 else 2) := Lib.hid (by rw [hfe, foE, allN_one, hfb])
            clear hfs hfe hfb hp
            obtain ⟨t0, t1, t2, t3, t4, t5, t6, t7, t8, t9, t10, t11, t12, t13, t14, t15, rfl⟩ := sixteen hal
            have HC0 := Lib.hid HC0
            have HC1 := Lib.hid HC1
            have HR0 := Lib.hid hr
            have h16 : (icells fs).length = 16 := by rw [icells_length, hfl]
            have hz16 : zero16.length = fs.length := by rw [hfl]; rfl
            have HSV : ∀ (v : World), (storeCells ⟨v.heap.size, 0, none⟩ (icells fs) 0).run Try.prog (v.alloc (.cells #[.int .i64 0, .int .i64 0, .int .i64 0, .int .i64 0, .int .i64 0, .int .i64 0, .int .i64 0, .int .i64 0, .int .i64 0, .int .i64 0, .int .i64 0, .int .i64 0, .int .i64 0, .int .i64 0, .int .i64 0, .int .i64 0] 22)) = .ok () ((v.alloc (.cells #[.int .i64 0, .int .i64 0, .int .i64 0, .int .i64 0, .int .i64 0, .int .i64 0, .int .i64 0, .int .i64 0, .int .i64 0, .int .i64 0, .int .i64 0, .int .i64 0, .int .i64 0, .int .i64 0, .int .i64 0, .int .i64 0] 22)).setCells v.heap.size 0 (icells fs)) := fun v => store_16 (wi_z v) hz16
            have HZ0 := Lib.hid (wi_z wr)
            have e0 := hr.cell (i := 0) rfl
            have e1 := hr.cell (i := 1) rfl
            have e2 := hr.cell (i := 2) rfl
            have e3 := hr.cell (i := 3) rfl
            have e4 := hr.cell (i := 4) rfl
            have e5 := hr.cell (i := 5) rfl
            have e6 := hr.cell (i := 6) rfl
            have e7 := hr.cell (i := 7) rfl
            have e8 := hr.cell (i := 8) rfl
            have e9 := hr.cell (i := 9) rfl
            have e10 := hr.cell (i := 10) rfl
            have e11 := hr.cell (i := 11) rfl
            have e12 := hr.cell (i := 12) rfl
            have e13 := hr.cell (i := 13) rfl
            have e14 := hr.cell (i := 14) rfl
            have e15 := hr.cell (i := 15) rfl
            have g0 := hrz.cell (i := 0) rfl
            have g1 := hrz.cell (i := 1) rfl
            have g2 := hrz.cell (i := 2) rfl
            have g3 := hrz.cell (i := 3) rfl
            have g4 := hrz.cell (i := 4) rfl
            have g5 := hrz.cell (i := 5) rfl
            have g6 := hrz.cell (i := 6) rfl
            have g7 := hrz.cell (i := 7) rfl
            have g8 := hrz.cell (i := 8) rfl
            have g9 := hrz.cell (i := 9) rfl
            have g10 := hrz.cell (i := 10) rfl
            have g11 := hrz.cell (i := 11) rfl
            have g12 := hrz.cell (i := 12) rfl
            have g13 := hrz.cell (i := 13) rfl
            have g14 := hrz.cell (i := 14) rfl
            have g15 := hrz.cell (i := 15) rfl
            have R0 := Lib.hid I.out.res
            have P0 : Hid (Below w.heap.size w wr.drew) := Lib.hid I.out.bel.drew
            have P1 : Hid (Below w.heap.size w (wr.alloc (.cells #[.int .i64 0, .int .i64 0, .int .i64 0, .int .i64 0, .int .i64 0, .int .i64 0, .int .i64 0, .int .i64 0, .int .i64 0, .int .i64 0, .int .i64 0, .int .i64 0, .int .i64 0, .int .i64 0, .int .i64 0, .int .i64 0] 22)).drew) := Lib.hid (I.out.bel.alloc I.out.bel.size (.cells #[.int .i64 0, .int .i64 0, .int .i64 0, .int .i64 0, .int .i64 0, .int .i64 0, .int .i64 0, .int .i64 0, .int .i64 0, .int .i64 0, .int .i64 0, .int .i64 0, .int .i64 0, .int .i64 0, .int .i64 0, .int .i64 0] 22)).drew
            clear hr hrz HSR
            unfold av at HC0 HC1
            have hic : icells [t0, t1, t2, t3, t4, t5, t6, t7, t8, t9, t10, t11, t12, t13, t14, t15] = [.int .i64 t0, .int .i64 t1, .int .i64 t2, .int .i64 t3, .int .i64 t4, .int .i64 t5, .int .i64 t6, .int .i64 t7, .int .i64 t8, .int .i64 t9, .int .i64 t10, .int .i64 t11, .int .i64 t12, .int .i64 t13, .int .i64 t14, .int .i64 t15] := rfl
            rw [hic] at HC0 HC1
            clear hic
            go_upto_region 11 with fail
            go_region_law (first
              | (go_simp; (go_at_call 8; (first
                  | ((with_reducible refine (HC0.out).mono ?_); rintro e y ⟨rfl, b8⟩; have BY := Lib.hid (P0.out.trans (b8.mono P0.out.size)); have FW := Lib.hid (wi_setCells (wi_z y) hz16); have FB := Lib.hid (below_setCells BY.out.size (icells fs) 0 _ (BY.out.alloc BY.out.size (.cells #[.int .i64 0, .int .i64 0, .int .i64 0, .int .i64 0, .int .i64 0, .int .i64 0, .int .i64 0, .int .i64 0, .int .i64 0, .int .i64 0, .int .i64 0, .int .i64 0, .int .i64 0, .int .i64 0, .int .i64 0, .int .i64 0] 22))); have FR := Lib.hid (whole_setCells_other (((WI.below (WI.drewN R0.out 1) b8)).alloc (.cells #[.int .i64 0, .int .i64 0, .int .i64 0, .int .i64 0, .int .i64 0, .int .i64 0, .int .i64 0, .int .i64 0, .int .i64 0, .int .i64 0, .int .i64 0, .int .i64 0, .int .i64 0, .int .i64 0, .int .i64 0, .int .i64 0] 22)) (Nat.ne_of_lt (Nat.lt_of_lt_of_le R0.out.lt b8.size)) 0 (icells fs)); have FC := Lib.hid (whole_setCells_other (((WI.below (WI.drewN HR0.out 1) b8)).alloc (.cells #[.int .i64 0, .int .i64 0, .int .i64 0, .int .i64 0, .int .i64 0, .int .i64 0, .int .i64 0, .int .i64 0, .int .i64 0, .int .i64 0, .int .i64 0, .int .i64 0, .int .i64 0, .int .i64 0, .int .i64 0, .int .i64 0] 22)) (Nat.ne_of_lt (Nat.lt_of_lt_of_le HR0.out.lt b8.size)) 0 (icells fs)); clear b8)
                  | ((with_reducible refine (HC1.out).mono ?_); rintro e y ⟨rfl, b8⟩; have BY := Lib.hid (P1.out.trans (b8.mono P1.out.size)); have AV : WI y wr.heap.size 22 zero16 := WI.below (w := (wr.alloc (.cells #[.int .i64 0, .int .i64 0, .int .i64 0, .int .i64 0, .int .i64 0, .int .i64 0, .int .i64 0, .int .i64 0, .int .i64 0, .int .i64 0, .int .i64 0, .int .i64 0, .int .i64 0, .int .i64 0, .int .i64 0, .int .i64 0] 22)).drew) HZ0.out b8; have hst := store_16 AV hz16; have FW := Lib.hid (wi_setCells AV hz16); have FB := Lib.hid (below_setCells I.out.bel.size (icells fs) 0 _ BY.out); have FR := Lib.hid (whole_setCells_other (WI.below (w := (wr.alloc (.cells #[.int .i64 0, .int .i64 0, .int .i64 0, .int .i64 0, .int .i64 0, .int .i64 0, .int .i64 0, .int .i64 0, .int .i64 0, .int .i64 0, .int .i64 0, .int .i64 0, .int .i64 0, .int .i64 0, .int .i64 0, .int .i64 0] 22)).drew) (R0.out.alloc (.cells #[.int .i64 0, .int .i64 0, .int .i64 0, .int .i64 0, .int .i64 0, .int .i64 0, .int .i64 0, .int .i64 0, .int .i64 0, .int .i64 0, .int .i64 0, .int .i64 0, .int .i64 0, .int .i64 0, .int .i64 0, .int .i64 0] 22)) b8) (Nat.ne_of_lt R0.out.lt) 0 (icells fs)); have FC := Lib.hid (whole_setCells_other (WI.below (w := (wr.alloc (.cells #[.int .i64 0, .int .i64 0, .int .i64 0, .int .i64 0, .int .i64 0, .int .i64 0, .int .i64 0, .int .i64 0, .int .i64 0, .int .i64 0, .int .i64 0, .int .i64 0, .int .i64 0, .int .i64 0, .int .i64 0, .int .i64 0] 22)).drew) (HR0.out.alloc (.cells #[.int .i64 0, .int .i64 0, .int .i64 0, .int .i64 0, .int .i64 0, .int .i64 0, .int .i64 0, .int .i64 0, .int .i64 0, .int .i64 0, .int .i64 0, .int .i64 0, .int .i64 0, .int .i64 0, .int .i64 0, .int .i64 0] 22)) b8) (Nat.ne_of_lt HR0.out.lt) 0 (icells fs)); clear AV b8)))))
            all_goals
              have hfr := FR.out
              have hfc := FC.out
              have hfw := FW.out
              clear e0 e1 e2 e3 e4 e5 e6 e7 e8 e9 e10 e11 e12 e13 e14 e15 g0 g1 g2 g3 g4 g5 g6 g7 g8 g9 g10 g11 g12 g13 g14 g15 hb1 hb2 hb3 hb4 hb5 hw1 HSV
              cases fb with
              | false =>
                simp only [Bool.false_eq_true, if_false] at HFE
                obtain rfl := HFE.out
                have HD := Lib.hid (HK.out.trans (allN_bad HPS.out HPN.out))
                have HW := Lib.hid (wi_setRow hfr zero16)
                have HB := Lib.hid (below_setRow FB.out (show w.heap.size ≤ w.heap.size + 1 by omega) (icells zero16).toArray)
                clear HFE
                go_wp2_with (refine wpList_store_row rfl 22 (.tmp 6) (.tmp 58) rfl (w.heap.size + 1) (icells zero16).toArray rfl rfl 22 (icells zero16).toArray hfr HS rfl HA ?_)
                refine bodyPost_ret (results_acc rfl _ _ (w.heap.size + 1) 22 (icells zero16).toArray _ rfl HW.out Try.underlying22 rfl HS) rfl ?_
                exact mounted_bad HD.out HB.out
              | true =>
                simp only [if_true] at HFE
                obtain rfl := HFE.out
                have HN1 := Lib.hid (LInv.next I.out HPS.out HPN.out (HFS.out.trans (by rw [HST.out])) (below_setRow FB.out (Nat.le_refl _) (icells fs).toArray) (wi_setRow hfc fs) (WI.row hfr (icells fs).toArray _ (by omega)))
                have HSF := size22_of hfl
                have HAF := arr_all fs
                have hzs : (icells [t0, t1, t2, t3, t4, t5, t6, t7, t8, t9, t10, t11, t12, t13, t14, t15]).toArray.size = (icells fs).toArray.size := by rw [List.size_toArray, List.size_toArray, icells_length, icells_length, hfl]; rfl
                have hw2 : IntKind.i64.wrap (z + 1) = z + 1 := by rw [IntKind.wrap_i64]; omega
                have HZ1 : Hid (z + 1 = q + ((k + 1 : Nat) : Int)) := Lib.hid (by rw [HZ.out]; omega)
                clear HFE
                go_wp2_with (first
                  | (refine wpList_load_row rfl 22 (.tmp 11) rfl _ rfl 22 (icells fs).toArray (0, 0) _ hfw Try.underlying22 rfl HSF ?_)
                  | (refine wpList_store_row rfl 22 (.tmp 3) (.tmp 60) rfl w.heap.size (icells fs).toArray rfl rfl 22 _ hfc HSF hzs HAF ?_))
                go_roundw
                case rel => exact ⟨k + 1, z + 1, rfl, HZ1.out, hk1, HN1.out⟩
                case measure => have hz9 := HZ.out; simp only [intOf]; first | (simp; omega) | omega
        · obtain ⟨i, rfl⟩ : ∃ i, j = i + 1 := ⟨j - 1, by omega⟩
          obtain rfl : b = (i : Int) := by omega
          clear hb h0
          obtain ⟨gl, ol, rfl, _, _⟩ := Words.Rd.row H.out (by omega)
          obtain ⟨⟨xq, xn, xd, xw⟩, hx⟩ : ∃ x, l[i]? = some x := ⟨_, List.getElem?_eq_getElem (by rw [HL.out]; omega)⟩
          obtain ⟨c0, c1, c2, c3⟩ := Pgs.cells (Words.Rd.below H.out I.out.bel hB) rfl hx
          have HX := Lib.hid hx
          clear hx
          cases xw with
          | false =>
            go_wp2_with fail
            go_roundw
            case rel => exact ⟨i, a, (i : Int) - 1, rfl, by go_num, rfl, by omega, SC.out.miss HX.out (by simp [mt]), by first | rfl | trivial⟩
            case measure => first | (simp [intOf]; done) | (simp [intOf]; omega)
          | true =>
            by_cases hxe : xq = z
            · subst hxe
              go_wp2_with fail
              go_roundw
              case rel => exact ⟨i, (i : Int), (i : Int) - 1, rfl, by go_num, rfl, by omega, Sc.hit HX.out (by simp [mt]), by first | rfl | trivial⟩
              case measure => first | (simp [intOf]; done) | (simp [intOf]; omega)
            · have hbe : (xq == z) = false := by rw [beq_eq_false_iff_ne]; exact hxe
              have HM2 : Hid (mt z ⟨xq, xn, xd, true⟩ = false) := Lib.hid (by simp [mt, hxe])
              clear hxe
              go_wp2_with fail
              go_roundw
              case rel => exact ⟨i, a, (i : Int) - 1, rfl, by go_num, rfl, by omega, SC.out.miss HX.out HM2.out, by first | rfl | trivial⟩
              case measure => first | (simp [intOf]; done) | (simp [intOf]; omega)
end Go.Proofs.Ytiiadclcfbghkaa.Mnt
