/-
  Put.
-/
import Derived.Test.YtfcihgincfcdkaaRCutL
namespace Go.Proofs.Ytfcihgincfcdkaa.Rns
open Go.ChangeShapes Go.WideShapes Go.ChangeAt Go.RowKit Words Go.Sort
set_option linter.unusedVariables false

/-- What is kept while the runs behind are joined: the row so far, the row of those behind. -/
structure PJ (b0 : World) (A : Option Addr) (n c : Nat) (ps : List Rn) (A2 : Option Addr) (n2 c2 : Nat) (rs : List Rn) (W : World) : Prop where
  bel : Below b0.heap.size b0 W
  row : OwnRn W b0.heap.size A n c ps
  rest : OwnRn W b0.heap.size A2 n2 c2 rs
  apart : ∀ G, (Value.slice A2 n2 c2).ownBlock = some G → (Value.slice A n c).ownBlock ≠ some G
section
variable {b0 W W' : World} {A A2 A' : Option Addr} {n c n2 c2 n' c' : Nat} {ps rs ps' : List Rn}
theorem PJ.next (h : PJ b0 A n c ps A2 n2 c2 rs W) (hb : Below W.heap.size W W') : PJ b0 A n c ps A2 n2 c2 rs W' :=
  ⟨h.bel.trans (hb.mono h.bel.size), h.row.below hb (Nat.le_refl _), h.rest.below hb (Nat.le_refl _), h.apart⟩
theorem PJ.joined (h : PJ b0 A n c ps A2 n2 c2 rs W) (hj : Jnd b0.heap.size (.slice A n c) W W' A' n' c' ps') : PJ b0 A' n' c' ps' A2 n2 c2 rs W' :=
  ⟨below_grown h.bel h.row hj.grown h.bel.size (Nat.le_refl _), hj.row, Go.World.ownsRow.kept h.rest hj.grown (by
    cases hv : (Value.slice A2 n2 c2).ownBlock with
    | none => exact .inl rfl
    | some G => exact .inr (h.apart G hv).symm), fun G hG => hj.apart G (h.rest.lt G hG).2 (h.apart G hG)⟩
end
set_option maxHeartbeats 8000000 in
theorem put17 (B : Nat) (A : Option Addr) (n c : Nat) (l : List Rn) (r : Rn) (w : World) (h : Rns w B A n c l) (hB : B ≤ w.heap.size) :
    Calls Try.prog 17 #[.slice A n c, rval r] w fun e w' => ∃ A' c', e = .returned (.tuple #[.slice A' (pl l r).length c', .int .i64 (pe l r)]) ∧ OwnRn w' w.heap.size A' (pl l r).length c' (pl l r) ∧ Below w.heap.size w w' := by
  have mx := mixedO
  have HL := Lib.hid h.len
  have HNIL : Hid (∀ x : World, OwnRn x w.heap.size none 0 0 []) := Lib.hid fun x => Go.World.ownsRow_nil x _ 34 3
  obtain ⟨wb, hwb⟩ : ∃ wb, w.alloc (.cells (rcells r).toArray 34) = wb := ⟨_, rfl⟩
  have BX : Hid (Below w.heap.size w wb) := Lib.hid (by rw [← hwb]; exact boxed w _)
  have GX : Hid (Whole wb w.heap.size 34 (rcells r).toArray) := Lib.hid (by rw [← hwb]; exact Whole.new w 34 _)
  have H := Lib.hid (Words.Rd.below h BX.out hB)
  have hBb : B ≤ wb.heap.size := Nat.le_trans hB BX.out.size
  have HR := Lib.hid (right11 B A n c l wb H.out hBb)
  have HLIM := Lib.hid (limits20 r)
  have PF := Lib.hid (pe_form (l := l) r)
  have PR := Lib.hid (pe_run (l := l) (r := r))
  have PU := Lib.hid (pe_full (l := l) (r := r))
  have PO := Lib.hid (pe_ok (l := l) (r := r))
  have PJP := Lib.hid (put_jp (l := l) (r := r))
  have PLE : Hid ((afr (r.a + r.m) l).foldl jst (jst (bfr r.a l) r) = putL l r) := Lib.hid rfl
  obtain ⟨rr, hrr⟩ : ∃ rr, rr = r := ⟨_, rfl⟩
  have HRR := Lib.hid hrr
  clear hrr
  obtain ⟨ra, rd, rm⟩ := r
  have HWB : Hid (w.alloc (.cells #[.int .i64 ra, .int .i64 rd, .int .i64 rm] 34) = wb) := Lib.hid hwb
  unfold rval at HLIM ⊢
  simp only at HLIM PJP PLE ⊢
  clear h hwb
  cases hr : rt l with
  | false =>
    rw [hr] at HR
    have HF := Lib.hid (PF.out hr)
    clear hr
    rw [HF.out.1, HF.out.2]
    go_enter Try.func17, Try.ntmps17
    go_wp2_with fail
    rw [HWB.out]
    refine (HR.out).mono ?_; rintro e w1 ⟨rfl, b1⟩
    have B1 := Lib.hid (BX.out.trans (b1.mono BX.out.size))
    clear b1
    go_wp2_with fail
    go_ret2
    exact ⟨none, 0, rfl, HNIL.out _, B1.out⟩
  | true =>
    rw [hr] at HR
    have RT := Lib.hid hr
    have HO := Lib.hid (rt_all hr)
    have HN : n ≤ 1099511627777 := by have := rt_few hr; have := HL.out; omega
    clear hr
    cases ho : okR ⟨ra, rd, rm⟩ with
    | false =>
      rw [ho] at HLIM
      have HF := Lib.hid (PR.out RT.out ho)
      clear ho
      rw [HF.out.1, HF.out.2]
      go_enter Try.func17, Try.ntmps17
      go_wp2_with fail
      rw [HWB.out]
      refine (HR.out).mono ?_; rintro e w1 ⟨rfl, b1⟩
      have k0 := Whole.cell (whole_below2 GX.out b1) 0
      have k1 := Whole.cell (whole_below2 GX.out b1) 1
      have k2 := Whole.cell (whole_below2 GX.out b1) 2
      simp [rcells] at k0 k1 k2
      have B1 := Lib.hid (BX.out.trans (b1.mono BX.out.size))
      clear b1
      go_wp2_with fail
      refine (HLIM.out _).mono ?_; rintro e w2 ⟨rfl, L2⟩
      have B2 := Lib.hid (B1.out.trans (L2.below.mono B1.out.size))
      clear L2
      go_wp2_with fail
      go_ret2
      exact ⟨none, 0, rfl, HNIL.out _, B2.out⟩
    | true =>
      rw [ho] at HLIM
      obtain ⟨o1, o2, o3, o4, o5, o6⟩ := okR_yes.1 ho
      simp only at o1 o2 o3 o4 o5 o6
      have OK := Lib.hid ho
      have hwe : IntKind.i64.wrap (ra + rm) = ra + rm := by rw [IntKind.wrap_i64]; omega
      have HE := Lib.hid (fun w => end19 ⟨ra, rd, rm⟩ w hwe)
      unfold rval at HE
      simp only at HE
      have lb := bfr_length ra l
      have la := afr_length (ra + rm) l
      rw [HL.out] at lb la
      clear ho hwe
      go_enter Try.func17, Try.ntmps17
      go_wp2_with fail
      rw [HWB.out]
      refine (HR.out).mono ?_; rintro e w1 ⟨rfl, b1⟩
      have X1 := whole_below2 GX.out b1
      have k0 := Whole.cell X1 0
      have k1 := Whole.cell X1 1
      have k2 := Whole.cell X1 2
      simp [rcells] at k0 k1 k2
      have B1 := Lib.hid b1
      clear b1 X1
      go_wp2_with fail
      refine (HLIM.out _).mono ?_; rintro e w2 ⟨rfl, L2⟩
      have B2 := Lib.hid (B1.out.trans (L2.below.mono B1.out.size))
      clear k0 k1 k2
      have X2 := whole_below2 GX.out B2.out
      have k0 := Whole.cell X2 0
      have k1 := Whole.cell X2 1
      have k2 := Whole.cell X2 2
      simp [rcells] at k0 k1 k2
      have JP0 := Lib.hid (PJP.out RT.out OK.out)
      have lj := jst_length (bfr ra l) ⟨ra, rd, rm⟩
      have BJ : Hid (Bnd (bfr ra l ++ [⟨ra, rd, rm⟩])) := Lib.hid fun p hp => by
        rcases List.mem_append.1 hp with hp | hp
        · exact bfr_bd ra HO.out p hp
        · rw [List.mem_singleton] at hp; subst hp; exact ⟨o1, o3, by show ra + rm ≤ _; omega, o2, by show rd ≤ _; omega⟩
      obtain ⟨qs, hqs⟩ : ∃ qs, qs = jst (bfr ra l) ⟨ra, rd, rm⟩ := ⟨_, rfl⟩
      have HQS := Lib.hid hqs
      rw [← hqs] at JP0 lj PLE
      clear L2 X2 hqs
      go_upto_region 3 with fail
      go_cut [6] (fun u wx => ∃ A5 c5, u = .slice A5 qs.length c5 ∧ OwnRn wx wb.heap.size A5 qs.length c5 qs ∧ Below wb.heap.size wb wx)
      case first =>
        have HBF := Lib.hid (before23 B A n c l ra w2.drew (Words.Rd.drew (Words.Rd.below H.out B2.out hBb)) (Nat.le_trans hBb B2.out.size) HO.out HN ⟨by omega, by omega⟩)
        go_wp2_with fail
        go_region_with (first | (go_at_call 23; refine (HBF.out).mono ?_; rintro e w5 ⟨A5, c5, rfl, P5⟩
                                 have B5 := Lib.hid ((B2.out.drew).trans (P5.bel.mono B2.out.size))
                                 have X5 := whole_below2 GX.out B5.out
                                 have q0 := Whole.cell X5 0
                                 have q1 := Whole.cell X5 1
                                 have q2 := Whole.cell X5 2
                                 simp [rcells] at q0 q1 q2
                                 have O5 := Lib.hid (P5.row.more (show wb.heap.size ≤ w2.drew.heap.size from B2.out.size))
                                 have HJ := Lib.hid (join25 wb.heap.size A5 _ c5 _ ⟨ra, rd, rm⟩ w5 O5.out B5.out.size (by omega) BJ.out)
                                 clear X5 P5) |
                                (go_at_call 25; refine (HJ.out).mono ?_; rintro e w6 ⟨A6, c6, rfl, J6⟩))
        all_goals
          go_wp2_with fail
          go_meet
          exact ⟨A6, c6, by rw [HQS.out], by rw [HQS.out]; exact J6.row, below_grown B5.out O5.out J6.grown B5.out.size (Nat.le_refl _)⟩
      case rest =>
        obtain ⟨A5, c5, rfl, o5, b5⟩ := hcut
        have O5 := Lib.hid o5
        have B5 := Lib.hid b5
        have X5 := whole_below2 GX.out b5
        have p0 := Whole.cell X5 0
        have p1 := Whole.cell X5 1
        have p2 := Whole.cell X5 2
        simp [rcells] at p0 p1 p2
        clear o5 b5 X5 k0 k1 k2
        go_wp2_with fail
        refine (HE.out _).mono ?_; rintro e w6 ⟨rfl, L6⟩
        have B6 := Lib.hid (B5.out.trans (L6.below.mono B5.out.size))
        have O6 := Lib.hid (O5.out.below L6.below (Nat.le_refl _))
        clear L6 p0 p1 p2
        have HAF := Lib.hid (after24 B A n c l (ra + rm) w6 (Words.Rd.below H.out B6.out hBb) (Nat.le_trans hBb B6.out.size) HO.out HN ⟨by omega, by omega⟩)
        obtain ⟨rs, hrs⟩ : ∃ rs, rs = afr (ra + rm) l := ⟨_, rfl⟩
        have HRS := Lib.hid hrs
        rw [← hrs] at HAF la JP0 PLE
        clear hrs
        obtain ⟨m2, hm2⟩ : ∃ m2, m2 = rs.length := ⟨_, rfl⟩
        have HM2 := Lib.hid hm2
        rw [← hm2] at HAF la
        clear hm2
        go_wp2_with fail
        refine (HAF.out).mono ?_; rintro e w7 ⟨A7, c7, rfl, P7⟩
        have PJ7 : Hid (PJ wb A5 qs.length c5 qs A7 m2 c7 rs w7) := Lib.hid ⟨B6.out.trans (P7.bel.mono B6.out.size), O6.out.below P7.bel (Nat.le_refl _), P7.row.more B6.out.size, fun G hG he => by
          have h1 := (P7.row.lt G hG).1
          have h2 := (O6.out.lt G he).2
          omega⟩
        clear P7
        go_wp2_with fail
        go_loopw [6, 28] (fun s k wr => ∃ (j i : Nat) (A' : Option Addr) (c' : Nat) (ps : List Rn), s = .slice A' i c' ∧ k = .int .i64 j ∧ j ≤ m2 ∧ ps = (rs.take j).foldl jst qs ∧ PJ wb A' i c' ps A7 m2 c7 rs wr) (fun _ k _ => (m2 - intOf k).toNat)
        case atStart => exact ⟨0, _, A5, c5, qs, rfl, rfl, by omega, rfl, PJ7.out⟩
        case round =>
          obtain ⟨j, i, A', c', ps, rfl, rfl, hj, hps, hpt⟩ := hrel
          have PP := Lib.hid hpt
          have HPS := Lib.hid hps
          have hlen := hpt.row.len
          have hfl := fold_len (rs.take j) qs
          rw [← hps, List.length_take, Nat.min_eq_left (by rw [← HM2.out]; exact hj)] at hfl
          clear hps hpt
          by_cases hlt : j < m2
          · obtain ⟨g7, rfl, _, _⟩ := OwnRn.addr PP.out.rest (by omega)
            have HX : Hid (rs[j]? = some (nth rs j)) := Lib.hid (nth_get (by rw [← HM2.out]; exact hlt))
            obtain ⟨c0, c1, c2⟩ := PP.out.rest.at_ hlt
            have PA := Lib.hid (PP.out.next (boxed wr (.cells (rcells (nth rs j)).toArray 34)))
            have JPj := jp_take JP0.out j
            have BJ2 : Hid (Bnd (ps ++ [nth rs j])) := Lib.hid fun p hp => by
              rw [drop_next HX.out, ← HPS.out] at JPj
              refine JPj.bd p ?_
              rcases List.mem_append.1 hp with hp | hp
              · exact List.mem_append_left _ hp
              · rw [List.mem_singleton] at hp; subst hp; simp
            have HNX := Lib.hid (fold_next (s := qs) HX.out)
            have HJ := Lib.hid (join25 wb.heap.size A' i c' ps (nth rs j) _ PA.out.row PA.out.bel.size (by omega) BJ2.out)
            obtain ⟨x, hx⟩ : ∃ x, x = nth rs j := ⟨_, rfl⟩
            rw [← hx] at c0 c1 c2 PA HJ HNX
            clear hx JPj
            obtain ⟨xa, xd, xm⟩ := x
            simp only at c0 c1 c2
            unfold rval at HJ
            simp only at HJ
            go_wp2_with fail
            refine (HJ.out).mono ?_; rintro e w8 ⟨A8, c8, rfl, J8⟩
            have P8 := Lib.hid (PA.out.joined J8)
            clear J8
            go_wp2_with fail
            go_roundw
            case rel => exact ⟨j + 1, _, A8, c8, _, rfl, by go_num, by omega, by rw [HNX.out, ← HPS.out], P8.out⟩
            case measure => simp [intOf]; omega
          · obtain rfl : j = m2 := by omega
            have hall : ps = putL l ⟨ra, rd, rm⟩ := by
              rw [HPS.out, List.take_of_length_le (by rw [← HM2.out]; exact Nat.le_refl _)]
              exact PLE.out
            have HALL := Lib.hid hall
            rw [hall] at hlen
            have HLEN := Lib.hid hlen
            have O8 := PP.out.row
            rw [hall] at O8
            have O9 := Lib.hid O8
            have B9 := Lib.hid PP.out.bel
            clear hall hlen O8
            cases h6 : rt (putL l ⟨ra, rd, rm⟩) with
            | false =>
              have HF := Lib.hid (PU.out RT.out OK.out h6)
              have HY := Lib.hid (only22_no wr.heap.size A' i c' _ wr O9.out.rns (Nat.le_refl _) h6)
              clear h6
              go_wp2_with fail
              refine (HY.out).mono ?_; rintro e w9 ⟨rfl, b9⟩
              have BZ := Lib.hid (BX.out.trans ((B9.out.trans (b9.mono B9.out.size)).mono BX.out.size))
              clear b9
              go_wp2_with fail
              go_ret2
              rw [HF.out.1, HF.out.2]
              exact ⟨none, 0, rfl, HNIL.out _, BZ.out⟩
            | true =>
              have HF := Lib.hid (PO.out RT.out OK.out h6)
              have HY := Lib.hid (only22_yes wr.heap.size A' i c' _ wr O9.out.rns (Nat.le_refl _) h6)
              clear h6
              go_wp2_with fail
              refine (HY.out).mono ?_; rintro e w9 ⟨rfl, b9⟩
              have BZ := Lib.hid (BX.out.trans ((B9.out.trans (b9.mono B9.out.size)).mono BX.out.size))
              have OZ := Lib.hid ((O9.out.below b9 (Nat.le_refl _)).more BX.out.size)
              clear b9
              go_wp2_with fail
              go_ret2
              rw [HF.out.1, HF.out.2, HLEN.out]
              exact ⟨A', c', rfl, OZ.out, BZ.out⟩
end Go.Proofs.Ytfcihgincfcdkaa.Rns
