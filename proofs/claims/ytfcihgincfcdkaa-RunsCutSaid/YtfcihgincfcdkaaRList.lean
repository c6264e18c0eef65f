/-
  The document's own answer.
-/
import Derived.Test.YtfcihgincfcdkaaRRange
import Derived.Test.YtfcihgincfcdkaaRCells
import Derived.Test.YtfcihgincfcdkaaRJoin
namespace Go.Proofs.Ytfcihgincfcdkaa.Rns
open Go.ChangeShapes Go.WideShapes Go.ChangeAt Go.RowKit Words
set_option linter.unusedVariables false

def slen : Value → Nat
  | .slice _ n _ => n
  | _ => 0

/-- What the document's own answer is. -/
def Listed (w : World) (l : List Rn) (r : Rn) (put : Bool) (e : Ending) (w' : World) : Prop :=
  ∃ A c out, e = .returned (.tuple #[.slice A out.length c, .bool (rt out)]) ∧ Upd l r put out ∧ OwnRn w' w.heap.size A out.length c out ∧ Below w.heap.size w w'
set_option maxRecDepth 100000 in
set_option maxHeartbeats 8000000 in
theorem mlist15 (B : Nat) (A : Option Addr) (n c : Nat) (l : List Rn) (r : Rn) (put : Bool) (w : World) (h : Rns w B A n c l) (hB : B ≤ w.heap.size) (hl : Oks l) (hr : okR r = true) (hn : n ≤ 1099511627777) :
    Calls Try.prog 15 #[.slice A n c, rval r, .bool put] w (Listed w l r put) := by
  have HN := h.small
  have HL := Lib.hid h.len
  have H := Lib.hid h
  have HO := Lib.hid hl
  have HRR := Lib.hid hr
  obtain ⟨ra, rd, rm⟩ := r
  obtain ⟨o1, o2, o3, o4, o5, o6⟩ := okR_yes.1 hr
  simp only at o1 o2 o3 o4 o5 o6
  have hw1 : IntKind.i64.wrap (ra + rm) = ra + rm := by rw [IntKind.wrap_i64]; omega
  have hbx : Whole (w.alloc (.cells (rcells ⟨ra, rd, rm⟩).toArray 34)) w.heap.size 34 (rcells ⟨ra, rd, rm⟩).toArray := Whole.new w 34 _
  have hm0 := EMap.new (w.alloc (.cells (rcells ⟨ra, rd, rm⟩).toArray 34))
  rw [World.size_alloc] at hm0
  have hb0 : Below w.heap.size w ((w.alloc (.cells (rcells ⟨ra, rd, rm⟩).toArray 34)).alloc (.map #[] 0)).drew := (two_blocks w _ _).drew
  have x0 : Whole ((w.alloc (.cells (rcells ⟨ra, rd, rm⟩).toArray 34)).alloc (.map #[] 0)).drew w.heap.size 34 (rcells ⟨ra, rd, rm⟩).toArray := hbx.alloc _
  obtain ⟨W1, hr1, hm1, hg1⟩ := (EMap.drew hm0).put (q := ra) (wf_of (by omega) (by omega)) (by unfold maxLen; omega)
  obtain ⟨W2, hr2, hm2, hg2⟩ := hm1.put (q := ra + rm) (wf_of (by omega) (by omega)) (by unfold maxLen; omega)
  obtain ⟨V1, hs1, hk1, hh1⟩ := (EMap.drew hm0).put (q := ra + rm) (wf_of (by omega) (by omega)) (by unfold maxLen; omega)
  obtain ⟨V2, hs2, hk2, hh2⟩ := hk1.put (q := ra) (wf_of (by omega) (by omega)) (by unfold maxLen; omega)
  have xW := (hg1.block w.heap.size x0.lt (fun e => by injection e with e; omega)).trans x0
  have xV := (hh1.block w.heap.size x0.lt (fun e => by injection e with e; omega)).trans x0
  have I0 : Hid (MInv w l ⟨ra, rd, rm⟩ 0 W2) := Lib.hid (by
    have hb1 := hb0.grown hg1 hb0.size (fun j hj => by cases hj; omega)
    have hb2 := hb1.grown hg2 hb1.size (fun j hj => by cases hj; omega)
    have x2 := (hg2.block w.heap.size (Whole.lt xW) (fun e => by injection e with e; omega)).trans xW
    exact ⟨hb2, x2, hm2.as (fun q => by simp [Ed]; constructor <;> (rintro (h | h) <;> simp [h]))⟩)
  have J0 : Hid (MInv w l ⟨ra, rd, rm⟩ 0 V2) := Lib.hid (by
    have hb1 := hb0.grown hh1 hb0.size (fun j hj => by cases hj; omega)
    have hb2 := hb1.grown hh2 hb1.size (fun j hj => by cases hj; omega)
    have x2 := (hh2.block w.heap.size (Whole.lt xV) (fun e => by injection e with e; omega)).trans xV
    exact ⟨hb2, x2, hk2.as (fun q => by simp [Ed])⟩)
  have q0 := Whole.cell hbx 0
  have q1 := Whole.cell hbx 2
  have qW0 := Whole.cell xW 0
  have qW1 := Whole.cell xW 2
  have qV0 := Whole.cell xV 0
  have qV1 := Whole.cell xV 2
  have mx : Try.prog.follows .mixedOrders = true := by kernel_rfl
  have hmm := @run_makeMap Try.prog
  simp [rcells] at q0 q1 qW0 qW1 qV0 qV1
  unfold rcells at hr1 hs1
  clear h hl hr hbx hm0 hm1 hg1 hm2 hg2 hk1 hh1 hk2 hh2 xW xV x0 hb0
  unfold rval
  go_enter Try.func15, Try.ntmps15
  go_upto_region 1 with fail
  go_cut [8] (fun u8 wx => u8 = .map (some (w.heap.size + 1)) ∧ MInv w l ⟨ra, rd, rm⟩ 0 wx)
  case first =>
    go_region
    all_goals
      go_wp2_with fail
      go_meet
      first | exact ⟨rfl, I0.out⟩ | exact ⟨rfl, J0.out⟩
  case rest =>
    obtain ⟨rfl, hm⟩ := hcut
    have M0 := Lib.hid hm
    clear hm I0 J0 hr1 hr2 hs1 hs2 q0 q1 qW0 qW1 qV0 qV1 hmm
    go_wp2_with fail
    go_loopw [31] (fun i wr => ∃ k : Nat, i = .int .i64 k ∧ k ≤ n ∧ MInv w l ⟨ra, rd, rm⟩ k wr) (fun i _ => (n - intOf i).toNat)
    case atStart => exact ⟨0, rfl, by omega, M0.out⟩
    case round =>
      obtain ⟨k, rfl, hk, hinv⟩ := hrel
      have I := Lib.hid hinv
      clear hinv M0
      by_cases hlt : k < n
      · obtain ⟨g, o, rfl, _, _⟩ := Words.Rd.row H.out (by omega)
        obtain ⟨⟨xa, xd, xm⟩, hx⟩ : ∃ x, l[k]? = some x := ⟨_, List.getElem?_eq_getElem (by rw [HL.out]; exact hlt)⟩
        obtain ⟨c0, c1, c2⟩ := Rns.cells (Words.Rd.below H.out I.out.bel hB) rfl hx
        obtain ⟨p1, p2, p3, p4, p5, p6⟩ := okR_yes.1 (HO.out _ (List.mem_of_getElem? hx))
        simp only at p1 p2 p3 p4 p5 p6
        have HX := Lib.hid hx
        have hw2 : IntKind.i64.wrap (xa + xm) = xa + xm := by rw [IntKind.wrap_i64]; omega
        have IA := I.out.alloc (.cells #[.int .i64 xa, .int .i64 xd, .int .i64 xm] 34)
        have hbx : Whole (wr.alloc (.cells #[.int .i64 xa, .int .i64 xd, .int .i64 xm] 34)).drew wr.heap.size 34 #[.int .i64 xa, .int .i64 xd, .int .i64 xm] := Whole.new wr 34 _
        have hmb : some wr.heap.size ≠ some (w.heap.size + 1) := fun e => by injection e with e; have := I.out.mp.lt; omega
        obtain ⟨W1, hr1, hm1, hg1⟩ := IA.drew.mp.put (q := xa) (wf_of (by omega) (by omega)) (by unfold maxLen; omega)
        obtain ⟨W2, hr2, hm2, hg2⟩ := hm1.put (q := xa + xm) (wf_of (by omega) (by omega)) (by unfold maxLen; omega)
        have xW := (hg1.block wr.heap.size (Whole.lt hbx) hmb).trans hbx
        have q0 := Whole.cell hbx 0
        have q1 := Whole.cell hbx 2
        have qW0 := Whole.cell xW 0
        have qW1 := Whole.cell xW 2
        simp at q0 q1 qW0 qW1
        have I1 := Lib.hid (IA.drew.next HX.out hm2 (hg1.trans hg2))
        clear hx hm1 hm2 hg1 hg2 xW hbx IA
        go_wp2_with fail
        go_region
        all_goals
          go_wp2_with fail
          go_roundw
          case rel => exact ⟨k + 1, by go_num, by omega, I1.out⟩
          case measure => simp [intOf]; omega
      · obtain rfl : k = n := by omega
        generalize wr = wq at *
        have hM := I.out
        obtain ⟨bel, bx, mp⟩ := hM
        rw [List.take_of_length_le (by rw [HL.out]; exact Nat.le_refl _)] at mp
        have MP := Lib.hid mp
        have BX := Lib.hid bx
        have BL := Lib.hid bel
        clear mp bx bel
        obtain ⟨D, hD, hmem⟩ := MP.out
        have HD := Lib.hid hD
        have HM := Lib.hid hmem
        obtain ⟨L, hL⟩ : ∃ L, L = Ed l ⟨ra, rd, rm⟩ := ⟨_, rfl⟩
        have HLL := Lib.hid hL
        rw [← hL] at HM
        have hLb : ∀ q ∈ L, 0 ≤ q ∧ q ≤ 2199023255552 := fun q hq => by
          rw [hL] at hq
          unfold Ed at hq
          rcases List.mem_cons.1 hq with rfl | hq
          · omega
          · rcases List.mem_cons.1 hq with rfl | hq
            · simp only; omega
            · obtain ⟨x, hx, hq⟩ := List.mem_flatMap.1 hq
              obtain ⟨p1, p2, p3, p4, p5, p6⟩ := okR_yes.1 (HO.out x hx)
              simp at hq
              rcases hq with rfl | rfl <;> omega
        have HLB := Lib.hid hLb
        obtain ⟨i0, hi0, hz0, hz1, hz2⟩ := info_parts info34
        have hi0 := Lib.hid hi0; have hz0 := Lib.hid hz0; have hz1 := Lib.hid hz1; have hz2 := Lib.hid hz2
        have hb1 : w.heap.size + 1 < wq.heap.size := hD.lt
        clear hD hmem hL hLb
        go_wp2_with (at_range; refine wpList_edge_range _ rfl _ rfl (w.heap.size + 1) _ D rfl HD.out ?_; intro w0 hrg0 hg0 hs0)
        try go_frame
        have P0 : Hid (PM wq (w.heap.size + 1) (2 + 2 * k) D none 0 0 [] (Maps.has D) (Maps.size D) w0) := Lib.hid
          ⟨hrg0, (Below.refl _ _).grown hg0 (Nat.le_refl _) (fun j hj => by cases hj), by
            have := w0.ownsRow_nil (wq.heap.size + 1) 34 3
            unfold OwnRn
            simpa [lcells] using this, by omega⟩
        have C0 : Hid (Pc (· ∈ L) l ⟨ra, rd, rm⟩ put (Vis L (Maps.has D)) []) := Lib.hid (Pc.start.congr (fun q => ⟨fun hv => vis_start HM.out q hv, fun hf => hf.elim⟩))
        have SZ := Lib.hid HD.out.size_le
        clear hrg0 hg0 hs0
        go_loopw [11] (fun v wx => ∃ (A' : Option Addr) (i c' : Nat) (ps : List Rn) (left : Lit → Bool) (cnt : Nat), v = .slice A' i c' ∧ PM wq (w.heap.size + 1) (2 + 2 * k) D A' i c' ps left cnt wx ∧ Pc (· ∈ L) l ⟨ra, rd, rm⟩ put (Vis L left) ps ∧ i + cnt ≤ Maps.size D) (fun _ wx => wx.rangeLeft (w.heap.size + 1) wq.heap.size)
        case atStart => exact ⟨none, 0, 0, [], _, _, rfl, P0.out, C0.out, by omega⟩
        case round =>
          obtain ⟨A', i, c', ps, left, cnt, rfl, hp, hpc, hic⟩ := hrel
          have P := Lib.hid hp
          have C := Lib.hid hpc
          have IC := Lib.hid hic
          clear hp hpc P0 C0 hic
          go_wp2_with (at_next; refine wpList_edge_next _ rfl _ rfl (w.heap.size + 1) wq.heap.size _ D left cnt rfl P.out.rg ?_ ?_)
          · intro hl0
            have CE := Lib.hid (C.out.congr (fun q => (vis_end (left := left) (L := L) hl0 q).symm))
            have ROW := Lib.hid P.out.row
            have BQ := Lib.hid P.out.bel
            have HN0 := Lib.hid P.out.row.len
            have hi63 : i ≤ 4398046511104 := by have := IC.out; have := SZ.out; omega
            clear hl0 C
            generalize wr = wp at *
            have S0 := Lib.hid (sm_start CE.out.nd)
            go_wp2_with fail
            go_loopw [105] (fun v wx => ∃ (q : Nat) (qs : List Rn), v = .int .i64 q ∧ q ≤ i ∧ OwnRn wx (wq.heap.size + 1) A' i c' qs ∧ Below wq.heap.size wq wx ∧ Sm ps qs ∧ Up qs q) (fun v _ => (i - intOf v).toNat)
            case atStart => exact ⟨0, ps, rfl, by omega, ROW.out, BQ.out, S0.out, fun p q h1 h2 => by omega⟩
            case round =>
              obtain ⟨q, qs, rfl, hq, hrow, hbel, hsm, hup⟩ := hrel
              have R1 := Lib.hid hrow
              have B1 := Lib.hid hbel
              have S1 := Lib.hid hsm
              have U1 := Lib.hid hup
              clear hrow hbel hsm hup S0 ROW
              by_cases hlt : q < i
              · obtain ⟨gq, rfl, hg1, hg2⟩ := R1.out.addr (by omega)
                have N0 := Lib.hid (ins_start U1.out)
                go_wp2_with fail
                go_loopw [17] (fun v wx => ∃ (j : Nat) (rs : List Rn), v = .int .i64 j ∧ j ≤ q ∧ OwnRn wx (wq.heap.size + 1) (some ⟨gq, 0, none⟩) i c' rs ∧ Below wq.heap.size wq wx ∧ Sm ps rs ∧ Ins rs q j) (fun v _ => (intOf v).toNat)
                case atStart => exact ⟨q, qs, rfl, by omega, R1.out, B1.out, S1.out, N0.out⟩
                case round =>
                  obtain ⟨j, rs, rfl, hj, hrow, hbel, hsm, hins⟩ := hrel
                  have R2 := Lib.hid hrow
                  have B2 := Lib.hid hbel
                  have S2 := Lib.hid hsm
                  have I2 := Lib.hid hins
                  have HL2 := Lib.hid hrow.len
                  clear hrow hbel hsm hins N0
                  rcases Nat.eq_zero_or_pos j with h0 | h0
                  · subst h0
                    have UD := Lib.hid (I2.out.done (Nat.zero_le _) (by rw [HL2.out]; exact hlt) S2.out.ne (.inl rfl))
                    go_wp2_with fail
                    go_quiet (fail)
                    go_wp2_with fail
                    go_roundw
                    case rel => exact ⟨q + 1, rs, by go_num, by omega, R2.out, below_drewN B2.out _, S2.out, UD.out⟩
                    case measure => simp [intOf]; omega
                  · obtain ⟨t, rfl⟩ : ∃ t, j = t + 1 := ⟨j - 1, by omega⟩
                    have SF := Lib.hid (fun nq => OwnRn.swapF (w := wr.drewN nq) (t := t) R2.out (by omega))
                    obtain ⟨c0, c1, c2⟩ := R2.out.at_ (i := t + 1) (by omega)
                    obtain ⟨d0, d1, d2⟩ := R2.out.at_ (i := t) (by omega)
                    have hwt : IntKind.i64.wrap ((t : Int) + 1 - 1) = (t : Int) := by rw [IntKind.wrap_i64]; omega
                    by_cases hlt2 : (nth rs (t + 1)).a < (nth rs t).a
                    · have IN := Lib.hid (I2.out.step (by rw [HL2.out]; exact hlt) hj hlt2)
                      have SN := Lib.hid (S2.out.swap (t := t) (by rw [HL2.out]; omega))
                      have SWP := Lib.hid (fun nq => OwnRn.swapped (w := wr.drewN nq) (t := t) R2.out (by omega))
                      clear h0
                      have hwt2 : IntKind.i64.wrap (((t + 1 : Nat) : Int) - 1) = (t : Int) := by rw [IntKind.wrap_i64]; omega
                      have htn : ((t : Int) + 1).toNat = t + 1 := by omega
                      have ht1 : t + 1 < i := by omega
                      have ht2 : t < i := by omega
                      have mx : Try.prog.follows .mixedOrders = true := by kernel_rfl
                      go_wp2_with fail
                      go_quiet (fail)
                      have S := SF.out nq
                      have SW := Lib.hid (SWP.out nq)
                      have BW := Lib.hid (below_drewN B2.out nq)
                      unfold putR at S
                      unfold putR at SW
                      have hwz : wq.heap.size ≤ (wr.drewN nq).heap.size := BW.out.size
                      generalize wr.drewN nq = wz at *
                      obtain ⟨s0, s1, s2, s3, s4, s5, s6, s7, s8, s9, s10, s11, s12, s13, s14, s15, s16⟩ := S
                      clear c0 c1 c2 d0 d1 d2
                      go_wp2_with fail
                      go_region
                      all_goals
                        clear s0 s1 s2 s3 s4 s5 s6 s7 s8 s9 s10 s11 s12 s13 s14 s15 s16
                        go_wp2_with fail
                        go_roundw
                        case rel =>
                          refine ⟨t, sw rs t, by go_num, by omega, ?_, ?_, SN.out, IN.out⟩
                          · exact OwnRn.drew SW.out.1
                          · exact grown_below BW.out SW.out.2 hwz (by omega)
                        case measure => simp [intOf]
                    · have UD := Lib.hid (I2.out.done hj (by rw [HL2.out]; exact hlt) S2.out.ne (.inr ⟨t, rfl, hlt2⟩))
                      clear h0
                      go_wp2_with fail
                      go_quiet (fail)
                      go_wp2_with fail
                      go_roundw
                      case rel => exact ⟨q + 1, rs, by go_num, by omega, R2.out, below_drewN B2.out _, S2.out, UD.out⟩
                      case measure => simp [intOf]; omega
              · obtain rfl : q = i := by omega
                have J0 := Lib.hid (join_start HLL.out HO.out HRR.out HLB.out CE.out S1.out (by rw [R1.out.len]; exact U1.out))
                clear CE S1 U1
                generalize wr = ws at *
                go_wp2_with fail
                go_loopw [11, 18] (fun u v wx => ∃ (m : Nat) (us : List Rn) (kk : Nat), u = .slice A' m c' ∧ v = .int .i64 kk ∧ 1 ≤ kk ∧ kk ≤ m + 1 ∧ m ≤ q ∧ OwnRn wx (wq.heap.size + 1) A' m c' us ∧ Below wq.heap.size wq wx ∧ JInv l ⟨ra, rd, rm⟩ put us kk) (fun u v _ => slen u - (intOf v).toNat)
                case atStart => exact ⟨q, qs, 1, rfl, rfl, by omega, by omega, by omega, R1.out, B1.out, J0.out⟩
                case round =>
                  obtain ⟨m, us, kk, rfl, rfl, hk1, hk2, hmq, hrow, hbel, hj⟩ := hrel
                  have R2 := Lib.hid hrow
                  have B2 := Lib.hid hbel
                  have J2 := Lib.hid hj
                  have HL2 := Lib.hid hrow.len
                  clear hrow hbel hj J0 R1 B1
                  by_cases hkm : kk < m
                  · obtain ⟨t, rfl⟩ : ∃ t, kk = t + 1 := ⟨kk - 1, by omega⟩
                    obtain ⟨gq, rfl, hg1, hg2⟩ := R2.out.addr (by omega)
                    obtain ⟨c0, c1, c2⟩ := R2.out.at_ (i := t) (by omega)
                    obtain ⟨d0, d1, d2⟩ := R2.out.at_ (i := t + 1) hkm
                    have hb0 := J2.out.bd (nth us t) (mem_nth.2 ⟨t, by rw [HL2.out]; omega, rfl⟩)
                    have hb1' := J2.out.bd (nth us (t + 1)) (mem_nth.2 ⟨t + 1, by rw [HL2.out]; exact hkm, rfl⟩)
                    have HB0 := Lib.hid hb0
                    have HB1 := Lib.hid hb1'
                    have hwt : IntKind.i64.wrap ((t : Int) + 1 - 1) = (t : Int) := by rw [IntKind.wrap_i64]; omega
                    have hwt2 : IntKind.i64.wrap (((t + 1 : Nat) : Int) - 1) = (t : Int) := by rw [IntKind.wrap_i64]; omega
                    have hwa : IntKind.i64.wrap ((nth us t).a + (nth us t).m) = (nth us t).a + (nth us t).m := by rw [IntKind.wrap_i64]; omega
                    have hwd : IntKind.i64.wrap ((nth us t).d + (nth us t).m) = (nth us t).d + (nth us t).m := by rw [IntKind.wrap_i64]; omega
                    have htn : ((t : Int) + 1).toNat = t + 1 := by omega
                    have ht1 : t + 1 < m := hkm
                    have ht2 : t < m := by omega
                    have hwk : IntKind.i64.wrap ((t : Int) + 1 + 1) = (t : Int) + 1 + 1 := by rw [IntKind.wrap_i64]; omega
                    have RA := Lib.hid (R2.out.below (boxed wr (.cells (rcells (nth us t)).toArray 34)) (Nat.le_refl _))
                    have BA := Lib.hid (B2.out.alloc B2.out.size (.cells (rcells (nth us t)).toArray 34))
                    clear hb0 hb1'
                    cases hc : cont (nth us t) (nth us (t + 1)) with
                    | false =>
                      have JN := Lib.hid (J2.out.pass (by rw [HL2.out]; exact hkm) hc)
                      have hcc : ¬ ((nth us t).a + (nth us t).m = (nth us (t + 1)).a ∧ (nth us t).d + (nth us t).m = (nth us (t + 1)).d) := by rw [← cont_yes, hc]; simp
                      by_cases hca : (nth us t).a + (nth us t).m = (nth us (t + 1)).a
                      · have hcd : ((nth us t).d + (nth us t).m == (nth us (t + 1)).d) = false := by rw [beq_eq_false_iff_ne]; exact fun e => hcc ⟨hca, e⟩
                        have hcb : ((nth us t).a + (nth us t).m == (nth us (t + 1)).a) = true := by rw [beq_iff_eq]; exact hca
                        clear hcc hca hc
                        go_wp2_with fail
                        go_quiet (fail)
                        go_wp2_with fail
                        go_roundw
                        case rel => exact ⟨m, us, t + 2, rfl, by go_num, by omega, by omega, by omega, RA.out, below_drewN BA.out _, JN.out⟩
                        case measure => simp [intOf, slen]; omega
                      · have hcb : ((nth us t).a + (nth us t).m == (nth us (t + 1)).a) = false := by rw [beq_eq_false_iff_ne]; exact hca
                        clear hcc hca hc
                        go_wp2_with fail
                        go_quiet (fail)
                        go_wp2_with fail
                        go_roundw
                        case rel => exact ⟨m, us, t + 2, rfl, by go_num, by omega, by omega, by omega, RA.out, below_drewN BA.out _, JN.out⟩
                        case measure => simp [intOf, slen]; omega
                    | true =>
                      have JN := Lib.hid (J2.out.join (by rw [HL2.out]; exact hkm) hc)
                      obtain ⟨k1, k2⟩ := cont_yes.1 hc
                      have hcb : ((nth us t).a + (nth us t).m == (nth us (t + 1)).a) = true := by rw [beq_iff_eq]; exact k1
                      have hcd : ((nth us t).d + (nth us t).m == (nth us (t + 1)).d) = true := by rw [beq_iff_eq]; exact k2
                      have hwm : IntKind.i64.wrap ((nth us t).m + (nth us (t + 1)).m) = (nth us t).m + (nth us (t + 1)).m := by have := HB0.out; have := HB1.out; rw [IntKind.wrap_i64]; omega
                      obtain ⟨m2, hm2⟩ : ∃ m2, m = t + 1 + 1 + m2 := ⟨m - (t + 2), by omega⟩
                      subst hm2
                      obtain ⟨j0, hj0, hjz, hjs, hjb⟩ := info_parts info34
                      have hcap := own_cap R2.out
                      obtain ⟨hnc, hcm⟩ := hcap
                      have hcm : c' ≤ 9223372036854775807 := by unfold maxLen at hcm; exact hcm
                      clear k1 k2 hc
                      go_wp2_with fail
                      go_quiet (fail)
                      have RZ : OwnRn ((wr.alloc (.cells #[.int .i64 (nth us t).a, .int .i64 (nth us t).d, .int .i64 (nth us t).m] 34)).drewN nq) (wq.heap.size + 1) (some ⟨gq, 0, none⟩) (t + 1 + 1 + m2) c' us := RA.out
                      have BZ := below_drewN BA.out nq
                      have BZ : Below wq.heap.size wq ((wr.alloc (.cells #[.int .i64 (nth us t).a, .int .i64 (nth us t).d, .int .i64 (nth us t).m] 34)).drewN nq) := BZ
                      generalize (wr.alloc (.cells #[.int .i64 (nth us t).a, .int .i64 (nth us t).d, .int .i64 (nth us t).m] 34)).drewN nq = wz at *
                      have z2 := (RZ.at_ (i := t) (by omega)).c2
                      have y2 := (RZ.at_ (i := t + 1) (by omega)).c2
                      have fz := RZ.frozen (t * 3 + 2)
                      have PZ := RZ.put2 (t := t) (by omega) ((nth us t).m + (nth us (t + 1)).m)
                      have RP := Lib.hid PZ.1.drew
                      have BP := Lib.hid (grown_below BZ PZ.2 BZ.size (by omega))
                      clear RZ BZ PZ c0 c1 c2 d0 d1 d2
                      go_wp2_with fail
                      go_region
                      clear z2 y2 fz
                      generalize (wz.setCell ⟨gq, t * 3 + 2, none⟩ (.int .i64 ((nth us t).m + (nth us (t + 1)).m))).drew = wy at *
                      obtain ⟨ut, hut⟩ : ∃ ut, ut = us.set t (join2 (nth us t) (nth us (t + 1))) := ⟨_, rfl⟩
                      have RP2 : OwnRn wy (wq.heap.size + 1) (some ⟨gq, 0, none⟩) (t + 1 + 1 + m2) c' ut := by rw [hut]; exact RP.out
                      have hjn : jn us t = ut.eraseIdx (t + 1) := by rw [hut]; rfl
                      have hown : wy.drew.ownsRow (wq.heap.size + 1) 34 3 (.slice (some ⟨gq, 0, none⟩) (t + 1 + 1 + m2) c') (t + 1 + 1 + m2) (lcells ut) := RP2
                      have hutl := RP2.len
                      obtain ⟨news, hnews⟩ : ∃ news, news = lcells (ut.drop (t + 1 + 1)) := ⟨_, rfl⟩
                      have hlen : news.length = m2 * 3 := by rw [hnews, lcells_length, List.length_drop]; omega
                      obtain ⟨A2, hA2, hsrc⟩ : ∃ A2 : Addr, (if c' = t + 1 + 1 then (some (⟨gq, 0, none⟩ : Addr)) else some ⟨gq, (t + 1 + 1) * 3, none⟩) = some A2 ∧ Hid (∀ s u, news[s]? = some u → wy.drew.cell? (A2.add s) = some u) := by
                        by_cases hcq : c' = t + 1 + 1
                        · refine ⟨⟨gq, 0, none⟩, by simp [hcq], fun s u hu => ?_⟩
                          have h0 : news.length = 0 := by rw [hlen]; omega
                          rw [List.length_eq_zero_iff.1 h0] at hu
                          simp at hu
                        · refine ⟨⟨gq, (t + 1 + 1) * 3, none⟩, by simp [hcq], fun s u hu => ?_⟩
                          rw [hnews, ← lc_drop, List.getElem?_drop] at hu
                          rw [Addr.add_lit]
                          have := Words.Rd.cellAt (Words.Rd.of_own hown) rfl (by omega) ((t + 1 + 1) * 3 + s) u hu
                          rwa [Nat.zero_add] at this
                      have n1 := Lib.hid hlen
                      have n2 : Hid (∀ u ∈ news, u.oneCell' = true) := Lib.hid (by rw [hnews]; exact lcells_one _)
                      have n3 : Hid (∀ s, s < news.length → (wy.drew.cell? ⟨gq, 0 + (t + 1) * 3 + s, none⟩).isSome = true ∧ wy.drew.frozen? ⟨gq, 0 + (t + 1) * 3 + s, none⟩ = false) := Lib.hid (by
                        intro s hs
                        rw [hlen] at hs
                        rw [Nat.zero_add]
                        exact own_there hown (by omega))
                      obtain ⟨W1, hW1⟩ : ∃ W1, W1 = wy.drew.setCells gq (0 + (t + 1) * 3) news := ⟨_, rfl⟩
                      have RS := OwnRn.struck (w := wy.drew) (i := t + 1) (m := m2) hown
                      rw [← hnews] at RS
                      have HW1 := Lib.hid hW1
                      rw [Nat.zero_add] at hW1
                      rw [← hW1, ← hjn] at RS
                      have RSH := Lib.hid RS
                      have BF := Lib.hid (BP.out.drew.grown RS.2 BP.out.size (fun j hj => by cases hj; omega))
                      have e1 : t + 1 + 1 + m2 - (t + 1 + 1) = m2 := by omega
                      have e5 : (0 : Int) ≤ (t : Int) + 1 + 1 := by omega
                      have e6 : (t : Int) + 1 + 1 ≤ (t : Int) + 1 + 1 + (m2 : Int) := by omega
                      have e7 : ((t : Int) + 1 + 1).toNat = t + 1 + 1 := by omega
                      have e8 : t + 1 ≤ c' := by omega
                      have e10 : (0 : Int) ≤ (t : Int) + 1 := by omega
                      have e11 : (t : Int) + 1 ≤ (c' : Int) := by omega
                      have e9 : t + 1 + 1 ≤ c' := by omega
                      clear hW1 RS hown hutl hnews hlen RP2 hjn hut RP
                      go_wp2_with fail
                      go_region_law (refine step_append_room rfl (.tmp 193) (.tmp 197) 22 rfl 34 j0 3 Try.underlying22 hj0 hjs gq 0 (t + 1) c' (by simp [Act.eval, Act.put]) A2 m2 (c' - (t + 1 + 1)) news (by simp [Act.eval, Act.put]) n1.out hsrc.out n2.out (by omega) n3.out ?_; rw [← HW1.out])
                      go_wp2_with fail
                      try go_frame
                      go_roundw
                      case rel =>
                        repeat apply Exists.intro
                        refine ⟨?rr, rfl⟩
                        exact ⟨t + 1 + m2, jn us t, t + 1, rfl, by first | rfl | go_num, by omega, by omega, by omega, RSH.out.1, BF.out, JN.out⟩
                      case measure => simp [intOf, slen]; omega
                  · have UD := Lib.hid (J2.out.done (by rw [HL2.out]; omega))
                    have HR := Lib.hid (mright12 wr.heap.size A' m c' us wr R2.out.rns (Nat.le_refl _))
                    have BLW := Lib.hid (BL.out.trans (B2.out.mono BL.out.size))
                    have hwq : w.heap.size ≤ wq.heap.size + 1 := by have := BL.out.size; omega
                    go_wp2_with fail
                    refine (HR.out).mono ?_; rintro e w9 ⟨rfl, b9⟩
                    have BF := Lib.hid (BLW.out.trans (b9.mono BLW.out.size))
                    have RF := Lib.hid ((R2.out.below b9 (Nat.le_refl _)).more hwq)
                    clear b9
                    go_wp2_with fail
                    go_ret2
                    exact ⟨A', c', us, by rw [HL2.out]; rfl, UD.out, by rw [HL2.out]; exact RF.out, BF.out⟩
          · intro x cx w1 cnt1 hwx hlx hrg1 hlt hg1 hs1 hen
            have hxL : x ∈ L := (HM.out x).1 (ranges_has P.out.rg hlx)
            have ST := Lib.hid (P.out.step hrg1 hg1 hs1)
            have HRG := Lib.hid hrg1
            have HXL := Lib.hid hxL
            have HVX : Hid (¬ Vis L left x) := Lib.hid (fun hv => by have := hv.2; rw [hlx] at this; cases this)
            have hw63 := HLB.out x hxL
            clear hrg1 hg1 hxL hs1
            go_wp2_with (at_range; refine wpList_edge_range _ rfl _ rfl (w.heap.size + 1) _ D rfl HRG.out.owns ?_; intro w2 hrg2 hg2 hs2)
            try go_frame
            have hlt1 : cnt1 < wr.rangeLeft (w.heap.size + 1) wq.heap.size := by rw [P.out.rg.left_eq]; exact hlt
            have HLT := Lib.hid hlt1
            have IC2 : Hid (i + 1 + cnt1 ≤ Maps.size D) := Lib.hid (by have := IC.out; omega)
            clear hlt1
            generalize w1 = wa at *
            have Q0 : Hid (∃ left2 cnt2, w2.ranges Try.prog 3 bR (w.heap.size + 1) wa.heap.size (2 + 2 * k) D left2 cnt2 ∧ Tm L x left2 1152921504606846976) := Lib.hid ⟨_, _, hrg2, tm_start HM.out x⟩
            have G2 : Hid (wa.grownBy w2 none) := Lib.hid hg2
            clear hrg2 hg2 hs2
            go_loopw [13] (fun v wx => ∃ (t : Int) (left2 : Lit → Bool) (cnt2 : Nat), v = .int .i64 t ∧ 0 ≤ t ∧ t ≤ 1152921504606846976 ∧ wx.ranges Try.prog 3 bR (w.heap.size + 1) wa.heap.size (2 + 2 * k) D left2 cnt2 ∧ Tm L x left2 t ∧ w2.grownBy wx (some wa.heap.size)) (fun _ wx => wx.rangeLeft (w.heap.size + 1) wa.heap.size)
            case atStart =>
              obtain ⟨left2, cnt2, h1, h2⟩ := Q0.out
              exact ⟨_, left2, cnt2, rfl, by omega, by omega, h1, h2, World.grownBy.refl _ _⟩
            case round =>
              obtain ⟨t, left2, cnt2, rfl, t0, t1, hrg3, htm, hg3⟩ := hrel
              have R3 := Lib.hid hrg3
              have T3 := Lib.hid htm
              have G3 := Lib.hid hg3
              clear hrg3 htm hg3 Q0
              go_wp2_with (at_next; refine wpList_edge_next _ rfl _ rfl (w.heap.size + 1) wa.heap.size _ D left2 cnt2 rfl R3.out ?_ ?_)
              · intro hl0
                have TE := Lib.hid (tm_end T3.out hl0 (fun q hq => by have := HLB.out q hq; omega))
                have PM3 := Lib.hid (ST.out.inner G2.out G3.out hb1)
                have hbw : Below w.heap.size w wr := BL.out.trans (PM3.out.bel.mono BL.out.size)
                have VN := Lib.hid (vis_next (left := left) HXL.out)
                have HFI := Lib.hid (mfind13 B A k c l x wr (Words.Rd.below H.out hbw hB) (Nat.le_trans hB hbw.size) HO.out)
                clear hl0 T3 R3 G3 hbw
                rcases TE.out with ⟨rfl, hno⟩ | ⟨hne, hnx⟩
                · -- no edge behind it
                  have CN := Lib.hid ((C.out.skip (u := x) (.inl hno)).congr VN.out)
                  clear hno
                  go_wp2_with fail
                  go_roundw
                  case rel => exact ⟨A', i, c', ps, _, cnt1, rfl, PM3.out, CN.out, by have := IC2.out; omega⟩
                  case measure => rw [PM3.out.rg.left_eq]; exact HLT.out
                · -- the edge behind it is t
                  have HNX := Lib.hid hnx
                  have htb := HLB.out t hnx.1
                  have hxt : x < t := hnx.2.1
                  have hbe : (t == 1152921504606846976) = false := by rw [beq_eq_false_iff_ne]; exact hne
                  clear hnx
                  go_wp2_with fail
                  refine (HFI.out).mono ?_; rintro e w5 ⟨rfl, b5⟩
                  have PM5 := Lib.hid (PM3.out.below b5 hb1)
                  have bx5 := whole_below2 BX.out PM5.out.bel
                  have f0 := Whole.cell bx5 0
                  have f1 := Whole.cell bx5 1
                  have f2 := Whole.cell bx5 2
                  simp [rcells] at f0 f1 f2
                  have hwt : IntKind.i64.wrap (t - x) = t - x := by rw [IntKind.wrap_i64]; omega
                  have HMR := Lib.hid (ma_range (l := l) x (fun r hr => (okR_yes.1 (HO.out r hr)).2.1))
                  have HMX : Hid (ma l x ≤ 4398046511104) := Lib.hid (ma_top HO.out x)
                  clear b5 bx5 hbe
                  cases hi : inR ⟨ra, rd, rm⟩ x with
                  | true =>
                    have h1 := inR_yes.1 hi
                    have h2 : ra ≤ x := h1.1
                    have h3 : x < ra + rm := h1.2
                    clear h1
                    cases put with
                    | false =>
                      have CN := Lib.hid ((C.out.skip (u := x) (.inr (by unfold fx; rw [hi]; simp))).congr VN.out)
                      go_wp2_with fail
                      go_roundw
                      case rel => exact ⟨A', i, c', ps, _, cnt1, rfl, PM5.out, CN.out, by have := IC2.out; omega⟩
                      case measure => rw [PM5.out.rg.left_eq]; exact HLT.out
                    | true =>
                      have hwa : IntKind.i64.wrap (rd + x) = rd + x := by rw [IntKind.wrap_i64]; omega
                      have hwb : IntKind.i64.wrap (rd + x - ra) = rd + x - ra := by rw [IntKind.wrap_i64]; omega
                      have hge : 0 ≤ rd + x - ra := by omega
                      have hfx : fx l ⟨ra, rd, rm⟩ true x = rd + x - ra := by unfold fx; rw [hi]; simp
                      have CN := Lib.hid ((C.out.add HVX.out HXL.out HNX.out (by rw [hfx]; omega)).congr VN.out)
                      rw [hfx] at CN
                      have PA := Lib.hid (PM5.out.alloc (.cells (rcells ⟨x, rd + x - ra, t - x⟩).toArray 34) hb1)
                      have NR := Lib.hid (one_run w5 ⟨x, rd + x - ra, t - x⟩)
                      have HZ : wq.heap.size + 1 ≤ (w5.alloc (.cells (rcells ⟨x, rd + x - ra, t - x⟩).toArray 34)).heap.size := PA.out.sz
                      have hi1 : i + 1 ≤ maxLen := by have := IC2.out; have := SZ.out; unfold maxLen; omega
                      have hi2 : (i + 1) * 24 ≤ 140737488355328 := by have := IC2.out; have := SZ.out; omega
                      clear hfx
                      go_wp2_with (at_builtin; refine wpList_append_rd _ rfl (.tmp 94) (.tmp 101) 22 rfl (wq.heap.size + 1) 34 i0 _ 3 24 Try.underlying22 hi0.out hz0.out hz1.out hz2.out rfl (by decide) _ i (lcells ps) rfl PA.out.row _ _ 1 1 (lcells [⟨x, rd + x - ra, t - x⟩]) rfl NR.out (lcells_one _) hi1 hi2 HZ ?_
                                   intro A6 c6 w6 hown6 hg6)
                      have PM6 := Lib.hid (PA.out.had hown6 hg6 hb1)
                      clear hown6 hg6
                      go_wp2_with fail
                      go_roundw
                      case rel => exact ⟨A6, i + 1, c6, _, _, cnt1, rfl, PM6.out, CN.out, by have := IC2.out; omega⟩
                      case measure => rw [PM6.out.rg.left_eq]; exact HLT.out
                  | false =>
                    have h1 := inR_no.1 hi
                    have h2 : ¬ (ra ≤ x ∧ x < ra + rm) := h1
                    have hfm : fx l ⟨ra, rd, rm⟩ put x = ma l x := by unfold fx; rw [hi]; simp
                    obtain ⟨dk, hdk⟩ : ∃ dk, dk = ma l x := ⟨_, rfl⟩
                    have HDK := Lib.hid hdk
                    rw [← hdk] at hfm HMR HMX ⊢
                    have HFM := Lib.hid hfm
                    clear h1 hi hdk hfm
                    by_cases h4 : ra ≤ x
                    · have h5 : ra + rm ≤ x := by omega
                      clear h2
                      by_cases h6 : 0 ≤ dk
                      · have hfx : fx l ⟨ra, rd, rm⟩ put x = dk := HFM.out
                        have CN := Lib.hid ((C.out.add HVX.out HXL.out HNX.out (by rw [hfx]; omega)).congr VN.out)
                        rw [hfx] at CN
                        have PA := Lib.hid (PM5.out.alloc (.cells (rcells ⟨x, dk, t - x⟩).toArray 34) hb1)
                        have NR := Lib.hid (one_run w5 ⟨x, dk, t - x⟩)
                        have HZ : wq.heap.size + 1 ≤ (w5.alloc (.cells (rcells ⟨x, dk, t - x⟩).toArray 34)).heap.size := PA.out.sz
                        have hi1 : i + 1 ≤ maxLen := by have := IC2.out; have := SZ.out; unfold maxLen; omega
                        have hi2 : (i + 1) * 24 ≤ 140737488355328 := by have := IC2.out; have := SZ.out; omega
                        clear hfx
                        go_wp2_with (at_builtin; refine wpList_append_rd _ rfl (.tmp 94) (.tmp 101) 22 rfl (wq.heap.size + 1) 34 i0 _ 3 24 Try.underlying22 hi0.out hz0.out hz1.out hz2.out rfl (by decide) _ i (lcells ps) rfl PA.out.row _ _ 1 1 (lcells [⟨x, dk, t - x⟩]) rfl NR.out (lcells_one _) hi1 hi2 HZ ?_
                                     intro A6 c6 w6 hown6 hg6)
                        have PM6 := Lib.hid (PA.out.had hown6 hg6 hb1)
                        clear hown6 hg6
                        go_wp2_with fail
                        go_roundw
                        case rel => exact ⟨A6, i + 1, c6, _, _, cnt1, rfl, PM6.out, CN.out, by have := IC2.out; omega⟩
                        case measure => rw [PM6.out.rg.left_eq]; exact HLT.out
                      · have CN := Lib.hid ((C.out.skip (u := x) (.inr (by rw [HFM.out]; omega))).congr VN.out)
                        go_wp2_with fail
                        go_roundw
                        case rel => exact ⟨A', i, c', ps, _, cnt1, rfl, PM5.out, CN.out, by have := IC2.out; omega⟩
                        case measure => rw [PM5.out.rg.left_eq]; exact HLT.out
                    · clear h2
                      by_cases h6 : 0 ≤ dk
                      · have hfx : fx l ⟨ra, rd, rm⟩ put x = dk := HFM.out
                        have CN := Lib.hid ((C.out.add HVX.out HXL.out HNX.out (by rw [hfx]; omega)).congr VN.out)
                        rw [hfx] at CN
                        have PA := Lib.hid (PM5.out.alloc (.cells (rcells ⟨x, dk, t - x⟩).toArray 34) hb1)
                        have NR := Lib.hid (one_run w5 ⟨x, dk, t - x⟩)
                        have HZ : wq.heap.size + 1 ≤ (w5.alloc (.cells (rcells ⟨x, dk, t - x⟩).toArray 34)).heap.size := PA.out.sz
                        have hi1 : i + 1 ≤ maxLen := by have := IC2.out; have := SZ.out; unfold maxLen; omega
                        have hi2 : (i + 1) * 24 ≤ 140737488355328 := by have := IC2.out; have := SZ.out; omega
                        clear hfx
                        go_wp2_with (at_builtin; refine wpList_append_rd _ rfl (.tmp 94) (.tmp 101) 22 rfl (wq.heap.size + 1) 34 i0 _ 3 24 Try.underlying22 hi0.out hz0.out hz1.out hz2.out rfl (by decide) _ i (lcells ps) rfl PA.out.row _ _ 1 1 (lcells [⟨x, dk, t - x⟩]) rfl NR.out (lcells_one _) hi1 hi2 HZ ?_
                                     intro A6 c6 w6 hown6 hg6)
                        have PM6 := Lib.hid (PA.out.had hown6 hg6 hb1)
                        clear hown6 hg6
                        go_wp2_with fail
                        go_roundw
                        case rel => exact ⟨A6, i + 1, c6, _, _, cnt1, rfl, PM6.out, CN.out, by have := IC2.out; omega⟩
                        case measure => rw [PM6.out.rg.left_eq]; exact HLT.out
                      · have CN := Lib.hid ((C.out.skip (u := x) (.inr (by rw [HFM.out]; omega))).congr VN.out)
                        go_wp2_with fail
                        go_roundw
                        case rel => exact ⟨A', i, c', ps, _, cnt1, rfl, PM5.out, CN.out, by have := IC2.out; omega⟩
                        case measure => rw [PM5.out.rg.left_eq]; exact HLT.out
              · intro y cy w4 cnt4 hwy hly hrg4 hlt4 hg4 hs4 hen4
                have hyL : y ∈ L := (HM.out y).1 (ranges_has R3.out hly)
                have TN := Lib.hid (tm_next T3.out hyL (fun q hq => by have := HLB.out q hq; omega))
                have R4 := Lib.hid hrg4
                have G4 := Lib.hid (G3.out.trans hg4)
                have hyb := HLB.out y hyL
                have hms : w4.rangeLeft (w.heap.size + 1) wa.heap.size < wr.rangeLeft (w.heap.size + 1) wa.heap.size := by rw [hrg4.left_eq, R3.out.left_eq]; exact hlt4
                clear hrg4 hg4 hyL
                by_cases hc1 : x < y
                · by_cases hc2 : y < t
                  · rw [if_pos ⟨hc1, hc2⟩] at TN
                    go_wp2_with fail
                    go_roundw
                    case rel => exact ⟨y, _, cnt4, rfl, hyb.1, by omega, R4.out, TN.out, G4.out⟩
                    case measure => exact hms
                  · rw [if_neg (by omega)] at TN
                    go_wp2_with fail
                    go_roundw
                    case rel => exact ⟨t, _, cnt4, rfl, t0, t1, R4.out, TN.out, G4.out⟩
                    case measure => exact hms
                · rw [if_neg (by omega)] at TN
                  go_wp2_with fail
                  go_roundw
                  case rel => exact ⟨t, _, cnt4, rfl, t0, t1, R4.out, TN.out, G4.out⟩
                  case measure => exact hms
end Go.Proofs.Ytfcihgincfcdkaa.Rns
