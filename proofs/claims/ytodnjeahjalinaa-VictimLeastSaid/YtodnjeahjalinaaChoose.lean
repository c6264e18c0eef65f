/-
  Which block is picked: check, choose and Greedy.
-/
import Derived.Test.YtodnjeahjalinaaMinMax
namespace Go.Proofs.Ytodnjeahjalinaa.Vic
open Go.ChangeShapes Go.WideShapes Go.ChangeAt Go.RowKit Words Go.Sort
open Go.Proofs.Ytodnjeahjalinaa.Stab (Laid below_grow mixedO)
set_option linter.unusedVariables false

theorem check23 (B : Nat) (A : Option Addr) (n c : Nat) (l : List Fil) (s : Int) (w : World) (h : Fl w B A n c l) (hB : B ≤ w.heap.size) :
    Calls Try.prog 23 #[.slice A n c, .int .i64 s] w fun e w' => e = .returned (.int .i64 (chk l s)) ∧ Below w.heap.size w w' := by
  have HC := right11 B A n c l w h hB
  clear h
  cases hr : right l with
  | false =>
    have HE := Lib.hid (chk_form (s := s) hr)
    rw [hr] at HC
    have HC := Lib.hid HC
    clear hr
    go_enter Try.func23, Try.ntmps23
    go_wp2_with fail
    refine (HC.out).mono ?_; rintro e w1 ⟨rfl, hb⟩
    have HB := Lib.hid hb
    clear hb
    go_wp2_with fail
    go_ret
    exact ⟨ret_int HE.out.symm, HB.out⟩
  | true =>
    rw [hr] at HC
    have HC := Lib.hid HC
    by_cases h1 : s < 1
    · have HE := Lib.hid (chk_range hr (.inl h1))
      clear hr
      go_enter Try.func23, Try.ntmps23
      go_wp2_with fail
      refine (HC.out).mono ?_; rintro e w1 ⟨rfl, hb⟩
      have HB := Lib.hid hb
      clear hb
      go_wp2_with fail
      go_ret
      exact ⟨ret_int HE.out.symm, HB.out⟩
    · by_cases h2 : s > 1048576
      · have HE := Lib.hid (chk_range hr (.inr h2))
        clear hr
        go_enter Try.func23, Try.ntmps23
        go_wp2_with fail
        refine (HC.out).mono ?_; rintro e w1 ⟨rfl, hb⟩
        have HB := Lib.hid hb
        clear hb
        go_wp2_with fail
        go_ret
        exact ⟨ret_int HE.out.symm, HB.out⟩
      · have HE := Lib.hid (chk_ok (s := s) hr (by omega))
        clear hr
        go_enter Try.func23, Try.ntmps23
        go_wp2_with fail
        refine (HC.out).mono ?_; rintro e w1 ⟨rfl, hb⟩
        have HB := Lib.hid hb
        clear hb
        go_wp2_with fail
        go_ret
        exact ⟨ret_int HE.out.symm, HB.out⟩
/-- A box of a block, in every world that a region goes through. -/
theorem box_cells (W : World) (x : Fil) : (∀ m os, (grow ((W.alloc (fbox x)).drewN m) os).cell? ⟨W.heap.size, 0, none⟩ = some (.int .i64 x.need)) ∧ (∀ m os, (grow ((W.alloc (fbox x)).drewN m) os).cell? ⟨W.heap.size, 1, none⟩ = some (.int .i64 x.fill)) ∧ (∀ m os, (grow ((W.alloc (fbox x)).drewN m) os).cell? ⟨W.heap.size, 2, none⟩ = some (.int .i64 x.wear)) :=
  cells_of (Whole.new W 28 (fseq x))
theorem chs_lt (l : List Fil) (lim : Int) {k : Nat} (h : (chs l lim k).2 = true) : (chs l lim k).1 < k := (chs_best l lim k).lt h
set_option maxHeartbeats 2000000 in
theorem choose24 (B : Nat) (A : Option Addr) (n c : Nat) (l : List Fil) (s : Int) (w : World) (h : Fl w B A n c l) (hB : B ≤ w.heap.size) (hr : right l = true) (hs1 : 1 ≤ s) (hs2 : s ≤ 1048576) :
    Calls Try.prog 24 #[.slice A n c, .int .i64 s] w fun e w' => e = .returned (.tuple #[.int .i64 (pick l s).1, .bool (pick l s).2]) ∧ Below w.heap.size w w' := by
  have mx := mixedO
  have L := Lib.hid h.len
  by_cases hn : n = 0
  · have h0 : ((n : Int) == 0) = true := by rw [beq_iff_eq]; omega
    have HE := Lib.hid (pick_nil (l := l) (s := s) (by rw [L.out]; exact hn))
    clear h hr hn
    go_enter Try.func24, Try.ntmps24
    go_wp2_with fail
    go_ret2
    exact ⟨by rw [HE.out]; rfl, Below.refl _ _⟩
  · have h0 : ((n : Int) == 0) = false := by rw [beq_eq_false_iff_ne]; omega
    have HL := Lib.hid (leastWear30 B A n c l w h hB (by omega))
    obtain ⟨r1, r2⟩ := lw_range hr (by rw [L.out]; omega)
    have hlen := right_len hr
    have hn2 : n ≤ 4096 := by rw [← L.out]; exact hlen
    obtain ⟨lim, hlim⟩ : ∃ q, q = lw l + s := ⟨_, rfl⟩
    have HP : Hid (pick l s = chs l lim n) := Lib.hid (by rw [pick_pos (by rw [L.out]; omega), L.out, hlim])
    obtain ⟨v, hv⟩ : ∃ v, v = lw l := ⟨_, rfl⟩
    rw [← hv] at HL r1 r2 hlim
    have e1 : v + s = lim := hlim.symm
    have e2 : IntKind.i64.wrap lim = lim := by rw [IntKind.wrap_i64]; omega
    have H := Lib.hid h
    clear h hr hn hlim hv hlen
    go_enter Try.func24, Try.ntmps24
    go_wp2_with fail
    refine (HL.out).mono ?_; rintro e w1 ⟨rfl, hb⟩
    have HB0 := Lib.hid hb
    clear hb
    go_wp2_with fail
    go_loopw [7, 8, 20] (fun b f i wr => ∃ k : Nat, i = .int .i64 k ∧ k ≤ n ∧ b = .int .i64 (chs l lim k).1 ∧ f = .bool (chs l lim k).2 ∧ Below w.heap.size w wr) (fun _ _ i _ => (n - intOf i).toNat)
    case atStart => exact ⟨0, rfl, by omega, rfl, rfl, HB0.out⟩
    case round =>
      obtain ⟨k, rfl, hkn, rfl, rfl, hbel⟩ := hrel
      have HB := Lib.hid hbel
      clear hbel HB0 e1 e2
      by_cases hlt : k < n
      · obtain ⟨g, o, rfl, _, _⟩ := Words.Rd.row H.out (by omega)
        obtain ⟨c0, c1, c2⟩ := Fl.cells (Words.Rd.below H.out HB.out hB) rfl (nth_get (l := l) (k := k) (by rw [L.out]; exact hlt))
        have HB2 := Lib.hid (HB.out.alloc HB.out.size (fbox (nth l k)))
        have HSK := Lib.hid (chs_skip (l := l) (lim := lim) (k := k))
        have HTK := Lib.hid (chs_take (l := l) (lim := lim) (k := k))
        have HKP := Lib.hid (chs_keep (l := l) (lim := lim) (k := k))
        have HCD : Hid (cand l lim k ↔ (nth l k).fill = 4 ∧ (nth l k).wear < lim) := Lib.hid Iff.rfl
        have HLT := Lib.hid (chs_lt l lim (k := k))
        have HX := isBetter33 (nth l k)
        obtain ⟨d0, d1, d2⟩ := box_cells wr (nth l k)
        obtain ⟨p, hp⟩ : ∃ p, p = chs l lim k := ⟨_, rfl⟩
        rw [← hp] at HSK HTK HKP HLT ⊢
        obtain ⟨x, hx⟩ : ∃ x, x = nth l k := ⟨_, rfl⟩
        rw [← hx] at c0 c1 c2 d0 d1 d2 HB2 HTK HKP HCD HX
        clear hx hp
        obtain ⟨a, b, cw⟩ := x
        obtain ⟨best, found⟩ := p
        have d0 : ∀ m os, (grow ((wr.alloc (.cells #[.int .i64 a, .int .i64 b, .int .i64 cw] 28)).drewN m) os).cell? ⟨wr.heap.size, 0, none⟩ = some (.int .i64 a) := d0
        have d1 : ∀ m os, (grow ((wr.alloc (.cells #[.int .i64 a, .int .i64 b, .int .i64 cw] 28)).drewN m) os).cell? ⟨wr.heap.size, 1, none⟩ = some (.int .i64 b) := d1
        have d2 : ∀ m os, (grow ((wr.alloc (.cells #[.int .i64 a, .int .i64 b, .int .i64 cw] 28)).drewN m) os).cell? ⟨wr.heap.size, 2, none⟩ = some (.int .i64 cw) := d2
        by_cases hb4 : b = 4
        · have hbn : (b != 4) = false := by rw [bne_eq_false_iff_eq]; exact hb4
          by_cases hw : cw < lim
          · have hge : ¬ cw ≥ lim := by omega
            have HC := Lib.hid (HCD.out.2 ⟨hb4, hw⟩)
            cases found with
            | false =>
              have HE := Lib.hid (HTK.out HC.out (.inl rfl))
              clear hb4
              go_wp2_with fail
              refine wp_region_quiet_grown (by assumption) (by kernel_rfl) ?_
              repeat (go_big_quiet_step (fail))
              refine wpQuiet_nil ?_
              intro _ hw2
              obtain ⟨⟨nq, osq⟩, hw3⟩ := hw2
              subst hw3
              have HB3 := Lib.hid (below_grow HB2.out HB2.out.size nq osq)
              clear c0 c1 c2 d0 d1 d2
              go_wp2_with fail
              go_roundw
              case rel => exact ⟨k + 1, by go_num, by omega, by rw [HE.out], by rw [HE.out], HB3.out⟩
              case measure => simp [intOf]; omega
            | true =>
              have hbk : best < k := HLT.out rfl
              have hbn2 : best < n := by omega
              obtain ⟨q0, q1, q2⟩ := Fl.cellsG (Words.Rd.below H.out HB2.out hB) (Nat.le_trans hB HB2.out.size) rfl (nth_get (l := l) (k := best) (by rw [L.out]; exact hbn2))
              have HQ := HX (nth l best)
              have HT := Lib.hid (fun hz => HTK.out HC.out (.inr hz))
              have HF := Lib.hid (fun hz => HKP.out HC.out rfl hz)
              obtain ⟨y, hy⟩ : ∃ y, y = nth l best := ⟨_, rfl⟩
              simp only [← hy] at q0 q1 q2 HQ HT HF
              have q0 : ∀ m os, (grow ((wr.alloc (.cells #[.int .i64 a, .int .i64 b, .int .i64 cw] 28)).drewN m) os).cell? ⟨g, o + best * 3, none⟩ = some (.int .i64 y.need) := q0
              have q1 : ∀ m os, (grow ((wr.alloc (.cells #[.int .i64 a, .int .i64 b, .int .i64 cw] 28)).drewN m) os).cell? ⟨g, o + best * 3 + 1, none⟩ = some (.int .i64 y.fill) := q1
              have q2 : ∀ m os, (grow ((wr.alloc (.cells #[.int .i64 a, .int .i64 b, .int .i64 cw] 28)).drewN m) os).cell? ⟨g, o + best * 3 + 2, none⟩ = some (.int .i64 y.wear) := q2
              clear hy hb4
              unfold fval at HQ
              cases hz : better ⟨a, b, cw⟩ y with
              | true =>
                rw [hz] at HQ
                have HQ := Lib.hid HQ
                have HE := Lib.hid (HT.out hz)
                clear hz
                go_wp2_with fail
                refine wp_region_quiet_grown (by assumption) (by kernel_rfl) ?_
                repeat (go_big_quiet_step (first | (go_at_call 33; exact Calls.grown_of (HQ.out _))))
                refine wpQuiet_nil ?_
                intro _ hw2
                obtain ⟨⟨nq, osq⟩, hw3⟩ := hw2
                subst hw3
                have HB3 := Lib.hid (below_grow HB2.out HB2.out.size nq osq)
                clear c0 c1 c2 d0 d1 d2 q0 q1 q2
                go_wp2_with fail
                go_roundw
                case rel => exact ⟨k + 1, by go_num, by omega, by rw [HE.out], by rw [HE.out], HB3.out⟩
                case measure => simp [intOf]; omega
              | false =>
                rw [hz] at HQ
                have HQ := Lib.hid HQ
                have HE := Lib.hid (HF.out hz)
                clear hz
                go_wp2_with fail
                refine wp_region_quiet_grown (by assumption) (by kernel_rfl) ?_
                repeat (go_big_quiet_step (first | (go_at_call 33; exact Calls.grown_of (HQ.out _))))
                refine wpQuiet_nil ?_
                intro _ hw2
                obtain ⟨⟨nq, osq⟩, hw3⟩ := hw2
                subst hw3
                have HB3 := Lib.hid (below_grow HB2.out HB2.out.size nq osq)
                clear c0 c1 c2 d0 d1 d2 q0 q1 q2
                go_wp2_with fail
                go_roundw
                case rel => exact ⟨k + 1, by go_num, by omega, by rw [HE.out], by rw [HE.out], HB3.out⟩
                case measure => simp [intOf]; omega
          · have hge : cw ≥ lim := by omega
            have HE := Lib.hid (HSK.out (by rw [HCD.out]; intro h; exact hw h.2))
            clear hb4 hw d0 d1 d2
            go_wp2_with fail
            go_roundw
            case rel => exact ⟨k + 1, by go_num, by omega, by rw [HE.out], by rw [HE.out], HB2.out⟩
            case measure => simp [intOf]; omega
        · have hbn : (b != 4) = true := by rw [bne_iff_ne]; exact hb4
          have HE := Lib.hid (HSK.out (by rw [HCD.out]; intro h; exact hb4 h.1))
          clear hb4 d0 d1 d2
          go_wp2_with fail
          go_roundw
          case rel => exact ⟨k + 1, by go_num, by omega, by rw [HE.out], by rw [HE.out], HB2.out⟩
          case measure => simp [intOf]; omega
      · obtain rfl : k = n := by omega
        go_wp2_with fail
        go_ret2
        exact ⟨by rw [HP.out]; rfl, HB.out⟩
theorem greedy9 (B : Nat) (A : Option Addr) (n c : Nat) (l : List Fil) (s : Int) (w : World) (h : Fl w B A n c l) (hB : B ≤ w.heap.size) :
    Calls Try.prog 9 #[.slice A n c, .int .i64 s] w fun e w' => e = .returned (.tuple #[.int .i64 (gidx l s), .int .i64 (gerr l s)]) ∧ Below w.heap.size w w' := by
  have HC := check23 B A n c l s w h hB
  by_cases hz : chk l s = 0
  · obtain ⟨hr, h1, h2⟩ := chk_zero hz
    have HH := Lib.hid (fun (W : World) (b : Below w.heap.size w W) => choose24 B A n c l s W (Words.Rd.below h b hB) (Nat.le_trans hB b.size) hr h1 h2)
    rw [hz] at HC
    have HC := Lib.hid HC
    have HI := Lib.hid (gidx_ok hz)
    have HE := Lib.hid (gerr_ok hz)
    have HN := Lib.hid (gerr_none hz)
    have HJ := Lib.hid (gidx_none (l := l) (s := s))
    clear h hr h1 h2 hz
    obtain ⟨p, hp⟩ : ∃ p, p = pick l s := ⟨_, rfl⟩
    simp only [← hp] at HH HI HE HN HJ
    clear hp
    obtain ⟨k, found⟩ := p
    cases found with
    | true =>
      have HE2 := Lib.hid (HE.out rfl)
      clear HE HN HJ
      go_enter Try.func9, Try.ntmps9
      go_wp2_with fail
      refine (HC.out).mono ?_; rintro e w1 ⟨rfl, hb⟩
      have HB := Lib.hid hb
      clear hb
      go_wp2_with fail
      refine (HH.out _ HB.out).mono ?_; rintro e w2 ⟨rfl, hb⟩
      have HB2 := Lib.hid (HB.out.trans (hb.mono HB.out.size))
      clear hb
      go_wp2_with fail
      go_ret2
      exact ⟨by rw [HI.out, HE2.out]; rfl, HB2.out⟩
    | false =>
      have HE2 := Lib.hid (HN.out rfl)
      have HI2 := Lib.hid (HJ.out rfl)
      clear HE HN HJ HI
      go_enter Try.func9, Try.ntmps9
      go_wp2_with fail
      refine (HC.out).mono ?_; rintro e w1 ⟨rfl, hb⟩
      have HB := Lib.hid hb
      clear hb
      go_wp2_with fail
      refine (HH.out _ HB.out).mono ?_; rintro e w2 ⟨rfl, hb⟩
      have HB2 := Lib.hid (HB.out.trans (hb.mono HB.out.size))
      clear hb
      go_wp2_with fail
      go_ret2
      exact ⟨by rw [HI2.out, HE2.out]; rfl, HB2.out⟩
  · have hne : (chk l s != 0) = true := by rw [bne_iff_ne]; exact hz
    have HE := Lib.hid (gerr_bad hz)
    have HI := Lib.hid (gidx_bad hz)
    clear h hz
    obtain ⟨v, hv⟩ : ∃ v, v = chk l s := ⟨_, rfl⟩
    rw [← hv] at HC HE hne
    have HC := Lib.hid HC
    clear hv
    go_enter Try.func9, Try.ntmps9
    go_wp2_with fail
    refine (HC.out).mono ?_; rintro e w1 ⟨rfl, hb⟩
    have HB := Lib.hid hb
    clear hb
    go_wp2_with fail
    go_ret2
    exact ⟨by rw [HI.out, HE.out]; rfl, HB.out⟩
end Go.Proofs.Ytodnjeahjalinaa.Vic
