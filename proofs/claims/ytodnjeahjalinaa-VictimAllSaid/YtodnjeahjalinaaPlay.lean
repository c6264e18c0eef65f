/-
  What Play returns.
-/
import Derived.Test.YtodnjeahjalinaaOwn
namespace Go.Proofs.Ytodnjeahjalinaa.Vic
open Go.ChangeShapes Go.WideShapes Go.ChangeAt Go.RowKit Words Go.Sort
open Go.Proofs.Ytodnjeahjalinaa.Stab (Laid below_grow mixedO)
set_option linter.unusedVariables false

theorem goes_none {l : List Fil} {s : Int} {k : Nat} (h : (k, false) = pick l s) : goes l s = false := by unfold goes; rw [← h]; rfl
theorem goes_worn {l : List Fil} {s : Int} {k : Nat} (h : (k, true) = pick l s) (h2 : (nth l k).wear = 1048576) : goes l s = false := by unfold goes; rw [← h]; simp [h2]
theorem goes_yes {l : List Fil} {s : Int} {k : Nat} (h : (k, true) = pick l s) (h2 : ¬ (nth l k).wear = 1048576) : goes l s = true := by unfold goes; rw [← h]; simp [h2]
set_option maxHeartbeats 4000000 in
theorem play14 (B : Nat) (A : Option Addr) (n c : Nat) (l : List Fil) (s t : Int) (w : World) (h : Fl w B A n c l) (hB : B ≤ w.heap.size) :
    Calls Try.prog 14 #[.slice A n c, .int .i64 s, .int .i64 t] w (PlayedV w l s t) := by
  have HC := check23 B A n c l s w h hB
  by_cases hz : chk l s = 0
  · rw [hz] at HC
    have HC := Lib.hid HC
    by_cases ht : t < 0
    · have HE := Lib.hid (perr_range hz (.inl ht))
      clear h hz
      go_enter Try.func14, Try.ntmps14
      go_wp2_with fail
      refine (HC.out).mono ?_; rintro e w1 ⟨rfl, hb⟩
      have HB := Lib.hid hb
      clear hb
      go_wp2_with fail
      go_ret3
      exact played_nil HE.out (by omega) HB.out
    · by_cases ht2 : t > 400
      · have HE := Lib.hid (perr_range hz (.inr ht2))
        clear h hz
        go_enter Try.func14, Try.ntmps14
        go_wp2_with fail
        refine (HC.out).mono ?_; rintro e w1 ⟨rfl, hb⟩
        have HB := Lib.hid hb
        clear hb
        go_wp2_with fail
        go_ret3
        exact played_nil HE.out (by omega) HB.out
      · have HE := Lib.hid (perr_ok hz (t := t) (by omega))
        obtain ⟨hr, hs1, hs2⟩ := chk_zero hz
        obtain ⟨T, rfl⟩ : ∃ T : Nat, t = T := ⟨t.toNat, by omega⟩
        have hlen := right_len hr
        have hl := h.len
        have hn2 : n ≤ 4096 := by omega
        have HK := Lib.hid (fun (W : World) (b : Below w.heap.size w W) => clone22 B A n c l W (Words.Rd.below h b hB) (Nat.le_trans hB b.size) (by omega))
        have HR := Lib.hid (Run.start (s := s) hr T)
        have HT2 : Hid (((T : Int)).toNat = T) := Lib.hid (Int.toNat_natCast T)
        obtain ⟨i3, hi3, hz30, hz31, hz32⟩ := info_parts info3
        clear h hz hr hlen
        go_enter Try.func14, Try.ntmps14
        go_wp2_with fail
        refine (HC.out).mono ?_; rintro e w1 ⟨rfl, hb⟩
        have HB := Lib.hid hb
        clear hb
        go_wp2_with fail
        refine (HK.out _ HB.out).mono ?_; rintro e w2 ⟨A2, c2, rfl, o2, b2⟩
        have I0 : Hid (PInv w w2 [] l none 0 0 A2 n c2) := Lib.hid ⟨w2.ownsRow_nil _ _ _, own_base o2 HB.out.size, HB.out.trans (b2.mono HB.out.size)⟩
        clear o2 b2
        go_wp2_with fail
        go_loopw [10, 29] (fun a i wr => ∃ (j : Nat) (ch : List Int) (nx : List Fil) (A1 : Option Addr) (c1 : Nat), a = .slice A1 j c1 ∧ i = .int .i64 j ∧ PInv w wr ch nx A1 j c1 A2 n c2 ∧ Run s l T j ch nx) (fun _ i _ => (T - intOf i).toNat)
        case atStart => exact ⟨0, [], l, none, 0, rfl, rfl, I0.out, HR.out⟩
        case round =>
          obtain ⟨j, ch, nx, A1, c1, rfl, rfl, hinv, hrun⟩ := hrel
          have I := Lib.hid hinv
          have R := Lib.hid hrun
          clear hinv hrun I0 HR
          by_cases hlt : j < T
          · have HH := choose24 _ A2 n c2 nx s wr I.out.fl.fl (Nat.le_refl _) R.out.rt hs1 hs2
            have HG1 := Lib.hid (fun k => goes_none (l := nx) (s := s) (k := k))
            have HG2 := Lib.hid (fun k => goes_worn (l := nx) (s := s) (k := k))
            have HG3 := Lib.hid (fun k => goes_yes (l := nx) (s := s) (k := k))
            have HLT := Lib.hid ((pick_best nx s).lt)
            have HNX := Lib.hid (R.out.next hlt)
            obtain ⟨p, hp⟩ : ∃ p, p = pick nx s := ⟨_, rfl⟩
            simp only [← hp] at HH HLT HG1 HG2 HG3 HNX
            clear hp
            obtain ⟨k, found⟩ := p
            cases found with
            | false =>
              have HH := Lib.hid HH
              have HS := Lib.hid (R.out.stop (HG1.out k rfl))
              clear HG1 HG2 HG3 HLT HNX
              go_wp2_with fail
              refine (HH.out).mono ?_; rintro e w3 ⟨rfl, b3⟩
              have I1 := Lib.hid (I.out.below b3)
              clear b3
              go_wp2_with fail
              go_ret3
              exact played_ok HE.out (by rw [HT2.out]; exact HS.out) I1.out
            | true =>
              have hkn : k < n := by have := HLT.out rfl; rw [R.out.len, hl] at this; exact this
              obtain ⟨g, rfl, _, _⟩ := I.out.fl.addr (by omega)
              have HH := Lib.hid HH
              have hrb := right_nth R.out.rt (k := k) (by rw [R.out.len, hl]; exact hkn)
              have y0 := hrb.2.2.2.1
              have y1 := hrb.2.2.2.2
              clear hrb
              by_cases hw : (nth nx k).wear = 1048576
              · have hwb : ((nth nx k).wear == 1048576) = true := by rw [beq_iff_eq]; exact hw
                have HS := Lib.hid (R.out.stop (HG2.out k rfl hw))
                clear HG1 HG2 HG3 HLT HNX hw
                go_wp2_with fail
                refine (HH.out).mono ?_; rintro e w3 ⟨rfl, b3⟩
                have I1 := Lib.hid (I.out.below b3)
                obtain ⟨q0, q1, q2⟩ := I1.out.fl.cells (nth_get (l := nx) (k := k) (by rw [I1.out.fl.len]; exact hkn))
                obtain ⟨y, hy⟩ : ∃ y, y = nth nx k := ⟨_, rfl⟩
                rw [← hy] at q0 q1 q2 y0 y1 hwb
                clear b3 hy
                obtain ⟨yn, yf, yw⟩ := y
                have hwb : (yw == 1048576) = true := hwb
                have q2 : w3.cell? ⟨g, k * 3 + 2, none⟩ = some (.int .i64 yw) := q2
                go_wp2_with fail
                go_ret3
                exact played_ok HE.out (by rw [HT2.out]; exact HS.out) I1.out
              · have hwb : ((nth nx k).wear == 1048576) = false := by rw [beq_eq_false_iff_ne]; exact hw
                have HNX := Lib.hid (HNX.out (HG3.out k rfl hw))
                have HBP : Hid (bump nx k = nx.set k ⟨0, 4, (nth nx k).wear + 1⟩) := Lib.hid rfl
                clear HG1 HG2 HG3 HLT hw
                go_wp2_with fail
                refine (HH.out).mono ?_; rintro e w3 ⟨rfl, b3⟩
                have I1 := Lib.hid (I.out.below b3)
                have I2 := Lib.hid (I1.out.alloc (.cells #[.int .i64 k] 3))
                have hs2 := I2.out.bel.size
                obtain ⟨q0, q1, q2⟩ := I1.out.fl.cells (nth_get (l := nx) (k := k) (by rw [I1.out.fl.len]; exact hkn))
                have HPA := Lib.hid (fun (W : World) (ch' : List Int) (A3 : Option Addr) (c3 : Nat) (i : PInv w W ch' nx A3 (j + 1) c3 (some ⟨g, 0, none⟩) n c2) => And.intro (i.fl.putAt hkn ⟨0, 4, (nth nx k).wear + 1⟩) (i.put hkn ⟨0, 4, (nth nx k).wear + 1⟩))
                have HR1 := Lib.hid (one_cell w3 3 k)
                obtain ⟨y, hy⟩ : ∃ y, y = nth nx k := ⟨_, rfl⟩
                rw [← hy] at q0 q1 q2 y0 y1 hwb HBP
                simp only [← hy] at HPA
                clear b3 hy
                obtain ⟨yn, yf, yw⟩ := y
                have hwb : (yw == 1048576) = false := hwb
                have q2 : w3.cell? ⟨g, k * 3 + 2, none⟩ = some (.int .i64 yw) := q2
                have y0 : 0 ≤ yw := y0
                have y1 : yw ≤ 1048576 := y1
                have hT : T ≤ 400 := by omega
                go_wp2_with (first
                  | (at_builtin; refine wpList_append_rd _ rfl (.tmp 47) (.tmp 49) 31 rfl w.heap.size 3 i3 (.int .i64 0) 1 8 Try.underlying31 hi3 hz30 hz31 hz32 rfl (by decide) _ j (icells ch) rfl I2.out.row (w3.heap.size + 1) (some ⟨w3.heap.size, 0, none⟩) 1 1 (icells [(k : Int)]) rfl HR1.out (icells_one _) (by simp only [maxLen]; omega) (by omega) hs2 ?_
                     intro A9 c9 x2 hown2 hg2
                     have I3 := Lib.hid (I2.out.had hown2 hg2)
                     have HP3 := Lib.hid (HPA.out _ _ _ _ I3.out)
                     obtain ⟨p0, p1, p2, f0, f1, f2, n1, n2, m2⟩ := HP3.out.1
                     have p0 : x2.cell? ⟨g, k * 3, none⟩ = some (.int .i64 yn) := p0
                     have p1 : x2.cell? ⟨g, k * 3 + 1, none⟩ = some (.int .i64 yf) := p1
                     have p2 : x2.cell? ⟨g, k * 3 + 2, none⟩ = some (.int .i64 yw) := p2
                     have n1 : (x2.setCell ⟨g, k * 3, none⟩ (.int .i64 0)).cell? ⟨g, k * 3 + 1, none⟩ = some (.int .i64 yf) := n1
                     have n2 : ((x2.setCell ⟨g, k * 3, none⟩ (.int .i64 0)).setCell ⟨g, k * 3 + 1, none⟩ (.int .i64 4)).cell? ⟨g, k * 3 + 2, none⟩ = some (.int .i64 yw) := n2
                     clear hown2 hg2 m2))
                go_roundw
                case rel => exact ⟨j + 1, ch ++ [(k : Int)], bump nx k, A9, c9, rfl, by go_num, by rw [HBP.out]; exact HP3.out.2, HNX.out⟩
                case measure => simp [intOf]; omega
          · go_wp2_with fail
            go_ret3
            exact played_ok HE.out (by rw [HT2.out]; exact R.out.fin hlt) I.out
  · have hne : (chk l s != 0) = true := by rw [bne_iff_ne]; exact hz
    have HE := Lib.hid (perr_bad (t := t) hz)
    have HZ := Lib.hid hz
    clear h hz
    obtain ⟨v, hv⟩ : ∃ v, v = chk l s := ⟨_, rfl⟩
    rw [← hv] at HC HE hne HZ
    have HC := Lib.hid HC
    clear hv
    go_enter Try.func14, Try.ntmps14
    go_wp2_with fail
    refine (HC.out).mono ?_; rintro e w1 ⟨rfl, hb⟩
    have HB := Lib.hid hb
    clear hb
    go_wp2_with fail
    go_ret3
    exact played_nil HE.out HZ.out HB.out
end Go.Proofs.Ytodnjeahjalinaa.Vic
