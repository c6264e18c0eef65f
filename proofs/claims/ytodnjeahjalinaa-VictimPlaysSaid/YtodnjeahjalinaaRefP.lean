/-
  What the document's own run of erasures returns.
-/
import Derived.Test.YtodnjeahjalinaaPlay
import Derived.Test.YtodnjeahjalinaaRefs2
namespace Go.Proofs.Ytodnjeahjalinaa.Vic
open Go.ChangeShapes Go.WideShapes Go.ChangeAt Go.RowKit Words Go.Sort
open Go.Proofs.Ytodnjeahjalinaa.Stab (Laid below_grow mixedO)
set_option linter.unusedVariables false

def slen : Value → Nat
  | .slice _ n _ => n
  | _ => 0
/-- What the two stores of the document leave. -/
theorem two_put {nx : List Fil} {k : Nat} (hk : k < nx.length) (h4 : (nth nx k).fill = 4) :
    (nx.set k ⟨0, (nth nx k).fill, (nth nx k).wear⟩).set k ⟨(nth (nx.set k ⟨0, (nth nx k).fill, (nth nx k).wear⟩) k).need, (nth (nx.set k ⟨0, (nth nx k).fill, (nth nx k).wear⟩) k).fill, (nth nx k).wear + 1⟩ = bump nx k := by
  rw [nth_set hk, if_pos rfl, List.set_set, h4]
  rfl
theorem gerr_three {l : List Fil} {s : Int} (hz : chk l s = 0) {p : Nat × Bool} (hp : p = pick l s) : gerr l s = (if p.2 = true then 0 else 3) ∧ gidx l s = p.1 := by
  subst hp
  exact ⟨by unfold gerr; rw [if_pos hz], gidx_ok hz⟩
set_option maxHeartbeats 4000000 in
theorem gplay15 (B : Nat) (A : Option Addr) (n c : Nat) (l : List Fil) (s t : Int) (w : World) (h : Fl w B A n c l) (hB : B ≤ w.heap.size) :
    Calls Try.prog 15 #[.slice A n c, .int .i64 s, .int .i64 t] w (PlayedV w l s t) := by
  have HC := ggreedy10 B A n c l s w h hB
  by_cases hz : chk l s = 0
  · obtain ⟨v, hv⟩ : ∃ v, v = gerr l s := ⟨_, rfl⟩
    have hvv : v = 0 ∨ v = 3 := by
      rw [hv, (gerr_three hz rfl).1]
      split <;> omega
    have hq : (v != 0) = false ∨ ((v != 0) = true ∧ (v != 3) = false) := by
      rcases hvv with e | e
      · exact .inl (by rw [bne_eq_false_iff_eq]; exact e)
      · exact .inr ⟨by rw [bne_iff_ne]; omega, by rw [bne_eq_false_iff_eq]; exact e⟩
    rw [← hv] at HC
    obtain ⟨v2, hv2⟩ : ∃ v2, v2 = gidx l s := ⟨_, rfl⟩
    rw [← hv2] at HC
    have HC := Lib.hid HC
    clear hv hv2 hvv
    by_cases ht : t < 0
    · have HE := Lib.hid (perr_range hz (.inl ht))
      clear h hz
      rcases hq with hq | ⟨hq, hq2⟩
      · go_enter Try.func15, Try.ntmps15
        go_wp2_with fail
        refine (HC.out).mono ?_; rintro e w1 ⟨rfl, hb⟩
        have HB := Lib.hid hb
        clear hb
        go_wp2_with fail
        go_ret3
        exact played_nil HE.out (by omega) HB.out
      · go_enter Try.func15, Try.ntmps15
        go_wp2_with fail
        refine (HC.out).mono ?_; rintro e w1 ⟨rfl, hb⟩
        have HB := Lib.hid hb
        clear hb
        go_wp2_with fail
        go_ret3
        exact played_nil HE.out (by omega) HB.out
    · by_cases ht2 : t > 400
      · have HE := Lib.hid (perr_range hz (.inr ht2))
        clear h hz
        rcases hq with hq | ⟨hq, hq2⟩
        · go_enter Try.func15, Try.ntmps15
          go_wp2_with fail
          refine (HC.out).mono ?_; rintro e w1 ⟨rfl, hb⟩
          have HB := Lib.hid hb
          clear hb
          go_wp2_with fail
          go_ret3
          exact played_nil HE.out (by omega) HB.out
        · go_enter Try.func15, Try.ntmps15
          go_wp2_with fail
          refine (HC.out).mono ?_; rintro e w1 ⟨rfl, hb⟩
          have HB := Lib.hid hb
          clear hb
          go_wp2_with fail
          go_ret3
          exact played_nil HE.out (by omega) HB.out
      · have HE := Lib.hid (perr_ok hz (t := t) (by omega))
        obtain ⟨hr, hs1, hs2⟩ := chk_zero hz
        obtain ⟨T, rfl⟩ : ∃ T : Nat, t = T := ⟨t.toNat, by omega⟩
        have hlen := right_len hr
        have hl := h.len
        have hn2 : n ≤ 4096 := by omega
        have HR := Lib.hid (Run.start (s := s) hr T)
        have HT2 : Hid (((T : Int)).toNat = T) := Lib.hid (Int.toNat_natCast T)
        obtain ⟨i3, hi3, hz30, hz31, hz32⟩ := info_parts info3
        obtain ⟨i8, hi8, hz80, hz81, hz82⟩ := info_parts info28
        have H := Lib.hid h
        clear h hz hr hlen
        rcases hq with hq | ⟨hq, hq2⟩
        · as_aux_lemma =>
            go_enter Try.func15, Try.ntmps15
            go_wp2_with fail
            refine (HC.out).mono ?_; rintro e w1 ⟨rfl, hb⟩
            have HB := Lib.hid hb
            have hsz := hb.size
            clear hb
            have hown1 : (w1.alloc (.cells #[] 28)).ownsRow w.heap.size 28 3 (.slice (some ⟨w1.heap.size, 0, none⟩) 0 0) 0 [] := w1.ownsRow_lit #[] 0 hsz (by decide) rfl
            have hb1 : Below w.heap.size w (w1.alloc (.cells #[] 28)) := HB.out.alloc hsz _
            have hz1' : w.heap.size ≤ (w1.alloc (.cells #[] 28)).heap.size := hb1.size
            have HRD := Lib.hid (Words.Rd.below H.out hb1 hB)
            go_wp2_with (first
              | (at_builtin; refine wpList_append_rd _ rfl (.tmp 34) (.tmp 35) 22 rfl w.heap.size 28 i8 _ 3 24 Try.underlying22 hi8 hz80 hz81 hz82 rfl (by decide) _ 0 [] rfl hown1 B A n c (lcells l) rfl HRD.out (lcells_one l) (by simp only [maxLen]; omega) (by omega) hz1' ?_
                 intro A2 c2 w2 hown2 hg2
                 have hb2 : Below w.heap.size w w2 := below_grown hb1 hown1 hg2 hz1' (Nat.le_refl _)
                 simp only [Nat.zero_add, List.nil_append] at hown2))
            have I0 : Hid (PInv w w2 [] l none 0 0 A2 n c2) := Lib.hid ⟨w2.ownsRow_nil _ _ _, hown2, hb2⟩
            clear hown1 hb1 hz1' HRD hown2 hg2 hb2 hi8 hz80 hz81 hz82
            go_loopw [12] (fun a wr => ∃ (j : Nat) (ch : List Int) (nx : List Fil) (A1 : Option Addr) (c1 : Nat), a = .slice A1 j c1 ∧ PInv w wr ch nx A1 j c1 A2 n c2 ∧ Run s l T j ch nx) (fun a _ => T - slen a)
            case atStart => exact ⟨0, [], l, none, 0, rfl, I0.out, HR.out⟩
            case round =>
              obtain ⟨j, ch, nx, A1, c1, rfl, hinv, hrun⟩ := hrel
              have I := Lib.hid hinv
              have R := Lib.hid hrun
              clear hinv hrun I0 HR
              by_cases hlt : j < T
              · have HH := ggreedy10 _ A2 n c2 nx s wr I.out.fl.fl (Nat.le_refl _)
                have hcz := chk_ok (s := s) R.out.rt (by omega)
                have HG1 := Lib.hid (fun k => goes_none (l := nx) (s := s) (k := k))
                have HG2 := Lib.hid (fun k => goes_worn (l := nx) (s := s) (k := k))
                have HG3 := Lib.hid (fun k => goes_yes (l := nx) (s := s) (k := k))
                have HLT := Lib.hid ((pick_best nx s).lt)
                have HIS := Lib.hid ((pick_best nx s).is)
                have HNX := Lib.hid (R.out.next hlt)
                obtain ⟨e1, e2⟩ := gerr_three (s := s) hcz (rfl : pick nx s = pick nx s)
                rw [e1, e2] at HH
                clear e1 e2 hcz
                obtain ⟨p, hp⟩ : ∃ p, p = pick nx s := ⟨_, rfl⟩
                simp only [← hp] at HH HLT HG1 HG2 HG3 HNX HIS
                clear hp
                obtain ⟨k, found⟩ := p
                cases found with
                | false =>
                  simp only [Bool.false_eq_true, if_false] at HH
                  have HH := Lib.hid HH
                  have HS := Lib.hid (R.out.stop (HG1.out k rfl))
                  clear HG1 HG2 HG3 HLT HNX HIS
                  go_wp2_with fail
                  refine (HH.out).mono ?_; rintro e w3 ⟨rfl, b3⟩
                  have I1 := Lib.hid (I.out.below b3)
                  clear b3
                  go_wp2_with fail
                  go_ret3
                  exact played_ok HE.out (by rw [HT2.out]; exact HS.out) I1.out
                | true =>
                  simp only [if_true] at HH
                  have hkn : k < n := by have := HLT.out rfl; rw [R.out.len, hl] at this; exact this
                  have h4 : (nth nx k).fill = 4 := (HIS.out rfl).1
                  obtain ⟨g, rfl, _, _⟩ := I.out.fl.addr (by omega)
                  have HH := Lib.hid HH
                  have hrb := right_nth R.out.rt (k := k) (by rw [R.out.len, hl]; exact hkn)
                  have y0 := hrb.2.2.2.1
                  have y1 := hrb.2.2.2.2
                  clear hrb
                  by_cases hw : (nth nx k).wear ≥ 1048576
                  · have HS := Lib.hid (R.out.stop (HG2.out k rfl (by omega)))
                    clear HG1 HG2 HG3 HLT HNX HIS h4
                    go_wp2_with fail
                    refine (HH.out).mono ?_; rintro e w3 ⟨rfl, b3⟩
                    have I1 := Lib.hid (I.out.below b3)
                    obtain ⟨q0, q1, q2⟩ := I1.out.fl.cells (nth_get (l := nx) (k := k) (by rw [I1.out.fl.len]; exact hkn))
                    obtain ⟨y, hy⟩ : ∃ y, y = nth nx k := ⟨_, rfl⟩
                    rw [← hy] at q0 q1 q2 y0 y1 hw
                    clear b3 hy
                    obtain ⟨yn, yf, yw⟩ := y
                    have hw : yw ≥ 1048576 := hw
                    have q2 : w3.cell? ⟨g, k * 3 + 2, none⟩ = some (.int .i64 yw) := q2
                    go_wp2_with fail
                    go_ret3
                    exact played_ok HE.out (by rw [HT2.out]; exact HS.out) I1.out
                  · have HNX := Lib.hid (HNX.out (HG3.out k rfl (by omega)))
                    have HBP := Lib.hid (two_put (nx := nx) (k := k) (by rw [R.out.len, hl]; exact hkn) h4)
                    clear HG1 HG2 HG3 HLT HIS h4
                    go_wp2_with fail
                    refine (HH.out).mono ?_; rintro e w3 ⟨rfl, b3⟩
                    have I1 := Lib.hid (I.out.below b3)
                    have I2 := Lib.hid (I1.out.put0 hkn 0)
                    have I3 := Lib.hid ((I2.out.put2 hkn ((nth nx k).wear + 1)).as rfl HBP.out.symm)
                    have PA := I1.out.fl.putAt hkn ⟨0, 0, 0⟩
                    have fz := I2.out.fl.frozen (k * 3 + 2)
                    obtain ⟨p0, p1, p2, f0, f1, f2, n1, n2, m2⟩ := PA
                    have p0 : w3.cell? ⟨g, k * 3, none⟩ = some (.int .i64 (nth nx k).need) := p0
                    have p2 : w3.cell? ⟨g, k * 3 + 2, none⟩ = some (.int .i64 (nth nx k).wear) := p2
                    have m2 : (w3.setCell ⟨g, k * 3, none⟩ (.int .i64 0)).cell? ⟨g, k * 3 + 2, none⟩ = some (.int .i64 (nth nx k).wear) := m2
                    have I4 := Lib.hid (I3.out.alloc (.cells #[.int .i64 k] 3))
                    have hs4 := I4.out.bel.size
                    have hsz3 : ((w3.setCell ⟨g, k * 3, none⟩ (.int .i64 0)).setCell ⟨g, k * 3 + 2, none⟩ (.int .i64 ((nth nx k).wear + 1))).heap.size = w3.heap.size := by simp [World.setCell]
                    have hr1 := one_cell ((w3.setCell ⟨g, k * 3, none⟩ (.int .i64 0)).setCell ⟨g, k * 3 + 2, none⟩ (.int .i64 ((nth nx k).wear + 1))) 3 k
                    rw [hsz3] at hr1
                    generalize nth nx k = y at *
                    clear b3 n1 n2 p1 f1
                    obtain ⟨yn, yf, yw⟩ := y
                    have hw : ¬ yw ≥ 1048576 := by simp only at hw; omega
                    have p0 : w3.cell? ⟨g, k * 3, none⟩ = some (.int .i64 yn) := p0
                    have p2 : w3.cell? ⟨g, k * 3 + 2, none⟩ = some (.int .i64 yw) := p2
                    have m2 : (w3.setCell ⟨g, k * 3, none⟩ (.int .i64 0)).cell? ⟨g, k * 3 + 2, none⟩ = some (.int .i64 yw) := m2
                    have y0 : 0 ≤ yw := y0
                    have y1 : yw ≤ 1048576 := y1
                    have hT : T ≤ 400 := by omega
                    have I4 : Hid (PInv w (((w3.setCell ⟨g, k * 3, none⟩ (.int .i64 0)).setCell ⟨g, k * 3 + 2, none⟩ (.int .i64 (yw + 1))).alloc (.cells #[.int .i64 k] 3)) ch (bump nx k) A1 j c1 (some ⟨g, 0, none⟩) n c2) := I4
                    have hs4 : w.heap.size ≤ (((w3.setCell ⟨g, k * 3, none⟩ (.int .i64 0)).setCell ⟨g, k * 3 + 2, none⟩ (.int .i64 (yw + 1))).alloc (.cells #[.int .i64 k] 3)).heap.size := hs4
                    have HR1 : Hid (Words.Rd (((w3.setCell ⟨g, k * 3, none⟩ (.int .i64 0)).setCell ⟨g, k * 3 + 2, none⟩ (.int .i64 (yw + 1))).alloc (.cells #[.int .i64 k] 3)) (w3.heap.size + 1) 1 (some ⟨w3.heap.size, 0, none⟩) 1 1 (icells [(k : Int)])) := Lib.hid hr1
                    clear hr1 hsz3
                    go_wp2_with (first
                      | (at_builtin; refine wpList_append_rd _ rfl (.tmp 69) (.tmp 71) 31 rfl w.heap.size 3 i3 (.int .i64 0) 1 8 Try.underlying31 hi3 hz30 hz31 hz32 rfl (by decide) _ j (icells ch) rfl I4.out.row (w3.heap.size + 1) (some ⟨w3.heap.size, 0, none⟩) 1 1 (icells [(k : Int)]) rfl HR1.out (icells_one _) (by simp only [maxLen]; omega) (by omega) hs4 ?_
                         intro A9 c9 x2 hown2 hg2
                         have I5 := Lib.hid (I4.out.had hown2 hg2)
                         clear hown2 hg2))
                    go_roundw
                    case rel => exact ⟨j + 1, ch ++ [(k : Int)], bump nx k, A9, c9, rfl, I5.out, HNX.out⟩
                    case measure => simp [slen]; omega
              · go_wp2_with fail
                go_ret3
                exact played_ok HE.out (by rw [HT2.out]; exact R.out.fin hlt) I.out
        · as_aux_lemma =>
            go_enter Try.func15, Try.ntmps15
            go_wp2_with fail
            refine (HC.out).mono ?_; rintro e w1 ⟨rfl, hb⟩
            have HB := Lib.hid hb
            have hsz := hb.size
            clear hb
            have hown1 : (w1.alloc (.cells #[] 28)).ownsRow w.heap.size 28 3 (.slice (some ⟨w1.heap.size, 0, none⟩) 0 0) 0 [] := w1.ownsRow_lit #[] 0 hsz (by decide) rfl
            have hb1 : Below w.heap.size w (w1.alloc (.cells #[] 28)) := HB.out.alloc hsz _
            have hz1' : w.heap.size ≤ (w1.alloc (.cells #[] 28)).heap.size := hb1.size
            have HRD := Lib.hid (Words.Rd.below H.out hb1 hB)
            go_wp2_with (first
              | (at_builtin; refine wpList_append_rd _ rfl (.tmp 34) (.tmp 35) 22 rfl w.heap.size 28 i8 _ 3 24 Try.underlying22 hi8 hz80 hz81 hz82 rfl (by decide) _ 0 [] rfl hown1 B A n c (lcells l) rfl HRD.out (lcells_one l) (by simp only [maxLen]; omega) (by omega) hz1' ?_
                 intro A2 c2 w2 hown2 hg2
                 have hb2 : Below w.heap.size w w2 := below_grown hb1 hown1 hg2 hz1' (Nat.le_refl _)
                 simp only [Nat.zero_add, List.nil_append] at hown2))
            have I0 : Hid (PInv w w2 [] l none 0 0 A2 n c2) := Lib.hid ⟨w2.ownsRow_nil _ _ _, hown2, hb2⟩
            clear hown1 hb1 hz1' HRD hown2 hg2 hb2 hi8 hz80 hz81 hz82
            go_loopw [12] (fun a wr => ∃ (j : Nat) (ch : List Int) (nx : List Fil) (A1 : Option Addr) (c1 : Nat), a = .slice A1 j c1 ∧ PInv w wr ch nx A1 j c1 A2 n c2 ∧ Run s l T j ch nx) (fun a _ => T - slen a)
            case atStart => exact ⟨0, [], l, none, 0, rfl, I0.out, HR.out⟩
            case round =>
              obtain ⟨j, ch, nx, A1, c1, rfl, hinv, hrun⟩ := hrel
              have I := Lib.hid hinv
              have R := Lib.hid hrun
              clear hinv hrun I0 HR
              by_cases hlt : j < T
              · have HH := ggreedy10 _ A2 n c2 nx s wr I.out.fl.fl (Nat.le_refl _)
                have hcz := chk_ok (s := s) R.out.rt (by omega)
                have HG1 := Lib.hid (fun k => goes_none (l := nx) (s := s) (k := k))
                have HG2 := Lib.hid (fun k => goes_worn (l := nx) (s := s) (k := k))
                have HG3 := Lib.hid (fun k => goes_yes (l := nx) (s := s) (k := k))
                have HLT := Lib.hid ((pick_best nx s).lt)
                have HIS := Lib.hid ((pick_best nx s).is)
                have HNX := Lib.hid (R.out.next hlt)
                obtain ⟨e1, e2⟩ := gerr_three (s := s) hcz (rfl : pick nx s = pick nx s)
                rw [e1, e2] at HH
                clear e1 e2 hcz
                obtain ⟨p, hp⟩ : ∃ p, p = pick nx s := ⟨_, rfl⟩
                simp only [← hp] at HH HLT HG1 HG2 HG3 HNX HIS
                clear hp
                obtain ⟨k, found⟩ := p
                cases found with
                | false =>
                  simp only [Bool.false_eq_true, if_false] at HH
                  have HH := Lib.hid HH
                  have HS := Lib.hid (R.out.stop (HG1.out k rfl))
                  clear HG1 HG2 HG3 HLT HNX HIS
                  go_wp2_with fail
                  refine (HH.out).mono ?_; rintro e w3 ⟨rfl, b3⟩
                  have I1 := Lib.hid (I.out.below b3)
                  clear b3
                  go_wp2_with fail
                  go_ret3
                  exact played_ok HE.out (by rw [HT2.out]; exact HS.out) I1.out
                | true =>
                  simp only [if_true] at HH
                  have hkn : k < n := by have := HLT.out rfl; rw [R.out.len, hl] at this; exact this
                  have h4 : (nth nx k).fill = 4 := (HIS.out rfl).1
                  obtain ⟨g, rfl, _, _⟩ := I.out.fl.addr (by omega)
                  have HH := Lib.hid HH
                  have hrb := right_nth R.out.rt (k := k) (by rw [R.out.len, hl]; exact hkn)
                  have y0 := hrb.2.2.2.1
                  have y1 := hrb.2.2.2.2
                  clear hrb
                  by_cases hw : (nth nx k).wear ≥ 1048576
                  · have HS := Lib.hid (R.out.stop (HG2.out k rfl (by omega)))
                    clear HG1 HG2 HG3 HLT HNX HIS h4
                    go_wp2_with fail
                    refine (HH.out).mono ?_; rintro e w3 ⟨rfl, b3⟩
                    have I1 := Lib.hid (I.out.below b3)
                    obtain ⟨q0, q1, q2⟩ := I1.out.fl.cells (nth_get (l := nx) (k := k) (by rw [I1.out.fl.len]; exact hkn))
                    obtain ⟨y, hy⟩ : ∃ y, y = nth nx k := ⟨_, rfl⟩
                    rw [← hy] at q0 q1 q2 y0 y1 hw
                    clear b3 hy
                    obtain ⟨yn, yf, yw⟩ := y
                    have hw : yw ≥ 1048576 := hw
                    have q2 : w3.cell? ⟨g, k * 3 + 2, none⟩ = some (.int .i64 yw) := q2
                    go_wp2_with fail
                    go_ret3
                    exact played_ok HE.out (by rw [HT2.out]; exact HS.out) I1.out
                  · have HNX := Lib.hid (HNX.out (HG3.out k rfl (by omega)))
                    have HBP := Lib.hid (two_put (nx := nx) (k := k) (by rw [R.out.len, hl]; exact hkn) h4)
                    clear HG1 HG2 HG3 HLT HIS h4
                    go_wp2_with fail
                    refine (HH.out).mono ?_; rintro e w3 ⟨rfl, b3⟩
                    have I1 := Lib.hid (I.out.below b3)
                    have I2 := Lib.hid (I1.out.put0 hkn 0)
                    have I3 := Lib.hid ((I2.out.put2 hkn ((nth nx k).wear + 1)).as rfl HBP.out.symm)
                    have PA := I1.out.fl.putAt hkn ⟨0, 0, 0⟩
                    have fz := I2.out.fl.frozen (k * 3 + 2)
                    obtain ⟨p0, p1, p2, f0, f1, f2, n1, n2, m2⟩ := PA
                    have p0 : w3.cell? ⟨g, k * 3, none⟩ = some (.int .i64 (nth nx k).need) := p0
                    have p2 : w3.cell? ⟨g, k * 3 + 2, none⟩ = some (.int .i64 (nth nx k).wear) := p2
                    have m2 : (w3.setCell ⟨g, k * 3, none⟩ (.int .i64 0)).cell? ⟨g, k * 3 + 2, none⟩ = some (.int .i64 (nth nx k).wear) := m2
                    have I4 := Lib.hid (I3.out.alloc (.cells #[.int .i64 k] 3))
                    have hs4 := I4.out.bel.size
                    have hsz3 : ((w3.setCell ⟨g, k * 3, none⟩ (.int .i64 0)).setCell ⟨g, k * 3 + 2, none⟩ (.int .i64 ((nth nx k).wear + 1))).heap.size = w3.heap.size := by simp [World.setCell]
                    have hr1 := one_cell ((w3.setCell ⟨g, k * 3, none⟩ (.int .i64 0)).setCell ⟨g, k * 3 + 2, none⟩ (.int .i64 ((nth nx k).wear + 1))) 3 k
                    rw [hsz3] at hr1
                    generalize nth nx k = y at *
                    clear b3 n1 n2 p1 f1
                    obtain ⟨yn, yf, yw⟩ := y
                    have hw : ¬ yw ≥ 1048576 := by simp only at hw; omega
                    have p0 : w3.cell? ⟨g, k * 3, none⟩ = some (.int .i64 yn) := p0
                    have p2 : w3.cell? ⟨g, k * 3 + 2, none⟩ = some (.int .i64 yw) := p2
                    have m2 : (w3.setCell ⟨g, k * 3, none⟩ (.int .i64 0)).cell? ⟨g, k * 3 + 2, none⟩ = some (.int .i64 yw) := m2
                    have y0 : 0 ≤ yw := y0
                    have y1 : yw ≤ 1048576 := y1
                    have hT : T ≤ 400 := by omega
                    have I4 : Hid (PInv w (((w3.setCell ⟨g, k * 3, none⟩ (.int .i64 0)).setCell ⟨g, k * 3 + 2, none⟩ (.int .i64 (yw + 1))).alloc (.cells #[.int .i64 k] 3)) ch (bump nx k) A1 j c1 (some ⟨g, 0, none⟩) n c2) := I4
                    have hs4 : w.heap.size ≤ (((w3.setCell ⟨g, k * 3, none⟩ (.int .i64 0)).setCell ⟨g, k * 3 + 2, none⟩ (.int .i64 (yw + 1))).alloc (.cells #[.int .i64 k] 3)).heap.size := hs4
                    have HR1 : Hid (Words.Rd (((w3.setCell ⟨g, k * 3, none⟩ (.int .i64 0)).setCell ⟨g, k * 3 + 2, none⟩ (.int .i64 (yw + 1))).alloc (.cells #[.int .i64 k] 3)) (w3.heap.size + 1) 1 (some ⟨w3.heap.size, 0, none⟩) 1 1 (icells [(k : Int)])) := Lib.hid hr1
                    clear hr1 hsz3
                    go_wp2_with (first
                      | (at_builtin; refine wpList_append_rd _ rfl (.tmp 69) (.tmp 71) 31 rfl w.heap.size 3 i3 (.int .i64 0) 1 8 Try.underlying31 hi3 hz30 hz31 hz32 rfl (by decide) _ j (icells ch) rfl I4.out.row (w3.heap.size + 1) (some ⟨w3.heap.size, 0, none⟩) 1 1 (icells [(k : Int)]) rfl HR1.out (icells_one _) (by simp only [maxLen]; omega) (by omega) hs4 ?_
                         intro A9 c9 x2 hown2 hg2
                         have I5 := Lib.hid (I4.out.had hown2 hg2)
                         clear hown2 hg2))
                    go_roundw
                    case rel => exact ⟨j + 1, ch ++ [(k : Int)], bump nx k, A9, c9, rfl, I5.out, HNX.out⟩
                    case measure => simp [slen]; omega
              · go_wp2_with fail
                go_ret3
                exact played_ok HE.out (by rw [HT2.out]; exact R.out.fin hlt) I.out
  · have hne : (chk l s != 0) = true := by rw [bne_iff_ne]; exact hz
    have hne3 : (chk l s != 3) = true := by rw [bne_iff_ne]; have := chk_cases l s; omega
    have HE := Lib.hid (perr_bad (t := t) hz)
    have HZ := Lib.hid hz
    rw [gerr_bad hz, gidx_bad hz] at HC
    clear h hz
    obtain ⟨v, hv⟩ : ∃ v, v = chk l s := ⟨_, rfl⟩
    rw [← hv] at HC HE hne hne3 HZ
    have HC := Lib.hid HC
    clear hv
    go_enter Try.func15, Try.ntmps15
    go_wp2_with fail
    refine (HC.out).mono ?_; rintro e w1 ⟨rfl, hb⟩
    have HB := Lib.hid hb
    clear hb
    go_wp2_with fail
    go_ret3
    exact played_nil HE.out HZ.out HB.out
end Go.Proofs.Ytodnjeahjalinaa.Vic
