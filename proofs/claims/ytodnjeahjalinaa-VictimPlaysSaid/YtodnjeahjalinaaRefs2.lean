/-
  What the document's own choice returns, walked through the program's text.
-/
import Derived.Test.YtodnjeahjalinaaRefs
namespace Go.Proofs.Ytodnjeahjalinaa.Vic
open Go.ChangeShapes Go.WideShapes Go.ChangeAt Go.RowKit Words Go.Sort
open Go.Proofs.Ytodnjeahjalinaa.Stab (Laid below_grow mixedO Tot sortT nti OwnI St Cmpr Agr lessOf stable10 sortT_length nti_get)
set_option linter.unusedVariables false

/-- The box of the list, in a new world. -/
def lbox (A : Option Addr) (n c : Nat) : Obj := .cells #[.slice A n c] 22
/-- What the walk keeps: the box of the list, the places found so far. -/
structure GInv (w : World) (A : Option Addr) (n c : Nat) (W : World) (D : List Int) (A6 : Option Addr) (m c6 : Nat) : Prop where
  bel : Below (w.heap.size + 1) (w.alloc (lbox A n c)) W
  row : W.ownsRow (w.heap.size + 1) 3 1 (.slice A6 m c6) m (icells D)
section
variable {w W x : World} {A A6 : Option Addr} {n c m c6 : Nat} {D : List Int}
theorem GInv.size (h : GInv w A n c W D A6 m c6) : w.heap.size + 1 ≤ W.heap.size := by have := h.bel.size; simpa using this
theorem GInv.below (h : GInv w A n c W D A6 m c6) (hb : Below W.heap.size W x) : GInv w A n c x D A6 m c6 :=
  ⟨h.bel.trans (hb.mono h.size), own_below h.row hb (Nat.le_refl _)⟩
theorem GInv.alloc (h : GInv w A n c W D A6 m c6) (o : Obj) : GInv w A n c (W.alloc o) D A6 m c6 := h.below ((Below.refl _ _).alloc (Nat.le_refl _) _)
theorem box_below (w : World) (A : Option Addr) (n c : Nat) : Below w.heap.size w (w.alloc (lbox A n c)) := (Below.refl _ _).alloc (Nat.le_refl _) _
theorem box_lt (w : World) {W : World} {A : Option Addr} {n c : Nat} (b : Below (w.heap.size + 1) (w.alloc (lbox A n c)) W) : Below w.heap.size w W := (box_below w A n c).trans (b.mono (Nat.le_succ _))
theorem box_cell (w : World) {W : World} {A : Option Addr} {n c : Nat} (b : Below (w.heap.size + 1) (w.alloc (lbox A n c)) W) : W.cell? ⟨w.heap.size, 0, none⟩ = some (.slice A n c) :=
  (b.cell (p := ⟨w.heap.size, 0, none⟩) (Nat.lt_succ_self _)).trans (cell_of_row _ _ 0 _ 22 (0, 0) (heap_alloc_new w _))
theorem GInv.cell (h : GInv w A n c W D A6 m c6) : W.cell? ⟨w.heap.size, 0, none⟩ = some (.slice A n c) := box_cell w h.bel
theorem GInv.had {A7 c7} (h : GInv w A n c W D A6 m c6) {e : Int} (ho : x.ownsRow (w.heap.size + 1) 3 1 (.slice A7 (m + 1) c7) (m + 1) (icells D ++ icells [e])) (hg : W.grownBy x (Value.slice A6 m c6).ownBlock) :
    GInv w A n c x (D ++ [e]) A7 (m + 1) c7 :=
  ⟨below_grown h.bel h.row hg h.size (Nat.le_refl _), by rw [icells_append]; exact ho⟩
theorem GInv.as {D' : List Int} (h : GInv w A n c W D A6 m c6) (e : D' = D) : GInv w A n c W D' A6 m c6 := by subst e; exact h
end
/-- After j blocks have been looked at. -/
def mayU (l : List Fil) (s : Int) (x : Fil) (j : Nat) : Bool := decide (x.fill = 4) && (l.take j).all fun g => decide (x.wear < g.wear + s)
theorem mayU_zero (l : List Fil) (s : Int) (x : Fil) : mayU l s x 0 = decide (x.fill = 4) := by unfold mayU; simp
theorem mayU_next {l : List Fil} {s : Int} {x : Fil} {j : Nat} (hj : j < l.length) : mayU l s x (j + 1) = (mayU l s x j && decide (x.wear < (nth l j).wear + s)) := by
  unfold mayU
  rw [take_succ_nth hj, List.all_append]
  simp [Bool.and_assoc]
theorem mayU_all {l : List Fil} {s : Int} {x : Fil} {j : Nat} (hj : j = l.length) : mayU l s x j = mayB l s x := by
  subst hj
  unfold mayU mayB
  rw [List.take_of_length_le (Nat.le_refl _)]
theorem enter26 : ∀ args w, (callFunc 26 args).run Try.prog w = .ok (.enter 26 args) w := enters_of Try.func26 (by kernel_rfl) rfl
theorem gr_zero {l : List Fil} {s : Int} (hz : chk l s = 0) (h : (mays l s l.length).length = 0) : gerr l s = 3 ∧ gidx l s = 0 := by
  have := none_pick h
  exact ⟨gerr_none hz (by rw [this]), gidx_none (by rw [this])⟩
theorem gr_pos {l : List Fil} {s : Int} (hz : chk l s = 0) (h : 0 < (mays l s l.length).length) : gerr l s = 0 ∧ gidx l s = nti (sortT (ltI l) (mays l s l.length)) 0 := by
  obtain ⟨h1, h2⟩ := head_pick h
  exact ⟨gerr_ok hz (by rw [h1]), by rw [gidx_ok hz, h1]; show ((_ : Nat) : Int) = _; omega⟩
set_option maxHeartbeats 4000000 in
theorem ggreedy10 (B : Nat) (A : Option Addr) (n c : Nat) (l : List Fil) (s : Int) (w : World) (h : Fl w B A n c l) (hB : B ≤ w.heap.size) :
    Calls Try.prog 10 #[.slice A n c, .int .i64 s] w fun e w' => e = .returned (.tuple #[.int .i64 (gidx l s), .int .i64 (gerr l s)]) ∧ Below w.heap.size w w' := by
  have mx := mixedO
  have hl := h.len
  have HR := gright12 B A n c l (w.alloc (lbox A n c)) (Words.Rd.alloc h hB _) (by simp; omega)
  rw [World.size_alloc] at HR
  cases hr : right l with
  | false =>
    have hz := chk_form (s := s) hr
    have HE := Lib.hid (gerr_bad (l := l) (s := s) (by omega))
    have HI := Lib.hid (gidx_bad (l := l) (s := s) (by omega))
    rw [hz] at HE
    rw [hr] at HR
    have HR := Lib.hid HR
    unfold lbox at HR
    have hbc := box_cell w (W := w.alloc (lbox A n c)) (A := A) (n := n) (c := c) (Below.refl _ _)
    unfold lbox at hbc
    clear h hr hz
    go_enter Try.func10, Try.ntmps10
    go_wp2_with fail
    refine (HR.out).mono ?_; rintro e w1 ⟨rfl, hb⟩
    have HB := Lib.hid (box_lt w hb)
    clear hb
    go_wp2_with fail
    go_ret2
    exact ⟨by rw [HI.out, HE.out]; rfl, HB.out⟩
  | true =>
    rw [hr] at HR
    have HR := Lib.hid HR
    unfold lbox at HR
    by_cases h1 : s < 1
    · have hz := chk_range hr (.inl h1)
      have HE := Lib.hid (gerr_bad (l := l) (s := s) (by omega))
      have HI := Lib.hid (gidx_bad (l := l) (s := s) (by omega))
      rw [hz] at HE
      clear h hr hz
      go_enter Try.func10, Try.ntmps10
      go_wp2_with fail
      refine (HR.out).mono ?_; rintro e w1 ⟨rfl, hb⟩
      have HB := Lib.hid (box_lt w hb)
      clear hb
      go_wp2_with fail
      go_ret2
      exact ⟨by rw [HI.out, HE.out]; rfl, HB.out⟩
    · by_cases h2 : s > 1048576
      · have hz := chk_range hr (.inr h2)
        have HE := Lib.hid (gerr_bad (l := l) (s := s) (by omega))
        have HI := Lib.hid (gidx_bad (l := l) (s := s) (by omega))
        rw [hz] at HE
        clear h hr hz
        go_enter Try.func10, Try.ntmps10
        go_wp2_with fail
        refine (HR.out).mono ?_; rintro e w1 ⟨rfl, hb⟩
        have HB := Lib.hid (box_lt w hb)
        clear hb
        go_wp2_with fail
        go_ret2
        exact ⟨by rw [HI.out, HE.out]; rfl, HB.out⟩
      · have hz := chk_ok (s := s) hr (by omega)
        have HZ := Lib.hid (gr_zero hz)
        have HP := Lib.hid (gr_pos hz)
        rw [hl] at HZ HP
        have hlen := right_len hr
        have hn2 : n ≤ 4096 := by omega
        have H := Lib.hid h
        have L := Lib.hid hl
        have HRT := Lib.hid hr
        have HML := Lib.hid (mays_length l s)
        obtain ⟨i3, hi3, hz30, hz31, hz32⟩ := info_parts info3
        clear h hl hr hz hlen
        go_enter Try.func10, Try.ntmps10
        go_wp2_with fail
        refine (HR.out).mono ?_; rintro e w1 ⟨rfl, hb⟩
        have G0 : Hid (GInv w A n c w1 [] none 0 0) := Lib.hid ⟨hb, w1.ownsRow_nil _ _ _⟩
        have hbc := G0.out.cell
        clear hb
        go_wp2_with fail
        go_loopw [6, 23] (fun a i wr => ∃ (k : Nat) (A6 : Option Addr) (m c6 : Nat), a = .slice A6 m c6 ∧ i = .int .i64 k ∧ k ≤ n ∧ m ≤ k ∧ GInv w A n c wr (mays l s k) A6 m c6) (fun _ i _ => (n - intOf i).toNat)
        case atStart => exact ⟨0, none, 0, 0, rfl, rfl, by omega, by omega, G0.out⟩
        case round =>
          obtain ⟨k, A6, m, c6, rfl, rfl, hkn, hmk, hinv⟩ := hrel
          obtain ⟨wo, rfl⟩ : ∃ wo, wo = wr := ⟨_, rfl⟩
          have I := Lib.hid hinv
          clear hinv G0 hbc
          by_cases hlt : k < n
          · obtain ⟨g, o, rfl, _, _⟩ := Words.Rd.row H.out (by omega)
            have hwr := I.out.size
            obtain ⟨c0, c1, c2⟩ := Fl.cells (Words.Rd.below H.out (box_lt w I.out.bel) hB) rfl (nth_get (l := l) (k := k) (by rw [L.out]; exact hlt))
            have HY := Lib.hid (mays_yes (l := l) (s := s) (k := k))
            have HN := Lib.hid (mays_no (l := l) (s := s) (k := k))
            have hrx := right_nth HRT.out (k := k) (by rw [L.out]; exact hlt)
            have x0 := hrx.2.2.2.1
            have x1 := hrx.2.2.2.2
            have I1 := Lib.hid (I.out.alloc (fbox (nth l k)))
            have HM0 := Lib.hid (mayU_zero l s (nth l k))
            have HMN := Lib.hid (fun j (hj : j < n) => mayU_next (l := l) (s := s) (x := nth l k) (j := j) (by rw [L.out]; exact hj))
            have HMA := Lib.hid (mayU_all (l := l) (s := s) (x := nth l k) L.out.symm)
            have hbox : (wo.alloc (fbox (nth l k))).cell? ⟨wo.heap.size, 2, none⟩ = some (.int .i64 (nth l k).wear) := cell_of_row _ _ 2 _ 28 (0, 0) (heap_alloc_new wo _)
            obtain ⟨x, hx⟩ : ∃ x, x = nth l k := ⟨_, rfl⟩
            rw [← hx] at c0 c1 c2 x0 x1 I1 HM0 HMA HY HN hbox
            simp only [← hx] at HMN
            clear hrx hx
            obtain ⟨xn, xf, xw⟩ := x
            have x0 : 0 ≤ xw := x0
            have x1 : xw ≤ 1048576 := x1
            have hbcell := I1.out.cell
            have HFI : Hid ((xf == 4) = decide (xf = 4)) := Lib.hid (by by_cases q : xf = 4 <;> simp [q])
            unfold fbox at I1 hbcell hbox
            go_wp2_with fail
            go_loopw [9, 33] (fun b i ws => ∃ (j : Nat), i = .int .i64 j ∧ j ≤ n ∧ b = .bool (mayU l s ⟨xn, xf, xw⟩ j) ∧ Below (wo.alloc (.cells #[.int .i64 xn, .int .i64 xf, .int .i64 xw] 28)).heap.size (wo.alloc (.cells #[.int .i64 xn, .int .i64 xf, .int .i64 xw] 28)) ws) (fun _ i _ => (n - intOf i).toNat)
            case atStart => exact ⟨0, rfl, by omega, by rw [HM0.out]; exact bool_val HFI.out, Below.refl _ _⟩
            case round =>
              obtain ⟨j, rfl, hjn, rfl, hbel⟩ := hrel
              have hsz : wo.heap.size < wr.heap.size := by have := hbel.size; simp at this; omega
              have hne : wo.heap.size ≠ wr.heap.size := by omega
              have I2 := Lib.hid (I1.out.below hbel)
              have hfw := (hbel.cell (p := ⟨wo.heap.size, 2, none⟩) (by simp)).trans hbox
              have HB := Lib.hid hbel
              clear hbel hbox hbcell
              by_cases hj : j < n
              · obtain ⟨d0, d1, d2⟩ := Fl.cells (Words.Rd.below H.out (box_lt w I2.out.bel) hB) rfl (nth_get (l := l) (k := j) (by rw [L.out]; exact hj))
                have HN2 := Lib.hid (HMN.out j hj)
                have hry := right_nth HRT.out (k := j) (by rw [L.out]; exact hj)
                have y0 := hry.2.2.2.1
                have y1 := hry.2.2.2.2
                have HB2 := Lib.hid (HB.out.alloc HB.out.size (fbox (nth l j)))
                obtain ⟨y, hy⟩ : ∃ y, y = nth l j := ⟨_, rfl⟩
                rw [← hy] at d0 d1 d2 y0 y1 HN2 HB2
                clear hry hy
                obtain ⟨yn, yf, yw⟩ := y
                have y0 : 0 ≤ yw := y0
                have y1 : yw ≤ 1048576 := y1
                obtain ⟨q, hq⟩ : ∃ q, q = mayU l s ⟨xn, xf, xw⟩ j := ⟨_, rfl⟩
                rw [← hq] at HN2 ⊢
                clear hq
                cases q with
                | false =>
                  have HE : Hid (mayU l s ⟨xn, xf, xw⟩ (j + 1) = false) := Lib.hid (by rw [HN2.out]; rfl)
                  go_wp2_with fail
                  go_roundw
                  case rel => exact ⟨j + 1, by go_num, by omega, by rw [HE.out], HB2.out⟩
                  case measure => simp [intOf]; omega
                | true =>
                  by_cases hd : xw < yw + s
                  · have HE : Hid (mayU l s ⟨xn, xf, xw⟩ (j + 1) = true) := Lib.hid (by rw [HN2.out]; simp [hd])
                    go_wp2_with fail
                    go_roundw
                    case rel => exact ⟨j + 1, by go_num, by omega, by rw [HE.out], HB2.out⟩
                    case measure => simp [intOf]; omega
                  · have HE : Hid (mayU l s ⟨xn, xf, xw⟩ (j + 1) = false) := Lib.hid (by rw [HN2.out]; simp [hd])
                    go_wp2_with fail
                    go_roundw
                    case rel => exact ⟨j + 1, by go_num, by omega, by rw [HE.out], HB2.out⟩
                    case measure => simp [intOf]; omega
              · obtain rfl : j = n := by omega
                rw [HMA.out]
                cases hq : mayB l s ⟨xn, xf, xw⟩ with
                | false =>
                  have HE := Lib.hid (HN.out hq)
                  clear hq
                  go_wp2_with fail
                  go_roundw
                  case rel => exact ⟨k + 1, A6, m, c6, rfl, by go_num, by omega, by omega, I2.out.as HE.out⟩
                  case measure => simp [intOf]; omega
                | true =>
                  have HE := Lib.hid (HY.out hq)
                  have I3 := Lib.hid (I2.out.alloc (.cells #[.int .i64 k] 3))
                  have hs3 := I3.out.size
                  have HR1 := Lib.hid (one_cell wr 3 k)
                  clear hq
                  go_wp2_with (first
                    | (at_builtin; refine wpList_append_rd _ rfl (.tmp 49) (.tmp 51) 31 rfl (w.heap.size + 1) 3 i3 (.int .i64 0) 1 8 Try.underlying31 hi3 hz30 hz31 hz32 rfl (by decide) _ m (icells (mays l s k)) rfl I3.out.row (wr.heap.size + 1) (some ⟨wr.heap.size, 0, none⟩) 1 1 (icells [(k : Int)]) rfl HR1.out (icells_one _) (by simp only [maxLen]; omega) (by omega) hs3 ?_
                       intro A9 c9 x2 hown2 hg2
                       have I4 := Lib.hid (I3.out.had hown2 hg2)
                       clear hown2 hg2))
                  go_roundw
                  case rel => exact ⟨k + 1, A9, m + 1, c9, rfl, by go_num, by omega, by omega, I4.out.as HE.out⟩
                  case measure => simp [intOf]; omega
          · obtain rfl : k = n := by omega
            have hml : (mays l s k).length = m := by
              have := I.out.row.1
              rw [icells_length] at this
              omega
            by_cases hm : m = 0
            · have hm0 : ((m : Int) == 0) = true := by rw [beq_iff_eq]; omega
              obtain ⟨e1, e2⟩ := HZ.out (by omega)
              have HE := Lib.hid e1
              have HI := Lib.hid e2
              have HB := Lib.hid (box_lt w I.out.bel)
              clear e1 e2 hm hml
              go_wp2_with fail
              go_ret2
              exact ⟨by rw [HI.out, HE.out]; rfl, HB.out⟩
            · have hm0 : ((m : Int) == 0) = false := by rw [beq_eq_false_iff_ne]; omega
              obtain ⟨e1, e2⟩ := HP.out (by omega)
              have HE := Lib.hid e1
              have HI := Lib.hid e2
              obtain ⟨g6, c6', hv, _, _⟩ := own_form_pos I.out.row (by omega)
              injection hv with hv1 hv2 hv3
              subst hv1 hv3
              obtain ⟨g, o, rfl, hg, _⟩ := Words.Rd.row H.out (by omega)
              have hcm : Cmpr 26 #[.pointer (some ⟨w.heap.size, 0, none⟩)] (cfI l) (fun x => ∃ j : Nat, x = j ∧ j < k) (w.heap.size + 1) wo := by
                intro W hW x y hx hy
                obtain ⟨i, rfl, hi⟩ := hx
                obtain ⟨j, rfl, hj⟩ := hy
                have hb2 := I.out.bel.trans hW
                exact closure26 _ g o k c l W (box_cell w hb2) (Words.Rd.more (Words.Rd.below H.out (box_lt w hb2) hB) (by have := (box_lt w hb2).size; omega)) HRT.out i j hi hj
              have hst := stable10 26 #[.pointer (some ⟨w.heap.size, 0, none⟩)] (cfI l) (fun x => ∃ j : Nat, x = j ∧ j < k) (ltI l) (ltI_tot l) enter26 (w.heap.size + 1) g6 m c6 (mays l s k) wo I.out.row I.out.size hcm (by omega) (mays_agr l s k) (fun x hx => by
                obtain ⟨j, e, hj, _⟩ := mem_mays.1 hx
                exact ⟨j, e, hj⟩)
              have HST := Lib.hid hst
              have hsl : 0 < (sortT (ltI l) (mays l s k)).length := by rw [sortT_length]; omega
              have hmpos : 0 < m := by omega
              have HSL := Lib.hid hsl
              clear e1 e2 hml hm hcm hst hsl
              go_wp2_with fail
              refine (HST.out).mono ?_; rintro e w3 ⟨rfl, st⟩
              have q0 := st.own.cell (k := 0) hmpos
              have HB := Lib.hid ((box_lt w I.out.bel).trans ((st.below I.out.size).mono (Nat.le_succ _)))
              have hmi : (0 : Int) < (m : Int) := by omega
              generalize nti (sortT (ltI l) (mays l s k)) 0 = r at *
              clear st
              go_wp2_with fail
              go_ret2
              exact ⟨by rw [HI.out, HE.out]; rfl, HB.out⟩
end Go.Proofs.Ytodnjeahjalinaa.Vic
