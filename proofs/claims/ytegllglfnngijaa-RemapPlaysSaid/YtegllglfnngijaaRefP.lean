/-
  What the document's own Play returns, walked through the program's text.
-/
import Derived.Test.YtegllglfnngijaaRef
namespace Go.Proofs.Ytegllglfnngijaa.Rem
open Go.ChangeShapes Go.WideShapes Go.ChangeAt Go.RowKit Words
set_option linter.unusedVariables false

def zlit : Array Value := #[.int .i64 0, .int .i64 0, .int .i64 0, .int .i64 0, .int .i64 0, .int .i64 0, .int .i64 0, .int .i64 0, .int .i64 0, .int .i64 0, .int .i64 0, .int .i64 0, .int .i64 0, .int .i64 0, .int .i64 0, .int .i64 0]
theorem zlit_is : zlit = (icells zero16).toArray := rfl
def two (w : World) : World := (w.alloc (.cells zlit 25)).alloc (.cells zlit 25)
theorem two_size (w : World) : (two w).heap.size = w.heap.size + 2 := by unfold two; rw [World.size_alloc, World.size_alloc]
theorem two_res (w : World) : WI (two w) w.heap.size 25 zero16 := by unfold two; rw [zlit_is]; exact (WI.new w 25 _).alloc _
theorem two_below (w : World) : Below w.heap.size w (two w) := two_blocks w _ _
theorem two_at (w : World) : WI (two w) (w.heap.size + 1) 25 zero16 := by
  have := WI.new (w.alloc (.cells (icells zero16).toArray 25)) 25 zero16
  rw [World.size_alloc] at this
  unfold two
  rw [zlit_is]
  exact this
theorem gs_start (w : World) : GS w ((two w).alloc (.cells #[.slice none 0 0] 23)) zero16 none 0 0 [] none 0 0 [] := by
  have hb : Whole ((two w).alloc (.cells #[.slice none 0 0] 23)) (w.heap.size + 2) 23 #[.slice none 0 0] := by
    have := Whole.new (two w) 23 #[.slice none 0 0]
    rw [two_size] at this
    exact this
  exact ⟨(two_below w).alloc (by rw [two_size]; omega) _, (two_res w).alloc _, (two_at w).alloc _, hb, World.ownsRow_nil _ _ _ _, World.ownsRow_nil _ _ _ _⟩
def SB (h : Nat) (l : List Int) (w' : World) : Prop := w'.rangeAt (h + 1) 0 (icells l) ∧ w'.there h 0 (icells l).toArray.size
def SE (h : Nat) (l : List Int) (A : Option Addr) (m c : Nat) (w' : World) : Prop := w'.rangeAt (h + 1) 0 (icells l) ∧ w'.cell? ⟨h + 2, 0, none⟩ = some (.slice A m c) ∧ w'.there h 0 (icells l).toArray.size
/-- What a round leaves, by the error code's cases. -/
theorem next_kind {P : Nat} {l : List Mop} {k : Nat} {o : Mop} (ho : l[k]? = some o) (h : ¬ (o.kind = 1 ∨ o.kind = 2)) : W P l (k + 1) = W P l k ∧ E P l (k + 1) = E P l k ++ [5] := by
  have he := merr_kind (P := P) (wr := W P l k) h
  rw [W_next ho, E_next ho, he, mnx_ne (by omega)]; exact ⟨rfl, rfl⟩
theorem next_range {P : Nat} {l : List Mop} {k : Nat} {o : Mop} (ho : l[k]? = some o) (h : o.kind = 1 ∨ o.kind = 2) (hr : ¬ (0 ≤ o.n ∧ o.n < 16)) : W P l (k + 1) = W P l k ∧ E P l (k + 1) = E P l k ++ [2] := by
  have he := merr_range (P := P) (wr := W P l k) h hr
  rw [W_next ho, E_next ho, he, mnx_ne (by omega)]; exact ⟨rfl, rfl⟩
theorem next_full {P : Nat} {l : List Mop} {k : Nat} {o : Mop} (ho : l[k]? = some o) (h : o.kind = 1) (hr : 0 ≤ o.n ∧ o.n < 16) (hP : (W P l k).length = P) : W P l (k + 1) = W P l k ∧ E P l (k + 1) = E P l k ++ [4] := by
  have he := merr_write (P := P) (wr := W P l k) h hr
  rw [if_pos hP] at he
  rw [W_next ho, E_next ho, he, mnx_ne (by omega)]; exact ⟨rfl, rfl⟩
theorem next_none {P : Nat} {l : List Mop} {k : Nat} {o : Mop} (ho : l[k]? = some o) (h : o.kind = 2) (hr : 0 ≤ o.n ∧ o.n < 16) (hi : idx (W P l k) o.n = -1) : W P l (k + 1) = W P l k ∧ E P l (k + 1) = E P l k ++ [3] := by
  have he := merr_trim (P := P) (wr := W P l k) h hr
  rw [if_pos hi] at he
  rw [W_next ho, E_next ho, he, mnx_ne (by omega)]; exact ⟨rfl, rfl⟩
theorem next_write {P : Nat} {l : List Mop} {k : Nat} {o : Mop} (ho : l[k]? = some o) (h : o.kind = 1) (hr : 0 ≤ o.n ∧ o.n < 16) (hP : (W P l k).length ≠ P) : W P l (k + 1) = fg (W P l k) o.n ++ [o.n] ∧ E P l (k + 1) = E P l k ++ [0] := by
  have he := merr_write (P := P) (wr := W P l k) h hr
  rw [if_neg hP] at he
  rw [W_next ho, E_next ho, he]
  unfold mnx
  rw [if_pos he, if_pos h]
  exact ⟨rfl, rfl⟩
theorem next_trim {P : Nat} {l : List Mop} {k : Nat} {o : Mop} (ho : l[k]? = some o) (h : o.kind = 2) (hr : 0 ≤ o.n ∧ o.n < 16) (hi : idx (W P l k) o.n ≠ -1) : W P l (k + 1) = fg (W P l k) o.n ∧ E P l (k + 1) = E P l k ++ [0] := by
  have he := merr_trim (P := P) (wr := W P l k) h hr
  rw [if_neg hi] at he
  rw [W_next ho, E_next ho, he]
  unfold mnx
  rw [if_pos he, if_neg (by omega)]
  exact ⟨rfl, rfl⟩
set_option maxHeartbeats 4000000 in
theorem hplay_bad (B : Nat) (A : Option Addr) (n c : Nat) (l : List Mop) (pages : Int) (w : World) (h : Ops w B A n c l) (hB : B ≤ w.heap.size) (hp : ¬ (0 ≤ pages ∧ pages ≤ 4096)) :
    Calls Try.prog 9 #[.int .i64 pages, .slice A n c] w (Played w pages l) := by
  have HS := size25_of (l := zero16) rfl
  have hu25 := Try.underlying25
  have hsl := size25_len (l := zero16) rfl
  have hone := icells_one zero16
  have hbad : pok pages = false := by rw [← Bool.not_eq_true, pok_iff]; exact hp
  obtain ⟨v, hv⟩ : ∃ v, two w = v := ⟨_, rfl⟩
  have v0 : WI v w.heap.size 25 zero16 := hv ▸ two_res w
  have v1 : WI v (w.heap.size + 1) 25 zero16 := hv ▸ two_at w
  have vb : Below w.heap.size w v := hv ▸ two_below w
  have hW : WI (v.drew.setCells w.heap.size 0 (icells zero16)) w.heap.size 25 zero16 := wi_setCells (WI.drewN v0 1) rfl
  have hat : WI (v.drew.setCells w.heap.size 0 (icells zero16)) (w.heap.size + 1) 25 zero16 := whole_setCells_other (WI.drewN v1 1) (by omega) _ _
  have S0 : SB w.heap.size zero16 v.drew := ⟨(WI.drewN v1 1).range, (WI.drewN v0 1).there rfl⟩
  have S1 : SB w.heap.size zero16 (v.drew.setCells w.heap.size 0 (icells zero16)) := ⟨hat.range, hW.there rfl⟩
  have HW := Lib.hid hW
  have HB : Hid (Below w.heap.size w (v.drew.setCells w.heap.size 0 (icells zero16))) := Lib.hid (below_setCells (Nat.le_refl _) _ _ _ vb.drew)
  have HD := Lib.hid hbad
  clear h hbad hW hat v0 v1 vb
  unfold SB at S0 S1
  obtain ⟨z, hz⟩ : ∃ z, zero16 = z := ⟨_, rfl⟩
  have h16 : (icells z).length = 16 := by rw [← hz]; rfl
  rw [hz] at HS hsl hone S0 S1 HW HB
  by_cases h0 : pages < 0
  · clear hp
    go_enter Try.func9, Try.ntmps9
    unfold two zlit at hv
    go_wp2_with fail
    try rw [hv]
    clear hv
    go_region_held3 (fun w' => w'.rangeAt (w.heap.size + 1) 0 (icells z) ∧ w'.there w.heap.size 0 (icells z).toArray.size)
      (first | with_reducible exact S0 | with_reducible exact S1)
      (fail)
    go_wp2_with fail
    refine bodyPost_ret (results_play rfl _ _ w.heap.size 25 (icells z).toArray _ rfl HW.out Try.underlying25 rfl HS) rfl ?_
    have hf := played_bad (l := l) HD.out HB.out
    rw [hz] at hf
    exact hf
  · have h1 : pages > 4096 := by omega
    clear hp
    go_enter Try.func9, Try.ntmps9
    unfold two zlit at hv
    go_wp2_with fail
    try rw [hv]
    clear hv
    go_region_held3 (fun w' => w'.rangeAt (w.heap.size + 1) 0 (icells z) ∧ w'.there w.heap.size 0 (icells z).toArray.size)
      (first | with_reducible exact S0 | with_reducible exact S1)
      (fail)
    go_wp2_with fail
    refine bodyPost_ret (results_play rfl _ _ w.heap.size 25 (icells z).toArray _ rfl HW.out Try.underlying25 rfl HS) rfl ?_
    have hf := played_bad (l := l) HD.out HB.out
    rw [hz] at hf
    exact hf
set_option maxRecDepth 100000 in
set_option maxHeartbeats 8000000 in
theorem hplay_ok (B : Nat) (A : Option Addr) (n c : Nat) (l : List Mop) (P : Nat) (w : World) (h : Ops w B A n c l) (hB : B ≤ w.heap.size) (hn : n ≤ 8796093022208) (hP : P ≤ 4096) :
    Calls Try.prog 9 #[.int .i64 P, .slice A n c] w (Played w P l) := by
  have H := Lib.hid h
  have L := Lib.hid h.len
  have G0 := gs_start w
  obtain ⟨v3, hv3⟩ : ∃ v, (two w).alloc (.cells #[.slice none 0 0] 23) = v := ⟨_, rfl⟩
  rw [hv3] at G0
  have G0 := Lib.hid G0
  obtain ⟨i26, hi26, hz60, hz61, hz62⟩ := info_parts info26
  obtain ⟨i3, hi3, hz30, hz31, hz32⟩ := info_parts info3
  have HFI := Lib.hid (fun x b B A m c l w hb h => find18 x b B A m c l w hb h)
  clear h
  go_enter Try.func9, Try.ntmps9
  unfold two zlit at hv3
  go_wp2_with fail
  try rw [hv3]
  clear hv3
  go_loopw [11, 27] (fun a i wr => ∃ (k : Nat) (A1 : Option Addr) (m c1 : Nat) (A2 : Option Addr) (c2 : Nat), a = .slice A2 k c2 ∧ i = .int .i64 k ∧ k ≤ n ∧ GS w wr zero16 A1 m c1 (W P l k) A2 k c2 (E P l k)) (fun _ i _ => (n - intOf i).toNat)
  case atStart => exact ⟨0, none, 0, 0, none, 0, rfl, rfl, by omega, G0.out.as rfl (W_zero P l) (E_zero P l)⟩
  case round =>
    obtain ⟨k, A1, m, c1, A2, c2, rfl, rfl, hk, hinv⟩ := hrel
    have G := Lib.hid hinv
    clear hinv G0
    have hmP : m ≤ P := by have := (W_ok P l k).2; rw [G.out.len] at this; exact this
    by_cases hlt : k < n
    · obtain ⟨gl, ol, rfl, _, _⟩ := Words.Rd.row H.out (by omega)
      obtain ⟨o, ho⟩ : ∃ o, l[k]? = some o := ⟨_, List.getElem?_eq_getElem (by rw [L.out]; exact hlt)⟩
      obtain ⟨c0, c1'⟩ := Ops.cells (Words.Rd.below H.out G.out.bel hB) rfl ho
      have HO := Lib.hid ho
      clear ho
      obtain ⟨kd, nn⟩ := o
      have c0 : wr.cell? ⟨gl, ol + k * 2, none⟩ = some (.int .i64 kd) := c0
      have c1' : wr.cell? ⟨gl, ol + k * 2 + 1, none⟩ = some (.int .i64 nn) := c1'
      have G1 := Lib.hid (G.out.alloc (.cells #[.int .i64 kd, .int .i64 nn] 37))
      have HF := Lib.hid (HFI.out nn _ _ A1 m c1 _ _ G1.out.cell G1.out.ints)
      have hwl := Lib.hid G.out.len
      have hge := idx_ge (W P l k) nn
      obtain ⟨p, hp⟩ : ∃ p, p = idx (W P l k) nn := ⟨_, rfl⟩
      rw [← hp] at HF hge
      have HP := Lib.hid hp
      clear hp
      have hs1 := G1.out.size
      by_cases hkd : kd = 1 ∨ kd = 2
      · by_cases hr : 0 ≤ nn ∧ nn < 16
        · have hr2 : ¬ (nn > 15) := by omega
          have hr3 : ¬ (nn < 0) := by omega
          rcases hkd with rfl | rfl
          · by_cases hmp : m = P
            · have heq : ((m : Int) == (P : Int)) = true := by rw [beq_iff_eq]; omega
              obtain ⟨e1, e2⟩ := next_full (P := P) HO.out rfl hr (by rw [hwl.out]; exact hmp)
              have HN1 := Lib.hid e1
              have HN2 := Lib.hid e2
              have b8 := G1.out.cell
              have GX := Lib.hid (G1.out.alloc (.cells #[.int .i64 4] 26))
              have hsX := GX.out.size
              have HR := one_cell (wr.alloc (.cells #[.int .i64 1, .int .i64 nn] 37)) 26 4
              rw [World.size_alloc] at HR
              have HR := Lib.hid HR
              clear e1 e2
              clear hr
              go_wp2_with fail
              refine (HF.out).mono ?_; rintro e w3 ⟨rfl, rfl⟩
              go_wp2_with (first
                | (at_builtin; refine wpList_append_rd _ rfl (.tmp 84) (.tmp 86) 24 rfl (w.heap.size + 3) 26 i26 (.int .i64 0) 1 8 Try.underlying24 hi26 hz60 hz61 hz62 rfl (by decide) _ k (icells (E P l k)) rfl GX.out.err _ _ 1 1 (icells [4]) rfl HR.out (icells_one _) (by simp only [maxLen]; omega) (by omega) hsX ?_
                   intro A9 c9 x9 hown9 hg9
                   have GN := Lib.hid ((GX.out.eapp hown9 hg9).as rfl HN1.out HN2.out)
                   clear hown9 hg9))
              go_roundw
              case rel => exact ⟨k + 1, A1, m, c1, A9, c9, rfl, by go_num, by omega, GN.out⟩
              case measure => simp [intOf]; omega
            · have heq : ((m : Int) == (P : Int)) = false := by rw [beq_eq_false_iff_ne]; omega
              have hne : (W P l k).length ≠ P := by rw [hwl.out]; exact hmp
              obtain ⟨e1, e2⟩ := next_write (P := P) HO.out rfl hr hne
              by_cases hpz : p = -1
              · subst hpz
                rw [fg_none HP.out.symm] at e1
                have HN1 := Lib.hid e1
                have HN2 := Lib.hid e2
                have GW := Lib.hid (G1.out.alloc (.cells #[.int .i64 nn] 3))
                have hsW := GW.out.size
                have HRW := one_cell (wr.alloc (.cells #[.int .i64 1, .int .i64 nn] 37)) 3 nn
                rw [World.size_alloc] at HRW
                have HRW := Lib.hid HRW
                have b8 := G1.out.cell
                have b8' := GW.out.cell
                clear e1 e2 hr
                go_wp2_with fail
                refine (HF.out).mono ?_; rintro e w3 ⟨rfl, rfl⟩
                go_wp2_with (first
                  | (at_builtin; refine wpList_append_rd _ rfl (.tmp 43) (.tmp 46) 23 rfl (w.heap.size + 3) 3 i3 (.int .i64 0) 1 8 Try.underlying23 hi3 hz30 hz31 hz32 rfl (by decide) _ m (icells (W P l k)) rfl GW.out.row _ _ 1 1 (icells [nn]) rfl HRW.out (icells_one _) (by simp only [maxLen]; omega) (by omega) hsW ?_
                     intro A8 c8 x8 hown8 hg8
                     have GA := GW.out.app hown8 hg8
                     have b0 : x8.cell? ⟨w.heap.size + 2, 0, none⟩ = some (.slice A1 m c1) := GA.1.cell 0
                     have f0 : x8.frozen? ⟨w.heap.size + 2, 0, none⟩ = false := GA.1.frozen 0
                     have GX := Lib.hid (GA.2.alloc (.cells #[.int .i64 0] 26))
                     have hsX := GX.out.size
                     have HR := one_cell (x8.setCell ⟨w.heap.size + 2, 0, none⟩ (.slice A8 (m + 1) c8)) 26 0
                     rw [size_setCell] at HR
                     have HR := Lib.hid HR
                     clear hown8 hg8 GA)
                  | (at_builtin; refine wpList_append_rd _ rfl (.tmp 84) (.tmp 86) 24 rfl (w.heap.size + 3) 26 i26 (.int .i64 0) 1 8 Try.underlying24 hi26 hz60 hz61 hz62 rfl (by decide) _ k (icells (E P l k)) rfl GX.out.err _ _ 1 1 (icells [0]) rfl HR.out (icells_one _) (by simp only [maxLen]; omega) (by omega) hsX ?_
                     intro A9 c9 x9 hown9 hg9
                     have GN := Lib.hid ((GX.out.eapp hown9 hg9).as rfl HN1.out HN2.out)
                     clear hown9 hg9))
                go_roundw
                case rel => exact ⟨k + 1, A8, m + 1, c8, A9, c9, rfl, by go_num, by omega, GN.out⟩
                case measure => simp [intOf]; omega
              · obtain ⟨q, hq, hql, hqg, _⟩ := idx_is (l := W P l k) (x := nn) (by rw [← HP.out]; exact hpz)
                rw [fg_some hq] at e1
                rw [← HP.out] at hq
                subst hq
                rw [hwl.out] at hql
                obtain ⟨g1, rfl, hg1, hg1'⟩ := G.out.addr (by omega)
                have s0 := G1.out.cellp hqg
                have s1 := G1.out.frop q
                have G2 := Lib.hid (G1.out.setp hg1 q (-1))
                have b9 := G1.out.cell
                have b9' := G2.out.cell
                obtain ⟨d0, d1⟩ := box_set (q := q) hg1' 1 nn (.int .i64 (-1))
                clear hg1'
                clear hqg hpz
                have HN1 := Lib.hid e1
                have HN2 := Lib.hid e2
                have GW := Lib.hid (G2.out.alloc (.cells #[.int .i64 nn] 3))
                have hsW := GW.out.size
                have HRW := one_cell ((wr.alloc (.cells #[.int .i64 1, .int .i64 nn] 37)).setCell ⟨g1, q, none⟩ (.int .i64 (-1))) 3 nn
                rw [size_setCell, World.size_alloc] at HRW
                have HRW := Lib.hid HRW
                have b8 := G2.out.cell
                have b8' := GW.out.cell
                clear e1 e2 hr
                go_wp2_with fail
                refine (HF.out).mono ?_; rintro e w3 ⟨rfl, rfl⟩
                go_wp2_with (first
                  | (at_builtin; refine wpList_append_rd _ rfl (.tmp 43) (.tmp 46) 23 rfl (w.heap.size + 3) 3 i3 (.int .i64 0) 1 8 Try.underlying23 hi3 hz30 hz31 hz32 rfl (by decide) _ m (icells ((W P l k).set q (-1))) rfl GW.out.row _ _ 1 1 (icells [nn]) rfl HRW.out (icells_one _) (by simp only [maxLen]; omega) (by omega) hsW ?_
                     intro A8 c8 x8 hown8 hg8
                     have GA := GW.out.app hown8 hg8
                     have b0 : x8.cell? ⟨w.heap.size + 2, 0, none⟩ = some (.slice (some ⟨g1, 0, none⟩) m c1) := GA.1.cell 0
                     have f0 : x8.frozen? ⟨w.heap.size + 2, 0, none⟩ = false := GA.1.frozen 0
                     have GX := Lib.hid (GA.2.alloc (.cells #[.int .i64 0] 26))
                     have hsX := GX.out.size
                     have HR := one_cell (x8.setCell ⟨w.heap.size + 2, 0, none⟩ (.slice A8 (m + 1) c8)) 26 0
                     rw [size_setCell] at HR
                     have HR := Lib.hid HR
                     clear hown8 hg8 GA)
                  | (at_builtin; refine wpList_append_rd _ rfl (.tmp 84) (.tmp 86) 24 rfl (w.heap.size + 3) 26 i26 (.int .i64 0) 1 8 Try.underlying24 hi26 hz60 hz61 hz62 rfl (by decide) _ k (icells (E P l k)) rfl GX.out.err _ _ 1 1 (icells [0]) rfl HR.out (icells_one _) (by simp only [maxLen]; omega) (by omega) hsX ?_
                     intro A9 c9 x9 hown9 hg9
                     have GN := Lib.hid ((GX.out.eapp hown9 hg9).as rfl HN1.out HN2.out)
                     clear hown9 hg9))
                go_roundw
                case rel => exact ⟨k + 1, A8, m + 1, c8, A9, c9, rfl, by go_num, by omega, GN.out⟩
                case measure => simp [intOf]; omega
          · by_cases hpz : p = -1
            · subst hpz
              obtain ⟨e1, e2⟩ := next_none (P := P) HO.out rfl hr HP.out.symm
              have HN1 := Lib.hid e1
              have HN2 := Lib.hid e2
              have b8 := G1.out.cell
              have GX := Lib.hid (G1.out.alloc (.cells #[.int .i64 3] 26))
              have hsX := GX.out.size
              have HR := one_cell (wr.alloc (.cells #[.int .i64 2, .int .i64 nn] 37)) 26 3
              rw [World.size_alloc] at HR
              have HR := Lib.hid HR
              clear e1 e2
              clear hr
              go_wp2_with fail
              refine (HF.out).mono ?_; rintro e w3 ⟨rfl, rfl⟩
              go_wp2_with (first
                | (at_builtin; refine wpList_append_rd _ rfl (.tmp 84) (.tmp 86) 24 rfl (w.heap.size + 3) 26 i26 (.int .i64 0) 1 8 Try.underlying24 hi26 hz60 hz61 hz62 rfl (by decide) _ k (icells (E P l k)) rfl GX.out.err _ _ 1 1 (icells [3]) rfl HR.out (icells_one _) (by simp only [maxLen]; omega) (by omega) hsX ?_
                   intro A9 c9 x9 hown9 hg9
                   have GN := Lib.hid ((GX.out.eapp hown9 hg9).as rfl HN1.out HN2.out)
                   clear hown9 hg9))
              go_roundw
              case rel => exact ⟨k + 1, A1, m, c1, A9, c9, rfl, by go_num, by omega, GN.out⟩
              case measure => simp [intOf]; omega
            · obtain ⟨q, hq, hql, hqg, _⟩ := idx_is (l := W P l k) (x := nn) (by rw [← HP.out]; exact hpz)
              obtain ⟨e1, e2⟩ := next_trim (P := P) HO.out rfl hr (by rw [← HP.out]; exact hpz)
              rw [fg_some hq] at e1
              rw [← HP.out] at hq
              subst hq
              rw [hwl.out] at hql
              obtain ⟨g1, rfl, hg1, hg1'⟩ := G.out.addr (by omega)
              have s0 := G1.out.cellp hqg
              have s1 := G1.out.frop q
              have G2 := Lib.hid (G1.out.setp hg1 q (-1))
              have b9 := G1.out.cell
              obtain ⟨d0, d1⟩ := box_set (q := q) hg1' 2 nn (.int .i64 (-1))
              clear hg1'
              have HN1 := Lib.hid e1
              have HN2 := Lib.hid e2
              have GX := Lib.hid (G2.out.alloc (.cells #[.int .i64 0] 26))
              have hsX := GX.out.size
              have HR := one_cell ((wr.alloc (.cells #[.int .i64 2, .int .i64 nn] 37)).setCell ⟨g1, q, none⟩ (.int .i64 (-1))) 26 0
              rw [size_setCell, World.size_alloc] at HR
              have HR := Lib.hid HR
              clear hqg hpz e1 e2 hr
              go_wp2_with fail
              refine (HF.out).mono ?_; rintro e w3 ⟨rfl, rfl⟩
              go_wp2_with (first
                | (at_builtin; refine wpList_append_rd _ rfl (.tmp 84) (.tmp 86) 24 rfl (w.heap.size + 3) 26 i26 (.int .i64 0) 1 8 Try.underlying24 hi26 hz60 hz61 hz62 rfl (by decide) _ k (icells (E P l k)) rfl GX.out.err _ _ 1 1 (icells [0]) rfl HR.out (icells_one _) (by simp only [maxLen]; omega) (by omega) hsX ?_
                   intro A9 c9 x9 hown9 hg9
                   have GN := Lib.hid ((GX.out.eapp hown9 hg9).as rfl HN1.out HN2.out)
                   clear hown9 hg9))
              go_roundw
              case rel => exact ⟨k + 1, some ⟨g1, 0, none⟩, m, c1, A9, c9, rfl, by go_num, by omega, GN.out⟩
              case measure => simp [intOf]; omega
        · rcases hkd with rfl | rfl
          · by_cases h0 : nn < 0
            · obtain ⟨e1, e2⟩ := next_range (P := P) HO.out (.inl rfl) hr
              have HN1 := Lib.hid e1
              have HN2 := Lib.hid e2
              have b8 := G1.out.cell
              have GX := Lib.hid (G1.out.alloc (.cells #[.int .i64 2] 26))
              have hsX := GX.out.size
              have HR := one_cell (wr.alloc (.cells #[.int .i64 1, .int .i64 nn] 37)) 26 2
              rw [World.size_alloc] at HR
              have HR := Lib.hid HR
              clear e1 e2
              clear hr
              go_wp2_with fail
              refine (HF.out).mono ?_; rintro e w3 ⟨rfl, rfl⟩
              go_wp2_with (first
                | (at_builtin; refine wpList_append_rd _ rfl (.tmp 84) (.tmp 86) 24 rfl (w.heap.size + 3) 26 i26 (.int .i64 0) 1 8 Try.underlying24 hi26 hz60 hz61 hz62 rfl (by decide) _ k (icells (E P l k)) rfl GX.out.err _ _ 1 1 (icells [2]) rfl HR.out (icells_one _) (by simp only [maxLen]; omega) (by omega) hsX ?_
                   intro A9 c9 x9 hown9 hg9
                   have GN := Lib.hid ((GX.out.eapp hown9 hg9).as rfl HN1.out HN2.out)
                   clear hown9 hg9))
              go_roundw
              case rel => exact ⟨k + 1, A1, m, c1, A9, c9, rfl, by go_num, by omega, GN.out⟩
              case measure => simp [intOf]; omega
            · obtain ⟨e1, e2⟩ := next_range (P := P) HO.out (.inl rfl) hr
              have h15 : nn > 15 := by omega
              have HN1 := Lib.hid e1
              have HN2 := Lib.hid e2
              have b8 := G1.out.cell
              have GX := Lib.hid (G1.out.alloc (.cells #[.int .i64 2] 26))
              have hsX := GX.out.size
              have HR := one_cell (wr.alloc (.cells #[.int .i64 1, .int .i64 nn] 37)) 26 2
              rw [World.size_alloc] at HR
              have HR := Lib.hid HR
              clear e1 e2
              clear hr
              go_wp2_with fail
              refine (HF.out).mono ?_; rintro e w3 ⟨rfl, rfl⟩
              go_wp2_with (first
                | (at_builtin; refine wpList_append_rd _ rfl (.tmp 84) (.tmp 86) 24 rfl (w.heap.size + 3) 26 i26 (.int .i64 0) 1 8 Try.underlying24 hi26 hz60 hz61 hz62 rfl (by decide) _ k (icells (E P l k)) rfl GX.out.err _ _ 1 1 (icells [2]) rfl HR.out (icells_one _) (by simp only [maxLen]; omega) (by omega) hsX ?_
                   intro A9 c9 x9 hown9 hg9
                   have GN := Lib.hid ((GX.out.eapp hown9 hg9).as rfl HN1.out HN2.out)
                   clear hown9 hg9))
              go_roundw
              case rel => exact ⟨k + 1, A1, m, c1, A9, c9, rfl, by go_num, by omega, GN.out⟩
              case measure => simp [intOf]; omega
          · by_cases h0 : nn < 0
            · obtain ⟨e1, e2⟩ := next_range (P := P) HO.out (.inr rfl) hr
              have HN1 := Lib.hid e1
              have HN2 := Lib.hid e2
              have b8 := G1.out.cell
              have GX := Lib.hid (G1.out.alloc (.cells #[.int .i64 2] 26))
              have hsX := GX.out.size
              have HR := one_cell (wr.alloc (.cells #[.int .i64 2, .int .i64 nn] 37)) 26 2
              rw [World.size_alloc] at HR
              have HR := Lib.hid HR
              clear e1 e2
              clear hr
              go_wp2_with fail
              refine (HF.out).mono ?_; rintro e w3 ⟨rfl, rfl⟩
              go_wp2_with (first
                | (at_builtin; refine wpList_append_rd _ rfl (.tmp 84) (.tmp 86) 24 rfl (w.heap.size + 3) 26 i26 (.int .i64 0) 1 8 Try.underlying24 hi26 hz60 hz61 hz62 rfl (by decide) _ k (icells (E P l k)) rfl GX.out.err _ _ 1 1 (icells [2]) rfl HR.out (icells_one _) (by simp only [maxLen]; omega) (by omega) hsX ?_
                   intro A9 c9 x9 hown9 hg9
                   have GN := Lib.hid ((GX.out.eapp hown9 hg9).as rfl HN1.out HN2.out)
                   clear hown9 hg9))
              go_roundw
              case rel => exact ⟨k + 1, A1, m, c1, A9, c9, rfl, by go_num, by omega, GN.out⟩
              case measure => simp [intOf]; omega
            · obtain ⟨e1, e2⟩ := next_range (P := P) HO.out (.inr rfl) hr
              have h15 : nn > 15 := by omega
              have HN1 := Lib.hid e1
              have HN2 := Lib.hid e2
              have b8 := G1.out.cell
              have GX := Lib.hid (G1.out.alloc (.cells #[.int .i64 2] 26))
              have hsX := GX.out.size
              have HR := one_cell (wr.alloc (.cells #[.int .i64 2, .int .i64 nn] 37)) 26 2
              rw [World.size_alloc] at HR
              have HR := Lib.hid HR
              clear e1 e2
              clear hr
              go_wp2_with fail
              refine (HF.out).mono ?_; rintro e w3 ⟨rfl, rfl⟩
              go_wp2_with (first
                | (at_builtin; refine wpList_append_rd _ rfl (.tmp 84) (.tmp 86) 24 rfl (w.heap.size + 3) 26 i26 (.int .i64 0) 1 8 Try.underlying24 hi26 hz60 hz61 hz62 rfl (by decide) _ k (icells (E P l k)) rfl GX.out.err _ _ 1 1 (icells [2]) rfl HR.out (icells_one _) (by simp only [maxLen]; omega) (by omega) hsX ?_
                   intro A9 c9 x9 hown9 hg9
                   have GN := Lib.hid ((GX.out.eapp hown9 hg9).as rfl HN1.out HN2.out)
                   clear hown9 hg9))
              go_roundw
              case rel => exact ⟨k + 1, A1, m, c1, A9, c9, rfl, by go_num, by omega, GN.out⟩
              case measure => simp [intOf]; omega
      · have h1 : (kd != 1) = true := by rw [bne_iff_ne]; omega
        have h2 : (kd != 2) = true := by rw [bne_iff_ne]; omega
        obtain ⟨e1, e2⟩ := next_kind (P := P) HO.out hkd
        have HN1 := Lib.hid e1
        have HN2 := Lib.hid e2
        have b8 := G1.out.cell
        have GX := Lib.hid (G1.out.alloc (.cells #[.int .i64 5] 26))
        have hsX := GX.out.size
        have HR := one_cell (wr.alloc (.cells #[.int .i64 kd, .int .i64 nn] 37)) 26 5
        rw [World.size_alloc] at HR
        have HR := Lib.hid HR
        clear e1 e2
        clear hkd
        go_wp2_with fail
        refine (HF.out).mono ?_; rintro e w3 ⟨rfl, rfl⟩
        go_wp2_with (first
          | (at_builtin; refine wpList_append_rd _ rfl (.tmp 84) (.tmp 86) 24 rfl (w.heap.size + 3) 26 i26 (.int .i64 0) 1 8 Try.underlying24 hi26 hz60 hz61 hz62 rfl (by decide) _ k (icells (E P l k)) rfl GX.out.err _ _ 1 1 (icells [5]) rfl HR.out (icells_one _) (by simp only [maxLen]; omega) (by omega) hsX ?_
             intro A9 c9 x9 hown9 hg9
             have GN := Lib.hid ((GX.out.eapp hown9 hg9).as rfl HN1.out HN2.out)
             clear hown9 hg9))
        go_roundw
        case rel => exact ⟨k + 1, A1, m, c1, A9, c9, rfl, by go_num, by omega, GN.out⟩
        case measure => simp [intOf]; omega
    · obtain rfl : k = n := by omega
      have HWL : Hid (W P l k = runW P [] l) := Lib.hid (W_all (by rw [L.out]; exact Nat.le_refl _))
      have HEL : Hid (E P l k = errs P [] l) := Lib.hid (E_all (by rw [L.out]; exact Nat.le_refl _))
      have HOK := Lib.hid (W_ok P l k)
      obtain ⟨wl, hwl⟩ : ∃ x, W P l k = x := ⟨_, rfl⟩
      obtain ⟨el, hel⟩ : ∃ x, E P l k = x := ⟨_, rfl⟩
      rw [hwl] at G HWL HOK
      rw [hel] at G HEL
      clear hwl hel
      have hwm := G.out.len
      have G5 := Lib.hid (G.out.as (up_zero (ats wl)) rfl rfl)
      go_wp2_with fail
      go_loopw [89] (fun i ws => ∃ (j : Nat), i = .int .i64 j ∧ j ≤ 16 ∧ GS w ws (up (ats wl) j) A1 m c1 wl A2 k c2 el) (fun i _ => (16 - intOf i).toNat)
      case atStart => exact ⟨0, rfl, by omega, G5.out⟩
      case round =>
        obtain ⟨j, rfl, hj, hinv⟩ := hrel
        have J := Lib.hid hinv
        clear hinv G5 G
        by_cases hlt2 : j < 16
        · have HF := Lib.hid (HFI.out j _ _ A1 m c1 wl _ J.out.cell J.out.ints)
          obtain ⟨z, hz⟩ : ∃ z, (up (ats wl) j)[j]? = some z := ⟨_, List.getElem?_eq_getElem (by rw [up_length (ats_length wl) (by omega)]; exact hlt2)⟩
          have q0 := J.out.at_.cell hz
          have q1 := J.out.at_.frozen j
          have J1 := Lib.hid ((J.out.seta j (idx wl j)).as (up_set (ats_length wl) hlt2 (ats_get wl hlt2)).symm rfl rfl)
          clear hz
          generalize idx wl j = p at *
          go_wp2_with fail
          refine (HF.out).mono ?_; rintro e w3 ⟨rfl, rfl⟩
          go_wp2_with fail
          go_roundw
          case rel => exact ⟨j + 1, by go_num, by omega, J1.out⟩
          case measure => simp [intOf]; omega
        · obtain rfl : j = 16 := by omega
          have K0 : Hid (GS w wr (ats wl) A1 m c1 (wl ++ List.replicate 0 (-1)) A2 k c2 el) := Lib.hid (J.out.as (up_all (ats_length wl)).symm (by simp) rfl)
          go_wp2_with fail
          go_loopw [] (fun ws => ∃ (j m' : Nat) (A3 : Option Addr) (c3 : Nat), m + j = m' ∧ m' ≤ P ∧ GS w ws (ats wl) A3 m' c3 (wl ++ List.replicate j (-1)) A2 k c2 el) (fun ws => P - cellLen ws ⟨w.heap.size + 2, 0, none⟩)
          case atStart => exact ⟨0, m, A1, c1, rfl, hmP, K0.out⟩
          case round =>
            obtain ⟨j, m', A3, c3, hmj, hm', hinv⟩ := hrel
            have K := Lib.hid hinv
            clear hinv K0 J
            have b8 := K.out.cell
            by_cases hlt3 : m' < P
            · have GW := Lib.hid (K.out.alloc (.cells #[.int .i64 (-1)] 3))
              have hsW := GW.out.size
              have HRW := Lib.hid (one_cell wr 3 (-1))
              have HC1 := Lib.hid (cellLen_is b8)
              have b8' := GW.out.cell
              go_wp2_with (first
                | (at_builtin; refine wpList_append_rd _ rfl (.tmp 102) (.tmp 103) 23 rfl (w.heap.size + 3) 3 i3 (.int .i64 0) 1 8 Try.underlying23 hi3 hz30 hz31 hz32 rfl (by decide) _ m' (icells (wl ++ List.replicate j (-1))) rfl GW.out.row _ _ 1 1 (icells [-1]) rfl HRW.out (icells_one _) (by simp only [maxLen]; omega) (by omega) hsW ?_
                   intro A8 c8 x8 hown8 hg8
                   have GA := GW.out.app hown8 hg8
                   have b0 : x8.cell? ⟨w.heap.size + 2, 0, none⟩ = some (.slice A3 m' c3) := GA.1.cell 0
                   have f0 : x8.frozen? ⟨w.heap.size + 2, 0, none⟩ = false := GA.1.frozen 0
                   have GN := Lib.hid (GA.2.as (l' := wl ++ List.replicate (j + 1) (-1)) rfl (by rw [List.append_assoc, List.replicate_succ']) rfl)
                   have HC2 := Lib.hid (cellLen_is GN.out.cell)
                   clear hown8 hg8 GA))
              go_roundw
              case rel => exact ⟨_, _, _, _, _, _, _, ⟨j + 1, m' + 1, A8, c8, by omega, by omega, GN.out⟩, rfl⟩
              case measure => rw [HC1.out, HC2.out]; omega
            · obtain rfl : m' = P := by omega
              have HNO : Hid (wl ++ List.replicate j (-1) = nos m' wl) := Lib.hid (by
                unfold nos
                rw [hwm, show m' - m = j by omega])
              obtain ⟨al, hat⟩ : ∃ x, x = ats wl := ⟨_, rfl⟩
              have hal : al.length = 16 := by rw [hat]; exact ats_length _
              have HAT := Lib.hid hat
              have K1 := K.out.drew
              rw [← hat] at K1
              clear hat
              have hu25 := Try.underlying25
              have hsl := size25_len hal
              have h16 : (icells al).length = 16 := by rw [icells_length, hal]
              have hone := icells_one al
              obtain ⟨v, hv⟩ : ∃ v, wr.drew.setCells w.heap.size 0 (icells al) = v := ⟨_, rfl⟩
              have hW : WI v w.heap.size 25 al := hv ▸ wi_setCells K1.res (by rw [hal]; rfl)
              have hA : WI v (w.heap.size + 1) 25 al := hv ▸ whole_setCells_other K1.at_ (by omega) _ _
              have hX : Whole v (w.heap.size + 2) 23 #[.slice A3 m' c3] := hv ▸ whole_setCells_other K1.box (by omega) _ _
              have hb : Below w.heap.size w v := hv ▸ below_setCells (Nat.le_refl _) _ _ _ K1.bel
              have hvs : v.heap.size = wr.heap.size := by rw [← hv]; exact size_setCells _ _ _ _
              have hr1 : Ints v v.heap.size A3 m' c3 (wl ++ List.replicate j (-1)) := by
                rw [hvs, ← hv]
                exact ints_setCells K1.row (by omega) _ _
              have hr2 : Ints v v.heap.size A2 k c2 el := by
                rw [hvs, ← hv]
                exact ints_setCells K1.err (by omega) _ _
              have S0 : SE w.heap.size al A3 m' c3 wr.drew := ⟨K1.at_.range, K1.cell, K1.res.there (by rw [List.size_toArray, h16]; rfl)⟩
              have S1 : SE w.heap.size al A3 m' c3 v := ⟨hA.range, hX.cell 0, hW.there (by rw [List.size_toArray, h16, hal])⟩
              have HW := Lib.hid hW
              have HB := Lib.hid hb
              have HR1 := Lib.hid hr1
              have HR2 := Lib.hid hr2
              rw [← hv] at S1 HW HB HR1 HR2
              clear hv hW hA hX hb hvs hr1 hr2 K1
              unfold SE at S0 S1
              go_wp2_with fail
              go_region_held3 (fun w' => w'.rangeAt (w.heap.size + 1) 0 (icells al) ∧ w'.cell? ⟨w.heap.size + 2, 0, none⟩ = some (.slice A3 m' c3) ∧ w'.there w.heap.size 0 (icells al).toArray.size)
                (first | with_reducible exact S0 | with_reducible exact S1)
                (fail)
              go_wp2_with fail
              refine bodyPost_ret (results_play rfl _ _ w.heap.size 25 (icells al).toArray _ rfl HW.out Try.underlying25 rfl (size25_of hal)) rfl ?_
              have hf := played_ok (w := w) (P := m') (l := l) (n := k) (m := m') (ev := 0) hP L.out rfl (by rw [← HEL.out]; exact HR2.out) (by rw [← HWL.out, ← HNO.out]; exact HR1.out) rfl HB.out
              rw [← HWL.out, ← HAT.out] at hf
              exact hf
end Go.Proofs.Ytegllglfnngijaa.Rem
