/-
  What Play returns, walked through the program's text.
-/
import Derived.Test.YtegllglfnngijaaPlay
import Derived.Deep.RegionHeld3
namespace Go.Proofs.Ytegllglfnngijaa.Rem
open Go.ChangeShapes Go.WideShapes Go.ChangeAt Go.RowKit Words
set_option linter.unusedVariables false

def S8 (g r P h : Nat) (l : List Int) (w' : World) : Prop := w'.rangeAt g 0 (icells l) ∧ w'.cell? ⟨g, 16, none⟩ = some (.slice (some ⟨r, 0, none⟩) P P) ∧ w'.there h 0 (icells l).toArray.size
theorem tab_start {w1 : World} {r P : Nat} (h : WI w1 r 3 (List.replicate P (-1))) : Tab ((w1.alloc (.cells zero42 42)).setRow w1.heap.size (tcells none16 r P 0).toArray) w1.heap.size r P [] := by
  have hne : w1.heap.size ≠ r := fun e => by have := h.lt; omega
  refine ⟨⟨?_, ?_, hne, ats_length _⟩, ok_nil, Nat.zero_le _⟩
  · rw [ats_nil]
    exact whole_setRow (Whole.new w1 42 zero42)
  · rw [nos_nil]
    exact wi_setRow_other (WI.alloc h _) _ hne
/-- .. and the error codes lie in a block that was not there. -/
def PlayedF (w : World) (pages : Int) (l : List Mop) (e : Ending) (w' : World) : Prop :=
  ∃ A1 c1 A2 c2, e = .returned (.tuple #[.slice A1 (pErrs pages l).length c1, av (pAt pages l), .slice A2 (pNo pages l).length c2, .int .i64 (perr pages)]) ∧
    Ints w' w'.heap.size A1 (pErrs pages l).length c1 (pErrs pages l) ∧ Ints w' w'.heap.size A2 (pNo pages l).length c2 (pNo pages l) ∧ Below w.heap.size w w' ∧ ∀ a, A1 = some a → w.heap.size ≤ a.block
theorem playedF_bad {w w' : World} {pages : Int} {l : List Mop} (h : pok pages = false) (b : Below w.heap.size w w') : PlayedF w pages l (.returned (.tuple #[.slice none 0 0, av zero16, .slice none 0 0, .int .i64 2])) w' := by
  have e1 : pErrs pages l = [] := by unfold pErrs; rw [h]; rfl
  have e2 : pAt pages l = zero16 := by unfold pAt; rw [h]; rfl
  have e3 : pNo pages l = [] := by unfold pNo; rw [h]; rfl
  have e4 : perr pages = 2 := by unfold perr; rw [h]; rfl
  unfold PlayedF
  rw [e1, e2, e3, e4]
  exact ⟨none, 0, none, 0, rfl, Words.Rd.nil_ _ _ _, Words.Rd.nil_ _ _ _, b, fun a h => by cases h⟩
theorem playedF_ok {w w' : World} {P : Nat} {l : List Mop} {n : Nat} {A1 A2 : Option Addr} {c1 c2 m : Nat} {ev : Int} (hP : P ≤ 4096) (hn : l.length = n) (hm : m = P) (h1 : Ints w' w'.heap.size A1 n c1 (errs P [] l)) (h2 : Ints w' w'.heap.size A2 m c2 (nos P (runW P [] l))) (he : ev = 0) (b : Below w.heap.size w w')
    (hf : ∀ a, A1 = some a → w.heap.size ≤ a.block) :
    PlayedF w P l (.returned (.tuple #[.slice A1 n c1, av (ats (runW P [] l)), .slice A2 m c2, .int .i64 ev])) w' := by
  subst hm he
  have h : pok (m : Int) = true := pok_iff.2 ⟨by omega, by omega⟩
  have e1 : pErrs m l = errs m [] l := by unfold pErrs; rw [h]; rfl
  have e2 : pAt m l = ats (runW m [] l) := by unfold pAt; rw [h]; rfl
  have e3 : pNo m l = nos m (runW m [] l) := by unfold pNo; rw [h]; rfl
  have e4 : perr m = 0 := by unfold perr; rw [h]; rfl
  have l1 : (errs m [] l).length = n := h1.len
  have l2 : (nos m (runW m [] l)).length = m := h2.len
  unfold PlayedF
  rw [e1, e2, e3, e4, l1, l2]
  exact ⟨A1, c1, A2, c2, rfl, h1, h2, b, hf⟩
set_option maxHeartbeats 4000000 in
theorem play8F (B : Nat) (A : Option Addr) (n c : Nat) (l : List Mop) (pages : Int) (w : World) (h : Ops w B A n c l) (hB : B ≤ w.heap.size) (hn : n ≤ 8796093022208) :
    Calls Try.prog 8 #[.int .i64 pages, .slice A n c] w (PlayedF w pages l) := by
  have HS := size25_of (l := zero16) rfl
  have HA := arr_all zero16
  have W0 : WI (w.alloc (.cells (icells zero16).toArray 25)) w.heap.size 25 zero16 := WI.new w 25 zero16
  have B0 : Hid (Below w.heap.size w (w.alloc (.cells (icells zero16).toArray 25))) := Lib.hid ((Below.refl _ _).alloc (Nat.le_refl _) _)
  have hl := h.len
  by_cases hp : 0 ≤ pages ∧ pages ≤ 4096
  · obtain ⟨P, rfl⟩ : ∃ P : Nat, pages = P := ⟨pages.toNat, by omega⟩
    have hP : P ≤ 4096 := by omega
    have H16 := Lib.hid (fun x => blank16 P x hP)
    have HF := Lib.hid (fun base g r wr o x t hg hr hs => perform17 base g r P wr o x t hg hr hs hP)
    have H := Lib.hid h
    have L := Lib.hid hl
    have hS42 : (Try.prog.info? 42).map (·.size) = some (tcells none16 0 P 0).toArray.size := by rw [size42, tcells_size rfl]
    obtain ⟨i26, hi26, hz60, hz61, hz62⟩ := info_parts info26
    clear h hl hp
    go_enter Try.func8, Try.ntmps8
    go_wp2_with fail
    refine (H16.out _).mono ?_; rintro e w1 ⟨r, rfl, r1, hr1, b1⟩
    rw [World.size_alloc] at hr1
    have T2 := Lib.hid (tab_start r1)
    have HR := r1.lt
    have HZ := Whole.new w1 42 zero42
    obtain ⟨w2, hw2⟩ : ∃ w2, w2 = (w1.alloc (.cells zero42 42)).setRow w1.heap.size (tcells none16 r P 0).toArray := ⟨_, rfl⟩
    have hb1 := b1.size
    rw [World.size_alloc] at hb1 b1
    have B2 : Hid (Below (w.heap.size + 1) (w.alloc (.cells (icells zero16).toArray 25)) w2) := Lib.hid (by
      rw [hw2]
      exact below_setRow (b1.alloc (by omega) _) (by omega) _)
    have hs2 : w1.heap.size < w2.heap.size := by rw [hw2]; simp [World.setRow]
    have hmk : (Instr.makeSlice 24 (.int .i64 (n : Int)) (.int .i64 (n : Int))).run Try.prog w2 = .ok (.slice (some ⟨w2.heap.size, 0, none⟩) n n) (w2.alloc (.cells (madeCells #[.int .i64 0] n) 26)) := by
      have h := run_make (P := Try.prog) w2 24 26 i26 _ Try.underlying24 hi26 hz60 .i64 .i64 (n : Int) (n : Int) (by omega) (Int.le_refl _) (by rw [hz62]; omega) (by omega)
      simpa [hz61, Value.cells] using h
    have hmd : madeCells #[Value.int .i64 0] n = (icells (List.replicate n 0)).toArray := made_ints n
    rw [hmd] at hmk
    have I0 : Hid (PInv w w1.heap.size r w2.heap.size P n l 0 (w2.alloc (.cells (icells (List.replicate n 0)).toArray 26))) := Lib.hid (by
      rw [← hw2] at T2
      refine ⟨B2.out.alloc (by omega) _, ?_, ?_⟩
      · rw [W_zero]; exact T2.out.below ((Below.refl _ _).alloc (Nat.le_refl _) _)
      · rw [E_zero]; exact WI.new w2 26 _)
    have hx : w.heap.size + 1 ≤ w2.heap.size ∧ w2.heap.size ≠ w1.heap.size ∧ w2.heap.size ≠ r := by omega
    have hgb : w.heap.size + 1 ≤ w1.heap.size := hb1
    have hzz : zero42.size = (tcells none16 r P 0).toArray.size := by rw [tcells_size rfl]; rfl
    clear b1 r1 hmd T2 hb1
    unfold zero42 at hw2 HZ hzz
    go_wp2_with (refine wpList_store_row rfl 42 (.tmp 8) (.tmp 20) rfl w1.heap.size (tcells none16 r P 0).toArray rfl rfl 42 _ HZ (by rw [size42, tcells_size rfl]) hzz (tcells_one _ _ _ _) ?_; rw [← hw2]; clear hw2 HZ)
    go_loopw [26] (fun i wr => ∃ (k : Nat), i = .int .i64 k ∧ k ≤ n ∧ PInv w w1.heap.size r w2.heap.size P n l k wr) (fun i _ => (n - intOf i).toNat)
    case atStart => exact ⟨0, rfl, by omega, I0.out⟩
    case round =>
      obtain ⟨k, rfl, hk, hinv⟩ := hrel
      have I := Lib.hid hinv
      clear hinv I0 hmk
      by_cases hlt : k < n
      · obtain ⟨gl, ol, rfl, _, _⟩ := Words.Rd.row H.out (by omega)
        obtain ⟨o, ho⟩ : ∃ o, l[k]? = some o := ⟨_, List.getElem?_eq_getElem (by rw [L.out]; exact hlt)⟩
        obtain ⟨c0, c1⟩ := Ops.cells (Words.Rd.below H.out I.out.below hB) rfl ho
        have HO := Lib.hid ho
        have I1 := Lib.hid (I.out.box (obox o))
        have HC := Lib.hid (HF.out (w.heap.size + 1) w1.heap.size r (W P l k) o _ I1.out.tab hgb hr1 I1.out.size)
        clear ho
        obtain ⟨kd, nn⟩ := o
        unfold obox at I1 HC
        unfold oval at HC
        go_wp2_with fail
        refine (HC.out).mono ?_; rintro e wy ⟨rfl, t3, f3⟩
        have q0 := WI.cell (f3.whole I1.out.err hx.2.1 hx.2.2) (err_get (P := P) L.out hlt)
        have q1 := WI.frozen (f3.whole I1.out.err hx.2.1 hx.2.2) k
        have I2 := Lib.hid (I1.out.next L.out HO.out hx t3 f3)
        clear t3 f3
        generalize merr P (W P l k) ⟨kd, nn⟩ = ev at *
        go_wp2_with fail
        go_roundw
        case rel => exact ⟨k + 1, by go_num, by omega, I2.out⟩
        case measure => simp [intOf]; omega
      · obtain rfl : k = n := by omega
        have h0 := I.out.res
        have TR := I.out.tab.raw
        have HER := Lib.hid (I.out.err.as (l' := errs P [] l) (by rw [E_all (by rw [L.out]; exact Nat.le_refl _), Nat.sub_self]; simp))
        obtain ⟨at_, hat⟩ : ∃ x, x = ats (W P l k) := ⟨_, rfl⟩
        have hal : at_.length = 16 := by rw [hat]; exact ats_length _
        rw [← hat] at TR
        have hb1 : w1.heap.size ≠ w.heap.size := by omega
        have hb2 : r ≠ w.heap.size := by omega
        have HX := hx
        have hx2 : w2.heap.size ≠ w.heap.size := by omega
        have hu25 := Try.underlying25
        have hsl := size25_len hal
        have h16 : (icells at_).length = 16 := by rw [icells_length, hal]
        have hone := icells_one at_
        have TD := TR.drew
        have TS := TD.setCells hb1 hb2 0 (icells at_)
        have hW : WI (wr.drew.setCells w.heap.size 0 (icells at_)) w.heap.size 25 at_ := wi_setCells (WI.drewN h0 1) (by rw [hal]; rfl)
        have S0 : S8 w1.heap.size r P w.heap.size at_ wr.drew := ⟨TD.range, TD.num, (WI.drewN h0 1).there (by rw [List.size_toArray, h16]; rfl)⟩
        have S1 : S8 w1.heap.size r P w.heap.size at_ (wr.drew.setCells w.heap.size 0 (icells at_)) := ⟨TS.range, TS.num, hW.there (by rw [List.size_toArray, h16, hal])⟩
        have HW := Lib.hid hW
        have HER2 : Hid (WI (wr.drew.setCells w.heap.size 0 (icells at_)) w2.heap.size 26 (errs P [] l)) := Lib.hid (whole_setCells_other (WI.drewN HER.out 1) hx2 _ _)
        have HNO := Lib.hid TS.row
        have HSW := Lib.hid (below_setCells (B := w.heap.size) (Nat.le_refl _) (icells at_) 0 _ I.out.below.drew)
        have HNL := Lib.hid (nos_length I.out.tab.le)
        have HAT := Lib.hid hat
        have HWL : Hid (W P l k = runW P [] l) := Lib.hid (W_all (by rw [L.out]; exact Nat.le_refl _))
        clear TR TD TS h0 hat hW
        unfold S8 at S0 S1
        go_wp2_with fail
        go_region_held3 (fun w' => w'.rangeAt w1.heap.size 0 (icells at_) ∧ w'.cell? ⟨w1.heap.size, 16, none⟩ = some (.slice (some ⟨r, 0, none⟩) P P) ∧ w'.there w.heap.size 0 (icells at_).toArray.size)
          (first | exact S0 | exact S1)
          (fail)
        go_wp2_with fail
        refine bodyPost_ret (results_play rfl _ _ w.heap.size 25 (icells at_).toArray _ rfl HW.out Try.underlying25 rfl (size25_of hal)) rfl ?_
        have hf := playedF_ok (w := w) (P := P) (l := l) (n := k) (A1 := some ⟨w2.heap.size, 0, none⟩) (A2 := some ⟨r, 0, none⟩) (c1 := k) (c2 := P) (m := P) (ev := 0) hP L.out rfl
          (WI.ints HER2.out (by rw [errs_length]; exact L.out) (by simp only [maxLen]; omega)) (by rw [← HWL.out]; exact WI.ints HNO.out HNL.out (by simp only [maxLen]; omega)) rfl HSW.out (fun a ha => by injection ha with ha; subst ha; show w.heap.size ≤ w2.heap.size; omega)
        rw [← HWL.out, ← HAT.out] at hf
        exact hf
  · have hbad : pok pages = false := by rw [← Bool.not_eq_true, pok_iff]; exact hp
    have HW := Lib.hid (wi_setRow W0 zero16)
    have HB := Lib.hid (below_setRow B0.out (Nat.le_refl _) (icells zero16).toArray)
    have HD := Lib.hid hbad
    clear h hbad
    by_cases h0 : pages < 0
    · clear hp
      go_enter Try.func8, Try.ntmps8
      go_wp2_with (refine wpList_store_row rfl 25 (.tmp 5) (.tmp 18) rfl w.heap.size (icells zero16).toArray rfl rfl 25 (icells zero16).toArray W0 HS rfl HA ?_)
      refine bodyPost_ret (results_play rfl _ _ w.heap.size 25 (icells zero16).toArray _ rfl HW.out Try.underlying25 rfl HS) rfl ?_
      exact playedF_bad HD.out HB.out
    · have h1 : pages > 4096 := by omega
      clear hp
      go_enter Try.func8, Try.ntmps8
      go_wp2_with (refine wpList_store_row rfl 25 (.tmp 5) (.tmp 18) rfl w.heap.size (icells zero16).toArray rfl rfl 25 (icells zero16).toArray W0 HS rfl HA ?_)
      refine bodyPost_ret (results_play rfl _ _ w.heap.size 25 (icells zero16).toArray _ rfl HW.out Try.underlying25 rfl HS) rfl ?_
      exact playedF_bad HD.out HB.out
theorem play8 (B : Nat) (A : Option Addr) (n c : Nat) (l : List Mop) (pages : Int) (w : World) (h : Ops w B A n c l) (hB : B ≤ w.heap.size) (hn : n ≤ 8796093022208) :
    Calls Try.prog 8 #[.int .i64 pages, .slice A n c] w (Played w pages l) := by
  refine (play8F B A n c l pages w h hB hn).mono fun e w' h => ?_
  obtain ⟨A1, c1, A2, c2, h1, h2, h3, h4, _⟩ := h
  exact ⟨A1, c1, A2, c2, h1, h2, h3, h4⟩
end Go.Proofs.Ytegllglfnngijaa.Rem
