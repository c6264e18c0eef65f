/-
  A run of operations: the program's own.
-/
import Derived.Test.YtkhcaobmohppnaaDStep2
namespace Go.Proofs.Ytkhcaobmohppnaa.Spc
open Go.ChangeShapes Go.WideShapes Go.ChangeAt Go.RowKit Words Go.Sort
set_option linter.unusedVariables false

theorem made_ans (n : Nat) : (madeCells (Value.agg #[.int .i64 0, .int .i64 0]).cells (n * 2)).toList = ycells (List.replicate n ⟨0, 0⟩) := by
  have e : madeCells #[Value.int .i64 0, Value.int .i64 0] (n * 2) = (ycells (List.replicate n ⟨0, 0⟩)).toArray := by
    apply Array.ext
    · rw [size_madeCells, List.size_toArray, ycells_length, List.length_replicate]
    · intro i h1 h2
      have hm : (ycells (List.replicate n ⟨0, 0⟩))[i]'(by simpa using h2) = Value.int .i64 0 := by
        have := List.getElem_mem (l := ycells (List.replicate n ⟨0, 0⟩)) (by simpa using h2)
        obtain ⟨a, ha, hv⟩ := List.mem_flatMap.1 this
        rw [List.mem_replicate] at ha
        rw [ha.2] at hv
        simp [xcells] at hv
        exact hv
      have hx : (madeCells #[Value.int .i64 0, Value.int .i64 0] (n * 2))[i] = Value.int .i64 0 := by
        simp only [madeCells]
        rcases Nat.mod_two_eq_zero_or_one i with h | h <;> simp [h]
      rw [hx]
      simpa using hm.symm
  show (madeCells #[Value.int .i64 0, Value.int .i64 0] (n * 2)).toList = _
  rw [e]
theorem start_zero : start 0 = [] := rfl
theorem start_pos {s : Int} (h : 0 < s) : start s = [⟨0, s⟩] := by
  unfold start
  refine gk_of ⟨⟨by show (-1 : Int) < 0; omega, by show 1 ≤ s; omega, by show 0 + s ≤ _; omega⟩, trivial⟩ fun x hx => ?_
  rw [at_replicate]
  have : decide (x < s.toNat) = true := decide_eq_true hx
  rw [this]
  show true = (inG ⟨0, s⟩ x || false)
  rw [Bool.or_false, inG_yes.2 ⟨by show (0 : Int) ≤ x; omega, by show (x : Int) < 0 + s; omega⟩]
theorem start_okD {s : Int} (h : szOk s = true) : okRow s (start s) = true := by
  unfold szOk at h
  simp at h
  refine ok_of_ch h.1 h.2 ?_
  by_cases h0 : 0 < s
  · rw [start_pos h0]
    exact ⟨⟨by show (-1 : Int) < 0; omega, by show 1 ≤ s; omega, by show 0 + s ≤ _; omega⟩, trivial⟩
  · obtain rfl : s = 0 := by omega
    rw [start_zero]
    trivial
theorem fold_length (s : Int) : ∀ (ops : List Sp) (st : List Gp × List An), (ops.foldl (fold1 s) st).2.length = st.2.length + ops.length
  | [], st => rfl
  | o :: ops, st => by
    rw [List.foldl_cons, fold_length s ops]
    show (st.2 ++ [_]).length + ops.length = _
    rw [List.length_append, List.length_cons, List.length_cons, List.length_nil]
    omega
theorem played_lengthD (s : Int) (ops : List Sp) : (played s ops).2.length = ops.length := by
  unfold played
  rw [fold_length]
  simp
theorem fold_okD {s : Int} {st : List Gp × List An} {o : Sp} (h : okRow s st.1 = true) : okRow s (fold1 s st o).1 = true := by
  by_cases hs : ser s st.1 o = 0
  · rw [fold1_ok hs]
    show okRow s (sgl s st.1 o) = true
    rw [(sgl_yes hs).1]
    exact (setR_ok h).1
  · rw [fold1_no hs]; exact h
theorem put_an {w : World} {base g n c k : Nat} {l : List An} (h : OwnAn w base (some ⟨g, 0, none⟩) n c l) (hk : k < n) (e a : Int) :
    OwnAn ((w.setCell ⟨g, k * 2, none⟩ (.int .i64 e)).setCell ⟨g, k * 2 + 1, none⟩ (.int .i64 a)) base (some ⟨g, 0, none⟩) n c (l.set k ⟨e, a⟩) := by
  have hl := h.len
  have h1 := Go.World.ownsRow.stored h (k * 2) (.int .i64 e)
  have h2 := Go.World.ownsRow.stored h1.1 (k * 2 + 1) (.int .i64 a)
  have hx : l[k]? = some (l.getD k ⟨0, 0⟩) := by rw [List.getD_eq_getElem?_getD, List.getElem?_eq_getElem (by omega)]; rfl
  have e1 := flat_set (f := xcells) xcells_length hx (j := 0) (by omega) (u := .int .i64 e) (y := ⟨e, (l.getD k ⟨0, 0⟩).a⟩) rfl
  have e2 := flat_set (f := xcells) xcells_length (l := l.set k ⟨e, (l.getD k ⟨0, 0⟩).a⟩) (i := k) (x := ⟨e, (l.getD k ⟨0, 0⟩).a⟩) (by rw [List.getElem?_set_self (by omega)]) (j := 1) (by omega) (u := .int .i64 a) (y := ⟨e, a⟩) rfl
  rw [Nat.add_zero] at e1
  unfold ycells at h2
  rw [e1, e2, List.set_set] at h2
  exact h2.1
theorem ans_set {xs : List An} {k n : Nat} (h : xs.length = k) (hk : k < n) (y : An) : (xs ++ List.replicate (n - k) (⟨0, 0⟩ : An)).set k y = (xs ++ [y]) ++ List.replicate (n - (k + 1)) (⟨0, 0⟩ : An) := by
  rw [List.set_append_right _ _ (by omega), h, Nat.sub_self, show n - k = (n - (k + 1)) + 1 by omega, List.replicate_succ]
  simp
/-- A store into the answers. -/
theorem RD.ans {w : World} {base g n c x m d j : Nat} {s : Int} {A : Option Addr} {l : List Gp} {xs : List An} {u : Value} (h : RD w base g s A n c l) (ho : OwnAn w base (some ⟨x, 0, none⟩) m d xs) : RD (w.setCell ⟨x, j, none⟩ u) base g s A n c l := by
  refine h.over ?_ (fun k hk hke => ?_)
  · rintro rfl
    have := h.blk
    rcases ho.2 with ⟨hn, _⟩ | ⟨g', cap, cur, hv, _, hgg, _⟩
    · simp at hn
    · injection hv with hv _ _
      injection hv with hv
      injection hv with hv _ _
      subst hv
      unfold Whole at this
      rw [this] at hgg
      injection hgg with hgg
      injection hgg with _ h2 _
      cases h2
  · subst hke
    rcases own_apart h.row ho (by decide) with h1 | h1
    · rw [h1] at hk; cases hk
    · exact h1 (by rw [hk]; rfl)
/-! ### a new device -/
theorem own_one {w : World} {base : Nat} (hb : base ≤ w.heap.size) (p : Gp) : OwnGp (w.alloc (.cells (gcells p).toArray 36)) base (some ⟨w.heap.size, 0, none⟩) 1 1 [p] :=
  ⟨by simp [lcells, gcells], .inr ⟨w.heap.size, 1, (gcells p).toArray, rfl, hb, heap_alloc_new w _, Nat.le_refl _, by unfold maxLen; omega, by simp [gcells], by simp [lcells, gcells]⟩⟩
theorem new32 (s : Int) (w : World) (h : szOk s = true) : Calls Try.prog 32 #[.int .i64 s] w fun e w' => ∃ g A n c, e = .returned (.pointer (some ⟨g, 0, none⟩)) ∧ RD w' w.heap.size g s A n c (start s) ∧ Below w.heap.size w w' := by
  unfold szOk at h
  simp at h
  by_cases h0 : 0 < s
  · rw [start_pos h0]
    have w1 := Whole.new w 60 #[.int .i64 s, .slice (some ⟨w.heap.size + 1, 0, none⟩) 1 1]
    have o2 := own_one (w := w.alloc (.cells #[.int .i64 s, .slice (some ⟨w.heap.size + 1, 0, none⟩) 1 1] 60)) (base := w.heap.size) (by rw [World.size_alloc]; omega) ⟨0, s⟩
    rw [World.size_alloc] at o2
    have D2 := Lib.hid (show RD _ w.heap.size w.heap.size s (some ⟨w.heap.size + 1, 0, none⟩) 1 1 [⟨0, s⟩] from ⟨w1.alloc (.cells (gcells ⟨0, s⟩).toArray 36), o2, Nat.le_refl _⟩)
    have B2 := Lib.hid (two_blocks w (.cells #[.int .i64 s, .slice (some ⟨w.heap.size + 1, 0, none⟩) 1 1] 60) (.cells (gcells ⟨0, s⟩).toArray 36))
    clear w1 o2
    go_enter Try.func32, Try.ntmps32
    go_wp2_with fail
    go_ret
    exact ⟨_, _, _, _, rfl, D2.out, B2.out⟩
  · obtain rfl : s = 0 := by omega
    rw [start_zero]
    have H1 := Lib.hid (Whole.new w 60 #[.int .i64 0, .slice none 0 0])
    have B1 := Lib.hid (boxed w (.cells #[.int .i64 0, .slice none 0 0] 60))
    go_enter Try.func32, Try.ntmps32
    go_wp2_with fail
    go_ret
    exact ⟨w.heap.size, rfl, ⟨none, 0, 0, H1.out, Go.World.ownsRow_nil _ _ 36 2, Nat.le_refl _⟩, B1.out⟩
/-! ### the run -/
structure PJ (w : World) (g x n : Nat) (s : Int) (A : Option Addr) (m c : Nat) (l : List Gp) (xs : List An) (W : World) : Prop where
  bel : Below w.heap.size w W
  dev : RD W w.heap.size g s A m c l
  out : OwnAn W w.heap.size (some ⟨x, 0, none⟩) n n xs
  low : w.heap.size ≤ x
section
variable {w W W' : World} {g x n m c : Nat} {s : Int} {A : Option Addr} {l : List Gp} {xs : List An}
theorem PJ.next (h : PJ w g x n s A m c l xs W) (hb : Below W.heap.size W W') : PJ w g x n s A m c l xs W' :=
  ⟨h.bel.trans (hb.mono h.bel.size), h.dev.below hb, h.out.below hb (Nat.le_refl _), h.low⟩
theorem PJ.did {A' : Option Addr} {m' c' : Nat} {l' : List Gp} (h : PJ w g x n s A m c l xs W) (d : RD W' w.heap.size g s A' m' c' l') (f : Fr w.heap.size W W') : PJ w g x n s A' m' c' l' xs W' :=
  ⟨h.bel.trans f.bel, d, f.kp _ _ _ _ _ h.out, h.low⟩
theorem PJ.put (h : PJ w g x n s A m c l xs W) {k : Nat} (hk : k < n) (e a : Int) : PJ w g x n s A m c l (xs.set k ⟨e, a⟩) ((W.setCell ⟨x, k * 2, none⟩ (.int .i64 e)).setCell ⟨x, k * 2 + 1, none⟩ (.int .i64 a)) := by
  have h1 := Go.World.ownsRow.stored h.out (k * 2) (.int .i64 e)
  have hd := h.dev.ans (j := k * 2) (u := .int .i64 e) h.out
  refine ⟨(h.bel.setCell h.low _).setCell h.low _, ?_, put_an h.out hk e a, h.low⟩
  refine hd.over ?_ (fun b hb hbe => ?_)
  · intro e
    have := h.dev.ans (j := 0) (u := .int .i64 0) h.out
    subst e
    have hw := h.dev.blk
    rcases h.out.2 with ⟨hn, _⟩ | ⟨g', cap, cur, hv, _, hgg, _⟩
    · simp at hn
    · injection hv with hv _ _
      injection hv with hv
      injection hv with hv _ _
      subst hv
      unfold Whole at hw
      rw [hw] at hgg
      injection hgg with hgg
      injection hgg with _ h2 _
      cases h2
  · subst hbe
    rcases own_apart h.dev.row h.out (by decide) with h1 | h1
    · rw [h1] at hb; cases hb
    · exact h1 (by rw [hb]; rfl)
end
set_option maxRecDepth 100000 in
set_option maxHeartbeats 8000000 in
theorem play14 (B : Nat) (A : Option Addr) (n c : Nat) (ops : List Sp) (s : Int) (w : World) (h : Ops w B A n c ops) (hB : B ≤ w.heap.size) (hn : n * 24 ≤ 140737488351232) :
    Calls Try.prog 14 #[.int .i64 s, .slice A n c] w fun e w' => ∃ A1 c1 A2 c2, e = .returned (.tuple #[.slice A1 (pans s ops).length c1, .slice A2 (pgaps s ops).length c2, .int .i64 (perr s)]) ∧
      OwnAn w' w.heap.size A1 (pans s ops).length c1 (pans s ops) ∧ OwnGp w' w.heap.size A2 (pgaps s ops).length c2 (pgaps s ops) ∧ Below w.heap.size w w' := by
  have mx := mixedO
  have HN := h.small
  have HL := Lib.hid h.len
  have H := Lib.hid h
  have HS := size25 s w
  have b0 : Below w.heap.size w w := Below.refl _ _
  have B0 := Lib.hid b0
  cases hz : szOk s with
  | false =>
    have e1 : pans s ops = [] := by unfold pans; rw [hz]; rfl
    have e2 : pgaps s ops = [] := by unfold pgaps; rw [hz]; rfl
    have e3 : perr s = 2 := by unfold perr; rw [hz]; rfl
    rw [e1, e2, e3]
    rw [hz] at HS
    have HS := Lib.hid HS
    have N1 := Lib.hid (Go.World.ownsRow_nil w w.heap.size 27 2)
    have N2 := Lib.hid (Go.World.ownsRow_nil w w.heap.size 36 2)
    clear h b0 hz e1 e2 e3
    go_enter Try.func14, Try.ntmps14
    go_wp2_with fail
    refine (HS.out).mono ?_; rintro e w2 ⟨rfl, rfl⟩
    go_wp2_with fail
    refine bodyPost_ret (results_tmp3' rfl _ _ _) rfl ?_
    exact ⟨none, 0, none, 0, rfl, N1.out, N2.out, B0.out⟩
  | true =>
    have e1 : pans s ops = (played s ops).2 := by unfold pans; rw [hz]; rfl
    have e2 : pgaps s ops = (played s ops).1 := by unfold pgaps; rw [hz]; rfl
    have e3 : perr s = 0 := by unfold perr; rw [hz]; rfl
    rw [e1, e2, e3]
    rw [hz] at HS
    have HS := Lib.hid HS
    have HW := Lib.hid (new32 s w hz)
    have HST := Lib.hid (start_okD hz)
    obtain ⟨i7, hi, hy0, hy1, hy2⟩ := info_parts info27
    have hi7 := Lib.hid hi
    have hy0 := Lib.hid hy0
    have hy1 := Lib.hid hy1
    have hy2 := Lib.hid hy2
    clear h b0 hz e1 e2 e3 hi
    go_enter Try.func14, Try.ntmps14
    go_wp2_with fail
    refine (HS.out).mono ?_; rintro e w2 ⟨rfl, hw2⟩
    rw [hw2]
    clear hw2
    go_wp2_with fail
    refine (HW.out).mono ?_; rintro e w3 ⟨g, A3, m3, c3, rfl, d3, b3⟩
    have D3 := Lib.hid d3
    have B3 := Lib.hid b3
    have S3 : w.heap.size ≤ w3.heap.size := b3.size
    clear d3 b3
    go_wp2_with (at_make; refine wpList_make_full _ rfl _ _ 39 rfl w.heap.size 27 i7 _ 2 Try.underlying39 hi7.out hy0.out hy1.out .i64 .i64 _ _ n rfl rfl (by omega) (by omega) (by rw [hy2.out]; omega) (by simp only [maxLen]; omega) S3 ?_
                 intro w4 hown4 hg4)
    have b4 : Below w3.heap.size w3 w4 := (Below.refl _ _).grown hg4 (Nat.le_refl _) (fun k hk => by cases hk)
    rw [made_ans] at hown4
    have P4 : Hid (PJ w g w3.heap.size n s A3 m3 c3 (start s) (List.replicate n ⟨0, 0⟩) w4) := Lib.hid ⟨B3.out.trans (b4.mono S3), D3.out.below b4, hown4, S3⟩
    clear hown4 hg4 b4 S3 D3 B3
    generalize w3.heap.size = x at *
    go_wp2_with fail
    go_loopw [21] (fun i wr => ∃ (k m1 c1 : Nat) (A1 : Option Addr) (st : List Gp × List An), i = .int .i64 k ∧ k ≤ n ∧ st = played s (ops.take k) ∧ okRow s st.1 = true ∧ PJ w g x n s A1 m1 c1 st.1 (st.2 ++ List.replicate (n - k) ⟨0, 0⟩) wr) (fun i _ => (n - intOf i).toNat)
    case atStart => exact ⟨0, m3, c3, A3, (start s, []), rfl, by omega, rfl, HST.out, P4.out⟩
    case round =>
      obtain ⟨k, m1, c1, A1, ⟨l, xs⟩, rfl, hk, hst, hok, hpj⟩ := hrel
      simp only at hok hpj
      have PP := Lib.hid hpj
      have HP := Lib.hid hst
      have OK := Lib.hid hok
      clear hst hpj hok
      by_cases hlt : k < n
      · obtain ⟨g', o', rfl, _, _⟩ := Words.Rd.row H.out (by omega)
        obtain ⟨⟨ok, oa, om⟩, hr⟩ : ∃ r, ops[k]? = some r := ⟨_, List.getElem?_eq_getElem (by rw [HL.out]; exact hlt)⟩
        obtain ⟨c0, c1', c2'⟩ := Ops.cells (Words.Rd.below H.out PP.out.bel hB) rfl hr
        have PN := Lib.hid (played_next (s := s) hr)
        rw [← HP.out] at PN
        have XL : Hid (xs.length = k) := Lib.hid (by
          have := played_lengthD s (ops.take k)
          rw [← HP.out, List.length_take, HL.out] at this
          simp only at this
          omega)
        have PA := Lib.hid (PP.out.next (boxed wr (.cells #[.int .i64 ok, .int .i64 oa, .int .i64 om] 24)))
        have b24 := Whole.new wr 24 #[.int .i64 ok, .int .i64 oa, .int .i64 om]
        have HX := perform28 w.heap.size g m1 c1 s A1 l ⟨ok, oa, om⟩ _ PA.out.dev OK.out PA.out.bel.size
        have F1 := Lib.hid (fun h => fold1_ok (s := s) (st := (l, xs)) (o := ⟨ok, oa, om⟩) h)
        have F2 := Lib.hid (fun h => fold1_no (s := s) (st := (l, xs)) (o := ⟨ok, oa, om⟩) h)
        have FO := Lib.hid (fold_okD (st := (l, xs)) (o := ⟨ok, oa, om⟩) OK.out)
        unfold sval PF at HX
        simp only at HX F1 F2
        clear hr
        have FL : Hid (fold1 s (l, xs) ⟨ok, oa, om⟩ = ((if ser s l ⟨ok, oa, om⟩ = 0 then sgl s l ⟨ok, oa, om⟩ else l), xs ++ [⟨ser s l ⟨ok, oa, om⟩, sat s l ⟨ok, oa, om⟩⟩])) := Lib.hid (by
          by_cases he : ser s l ⟨ok, oa, om⟩ = 0
          · rw [F1.out he, if_pos he, he]
          · rw [F2.out he, if_neg he])
        rw [FL.out] at FO
        rw [FL.out] at PN
        simp only at FO
        clear F1 F2 FL
        generalize (if ser s l ⟨ok, oa, om⟩ = 0 then sgl s l ⟨ok, oa, om⟩ else l) = L at *
        generalize ser s l ⟨ok, oa, om⟩ = en at *
        generalize sat s l ⟨ok, oa, om⟩ = an at *
        unfold aval at HX
        have HX := Lib.hid HX
        obtain ⟨w5, hw5⟩ : ∃ w5, wr.alloc (.cells #[.int .i64 ok, .int .i64 oa, .int .i64 om] 24) = w5 := ⟨_, rfl⟩
        rw [hw5] at b24 HX PA
        have q0 := b24.cell 0
        have q1 := b24.cell 1
        have q2 := b24.cell 2
        simp at q0 q1 q2
        clear b24
        go_wp2_with fail
        refine (HX.out).mono ?_; rintro e w6 ⟨rfl, ⟨A6, m6, c6, d6⟩, f6⟩
        have P6 := Lib.hid (PA.out.did d6 f6)
        have y0 := Ans.cells P6.out.out.ans rfl (i := k) (b := ⟨0, 0⟩) (by rw [List.getElem?_append_right (by rw [XL.out]; exact Nat.le_refl _), XL.out, Nat.sub_self, List.getElem?_replicate, if_pos (by omega)])
        have z0 := y0.c0
        have z1 := y0.c1
        have z2 := Go.World.ownsRow.frozenAt P6.out.out (k * 2)
        have z3 := Go.World.ownsRow.frozenAt P6.out.out (k * 2 + 1)
        rw [Nat.zero_add] at z0 z1
        have P7 := Lib.hid (P6.out.put hlt en an)
        rw [ans_set XL.out hlt] at P7
        clear y0 d6 f6
        go_wp2_with fail
        go_roundw
        case rel => exact ⟨k + 1, m6, c6, A6, (L, xs ++ [⟨en, an⟩]), by go_num, by omega, PN.out.symm, FO.out, P7.out⟩
        case measure => simp [intOf]; omega
      · obtain rfl : k = n := by omega
        have hall : played s ops = (l, xs) := by
          have := HP.out
          rw [List.take_of_length_le (by rw [HL.out]; exact Nat.le_refl _)] at this
          exact this.symm
        have XL : xs.length = k := by
          have := played_lengthD s ops
          rw [hall, HL.out] at this
          exact this
        have PE := PP.out
        rw [Nat.sub_self, List.replicate_zero, List.append_nil] at PE
        have l1 := PE.dev.row.len
        have v1 := PE.dev.gaps
        have HALL := Lib.hid hall
        have L1 := Lib.hid l1
        have L2 := Lib.hid XL
        have PE := Lib.hid PE
        clear hall l1 XL
        go_wp2_with fail
        go_region
        go_wp2_with fail
        refine bodyPost_ret (results_tmp3' rfl _ _ _) rfl ?_
        rw [HALL.out]
        simp only
        try simp only at L1 L2
        rw [L1.out, L2.out]
        have b := (Below.refl wr.heap.size wr).drew
        exact ⟨_, _, A1, c1, rfl, (PE.out.next b).out, (PE.out.next b).dev.row, (PE.out.next b).bel⟩
theorem con : Con := ⟨step9, right12, play14⟩
end Go.Proofs.Ytkhcaobmohppnaa.Spc
