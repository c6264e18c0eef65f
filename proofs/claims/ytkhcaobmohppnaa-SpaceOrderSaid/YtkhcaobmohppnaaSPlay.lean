/-
  The document's own step, whole; its run of operations.
-/
import Derived.Test.YtkhcaobmohppnaaSTake
namespace Go.Proofs.Ytkhcaobmohppnaa.Spc
open Go.ChangeShapes Go.WideShapes Go.ChangeAt Go.RowKit Words Go.Sort
set_option linter.unusedVariables false

theorem nstep10 (B : Nat) (A : Option Addr) (n c : Nat) (l : List Gp) (s : Int) (o : Sp) (w : World) (h : Gps w B A n c l) (hB : B ≤ w.heap.size) :
    Calls Try.prog 10 #[.int .i64 s, .slice A n c, sval o] w (NS w s l o) := by
  obtain ⟨k, a, m⟩ := o
  unfold sval
  cases hf : okRow s l with
  | false => exact nstep_form B A n c l s k a m w h hB hf
  | true =>
    by_cases hk : k = 1 ∨ k = 2 ∨ k = 3
    · rcases hk with rfl | rfl | rfl
      · by_cases r : m < 1 ∨ s < m
        · exact nstep_range1 B A n c l s a m w h hB hf r
        · exact nstep_take1 B A n c l s a m w h hB hf (by omega) (by omega)
      · by_cases r : m < 1 ∨ s < m
        · exact nstep_range2 B A n c l s a m w h hB hf r
        · exact nstep_take2 B A n c l s a m w h hB hf (by omega) (by omega)
      · by_cases r : m < 1 ∨ s < m ∨ a < 0 ∨ s - m < a
        · exact nstep_range3 B A n c l s a m w h hB hf r
        · exact nstep_give B A n c l s a m w h hB hf (by omega) (by omega) (by omega) (by omega)
    · exact nstep_kind B A n c l s k a m w h hB hf hk
/-! ### operations and answers in lists -/
theorem scells_length (o : Sp) : (scells o).length = 3 := rfl
def pcells (l : List Sp) : List Value := l.flatMap scells
theorem pcells_length (l : List Sp) : (pcells l).length = l.length * 3 := flat_length scells_length l
def Ops (w : World) (B : Nat) (A : Option Addr) (n c : Nat) (l : List Sp) : Prop := Words.Rd w B 3 A n c (pcells l)
structure SAt (w : World) (g o : Nat) (b : Sp) : Prop where
  c0 : w.cell? ⟨g, o, none⟩ = some (.int .i64 b.k)
  c1 : w.cell? ⟨g, o + 1, none⟩ = some (.int .i64 b.a)
  c2 : w.cell? ⟨g, o + 2, none⟩ = some (.int .i64 b.m)
section
variable {w : World} {B : Nat} {A : Option Addr} {n c : Nat} {l : List Sp}
theorem Ops.len (h : Ops w B A n c l) : l.length = n := by
  have := Words.Rd.len h
  rw [pcells_length] at this
  omega
theorem Ops.cells (h : Ops w B A n c l) {g o : Nat} (e : A = some ⟨g, o, none⟩) {i : Nat} {b : Sp} (hb : l[i]? = some b) : SAt w g (o + i * 3) b := by
  have hi := (List.getElem?_eq_some_iff.1 hb).1
  have hl := Ops.len h
  have hc : ∀ j, j < 3 → ∀ u, (scells b)[j]? = some u → w.cell? ⟨g, o + i * 3 + j, none⟩ = some u := fun j hj u hu => by
    have := Words.Rd.cellAt h e (by omega) (i * 3 + j) u (by rw [pcells, flat_get scells_length hb hj, hu])
    rwa [← Nat.add_assoc] at this
  exact ⟨hc 0 (by omega) _ rfl, hc 1 (by omega) _ rfl, hc 2 (by omega) _ rfl⟩
end
/-- An answer: an error code, a block. -/
structure An where
  e : Int
  a : Int
deriving DecidableEq
def xcells (x : An) : List Value := [.int .i64 x.e, .int .i64 x.a]
theorem xcells_length (x : An) : (xcells x).length = 2 := rfl
def ycells (l : List An) : List Value := l.flatMap xcells
theorem ycells_length (l : List An) : (ycells l).length = l.length * 2 := flat_length xcells_length l
theorem ycells_append (a b : List An) : ycells (a ++ b) = ycells a ++ ycells b := List.flatMap_append
theorem ycells_one (l : List An) : ∀ u ∈ ycells l, u.oneCell' = true := by
  intro u hu
  obtain ⟨b, _, hb⟩ := List.mem_flatMap.1 hu
  simp [xcells] at hb
  rcases hb with rfl | rfl <;> rfl
def Ans (w : World) (B : Nat) (A : Option Addr) (n c : Nat) (l : List An) : Prop := Words.Rd w B 2 A n c (ycells l)
theorem Ans.len {w : World} {B : Nat} {A : Option Addr} {n c : Nat} {l : List An} (h : Ans w B A n c l) : l.length = n := by
  have := Words.Rd.len h
  rw [ycells_length] at this
  omega
structure XAt (w : World) (g o : Nat) (b : An) : Prop where
  c0 : w.cell? ⟨g, o, none⟩ = some (.int .i64 b.e)
  c1 : w.cell? ⟨g, o + 1, none⟩ = some (.int .i64 b.a)
theorem Ans.cells {w : World} {B : Nat} {A : Option Addr} {n c : Nat} {l : List An} (h : Ans w B A n c l) {g o : Nat} (e : A = some ⟨g, o, none⟩) {i : Nat} {b : An} (hb : l[i]? = some b) : XAt w g (o + i * 2) b := by
  have hi := (List.getElem?_eq_some_iff.1 hb).1
  have hl := Ans.len h
  have hc : ∀ j, j < 2 → ∀ u, (xcells b)[j]? = some u → w.cell? ⟨g, o + i * 2 + j, none⟩ = some u := fun j hj u hu => by
    have := Words.Rd.cellAt h e (by omega) (i * 2 + j) u (by rw [ycells, flat_get xcells_length hb hj, hu])
    rwa [← Nat.add_assoc] at this
  exact ⟨hc 0 (by omega) _ rfl, hc 1 (by omega) _ rfl⟩
theorem info27 : (Try.prog.info? 27).map (fun i => (i.zero, i.size, i.bytes)) = some (some (.agg #[.int .i64 0, .int .i64 0]), 2, 16) := by kernel_rfl
def OwnAn (w : World) (base : Nat) (A : Option Addr) (n c : Nat) (l : List An) : Prop := w.ownsRow base 27 2 (.slice A n c) n (ycells l)
section
variable {w w' : World} {base g : Nat} {A : Option Addr} {n c : Nat} {l : List An}
theorem OwnAn.ans (h : OwnAn w base A n c l) : Ans w w.heap.size A n c l := Words.Rd.of_own h
theorem OwnAn.len (h : OwnAn w base A n c l) : l.length = n := h.ans.len
theorem OwnAn.below {D : Nat} (h : OwnAn w base A n c l) (hb : Below D w w') (hD : w.heap.size ≤ D) : OwnAn w' base A n c l := own_below h hb hD
theorem OwnAn.more (h : OwnAn w base A n c l) {base' : Nat} (hb : base' ≤ base) : OwnAn w base' A n c l := own_base h hb
end
theorem one_ans (w : World) (p : An) : Ans (w.alloc (.cells (xcells p).toArray 27)) (w.heap.size + 1) (some ⟨w.heap.size, 0, none⟩) 1 1 [p] :=
  Words.Rd.new w 27 _ (0, 0) _ 1 (by simp [ycells]) rfl (by unfold maxLen; omega)
/-! ### a run of operations -/
def fold1 (s : Int) (st : List Gp × List An) (o : Sp) : List Gp × List An := (if ser s st.1 o = 0 then sgl s st.1 o else st.1, st.2 ++ [⟨ser s st.1 o, sat s st.1 o⟩])
def start (s : Int) : List Gp := gk (List.replicate s.toNat true) s.toNat
def played (s : Int) (ops : List Sp) : List Gp × List An := ops.foldl (fold1 s) (start s, [])
def szOk (s : Int) : Bool := decide (0 ≤ s) && decide (s ≤ 4096)
def perr (s : Int) : Int := if szOk s = true then 0 else 2
def pgaps (s : Int) (ops : List Sp) : List Gp := if szOk s = true then (played s ops).1 else []
def pans (s : Int) (ops : List Sp) : List An := if szOk s = true then (played s ops).2 else []
theorem played_next {s : Int} {ops : List Sp} {k : Nat} {o : Sp} (h : ops[k]? = some o) : played s (ops.take (k + 1)) = fold1 s (played s (ops.take k)) o := by
  unfold played; rw [take_next h, List.foldl_append]; rfl
theorem fold1_ok {s : Int} {st : List Gp × List An} {o : Sp} (h : ser s st.1 o = 0) : fold1 s st o = (sgl s st.1 o, st.2 ++ [⟨0, sat s st.1 o⟩]) := by unfold fold1; rw [if_pos h, h]
theorem fold1_no {s : Int} {st : List Gp × List An} {o : Sp} (h : ser s st.1 o ≠ 0) : fold1 s st o = (st.1, st.2 ++ [⟨ser s st.1 o, sat s st.1 o⟩]) := by unfold fold1; rw [if_neg h]
/-- What the run keeps. -/
structure PI (w : World) (A : Option Addr) (n c : Nat) (l : List Gp) (A2 : Option Addr) (n2 c2 : Nat) (xs : List An) (W : World) : Prop where
  bel : Below w.heap.size w W
  gaps : OwnGp W w.heap.size A n c l
  out : OwnAn W w.heap.size A2 n2 c2 xs
section
variable {w W W' : World} {A A2 A' : Option Addr} {n c n2 c2 c' n' : Nat} {l l' : List Gp} {xs : List An}
theorem PI.next (h : PI w A n c l A2 n2 c2 xs W) (hb : Below W.heap.size W W') : PI w A n c l A2 n2 c2 xs W' :=
  ⟨h.bel.trans (hb.mono h.bel.size), h.gaps.below hb (Nat.le_refl _), h.out.below hb (Nat.le_refl _)⟩
theorem PI.to (h : PI w A n c l A2 n2 c2 xs W) (ho : OwnGp W w.heap.size A' n' c' l') : PI w A' n' c' l' A2 n2 c2 xs W := ⟨h.bel, ho, h.out⟩
theorem PI.had (h : PI w A n c l A2 n2 c2 xs W) {p : An} (ho : W'.ownsRow w.heap.size 27 2 (.slice A' (n2 + 1) c') (n2 + 1) (ycells xs ++ ycells [p])) (hg : W.grownBy W' (Value.slice A2 n2 c2).ownBlock) : PI w A n c l A' (n2 + 1) c' (xs ++ [p]) W' :=
  ⟨below_grown h.bel h.out hg h.bel.size (Nat.le_refl _), Go.World.ownsRow.kept h.gaps hg (own_apart h.gaps h.out (by decide)), by unfold OwnAn; rw [ycells_append]; exact ho⟩
end
theorem results_tmp3' {fn : Func} {t u v : Tmp} (h : fn.results = #[.tmp t, .tmp u, .tmp v]) (tmps : Array Value) (P : Program) (w : World) :
    (results fn tmps).run P w = .ok (.tuple #[tmps.getD t undef, tmps.getD u undef, tmps.getD v undef]) w := by
  simp [results, h]
set_option maxRecDepth 100000 in
set_option maxHeartbeats 8000000 in
theorem nplay15 (B : Nat) (A : Option Addr) (n c : Nat) (ops : List Sp) (s : Int) (w : World) (h : Ops w B A n c ops) (hB : B ≤ w.heap.size) (hn : n * 24 ≤ 140737488351232) :
    Calls Try.prog 15 #[.int .i64 s, .slice A n c] w fun e w' => ∃ A1 c1 A2 c2, e = .returned (.tuple #[.slice A1 (pans s ops).length c1, .slice A2 (pgaps s ops).length c2, .int .i64 (perr s)]) ∧
      OwnAn w' w.heap.size A1 (pans s ops).length c1 (pans s ops) ∧ OwnGp w' w.heap.size A2 (pgaps s ops).length c2 (pgaps s ops) ∧ Below w.heap.size w w' := by
  have HN := h.small
  have HL := Lib.hid h.len
  have H := Lib.hid h
  have b0 : Below w.heap.size w w := Below.refl _ _
  have B0 := Lib.hid b0
  have N1 := Lib.hid (Go.World.ownsRow_nil w w.heap.size 27 2)
  have N2 := Lib.hid (Go.World.ownsRow_nil w w.heap.size 36 2)
  clear h b0
  have bad : szOk s = false → pans s ops = [] ∧ pgaps s ops = [] ∧ perr s = 2 := fun h => by unfold pans pgaps perr; rw [h]; simp
  have good : szOk s = true → pans s ops = (played s ops).2 ∧ pgaps s ops = (played s ops).1 ∧ perr s = 0 := fun h => by unfold pans pgaps perr; rw [h]; simp
  by_cases s1 : s < 0
  · obtain ⟨q1, q2, q3⟩ := bad (by unfold szOk; rw [decide_eq_false (by omega)]; rfl)
    rw [q1, q2, q3]
    clear bad good q1 q2 q3
    go_enter Try.func15, Try.ntmps15
    go_wp2_with fail
    refine bodyPost_ret (results_tmp3' rfl _ _ _) rfl ?_
    exact ⟨none, 0, none, 0, rfl, N1.out, N2.out, B0.out⟩
  by_cases s2 : 4096 < s
  · obtain ⟨q1, q2, q3⟩ := bad (by unfold szOk; rw [decide_eq_false (show ¬ s ≤ 4096 by omega)]; simp)
    rw [q1, q2, q3]
    clear bad good q1 q2 q3
    go_enter Try.func15, Try.ntmps15
    go_wp2_with fail
    refine bodyPost_ret (results_tmp3' rfl _ _ _) rfl ?_
    exact ⟨none, 0, none, 0, rfl, N1.out, N2.out, B0.out⟩
  obtain ⟨z, rfl⟩ : ∃ z : Nat, s = z := ⟨s.toNat, by omega⟩
  obtain ⟨q1, q2, q3⟩ := good (by unfold szOk; rw [decide_eq_true (show (0 : Int) ≤ z by omega), decide_eq_true (show (z : Int) ≤ 4096 by omega)]; rfl)
  rw [q1, q2, q3]
  clear bad good q1 q2 q3 N1 N2
  have HST : Hid (gk (List.replicate z true) z = start z) := Lib.hid (by unfold start; rw [show ((z : Int)).toNat = z by omega])
  obtain ⟨i0, hi0, hz0, hz1, hz2⟩ := info_parts info4
  obtain ⟨i7, hi, hy0, hy1, hy2⟩ := info_parts info27
  have hi7 := Lib.hid hi
  have hy0 := Lib.hid hy0
  have hy1 := Lib.hid hy1
  have hy2 := Lib.hid hy2
  clear hi
  go_enter Try.func15, Try.ntmps15
  go_wp2_with (at_make; refine wpList_make_full _ rfl _ _ 30 rfl w.heap.size 4 i0 _ 1 Try.underlying30 hi0 hz0 hz1 .i64 .i64 _ _ z rfl rfl (by omega) (by omega) (by rw [hz2]; omega) (by simp only [maxLen]; omega) (Nat.le_refl _) ?_
               intro w2 hown2 hg2)
  have B2 : Hid (Below w.heap.size w w2) := Lib.hid ((Below.refl _ _).grown hg2 (Nat.le_refl _) (fun k hk => by cases hk))
  rw [made_bools] at hown2
  have O2 : Hid (OwnB w2 w.heap.size (some ⟨w.heap.size, 0, none⟩) z z (List.replicate z false)) := Lib.hid hown2
  clear hown2 hg2 hi0 hz0 hz1 hz2
  go_wp2_with fail
  go_loopw [25] (fun i wr => ∃ (j : Nat) (row : List Bool), i = .int .i64 j ∧ j ≤ z ∧ row.length = z ∧ (∀ x : Nat, x < z → at_ row x = decide (x < j)) ∧ OwnB wr w.heap.size (some ⟨w.heap.size, 0, none⟩) z z row ∧ Below w.heap.size w wr) (fun i _ => (z - intOf i).toNat)
  case atStart => exact ⟨0, _, rfl, by omega, List.length_replicate, fun x hx => by rw [at_replicate]; simp, O2.out, B2.out⟩
  case round =>
    obtain ⟨j, row, rfl, hj, hrl, hrx, hrow, hbel⟩ := hrel
    have RL := Lib.hid hrl
    have RX := Lib.hid hrx
    have OR := Lib.hid hrow
    have BR := Lib.hid hbel
    clear hrl hrx hrow hbel
    by_cases hjz : j < z
    · have k1 := OR.out.frozen j
      have k2 := OR.out.at_ hjz
      have ON := Lib.hid (OR.out.set j true).1
      have BN := Lib.hid (BR.out.setCell (p := ⟨w.heap.size, j, none⟩) (Nat.le_refl _) (.bool true))
      have RN : Hid ((row.set j true).length = z ∧ ∀ x : Nat, x < z → at_ (row.set j true) x = decide (x < j + 1)) := Lib.hid ⟨by rw [List.length_set]; exact RL.out, fun x hx => by
        rw [at_set (by rw [RL.out]; exact hjz)]
        by_cases hxj : x = j
        · rw [if_pos hxj]; simp; omega
        · rw [if_neg hxj, RX.out x hx]; simp; omega⟩
      go_wp2_with fail
      go_roundw
      case rel => exact ⟨j + 1, _, by go_num, by omega, RN.out.1, RN.out.2, ON.out, BN.out⟩
      case measure => simp [intOf]; omega
    · obtain rfl : z = j := by omega
      have hall : row = List.replicate z true := row_ext (by rw [RL.out, List.length_replicate]) fun x hx => by
        rw [RL.out] at hx
        rw [RX.out x hx, at_replicate]; simp [hx]
      have HG := ngaps30 wr.heap.size (some ⟨w.heap.size, 0, none⟩) z z row wr OR.out.bls (Nat.le_refl _) (by omega)
      rw [hall, HST.out] at HG
      have HG := Lib.hid HG
      clear hall
      generalize wr = wq at *
      go_wp2_with fail
      refine (HG.out).mono ?_; rintro e w3 ⟨A3, c3, rfl, P3⟩
      have PI3 : Hid (PI w A3 (start z).length c3 (start z) none 0 0 [] w3) := Lib.hid ⟨BR.out.trans (P3.bel.mono BR.out.size), P3.row.more BR.out.size, Go.World.ownsRow_nil w3 _ 27 2⟩
      clear P3
      go_wp2_with fail
      go_loopw [9, 10, 36] (fun sl so i wr => ∃ (k m1 : Nat) (A1 A2 : Option Addr) (c1 c2 : Nat) (st : List Gp × List An), sl = .slice A1 m1 c1 ∧ so = .slice A2 k c2 ∧ i = .int .i64 k ∧ k ≤ n ∧ st = played z (ops.take k) ∧ PI w A1 m1 c1 st.1 A2 k c2 st.2 wr) (fun _ _ i _ => (n - intOf i).toNat)
      case atStart => exact ⟨0, _, A3, none, c3, 0, (start z, []), rfl, rfl, rfl, by omega, rfl, PI3.out⟩
      case round =>
        obtain ⟨k, m1, A1, A2, c1, c2, ⟨l, xs⟩, rfl, rfl, rfl, hk, hst, hpi⟩ := hrel
        simp only at hpi
        have PP := Lib.hid hpi
        have HS := Lib.hid hst
        clear hpi hst
        by_cases hlt : k < n
        · obtain ⟨g, o, rfl, _, _⟩ := Words.Rd.row H.out (by omega)
          obtain ⟨⟨ok, oa, om⟩, hr⟩ : ∃ r, ops[k]? = some r := ⟨_, List.getElem?_eq_getElem (by rw [HL.out]; exact hlt)⟩
          obtain ⟨c0, c1', c2'⟩ := Ops.cells (Words.Rd.below H.out PP.out.bel hB) rfl hr
          have PN := Lib.hid (played_next (s := z) hr)
          rw [← HS.out] at PN
          have PA := Lib.hid (PP.out.next (boxed wr (.cells #[.int .i64 ok, .int .i64 oa, .int .i64 om] 24)))
          have HSP := nstep10 _ A1 m1 c1 l z ⟨ok, oa, om⟩ _ PA.out.gaps.gps (Nat.le_refl _)
          unfold sval at HSP
          simp only at HSP
          have HSP := Lib.hid HSP
          have F1 := Lib.hid (fold1_ok (s := z) (st := (l, xs)) (o := ⟨ok, oa, om⟩))
          have F2 := Lib.hid (fold1_no (s := z) (st := (l, xs)) (o := ⟨ok, oa, om⟩))
          clear hr
          go_wp2_with fail
          refine (HSP.out).mono ?_; rintro e w5 ⟨A5, c5, rfl, o5, b5⟩
          have P5 := Lib.hid (PA.out.next b5)
          have O5 := Lib.hid (o5.more PA.out.bel.size)
          clear o5 b5
          try simp only at F1 F2
          generalize sgl (z : Int) l ⟨ok, oa, om⟩ = nl at *
          generalize ser (z : Int) l ⟨ok, oa, om⟩ = en at *
          generalize sat (z : Int) l ⟨ok, oa, om⟩ = an at *
          obtain ⟨ln, hln⟩ : ∃ ln, ln = nl.length := ⟨_, rfl⟩
          rw [← hln] at O5 ⊢
          clear hln
          have P6 := Lib.hid ((P5.out.next (boxed w5 (.cells (xcells ⟨en, an⟩).toArray 27))).next (boxed _ (.cells (xcells ⟨en, an⟩).toArray 27)))
          have O6 := Lib.hid ((O5.out.below (boxed w5 (.cells (xcells ⟨en, an⟩).toArray 27)) (Nat.le_refl _)).below (boxed _ (.cells (xcells ⟨en, an⟩).toArray 27)) (Nat.le_refl _))
          have nr := one_ans (w5.alloc (.cells (xcells ⟨en, an⟩).toArray 27)) ⟨en, an⟩
          rw [World.size_alloc] at nr
          have NR := Lib.hid nr
          clear nr
          have HZ : w.heap.size ≤ ((w5.alloc (.cells (xcells ⟨en, an⟩).toArray 27)).alloc (.cells (xcells ⟨en, an⟩).toArray 27)).heap.size := P6.out.bel.size
          have hi1 : k + 1 ≤ maxLen := by unfold maxLen; omega
          have hi2 : (k + 1) * 16 ≤ 140737488355328 := by omega
          unfold aval
          by_cases he : en = 0
          · have E1 := Lib.hid (PN.out.trans (F1.out he))
            subst he
            go_wp2_with (at_builtin; refine wpList_append_rd _ rfl (.tmp 51) (.tmp 53) 39 rfl w.heap.size 27 i7 _ 2 16 Try.underlying39 hi7.out hy0.out hy1.out hy2.out rfl (by decide) _ k (ycells xs) rfl P6.out.out _ _ 1 1 (ycells [⟨0, an⟩]) rfl NR.out (ycells_one _) hi1 hi2 HZ ?_
                         intro A7 c7 w7 hown7 hg7)
            have P7 := Lib.hid ((P6.out.to O6.out).had hown7 hg7)
            clear hown7 hg7
            go_wp2_with fail
            go_roundw
            case rel => exact ⟨k + 1, ln, A5, A7, c5, c7, _, rfl, rfl, by go_num, by omega, E1.out.symm, P7.out⟩
            case measure => simp [intOf]; omega
          · have hb : (en == 0) = false := by rw [beq_eq_false_iff_ne]; exact he
            have E1 := Lib.hid (PN.out.trans (F2.out he))
            clear he
            go_wp2_with (at_builtin; refine wpList_append_rd _ rfl (.tmp 51) (.tmp 53) 39 rfl w.heap.size 27 i7 _ 2 16 Try.underlying39 hi7.out hy0.out hy1.out hy2.out rfl (by decide) _ k (ycells xs) rfl P6.out.out _ _ 1 1 (ycells [⟨en, an⟩]) rfl NR.out (ycells_one _) hi1 hi2 HZ ?_
                         intro A7 c7 w7 hown7 hg7)
            have P7 := Lib.hid (P6.out.had hown7 hg7)
            clear hown7 hg7
            go_wp2_with fail
            go_roundw
            case rel => exact ⟨k + 1, m1, A1, A7, c1, c7, _, rfl, rfl, by go_num, by omega, E1.out.symm, P7.out⟩
            case measure => simp [intOf]; omega
        · obtain rfl : k = n := by omega
          have hall : played z ops = (l, xs) := by
            have := HS.out
            rw [List.take_of_length_le (by rw [HL.out]; exact Nat.le_refl _)] at this
            exact this.symm
          have l1 := PP.out.gaps.len
          have l2 := PP.out.out.len
          have HALL := Lib.hid hall
          have L1 := Lib.hid l1
          have L2 := Lib.hid l2
          clear hall l1 l2
          go_wp2_with fail
          refine bodyPost_ret (results_tmp3' rfl _ _ _) rfl ?_
          rw [HALL.out]
          simp only
          try simp only at L1 L2
          rw [L1.out, L2.out]
          exact ⟨A2, c2, A1, c1, rfl, PP.out.out, PP.out.gaps, PP.out.bel⟩
end Go.Proofs.Ytkhcaobmohppnaa.Spc
