/-
  A run joined to a row of the call's own: the last one made longer, or one more behind it; which block the row lies in then.
-/
import Derived.Test.YtfcihgincfcdkaaREnd
import Derived.Test.YtfcihgincfcdkaaRRange
import Derived.Laws.AppendOwn
namespace Go.Proofs.Ytfcihgincfcdkaa.Rns
open Go.ChangeShapes Go.WideShapes Go.ChangeAt Go.RowKit Words Go.Sort
set_option linter.unusedVariables false

section
variable {P : Program} (w : World)
/-- Where 'append' leaves a row of the call's own: where it was, or in a block that is new. -/
theorem append_block (base : Nat) (t ty e : TypeId) (i : TypeInfo) (z : Value) (size bytes : Nat) (ht : P.underlying t = some (.slice e)) (hi : P.info? e = some i) (hz : i.zero = some z)
    (hsize : i.size = size) (hby : i.bytes = bytes)
    (v : Value) (n : Nat) (xs : List Value) (hown : w.ownsRow base e size v n xs)
    (a : Addr) (m c : Nat) (news : List Value) (hm0 : 0 < m) (hl : news.length = m * size) (hnews : ∀ j u, news[j]? = some u → w.cell? (a.add j) = some u) (h1 : ∀ u ∈ news, u.oneCell' = true)
    (h63 : n + m ≤ maxLen) (hbytes : (n + m) * bytes ≤ 140737488355328) {v' : Value} {w' : World} (hr : (Builtin.append_ #[t, t] ty #[v, .slice (some a) m c]).run P w = .ok v' w') :
    v'.ownBlock = v.ownBlock ∨ v'.ownBlock = some w.heap.size := by
  subst hsize
  subst hby
  have hsmall : n + m ≤ 9223372036854775807 := by simp only [maxLen] at h63; omega
  rcases hown.2 with ⟨rfl, rfl⟩ | ⟨g, cap, cur, rfl, hbg, hg, hnc, hcm, hcs, htake⟩
  · rw [run_append_nil (P := P) w t ty e i z ht hi hz a m c news hl hnews hm0 (by omega) (by have hb := hbytes; simp only [Nat.zero_add] at hb; omega)] at hr
    injection hr with hr _
    subst hr
    exact .inr rfl
  · by_cases hroom : n + m ≤ cap
    · rw [run_append_room (P := P) w t ty e i ht hi g n cap cur hg a m c news hl hnews h1 hroom (by rw [hl, hcs, ← Nat.add_mul]; exact Nat.mul_le_mul_right _ hroom)] at hr
      injection hr with hr _
      subst hr
      exact .inl rfl
    · rw [run_append_grow (P := P) w t ty e i z ht hi hz ⟨g, 0, none⟩ n cap xs hown.1 (hown.cells (g := g) rfl) a m c news hl hnews (by omega) (by omega) (growslice_fits (by omega) hbytes)] at hr
      injection hr with hr _
      subst hr
      exact .inr rfl
theorem wpList_append_at {ops : Array Oper} {rest : List Oper} {o : Oper} {a : Act} {Q : Exit → Act → World → Prop} (hgd : o.guard = none) (s x : Operand) (t : TypeId)
    (ho : o.op = .call { callee := .builtin .append, args := #[s, x], argTypes := #[t, t] })
    (base : Nat) (e : TypeId) (i : TypeInfo) (z : Value) (size bytes : Nat) (ht : P.underlying t = some (.slice e)) (hi : P.info? e = some i) (hz : i.zero = some z)
    (hsize : i.size = size) (hby : i.bytes = bytes) (hzs : z.cells.size = size) (hsz : 0 < size)
    (v : Value) (n : Nat) (xs : List Value) (hs : a.eval s = v) (hown : w.ownsRow base e size v n xs)
    (B : Nat) (b f : Nat) (m c : Nat) (news : List Value) (hx : a.eval x = .slice (some ⟨b, f, none⟩) m c) (hr : Rd w B size (some ⟨b, f, none⟩) m c news) (hm0 : 0 < m) (h1 : ∀ u ∈ news, u.oneCell' = true)
    (h63 : n + m ≤ maxLen) (hbytes : (n + m) * bytes ≤ 140737488355328) (hbase : base ≤ w.heap.size)
    (h : ∀ A' c' w', w'.ownsRow base e size (.slice A' (n + m) c') (n + m) (xs ++ news) → w.grownBy w' v.ownBlock → (∀ G, G < w.heap.size → v.ownBlock ≠ some G → (Value.slice A' (n + m) c').ownBlock ≠ some G) → wpList P ops Q rest (a.put o.dst (.slice A' (n + m) c')) w') : wpList P ops Q (o :: rest) a w := by
  obtain ⟨v', w', hrun, h2, h3⟩ := run_append_rd (P := P) w base t o.type e i z size bytes ht hi hz hsize hby hzs hsz v n xs hown B (some ⟨b, f, none⟩) m c news hr h1 h63 hbytes hbase
  have h4 := append_block (P := P) w base t o.type e i z size bytes ht hi hz hsize hby v n xs hown ⟨b, f, none⟩ m c news hm0 hr.len (fun j u hu => by rw [Addr.add_lit]; exact hr.cellAt rfl hm0 j u hu) h1 h63 hbytes hrun
  obtain ⟨A', c', rfl⟩ := own_form h2
  exact Lib.wpList_append_run w hgd s x t t ho v (.slice (some ⟨b, f, none⟩) m c) hs hx _ w' hrun (h A' c' w' h2 h3 fun G hG hne he => by
    rcases h4 with h4 | h4
    · exact hne (by rw [← h4, he])
    · rw [h4] at he; injection he with he; omega)
end
/-- What a join leaves. -/
structure Jnd (base : Nat) (v : Value) (w w' : World) (A' : Option Addr) (n' c' : Nat) (ps : List Rn) : Prop where
  row : OwnRn w' base A' n' c' ps
  grown : w.grownBy w' v.ownBlock
  apart : ∀ G, G < w.heap.size → v.ownBlock ≠ some G → (Value.slice A' n' c').ownBlock ≠ some G
theorem grown_of_below {w w1 : World} (h : Below w.heap.size w w1) (row : Option Nat) : w.grownBy w1 row := ⟨h.os, h.tape, h.output, h.size, fun i hi _ => h.block i hi⟩
theorem jst_last {all : List Rn} {x : Rn} {p : Nat} (hp : all.length = p + 1) (h : cont (nth all p) x = true) : jst all x = all.set p (join2 (nth all p) x) := by
  unfold jst
  rw [hp, show p + 1 - 1 = p by omega, if_pos ⟨(by intro e; rw [e] at hp; simp at hp), h⟩]
theorem jst_more {all : List Rn} {x : Rn} {p : Nat} (hp : all.length = p + 1) (h : cont (nth all p) x = false) : jst all x = all ++ [x] := jst_add (.inr (by rw [hp, show p + 1 - 1 = p by omega]; exact h))
set_option maxHeartbeats 4000000 in
theorem join25 (base : Nat) (A : Option Addr) (n c : Nat) (all : List Rn) (x : Rn) (w : World) (h : OwnRn w base A n c all) (hb : base ≤ w.heap.size) (hn : n ≤ 2199023255556) (hd : Bnd (all ++ [x])) :
    Calls Try.prog 25 #[.slice A n c, rval x] w fun e w' => ∃ A' c', e = .returned (.slice A' (jst all x).length c') ∧ Jnd base (.slice A n c) w w' A' (jst all x).length c' (jst all x) := by
  have mx := mixedO
  have HL := Lib.hid h.len
  have H := Lib.hid h
  have HD := Lib.hid hd
  obtain ⟨i0, hi, hz0, hz1, hz2⟩ := info_parts info34
  have hi0 := Lib.hid hi
  have hz0 := Lib.hid hz0
  have hz1 := Lib.hid hz1
  have hz2 := Lib.hid hz2
  obtain ⟨x1, x2, x3, x4, x5⟩ := hd x (by simp)
  obtain ⟨xa, xd, xm⟩ := x
  simp only at x1 x2 x3 x4 x5
  obtain ⟨wb, hwb⟩ : ∃ wb, w.alloc (.cells (rcells ⟨xa, xd, xm⟩).toArray 34) = wb := ⟨_, rfl⟩
  have BX : Hid (Below w.heap.size w wb) := Lib.hid (by rw [← hwb]; exact boxed w _)
  have GX : Hid (Whole wb w.heap.size 34 (rcells ⟨xa, xd, xm⟩).toArray) := Lib.hid (by rw [← hwb]; exact Whole.new w 34 _)
  have HWB : Hid (w.alloc (.cells #[.int .i64 xa, .int .i64 xd, .int .i64 xm] 34) = wb) := Lib.hid hwb
  clear h hd hi hwb
  unfold rval
  simp only
  go_enter Try.func25, Try.ntmps25
  rcases Nat.eq_zero_or_pos n with h0 | h0
  · subst h0
    have hnil : all = [] := List.eq_nil_of_length_eq_zero HL.out
    have HJ : Hid (jst all ⟨xa, xd, xm⟩ = all ++ [⟨xa, xd, xm⟩]) := Lib.hid (jst_add (.inl hnil))
    have HJL : Hid ((all ++ [(⟨xa, xd, xm⟩ : Rn)]).length = 0 + 1) := Lib.hid (by rw [hnil]; rfl)
    clear hnil
    obtain ⟨x0, y0, z0⟩ := boxG GX.out
    simp only at x0 y0 z0
    go_wp2_with fail
    rw [HWB.out]
    refine wp_region_quiet_grown (by assumption) (by kernel_rfl) ?_
    repeat (go_big_quiet_step (fail))
    refine wpQuiet_nil ?_
    intro _ hw2
    obtain ⟨⟨nq, osq⟩, hw3⟩ := hw2
    subst hw3
    clear x0 y0 z0
    have LQ : Below wb.heap.size wb (grow (wb.drewN nq) osq) := below_grow (Below.refl _ _) (Nat.le_refl _) nq osq
    generalize grow (wb.drewN nq) osq = wq at *
    have b0 := Whole.cell (whole_below2 GX.out LQ) 0
    have b1 := Whole.cell (whole_below2 GX.out LQ) 1
    have b2 := Whole.cell (whole_below2 GX.out LQ) 2
    simp [rcells] at b0 b1 b2
    have BQ := Lib.hid (BX.out.trans (LQ.mono BX.out.size))
    have BA := Lib.hid (BQ.out.alloc BQ.out.size (.cells (rcells ⟨xa, xd, xm⟩).toArray 34))
    have OA := Lib.hid (OwnRn.below H.out BA.out (Nat.le_refl _))
    have NR := Lib.hid (one_run wq ⟨xa, xd, xm⟩)
    have HZ : base ≤ (wq.alloc (.cells (rcells ⟨xa, xd, xm⟩).toArray 34)).heap.size := Nat.le_trans hb BA.out.size
    have hi1 : 0 + 1 ≤ maxLen := by unfold maxLen; omega
    have hi2 : (0 + 1) * 24 ≤ 140737488355328 := by omega
    clear LQ
    go_wp2_with (at_builtin; refine wpList_append_at _ rfl (.tmp 30) (.tmp 32) 22 rfl base 34 i0 _ 3 24 Try.underlying22 hi0.out hz0.out hz1.out hz2.out rfl (by decide) _ 0 (lcells all) rfl OA.out _ _ _ 1 1 (lcells [⟨xa, xd, xm⟩]) rfl NR.out (by decide) (lcells_one _) hi1 hi2 HZ ?_
                 intro A6 c6 w6 hown6 hg6 hap6)
    have O6 := Lib.hid hown6
    have G6 := Lib.hid ((grown_of_below BA.out _).trans hg6)
    have P6 := Lib.hid (fun G (hG : G < w.heap.size) hne => hap6 G (Nat.lt_of_lt_of_le hG BA.out.size) hne)
    clear hown6 hg6 hap6
    go_wp2_with fail
    go_ret
    refine ⟨A6, c6, by rw [HJ.out, HJL.out]; rfl, ?_⟩
    rw [HJ.out, HJL.out]
    exact ⟨by unfold OwnRn; rw [lcells_append]; exact O6.out, G6.out, P6.out⟩
  · obtain ⟨p, hp⟩ : ∃ p, n = p + 1 := ⟨n - 1, by omega⟩
    obtain ⟨g, rfl, hg1, hg2⟩ := OwnRn.addr H.out h0
    have hpn : p < n := by omega
    have HP := Lib.hid hp
    have HPL : Hid (all.length = p + 1) := Lib.hid (by rw [HL.out]; exact hp)
    have hwl : IntKind.i64.wrap ((n : Int) - 1) = (p : Int) := by rw [IntKind.wrap_i64]; omega
    have hge : decide ((0 : Int) ≤ (p : Int)) = true := by rw [decide_eq_true_iff]; omega
    have OB := Lib.hid (OwnRn.below H.out BX.out (Nat.le_refl _))
    obtain ⟨y0, y1, y2⟩ := Rns.cellsG OB.out.rns (Nat.le_refl _) rfl (nth_get (l := all) (k := p) (by rw [HPL.out]; omega))
    simp only [Nat.zero_add] at y0 y1 y2
    obtain ⟨q1, q2, q3, q4, q5⟩ := HD.out (nth all p) (List.mem_append_left _ (mem_nth.2 ⟨p, by rw [HPL.out]; omega, rfl⟩))
    have hw1 : IntKind.i64.wrap ((nth all p).a + (nth all p).m) = (nth all p).a + (nth all p).m := by rw [IntKind.wrap_i64]; omega
    have hw2 : IntKind.i64.wrap ((nth all p).d + (nth all p).m) = (nth all p).d + (nth all p).m := by rw [IntKind.wrap_i64]; omega
    have HC := Lib.hid (fun w => cont21 (nth all p) ⟨xa, xd, xm⟩ w hw1 hw2)
    have J1 := Lib.hid (jst_last (x := ⟨xa, xd, xm⟩) HPL.out)
    have J2 := Lib.hid (jst_more (x := ⟨xa, xd, xm⟩) HPL.out)
    have CY := Lib.hid (fun h => (cont_yes (p := nth all p) (q := ⟨xa, xd, xm⟩)).1 h)
    obtain ⟨y, hy⟩ : ∃ y, y = nth all p := ⟨_, rfl⟩
    have HY := Lib.hid hy
    rw [← hy] at y0 y1 y2 q1 q2 q3 q4 q5 HC J1 J2 CY
    clear hy hw1 hw2 hp
    obtain ⟨ya, yd, ym⟩ := y
    simp only at y0 y1 y2 q1 q2 q3 q4 q5 CY
    obtain ⟨x0, z0, z1⟩ := boxG GX.out
    simp only at x0 z0 z1
    unfold rval at HC
    simp only at HC
    cases hc : cont ⟨ya, yd, ym⟩ ⟨xa, xd, xm⟩ with
    | false =>
      rw [hc] at HC
      have HJ := Lib.hid (J2.out hc)
      have HJL : Hid ((all ++ [(⟨xa, xd, xm⟩ : Rn)]).length = n + 1) := Lib.hid (by rw [List.length_append, HL.out]; rfl)
      clear hc CY q1 q2 q3 q4 q5
      go_wp2_with fail
      rw [HWB.out]
      refine wp_region_quiet_grown (by assumption) (by kernel_rfl) ?_
      repeat (go_big_quiet_step (first | (go_at_call 21; exact Calls.grown_of (HC.out _))))
      refine wpQuiet_nil ?_
      intro _ hw2
      obtain ⟨⟨nq, osq⟩, hw3⟩ := hw2
      subst hw3
      clear x0 y0 z0 y1 y2 z1
      have LQ : Below wb.heap.size wb (grow (wb.drewN nq) osq) := below_grow (Below.refl _ _) (Nat.le_refl _) nq osq
      generalize grow (wb.drewN nq) osq = wq at *
      have b0 := Whole.cell (whole_below2 GX.out LQ) 0
      have b1 := Whole.cell (whole_below2 GX.out LQ) 1
      have b2 := Whole.cell (whole_below2 GX.out LQ) 2
      simp [rcells] at b0 b1 b2
      have BQ := Lib.hid (BX.out.trans (LQ.mono BX.out.size))
      have BA := Lib.hid (BQ.out.alloc BQ.out.size (.cells (rcells ⟨xa, xd, xm⟩).toArray 34))
      have OA := Lib.hid (OwnRn.below H.out BA.out (Nat.le_refl _))
      have NR := Lib.hid (one_run wq ⟨xa, xd, xm⟩)
      have HZ : base ≤ (wq.alloc (.cells (rcells ⟨xa, xd, xm⟩).toArray 34)).heap.size := Nat.le_trans hb BA.out.size
      have hi1 : n + 1 ≤ maxLen := by unfold maxLen; omega
      have hi2 : (n + 1) * 24 ≤ 140737488355328 := by omega
      clear LQ
      go_wp2_with (at_builtin; refine wpList_append_at _ rfl (.tmp 30) (.tmp 32) 22 rfl base 34 i0 _ 3 24 Try.underlying22 hi0.out hz0.out hz1.out hz2.out rfl (by decide) _ n (lcells all) rfl OA.out _ _ _ 1 1 (lcells [⟨xa, xd, xm⟩]) rfl NR.out (by decide) (lcells_one _) hi1 hi2 HZ ?_
                   intro A6 c6 w6 hown6 hg6 hap6)
      have O6 := Lib.hid hown6
      have G6 := Lib.hid ((grown_of_below BA.out _).trans hg6)
      have P6 := Lib.hid (fun G (hG : G < w.heap.size) hne => hap6 G (Nat.lt_of_lt_of_le hG BA.out.size) hne)
      clear hown6 hg6 hap6
      go_wp2_with fail
      go_ret
      refine ⟨A6, c6, by rw [HJ.out, HJL.out]; rfl, ?_⟩
      rw [HJ.out, HJL.out]
      exact ⟨by unfold OwnRn; rw [lcells_append]; exact O6.out, G6.out, P6.out⟩
    | true =>
      rw [hc] at HC
      have HJ := Lib.hid (J1.out hc)
      have HC2 := CY.out hc
      have hws : IntKind.i64.wrap (ym + xm) = ym + xm := by rw [IntKind.wrap_i64]; omega
      clear hc CY
      go_wp2_with fail
      rw [HWB.out]
      refine wp_region_quiet_grown (by assumption) (by kernel_rfl) ?_
      repeat (go_big_quiet_step (first | (go_at_call 21; exact Calls.grown_of (HC.out _))))
      refine wpQuiet_nil ?_
      intro _ hw2
      obtain ⟨⟨nq, osq⟩, hw3⟩ := hw2
      subst hw3
      clear x0 y0 z0 y1 y2 z1 q1 q2 q3 q4 q5 HC2
      have LQ : Below wb.heap.size wb (grow (wb.drewN nq) osq) := below_grow (Below.refl _ _) (Nat.le_refl _) nq osq
      generalize grow (wb.drewN nq) osq = wq at *
      have b2 := Whole.cell (whole_below2 GX.out LQ) 2
      simp [rcells] at b2
      have BQ := Lib.hid (BX.out.trans (LQ.mono BX.out.size))
      have OQ := Lib.hid (OwnRn.below H.out BQ.out (Nat.le_refl _))
      have k2 := (OQ.out.at_ hpn).c2
      rw [← HY.out] at k2
      simp only at k2
      have fz := OQ.out.frozen (p * 3 + 2)
      have ST := Lib.hid (OQ.out.put2 hpn (ym + xm))
      rw [← HY.out] at ST
      have hnn : ¬ ((p : Int) < 0) := by omega
      clear LQ
      go_wp2_with fail
      go_region
      all_goals
        clear b2 k2 fz
        go_wp2_with fail
        go_ret
        refine ⟨some ⟨g, 0, none⟩, c, by rw [HJ.out, List.length_set, HL.out]; rfl, ?_⟩
        rw [HJ.out, List.length_set, HL.out]
        exact ⟨OwnRn.drew ST.out.1, (grown_of_below BQ.out (some g)).trans (ST.out.2.trans (grown_drew' _ _)), fun G _ h => h⟩
end Go.Proofs.Ytfcihgincfcdkaa.Rns
