/-
  FtlApart, walked under what is asked of Play.
-/
import Derived.Test.YtfohihdpohjmcaaLawC
namespace Go.Proofs.Ytfohihdpohjmcaa.Ftl
open Go.ChangeShapes Go.WideShapes Go.ChangeAt Go.RowKit Words
set_option linter.unusedVariables false

theorem own_append (a b : List Fop) (n : Int) : own (a ++ b) n = own a n ++ own b n := List.filter_append ..
theorem own_le (l : List Fop) (n : Int) : (own l n).length ≤ l.length := List.length_filter_le _ _
theorem own_next {l : List Fop} {k : Nat} {o : Fop} {n : Int} (h : l[k]? = some o) : own (l.take (k + 1)) n = if o.n = n then own (l.take k) n ++ [o] else own (l.take k) n := by
  rw [take_next h, own_append]
  by_cases e : o.n = n
  · rw [if_pos e]; unfold own; simp [e]
  · rw [if_neg e]; unfold own; simp [e]
theorem run_own {n : Int} (l : List Fop) {s t : Sto} (h : s n = t n) : runS t (own l n) n = runS s l n := by
  induction l generalizing s t with
  | nil => exact h.symm
  | cons o r ih =>
    unfold own
    by_cases e : o.n = n
    · subst e
      rw [List.filter_cons_of_pos (by simp)]
      exact ih (fnx_same h)
    · rw [List.filter_cons_of_neg (by simpa using e)]
      exact ih ((fnx_other (fun h2 => e h2.symm)).trans h)
theorem own_at {l : List Fop} {k : Nat} {o : Fop} {n : Int} (h : l[k]? = some o) (e : o.n = n) : (own l n)[(own (l.take k) n).length]? = some o ∧ (own l n).take (own (l.take k) n).length = own (l.take k) n := by
  obtain ⟨hk, rfl⟩ := List.getElem?_eq_some_iff.1 h
  have hl : own l n = own (l.take k) n ++ ([l[k]] ++ own (l.drop (k + 1)) n) := by
    have h1 : l = l.take k ++ ([l[k]] ++ l.drop (k + 1)) := by
      rw [List.singleton_append, List.getElem_cons_drop, List.take_append_drop]
    conv => lhs; rw [h1]
    rw [own_append, own_append]
    congr 1
    congr 1
    unfold own
    simp [e]
  rw [hl]
  constructor
  · rw [List.getElem?_append_right (Nat.le_refl _), Nat.sub_self]; rfl
  · exact List.take_left
/-- The answers are the same. -/
theorem own_ans {l : List Fop} {k : Nat} {o : Fop} {n : Int} (h : l[k]? = some o) (e : o.n = n) : (anss sto0 (own l n))[(own (l.take k) n).length]? = some (fans (runS sto0 (l.take k)) o) := by
  obtain ⟨h1, h2⟩ := own_at h e
  rw [anss_get h1, h2]
  congr 1
  exact fans_same (by rw [e]; exact run_own (l.take k) rfl)
structure OInv (w wr : World) (A : Option Addr) (m c : Nat) (an : List Fop) : Prop where
  bel : Below w.heap.size w wr
  row : wr.ownsRow w.heap.size 37 3 (.slice A m c) m (pcells an)
theorem OInv.alloc {w wr : World} {A : Option Addr} {m c : Nat} {an : List Fop} (h : OInv w wr A m c an) (o : Obj) : OInv w (wr.alloc o) A m c an := ⟨h.bel.alloc h.bel.size o, Go.World.ownsRow.alloc h.row o⟩
theorem OInv.next {w wr x : World} {A A' : Option Addr} {m c c' : Nat} {an : List Fop} {y : Fop} (h : OInv w wr A m c an) (ho : x.ownsRow w.heap.size 37 3 (.slice A' (m + 1) c') (m + 1) (pcells an ++ pcells [y])) (hg : wr.grownBy x (Value.slice A m c).ownBlock) : OInv w x A' (m + 1) c' (an ++ [y]) :=
  ⟨below_grown h.bel h.row hg h.bel.size (Nat.le_refl _), by rw [pcells_append]; exact ho⟩
theorem OInv.as {w wr : World} {A : Option Addr} {m c : Nat} {an an' : List Fop} (h : OInv w wr A m c an) (e : an' = an) : OInv w wr A m c an' := by subst e; exact h
theorem OInv.len {w wr : World} {A : Option Addr} {m c : Nat} {an : List Fop} (h : OInv w wr A m c an) : an.length = m := by have := h.row.1; rw [pcells_length] at this; omega
theorem one_fop (w : World) (o : Fop) : Words.Rd (w.alloc (.cells #[.int .i64 o.kind, .int .i64 o.n, .int .i64 o.data] 37)) (w.heap.size + 1) 3 (some ⟨w.heap.size, 0, none⟩) 1 1 (pcells [o]) :=
  Words.Rd.new w 37 _ (0, 0) _ 1 rfl rfl (by unfold maxLen; omega)
set_option maxRecDepth 100000 in
set_option maxHeartbeats 8000000 in
theorem ftlApart_walk (HPC : PlayC) (B : Nat) (A0 : Option Addr) (n c : Nat) (l : List Fop) (N : Int) (w : World) (w0 : Ops w B A0 n c l) (hB : B ≤ w.heap.size) (wf : ∀ o ∈ l, Wf o) (hcap : n ≤ 5864062014805) :
    Calls Try.prog 7 #[.slice A0 n c, .int .i64 N] w fun e w' => e = .returned (.bool true) ∧ Below w.heap.size w w' := by
  have hlen := Ops.len w0
  have HAL := Lib.hid (alive12 HPC w)
  have HP := Lib.hid (fun x (b : Below w.heap.size w x) => HPC _ _ _ _ l x (Words.Rd.below w0 b hB) (Nat.le_trans hB b.size) wf)
  have HPO := Lib.hid (fun B A m c x h hB => HPC B A m c (own l N) x h hB (fun o ho => wf o (List.mem_filter.1 ho).1))
  have HG := Lib.hid (fun v e x h p => fplayed_ok (w := v) (w' := x) (l := l) (e := e) h p)
  have HN := Lib.hid (fun v e x h p => fplayed_bad (w := v) (w' := x) (l := l) (e := e) h p)
  have HGO := Lib.hid (fun v e x h p => fplayed_ok (w := v) (w' := x) (l := own l N) (e := e) h p)
  simp only [hlen] at HG HN
  have H := Lib.hid w0
  have L := Lib.hid hlen
  obtain ⟨i37, hi37, hz0, hz1, hz2⟩ := info_parts info37
  have hzz : (Value.agg #[.int .i64 0, .int .i64 0, .int .i64 0]).cells.size = 3 := rfl
  clear w0 wf HPC hlen
  go_enter Try.func7, Try.ntmps7
  go_wp2_with fail
  refine (HAL.out).mono ?_; rintro e x0 ⟨rfl, hb0⟩
  have B0 := Lib.hid hb0
  have I0 : Hid (OInv x0 x0 none 0 0 []) := Lib.hid ⟨Below.refl _ _, x0.ownsRow_nil _ _ _⟩
  clear hb0
  go_wp2_with fail
  go_loopw [5, 21] (fun a i wr => ∃ (k m : Nat) (A : Option Addr) (c5 : Nat), a = .slice A m c5 ∧ i = .int .i64 k ∧ k ≤ n ∧ m ≤ k ∧ OInv x0 wr A m c5 (own (l.take k) N)) (fun _ i _ => (n - intOf i).toNat)
  case atStart => exact ⟨0, 0, none, 0, rfl, rfl, by omega, by omega, I0.out⟩
  case round =>
    obtain ⟨k, m, A, c5, rfl, rfl, hk, hmk, hinv⟩ := hrel
    have I := Lib.hid hinv
    have BW := Lib.hid (next_below B0.out hinv.bel B0.out.size)
    clear hinv I0
    by_cases hlt : k < n
    · obtain ⟨gl, ol, rfl, _, _⟩ := Words.Rd.row H.out (by omega)
      obtain ⟨o, ho⟩ : ∃ o, l[k]? = some o := ⟨_, List.getElem?_eq_getElem (by rw [L.out]; exact hlt)⟩
      obtain ⟨c0, c1', c2'⟩ := Ops.cells (Words.Rd.below H.out BW.out hB) rfl ho
      have HO := Lib.hid (own_next (n := N) ho)
      clear ho
      obtain ⟨kd, nn, dd⟩ := o
      have c0 : wr.cell? ⟨gl, ol + k * 3, none⟩ = some (.int .i64 kd) := c0
      have c1' : wr.cell? ⟨gl, ol + k * 3 + 1, none⟩ = some (.int .i64 nn) := c1'
      have c2' : wr.cell? ⟨gl, ol + k * 3 + 2, none⟩ = some (.int .i64 dd) := c2'
      have I1 := Lib.hid (I.out.alloc (.cells #[.int .i64 kd, .int .i64 nn, .int .i64 dd] 37))
      by_cases hnn : nn = N
      · have hb : (nn == N) = true := by rw [beq_iff_eq]; exact hnn
        have HO2 : Hid (own (l.take (k + 1)) N = own (l.take k) N ++ [⟨kd, nn, dd⟩]) := Lib.hid (by rw [HO.out]; exact if_pos hnn)
        have I2 := Lib.hid (I1.out.alloc (.cells #[.int .i64 kd, .int .i64 nn, .int .i64 dd] 37))
        have hsX : x0.heap.size ≤ ((wr.alloc (.cells #[.int .i64 kd, .int .i64 nn, .int .i64 dd] 37)).alloc (.cells #[.int .i64 kd, .int .i64 nn, .int .i64 dd] 37)).heap.size := I2.out.bel.size
        have HR := one_fop (wr.alloc (.cells #[.int .i64 kd, .int .i64 nn, .int .i64 dd] 37)) ⟨kd, nn, dd⟩
        rw [World.size_alloc] at HR
        have HR := Lib.hid HR
        clear hnn
        go_wp2_with (first
          | (at_builtin; refine wpList_append_rd _ rfl (.tmp 29) (.tmp 31) 22 rfl x0.heap.size 37 i37 _ 3 24 Try.underlying22 hi37 hz0 hz1 hz2 hzz (by decide) _ m (pcells (own (l.take k) N)) rfl I2.out.row _ _ 1 1 (pcells [⟨kd, nn, dd⟩]) rfl HR.out (pcells_one _) (by simp only [maxLen]; omega) (by omega) hsX ?_
             intro A9 c9 x9 hown9 hg9
             have I3 := Lib.hid ((I2.out.next hown9 hg9).as HO2.out)
             clear hown9 hg9))
        go_roundw
        case rel => exact ⟨k + 1, m + 1, A9, c9, rfl, by go_num, by omega, by omega, I3.out⟩
        case measure => simp [intOf]; omega
      · have hb : (nn == N) = false := by rw [beq_eq_false_iff_ne]; exact hnn
        have HO2 : Hid (own (l.take (k + 1)) N = own (l.take k) N) := Lib.hid (by rw [HO.out]; exact if_neg hnn)
        clear hnn
        go_wp2_with fail
        go_roundw
        case rel => exact ⟨k + 1, m, A, c5, rfl, by go_num, by omega, by omega, I1.out.as HO2.out⟩
        case measure => simp [intOf]; omega
    · obtain rfl : k = n := by omega
      have hrow := I.out.row
      have hol := I.out.len
      rw [List.take_of_length_le (by rw [L.out]; exact Nat.le_refl _)] at hrow hol
      have R5 := Lib.hid (show Ops wr wr.heap.size A m c5 (own l N) from Words.Rd.of_own hrow)
      have OL := Lib.hid hol
      clear hrow hol
      go_wp2_with fail
      refine (HP.out _ BW.out).mono ?_; rintro e x1 hx
      by_cases hn : k ≤ 400
      · obtain ⟨A1, c1, A2, wl, c2, rfl, hi1, hi2, _, hb1⟩ := HG.out _ _ _ hn hx
        have X1 := Lib.hid hi1
        have B1 := Lib.hid (next_below BW.out hb1 BW.out.size)
        have R6 := Lib.hid (show Ops x1 x1.heap.size A m c5 (own l N) from Words.Rd.more (Words.Rd.below R5.out hb1 (Nat.le_refl _)) hb1.size)
        clear hx hi1 hi2 hb1
        go_wp2_with fail
        refine (HPO.out _ _ _ _ x1 R6.out (Nat.le_refl _)).mono ?_; rintro e x2 hx
        obtain ⟨A3, c3, A4, wl2, c4, rfl, hi3, hi4, _, hb2⟩ := HGO.out _ _ _ (by rw [OL.out]; omega) hx
        rw [OL.out] at hi3 ⊢
        have X2 := Lib.hid (fans_next X1.out hb2)
        have X3 := Lib.hid hi3
        have B2 := Lib.hid (next_below B1.out hb2 B1.out.size)
        clear hx hi3 hi4 hb2
        go_wp2_with fail
        go_loopw [14, 70] (fun a i wy => ∃ (j q : Nat), a = .int .i64 q ∧ i = .int .i64 j ∧ j ≤ k ∧ q = (own (l.take j) N).length ∧ Below x2.heap.size x2 wy) (fun _ i _ => (k - intOf i).toNat)
        case atStart => exact ⟨0, 0, rfl, rfl, by omega, rfl, Below.refl _ _⟩
        case round =>
          obtain ⟨j, q, rfl, rfl, hj, hq, hb⟩ := hrel
          have HQ := Lib.hid hq
          have HB := Lib.hid hb
          have BF := Lib.hid (next_below B2.out hb B2.out.size)
          clear hq hb
          by_cases hlt2 : j < k
          · obtain ⟨gl, ol, rfl, _, _⟩ := Words.Rd.row H.out (by omega)
            obtain ⟨o, ho⟩ : ∃ o, l[j]? = some o := ⟨_, List.getElem?_eq_getElem (by rw [L.out]; exact hlt2)⟩
            obtain ⟨c0, c1', c2'⟩ := Ops.cells (Words.Rd.below H.out BF.out hB) rfl ho
            have HO := Lib.hid (own_next (n := N) ho)
            have HH := Lib.hid ho
            have hql : q ≤ j := by rw [HQ.out]; exact Nat.le_trans (own_le _ _) (by rw [List.length_take]; omega)
            clear ho
            obtain ⟨kd, nn, dd⟩ := o
            have c0 : wr.cell? ⟨gl, ol + j * 3, none⟩ = some (.int .i64 kd) := c0
            have c1' : wr.cell? ⟨gl, ol + j * 3 + 1, none⟩ = some (.int .i64 nn) := c1'
            have c2' : wr.cell? ⟨gl, ol + j * 3 + 2, none⟩ = some (.int .i64 dd) := c2'
            have B3 := Lib.hid (HB.out.alloc HB.out.size (.cells #[.int .i64 kd, .int .i64 nn, .int .i64 dd] 37))
            by_cases hnn : nn = N
            · have hb : (nn == N) = true := by rw [beq_iff_eq]; exact hnn
              have HO2 : Hid ((own (l.take (j + 1)) N).length = q + 1) := Lib.hid (by rw [HO.out, if_pos hnn, List.length_append, HQ.out]; rfl)
              have ha := anss_get (s := sto0) HH.out
              have hbq := own_ans (n := N) HH.out hnn
              rw [← HQ.out] at hbq
              have hqm : q < m := by
                have h1 := (List.getElem?_eq_some_iff.1 hbq).1
                rw [anss_length, OL.out] at h1
                exact h1
              obtain ⟨g1, o1, rfl, _, _⟩ := Words.Rd.row X2.out (by omega)
              obtain ⟨g3, o3, rfl, _, _⟩ := Words.Rd.row X3.out (by omega)
              obtain ⟨d0, d1⟩ := Fans.cells (fans_next X2.out B3.out) rfl ha
              obtain ⟨f0, f1⟩ := Fans.cells (fans_next X3.out B3.out) rfl hbq
              generalize fans (runS sto0 (l.take j)) ⟨kd, nn, dd⟩ = fa at *
              obtain ⟨fe, fd⟩ := fa
              have ht := fun w => neq_same (x := ⟨fe, fd⟩) (y := ⟨fe, fd⟩) rfl w
              have d0 : (wr.alloc (.cells #[.int .i64 kd, .int .i64 nn, .int .i64 dd] 37)).cell? ⟨g1, o1 + j * 2, none⟩ = some (.int .i64 fe) := d0
              have d1 : (wr.alloc (.cells #[.int .i64 kd, .int .i64 nn, .int .i64 dd] 37)).cell? ⟨g1, o1 + j * 2 + 1, none⟩ = some (.int .i64 fd) := d1
              have f0 : (wr.alloc (.cells #[.int .i64 kd, .int .i64 nn, .int .i64 dd] 37)).cell? ⟨g3, o3 + q * 2, none⟩ = some (.int .i64 fe) := f0
              have f1 : (wr.alloc (.cells #[.int .i64 kd, .int .i64 nn, .int .i64 dd] 37)).cell? ⟨g3, o3 + q * 2 + 1, none⟩ = some (.int .i64 fd) := f1
              clear hnn ha hbq
              go_wp2_with fail
              go_quiet (fail)
              go_wp2_with fail
              go_roundw
              case rel => exact ⟨j + 1, q + 1, by go_num, by go_num, by omega, HO2.out.symm, below_drewN B3.out _⟩
              case measure => simp [intOf]; omega
            · have hb : (nn == N) = false := by rw [beq_eq_false_iff_ne]; exact hnn
              have HO2 : Hid ((own (l.take (j + 1)) N).length = q) := Lib.hid (by rw [HO.out, if_neg hnn, HQ.out])
              clear hnn
              go_wp2_with fail
              go_roundw
              case rel => exact ⟨j + 1, q, rfl, by go_num, by omega, HO2.out.symm, B3.out⟩
              case measure => simp [intOf]; omega
          · go_wp2_with fail
            go_ret
            exact ⟨rfl, BF.out⟩
      · obtain ⟨A1, c1, A2, c2, rfl, hi1, hb1⟩ := HN.out _ _ _ hn hx
        have B1 := Lib.hid (next_below BW.out hb1 BW.out.size)
        have R6 := Lib.hid (show Ops x1 x1.heap.size A m c5 (own l N) from Words.Rd.more (Words.Rd.below R5.out hb1 (Nat.le_refl _)) hb1.size)
        clear hx hi1 hb1
        go_wp2_with fail
        refine (HPO.out _ _ _ _ x1 R6.out (Nat.le_refl _)).mono ?_; rintro e x2 ⟨A3, c3, A4, wl2, c4, rfl, _, _, _, hb2⟩
        have B2 := Lib.hid (next_below B1.out hb2 B1.out.size)
        clear hb2
        go_wp2_with fail
        go_ret
        exact ⟨rfl, B2.out⟩
end Go.Proofs.Ytfohihdpohjmcaa.Ftl
