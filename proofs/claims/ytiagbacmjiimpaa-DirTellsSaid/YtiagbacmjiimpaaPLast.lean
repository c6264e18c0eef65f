/-
  What the program's own Add, Remove and Rename return; all that the laws ask of the program.
-/
import Derived.Test.YtiagbacmjiimpaaPProg
namespace Go.Proofs.Ytiagbacmjiimpaa.Dir
open Go.ChangeShapes Go.WideShapes Go.ChangeAt Go.RowKit Words Go.Sort
set_option linter.unusedVariables false

theorem own_nil (w : World) (base : Nat) : OwnEn w base none 0 0 [] := w.ownsRow_nil _ _ _
set_option maxHeartbeats 2000000 in
theorem remove11 (B : Nat) (A : Option Addr) (n c : Nat) (l : List En) (nm : List UInt8) (w : World) (h : Ens w B A n c l) (hwf : WfE l) (hn : n * 24 ≤ 140737488355000) (hB : B ≤ w.heap.size) :
    Calls Try.prog 11 #[.slice A n c, .string (str nm)] w (Lst w (rl l nm) (re l nm)) := by
  have L := Lib.hid h.len
  have HI := Lib.hid (index22 B A n c l nm w h hwf hB)
  have HX := Lib.hid (fun x (b : Below w.heap.size w x) k (hk : k < n) => without25 B A n c k l x (Words.Rd.below h b hB) (Nat.le_trans hB b.size) hk hn)
  have HV : Hid (rl l nm = if fe l nm = 0 then del l nm else []) := Lib.hid rfl
  rw [show re l nm = fe l nm from rfl]
  generalize rl l nm = v at *
  generalize fe l nm = er at *
  clear h hwf hn
  unfold Lst
  go_enter Try.func11, Try.ntmps11
  go_wp2_with fail
  refine (HI.out).mono ?_; rintro e w1 ⟨k, rfl, hp, b1⟩
  have B1 := Lib.hid b1
  have HP := Lib.hid hp
  clear b1 hp
  by_cases h0 : er = 0
  · subst h0
    obtain ⟨hpl, hh, hs⟩ := HP.out rfl
    have hk := (hpl.fnd hs hh).2
    have HD := Lib.hid (hpl.del hs hh)
    have HO := Lib.hid (HX.out w1 B1.out k (by rw [← L.out]; exact hk))
    rw [if_pos rfl] at HV
    clear hpl hh hs hk
    go_wp2_with fail
    refine (HO.out).mono ?_; rintro e w2 ⟨A2, N, C, rfl, hN, ho, b2⟩
    have B2 := Lib.hid (B1.out.trans (b2.mono B1.out.size))
    have O2 := Lib.hid (ho.more (B1.out.size))
    have HN := Lib.hid hN
    clear ho b2 hN
    go_wp2_with fail
    go_ret2
    rw [HV.out, HD.out]
    exact ⟨A2, N, C, rfl, HN.out, O2.out, B2.out⟩
  · have hne : (er != 0) = true := by rw [bne_iff_ne]; exact h0
    rw [if_neg h0] at HV
    clear h0
    go_wp2_with fail
    go_ret2
    rw [HV.out]
    exact ⟨none, 0, 0, rfl, rfl, own_nil _ _, B1.out⟩
set_option maxHeartbeats 2000000 in
theorem add10 (B : Nat) (A : Option Addr) (n c : Nat) (l : List En) (x : En) (w : World) (h : Ens w B A n c l) (hwf : WfE l) (hx : x.n.length ≤ maxLen) (hn : n * 24 ≤ 140737488355000) (hB : B ≤ w.heap.size) :
    Calls Try.prog 10 #[.slice A n c, eval_ x] w (Lst w (al l x) (ae l x)) := by
  obtain ⟨i0, hi0, hz0, hz1, hz2⟩ := info_parts info24
  have hnm := h.small
  have hnc := Words.Rd.le h
  have hl := h.len
  have L := Lib.hid hl
  obtain ⟨wb, hwb⟩ : ∃ wb, w.alloc (.cells #[.string (str x.n), .int .i64 x.i] 24) = wb := ⟨_, rfl⟩
  have bx : Below w.heap.size w wb := by rw [← hwb]; exact boxed w _
  have hg : Whole wb w.heap.size 24 #[.string (str x.n), .int .i64 x.i] := by rw [← hwb]; exact Whole.new w 24 _
  have HG : Hid (∀ y, Below wb.heap.size wb y → y.cell? ⟨w.heap.size, 0, none⟩ = some (.string (str x.n)) ∧ y.cell? ⟨w.heap.size, 1, none⟩ = some (.int .i64 x.i) ∧ Below w.heap.size w y) := Lib.hid (fun y b => by
    have h2 := whole_below2 hg b
    exact ⟨(h2.cell 0).trans rfl, (h2.cell 1).trans rfl, bx.trans (b.mono bx.size)⟩)
  have hw2 : Ens wb B A n c l := Words.Rd.below h bx hB
  have hB2 : B ≤ wb.heap.size := Nat.le_trans hB bx.size
  have HR := Lib.hid (right14 B A n c l wb hw2 hwf hB2)
  have HO := Lib.hid (fun y => good12 x.n y hx)
  have HX := Lib.hid (fun y (b : Below wb.heap.size wb y) (hs : SS l) => place23 B A n c l x.n y (Words.Rd.below hw2 b hB2) (Nat.le_trans hB2 b.size) hs)
  have HE := Lib.hid (fun y (b : Below wb.heap.size wb y) => Words.Rd.below hw2 b hB2)
  have BX := Lib.hid bx
  have HV : Hid (al l x = if ae l x = 0 then insE x l else []) := Lib.hid rfl
  have HA : Hid (ae l x = if rt l = false then 1 else if good x.n = false then 2 else if has l x.n = true then 6 else 0) := Lib.hid rfl
  have q := HG.out wb (Below.refl _ _)
  obtain ⟨q0, q1, _⟩ := q
  obtain ⟨xn, xi⟩ := x
  unfold eval_ Lst
  simp only at HG HO HX HV HA q0 q1 hwb
  clear h hg hw2 bx hx hl
  cases hr : rt l with
  | false =>
    rw [hr] at HR
    rw [if_pos hr] at HA
    clear hr
    go_enter Try.func10, Try.ntmps10
    go_wp2_with fail
    refine (HR.out).mono ?_; rintro e w1 ⟨rfl, b1⟩
    have B1 := Lib.hid (BX.out.trans (b1.mono BX.out.size))
    clear b1
    go_wp2_with fail
    go_ret2
    rw [HV.out, HA.out]
    exact ⟨none, 0, 0, rfl, rfl, own_nil _ _, B1.out⟩
  | true =>
    have HS := Lib.hid (rt_iff.1 hr).2
    rw [hr] at HR
    rw [if_neg (by rw [hr]; decide)] at HA
    clear hr
    cases hgd : good xn with
    | false =>
      rw [hgd] at HO
      rw [if_pos hgd] at HA
      clear hgd
      go_enter Try.func10, Try.ntmps10
      go_wp2_with fail
      refine (HR.out).mono ?_; rintro e w1 ⟨rfl, b1⟩
      obtain ⟨q2, q3, b2⟩ := HG.out w1 b1
      have B1 := Lib.hid b2
      clear b1 b2
      go_wp2_with fail
      refine (HO.out _).mono ?_; rintro e w2 ⟨rfl, rfl⟩
      go_wp2_with fail
      go_ret2
      rw [HV.out, HA.out]
      exact ⟨none, 0, 0, rfl, rfl, own_nil _ _, B1.out⟩
    | true =>
      rw [hgd] at HO
      rw [if_neg (by rw [hgd]; decide)] at HA
      clear hgd
      go_enter Try.func10, Try.ntmps10
      go_wp2_with fail
      refine (HR.out).mono ?_; rintro e w1 ⟨rfl, b1⟩
      obtain ⟨q2, q3, b2⟩ := HG.out w1 b1
      have HP := Lib.hid (HX.out w1 b1 HS.out)
      have B1 := Lib.hid b1
      clear b1 b2
      go_wp2_with fail
      refine (HO.out _).mono ?_; rintro e w2 ⟨rfl, rfl⟩
      go_wp2_with fail
      refine (HP.out).mono ?_; rintro e w3 ⟨k, rfl, hp, b3⟩
      have B3 := Lib.hid (B1.out.trans (b3.mono B1.out.size))
      have HH := Lib.hid (hp.has HS.out)
      obtain ⟨q4, q5, b4⟩ := HG.out w3 B3.out
      have B4 := Lib.hid b4
      have hkn : k ≤ n := by rw [← L.out]; exact hp.le
      cases hh : hd l xn k with
      | true =>
        have HE2 : Hid (ae l ⟨xn, xi⟩ = 6) := Lib.hid (by rw [HA.out, ← HH.out, hh]; rfl)
        clear hh hp b3 b4 HA
        go_wp2_with fail
        go_ret2
        rw [HV.out, HE2.out]
        exact ⟨none, 0, 0, rfl, rfl, own_nil _ _, B4.out⟩
      | false =>
        have HE2 : Hid (ae l ⟨xn, xi⟩ = 0) := Lib.hid (by rw [HA.out, ← HH.out, hh]; rfl)
        have HI := Lib.hid (hp.ins (e := ⟨xn, xi⟩) HS.out hh)
        have hs1 := fun w => run_head (P := Try.prog) w 22 24 i0 Try.underlying22 hi0 A n c k k rfl (by omega)
        have hs2 := fun w => run_tailN (P := Try.prog) w 22 24 i0 2 Try.underlying22 hi0 hz1 A n c k k rfl (by omega)
        have H0 := HE.out w3 B3.out
        have H1 := Lib.hid (Ens.top H0 (k := k) (by omega))
        have H2 := Lib.hid (Ens.rest H0 (k := k) (by omega))
        generalize (if c = k then A else A.map (·.add (k * 2))) = A2 at *
        have hlen : (l.take k ++ [(⟨xn, xi⟩ : En)] ++ l.drop k).length = n + 1 := by rw [List.length_append, List.length_append, List.length_take, List.length_drop, L.out, List.length_singleton]; omega
        have HL := Lib.hid hlen
        have HC := Lib.hid (concat_three B A A2 k c (n - k) (c - k) (n + 1) (l.take k) (l.drop k) ⟨xn, xi⟩ w3 H1.out H2.out (Nat.le_trans hB B4.out.size) hlen (by omega))
        simp only at HC
        have q6 : ∀ o, (w3.alloc o).cell? ⟨w.heap.size, 0, none⟩ = some (.string (str xn)) := fun o => (World.cell?_alloc_lt w3 o _ (World.block_lt_of_cell? w3 _ q4)).trans q4
        have q7 : ∀ o, (w3.alloc o).cell? ⟨w.heap.size, 1, none⟩ = some (.int .i64 xi) := fun o => (World.cell?_alloc_lt w3 o _ (World.block_lt_of_cell? w3 _ q5)).trans q5
        generalize n - k = n2 at *
        generalize c - k = c2 at *
        clear hh hp b3 b4 HA H0 hlen
        go_wp2_with fail
        go_region_with (go_at_call 24; refine (HC.out).mono ?_; rintro e w' ⟨A3, c3, rfl, ho, hb⟩)
        all_goals
          have O3 := Lib.hid (ho.more B4.out.size)
          have B5 := Lib.hid (B4.out.trans (hb.mono B4.out.size))
          clear ho hb
          go_wp2_with fail
          go_ret2
          rw [HV.out, HE2.out, if_pos rfl, HI.out]
          exact ⟨A3, _, c3, rfl, HL.out, O3.out, B5.out⟩
theorem ren_ae {l : List En} {f t : List UInt8} (i : Int) (h : fe l f = 0) : ae (del l f) ⟨t, i⟩ = ne l f t := by
  obtain ⟨h1, h2⟩ := fe_ok.1 h
  have hs := (rt_iff.1 h1).2
  unfold ae ne
  rw [rt_del h1, h1, h2]
  simp only [Bool.true_eq_false, if_false]
  rw [has_del hs]
  by_cases hft : f = t
  · subst hft
    rw [if_pos rfl]
    obtain ⟨e, he, rfl⟩ := has_iff.1 h2
    rw [(rt_iff.1 h1).1 e he]
    simp
  · rw [if_neg hft]
    have : decide (t = f) = false := by rw [decide_eq_false_iff_not]; exact fun h => hft h.symm
    rw [this]
    simp
theorem ren_al {l : List En} {f t : List UInt8} (h : fe l f = 0) : al (del l f) ⟨t, fnd l f⟩ = nl l f t := by
  have h0 := ren_ae (t := t) (fnd l f) h
  unfold al nl
  rw [h0]
  by_cases h3 : ne l f t = 0
  · rw [if_pos h3, if_pos h3]
    by_cases hft : f = t
    · subst hft
      rw [if_pos rfl]
      obtain ⟨h1, h2⟩ := fe_ok.1 h
      obtain ⟨hg, hs⟩ := rt_iff.1 h1
      obtain ⟨e, he, rfl⟩ := has_iff.1 h2
      have hf := fnd_of hs he
      rw [hf]
      refine (SS.ins (hs.del e.n) fun x hx => ((mem_del hs).1 hx).2).eq_of hs fun x => ?_
      rw [mem_insE, mem_del hs]
      constructor
      · rintro (rfl | hx)
        · exact he
        · exact hx.1
      · intro hx
        by_cases hn : x.n = e.n
        · exact .inl (hs.one hx he hn)
        · exact .inr ⟨hx, hn⟩
    · rw [if_neg hft]
  · rw [if_neg h3, if_neg h3]
set_option maxHeartbeats 2000000 in
theorem rename20 (B : Nat) (A : Option Addr) (n c : Nat) (l : List En) (f t : List UInt8) (w : World) (h : Ens w B A n c l) (hwf : WfE l) (ht : t.length ≤ maxLen) (hn : n * 24 ≤ 140737488355000) (hB : B ≤ w.heap.size) :
    Calls Try.prog 20 #[.slice A n c, .string (str f), .string (str t)] w (Lst w (nl l f t) (ne l f t)) := by
  have hnm := h.small
  have L := Lib.hid h.len
  have HI := Lib.hid (index22 B A n c l f w h hwf hB)
  have HR := Lib.hid (fun x (b : Below w.heap.size w x) => Words.Rd.below h b hB)
  have HX := Lib.hid (fun x (b : Below w.heap.size w x) k (hk : k < n) => without25 B A n c k l x (Words.Rd.below h b hB) (Nat.le_trans hB b.size) hk hn)
  have HV : Hid (fe l f ≠ 0 → nl l f t = [] ∧ ne l f t = fe l f) := Lib.hid (fun h0 => by
    have h2 : ne l f t = fe l f := by
      unfold ne fe
      unfold fe at h0
      cases h1 : rt l with
      | false => rfl
      | true =>
        rw [h1] at h0
        simp only [Bool.true_eq_false, if_false] at h0 ⊢
        cases h2 : has l f with
        | false => simp
        | true => rw [h2] at h0; exact absurd rfl h0
    exact ⟨nl_no (by rw [h2]; exact h0), h2⟩)
  have HA := Lib.hid (fun h0 : fe l f = 0 => And.intro (ren_ae (t := t) (fnd l f) h0) (ren_al (t := t) h0))
  have HW := Lib.hid (wf_del hwf f)
  have HF : Hid (∀ x N A C (y : World), Below w.heap.size w y → Ens y y.heap.size A N C x → x = del l f → N ≤ n → Calls Try.prog 10 #[.slice A N C, eval_ ⟨t, fnd l f⟩] y (Lst y (al x ⟨t, fnd l f⟩) (ae x ⟨t, fnd l f⟩))) := Lib.hid (fun x N A C y b he hx hNn =>
    add10 y.heap.size A N C x ⟨t, fnd l f⟩ y he (by rw [hx]; exact wf_del hwf f) ht (by omega) (Nat.le_refl _))
  generalize hfd : fnd l f = fid at *
  generalize hfe : fe l f = er at *
  have HFD := Lib.hid hfd
  clear h hwf hn hfd hfe
  go_enter Try.func20, Try.ntmps20
  go_wp2_with fail
  refine (HI.out).mono ?_; rintro e w1 ⟨k, rfl, hp, b1⟩
  have B1 := Lib.hid b1
  have HP := Lib.hid hp
  clear b1 hp
  by_cases h0 : er = 0
  · subst h0
    obtain ⟨hpl, hh, hs⟩ := HP.out rfl
    obtain ⟨h1, hk⟩ := hpl.fnd hs hh
    have HD := Lib.hid (hpl.del hs hh)
    have hkn : k < n := by rw [← L.out]; exact hk
    obtain ⟨hae, hal⟩ := HA.out rfl
    have HAE := Lib.hid hae
    have HAL := Lib.hid hal
    have hr := HR.out w1.drew B1.out.drew
    obtain ⟨g, o, rfl, _, _⟩ := Words.Rd.row hr (by omega)
    obtain ⟨c0, c1⟩ := Ens.cells hr rfl (eth_get hk)
    rw [h1, HFD.out] at c1
    have HO := Lib.hid (HX.out w1.drew B1.out.drew k hkn)
    have HF2 := Lib.hid (fun (A2 : Option Addr) (N C : Nat) (y : World) (b : Below w.heap.size w y) (he : Ens y y.heap.size A2 N C (l.take k ++ l.drop (k + 1))) (hN : N ≤ n) => HF.out _ N A2 C y b he HD.out.symm hN)
    rw [HD.out] at hae hal
    have HAE := Lib.hid hae
    have HAL := Lib.hid hal
    have HLEN : Hid ((l.take k ++ l.drop (k + 1)).length ≤ n) := Lib.hid (by rw [List.length_append, List.length_take, List.length_drop, L.out]; omega)
    have GL : Hid (g < w1.heap.size) := Lib.hid (World.block_lt_of_cell? w1.drew _ c1)
    unfold eval_ at HF2
    simp only at HF2
    clear hpl hh hs h1 hk hr c0 hae hal HF HA HV HI
    go_wp2_with fail
    go_region_with (first | (go_at_call 25; refine (HO.out).mono ?_; rintro e w2 ⟨A2, N, C, rfl, hN, ho, b2⟩
                             have B2 := Lib.hid (B1.out.drew.trans (b2.mono B1.out.size))
                             have c2 := (b2.cell (p := ⟨g, o + k * 2 + 1, none⟩) GL.out).trans c1
                             have HC := Lib.hid (HF2.out A2 N C w2 B2.out ho.gps (by rw [← hN]; exact HLEN.out))
                             clear hN ho b2) |
                            (go_at_call 10; refine (HC.out).mono ?_; rintro e w3 ⟨A3, N3, C3, rfl, hN3, ho3, b3⟩))
    all_goals
      have O3 := Lib.hid (ho3.more B2.out.size)
      have B3 := Lib.hid (B2.out.trans (b3.mono B2.out.size))
      have HN3 := Lib.hid hN3
      clear ho3 b3 hN3
      go_wp2_with fail
      go_ret2
      rw [← HAE.out, ← HAL.out]
      exact ⟨A3, N3, C3, rfl, HN3.out, O3.out, B3.out⟩
  · have hne : (er != 0) = true := by rw [bne_iff_ne]; exact h0
    obtain ⟨v1, v2⟩ := HV.out h0
    have V1 := Lib.hid v1
    have V2 := Lib.hid v2
    clear h0 v1 v2
    go_wp2_with fail
    go_ret2
    rw [V1.out, V2.out]
    exact ⟨none, 0, 0, rfl, rfl, own_nil _ _, B1.out⟩
/-- What the laws ask of the program, proved. -/
theorem con : Con where
  good := fun nm w h => (good12 nm w h).mono fun e w' hh => ⟨hh.1, by rw [hh.2]; exact Below.refl _ _⟩
  right := fun B A n c l w h hwf hB => right14 B A n c l w h hwf hB
  find := fun B A n c l nm w h hwf _ hB => find9 B A n c l nm w h hwf hB
  add := fun B A n c l x w h hwf hx hn hB => add10 B A n c l x w h hwf hx hn hB
  rem := fun B A n c l nm w h hwf _ hn hB => remove11 B A n c l nm w h hwf hn hB
  ren := fun B A n c l f t w h hwf _ ht hn hB => rename20 B A n c l f t w h hwf ht hn hB
end Go.Proofs.Ytiagbacmjiimpaa.Dir
