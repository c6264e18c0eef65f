/-
  What the program's own Find, Add, Remove and Rename return: all that the laws ask of them.
-/
import Derived.Test.YtiagbacmjiimpaaPConcat
import Derived.Test.YtiagbacmjiimpaaEFacts2
namespace Go.Proofs.Ytiagbacmjiimpaa.Dir
open Go.ChangeShapes Go.WideShapes Go.ChangeAt Go.RowKit Words Go.Sort
set_option linter.unusedVariables false

theorem Rd.fits {w : World} {B sz n c : Nat} {A : Option Addr} {xs : List Value} (h : Words.Rd w B sz A n c xs) : n ≤ maxLen := Nat.le_trans (Words.Rd.le h) (Words.Rd.max h)
set_option maxHeartbeats 2000000 in
theorem place23 (B : Nat) (A : Option Addr) (n c : Nat) (l : List En) (nm : List UInt8) (w : World) (h : Ens w B A n c l) (hB : B ≤ w.heap.size) (hs : SS l) :
    Calls Try.prog 23 #[.slice A n c, .string (str nm)] w fun e w' => ∃ k : Nat, e = .returned (.tuple #[.int .i64 k, .bool (hd l nm k)]) ∧ Pl l nm k ∧ Below w.heap.size w w' := by
  have hN := h.small
  have L := Lib.hid h.len
  obtain ⟨wb, hwb⟩ : ∃ wb, (w.alloc (.cells #[.slice A n c] 22)).alloc (.cells #[.string (str nm)] 9) = wb := ⟨_, rfl⟩
  have bx : Below w.heap.size w wb := by rw [← hwb]; exact (boxed w _).alloc (boxed w _).size _
  have g1 : wb.cell? ⟨w.heap.size, 0, none⟩ = some (.slice A n c) := by
    have h0 := (Whole.new w 22 #[.slice A n c]).cell 0
    rw [← hwb]
    exact (World.cell?_alloc_lt _ _ _ (by simp)).trans (by rw [h0]; rfl)
  have g2 : wb.cell? ⟨w.heap.size + 1, 0, none⟩ = some (.string (str nm)) := by
    have h0 := (Whole.new (w.alloc (.cells #[.slice A n c] 22)) 9 #[.string (str nm)]).cell 0
    rw [World.size_alloc] at h0
    rw [← hwb, h0]; rfl
  have HS := Lib.hid (search29 w.heap.size (w.heap.size + 1) B A n c l nm wb (Words.Rd.below h bx hB) (Nat.le_trans hB bx.size) hs g1 g2)
  have HB : Hid (∀ x, Below wb.heap.size wb x → x.cell? ⟨w.heap.size, 0, none⟩ = some (.slice A n c) ∧ x.cell? ⟨w.heap.size + 1, 0, none⟩ = some (.string (str nm)) ∧ Ens x B A n c l ∧ Below w.heap.size w x) := Lib.hid (fun x b =>
    ⟨(b.cell (p := ⟨w.heap.size, 0, none⟩) (World.block_lt_of_cell? wb _ g1)).trans g1, (b.cell (p := ⟨w.heap.size + 1, 0, none⟩) (World.block_lt_of_cell? wb _ g2)).trans g2, Words.Rd.below h (bx.trans (b.mono bx.size)) hB, bx.trans (b.mono bx.size)⟩)
  have LE := bl_leq
  clear h hs bx g1 g2 LE
  go_enter Try.func23, Try.ntmps23
  have g1 := (HB.out wb (Below.refl _ _)).1
  go_wp2_with fail
  refine (HS.out).mono ?_; rintro e w1 ⟨k, rfl, hp, hb⟩
  obtain ⟨q1, q2, hr, hbel⟩ := HB.out w1 hb
  have P1 := Lib.hid hp
  have HBL := Lib.hid hbel
  have hkn : k ≤ n := by rw [← L.out]; exact hp.le
  clear hp hb hbel g1
  by_cases hlt : k < n
  · obtain ⟨g, o, rfl, _, _⟩ := Words.Rd.row hr (by omega)
    obtain ⟨c0, c1⟩ := Ens.cells hr rfl (eth_get (by rw [L.out]; exact hlt))
    have HH : Hid (hd l nm k = ((eth l k).n == nm)) := Lib.hid (by unfold hd; rw [decide_eq_true (by rw [L.out]; exact hlt)]; rfl)
    obtain ⟨⟨xn, xi⟩, hx⟩ : ∃ x, x = eth l k := ⟨_, rfl⟩
    rw [← hx] at c0 c1 HH
    simp only at c0 c1 HH
    have s1 := str_list xn
    have s2 := str_list nm
    clear hx hr
    go_wp2_with fail
    go_quiet (fail)
    go_wp2_with fail
    go_ret2
    exact ⟨k, by rw [HH.out]; rfl, P1.out, below_drewN HBL.out _⟩
  · have HH : Hid (hd l nm k = false) := Lib.hid (by unfold hd; rw [decide_eq_false (by rw [L.out]; exact hlt)]; rfl)
    clear hr
    go_wp2_with fail
    go_quiet (fail)
    go_wp2_with fail
    go_ret2
    exact ⟨k, by rw [HH.out]; rfl, P1.out, below_drewN HBL.out _⟩
theorem index22 (B : Nat) (A : Option Addr) (n c : Nat) (l : List En) (nm : List UInt8) (w : World) (h : Ens w B A n c l) (hwf : WfE l) (hB : B ≤ w.heap.size) :
    Calls Try.prog 22 #[.slice A n c, .string (str nm)] w fun e w' => ∃ k : Nat, e = .returned (.tuple #[.int .i64 k, .int .i64 (fe l nm)]) ∧ (fe l nm = 0 → Pl l nm k ∧ hd l nm k = true ∧ SS l) ∧ Below w.heap.size w w' := by
  have HR := Lib.hid (right14 B A n c l w h hwf hB)
  have HX := Lib.hid (fun x (b : Below w.heap.size w x) (hs : SS l) => place23 B A n c l nm x (Words.Rd.below h b hB) (Nat.le_trans hB b.size) hs)
  clear h hwf
  cases hr : rt l with
  | false =>
    have HF : Hid (fe l nm = 1) := Lib.hid (by unfold fe; rw [if_pos hr])
    rw [hr] at HR
    clear hr
    go_enter Try.func22, Try.ntmps22
    go_wp2_with fail
    refine (HR.out).mono ?_; rintro e w1 ⟨rfl, b1⟩
    have B1 := Lib.hid b1
    clear b1
    go_wp2_with fail
    go_ret2
    rw [HF.out]
    exact ⟨0, rfl, fun h => absurd h (by decide), B1.out⟩
  | true =>
    have HS := Lib.hid (rt_iff.1 hr).2
    have HF : Hid (fe l nm = if has l nm = true then 0 else 3) := Lib.hid (by unfold fe; rw [if_neg (by rw [hr]; decide)])
    rw [hr] at HR
    clear hr
    go_enter Try.func22, Try.ntmps22
    go_wp2_with fail
    refine (HR.out).mono ?_; rintro e w1 ⟨rfl, b1⟩
    have B1 := Lib.hid b1
    have HP := Lib.hid (HX.out w1 b1 HS.out)
    clear b1
    go_wp2_with fail
    refine (HP.out).mono ?_; rintro e w2 ⟨k, rfl, hp, b2⟩
    have B2 := Lib.hid (B1.out.trans (b2.mono B1.out.size))
    have P2 := Lib.hid hp
    have HF2 := Lib.hid (hp.has HS.out)
    clear b2 hp
    cases hh : hd l nm k with
    | true =>
      have HE : Hid (fe l nm = 0) := Lib.hid (by rw [HF.out, ← HF2.out, hh]; rfl)
      have HH := Lib.hid hh
      clear hh
      go_wp2_with fail
      go_ret2
      rw [HE.out]
      exact ⟨k, rfl, fun _ => ⟨P2.out, HH.out, HS.out⟩, B2.out⟩
    | false =>
      have HE : Hid (fe l nm = 3) := Lib.hid (by rw [HF.out, ← HF2.out, hh]; rfl)
      clear hh
      go_wp2_with fail
      go_ret2
      rw [HE.out]
      exact ⟨0, rfl, fun h => absurd h (by decide), B2.out⟩
theorem find9 (B : Nat) (A : Option Addr) (n c : Nat) (l : List En) (nm : List UInt8) (w : World) (h : Ens w B A n c l) (hwf : WfE l) (hB : B ≤ w.heap.size) :
    Calls Try.prog 9 #[.slice A n c, .string (str nm)] w fun e w' => e = .returned (.tuple #[.int .i64 (fv l nm), .int .i64 (fe l nm)]) ∧ Below w.heap.size w w' := by
  have hN := h.small
  have L := Lib.hid h.len
  have HI := Lib.hid (index22 B A n c l nm w h hwf hB)
  have HR := Lib.hid (fun x (b : Below w.heap.size w x) => Words.Rd.below h b hB)
  have HV : Hid (fv l nm = if fe l nm = 0 then fnd l nm else 0) := Lib.hid rfl
  generalize fv l nm = v at *
  generalize fe l nm = er at *
  clear h hwf
  go_enter Try.func9, Try.ntmps9
  go_wp2_with fail
  refine (HI.out).mono ?_; rintro e w1 ⟨k, rfl, hp, b1⟩
  have B1 := Lib.hid b1
  have HP := Lib.hid hp
  have hr := HR.out w1 b1
  clear b1 hp
  by_cases h0 : er = 0
  · subst h0
    obtain ⟨hpl, hh, hs⟩ := HP.out rfl
    obtain ⟨h1, hk⟩ := hpl.fnd hs hh
    have hkn : k < n := by rw [← L.out]; exact hk
    obtain ⟨g, o, rfl, _, _⟩ := Words.Rd.row hr (by omega)
    obtain ⟨c0, c1⟩ := Ens.cells hr rfl (eth_get hk)
    rw [h1] at c1
    rw [if_pos rfl] at HV
    clear hpl hh hs h1 hk hr c0
    go_wp2_with fail
    go_ret2
    exact ⟨by rw [HV.out]; rfl, B1.out⟩
  · have hne : (er != 0) = true := by rw [bne_iff_ne]; exact h0
    rw [if_neg h0] at HV
    clear hr h0
    go_wp2_with fail
    go_ret2
    exact ⟨by rw [HV.out]; rfl, B1.out⟩
/-- Two lists that are handed to Concat in a block made for it. -/
theorem concat_two (B : Nat) (A1 A2 : Option Addr) (n1 c1 n2 c2 N : Nat) (l1 l2 : List En) (w : World) (h1 : Ens w B A1 n1 c1 l1) (h2 : Ens w B A2 n2 c2 l2) (hB : B ≤ w.heap.size) (hN : (l1 ++ l2).length = N) (hb : N * 24 ≤ 140737488355328) :
    Calls Try.prog 24 #[.slice (some ⟨w.heap.size, 0, none⟩) 2 2] ((w.alloc (.cells #[.slice A1 n1 c1, .slice A2 n2 c2] 22)).drew)
      fun e w' => ∃ A C, e = .returned (.slice A N C) ∧ OwnEn w' w.heap.size A N C (l1 ++ l2) ∧ Below w.heap.size w w' := by
  have hw := Whole.new w 22 #[Value.slice A1 n1 c1, .slice A2 n2 c2]
  obtain ⟨wb, hwb⟩ : ∃ wb, (w.alloc (.cells #[.slice A1 n1 c1, .slice A2 n2 c2] 22)).drew = wb := ⟨_, rfl⟩
  have bx : Below w.heap.size w wb := by rw [← hwb]; exact (boxed w _).drew
  have hs : wb.heap.size = w.heap.size + 1 := by rw [← hwb]; simp
  have hc : ∀ i, wb.cell? ⟨w.heap.size, i, none⟩ = (#[Value.slice A1 n1 c1, .slice A2 n2 c2] : Array Value)[i]? := fun i => by rw [← hwb]; exact hw.cell i
  rw [hwb]
  have hcat : cat [⟨A1, n1, c1, l1⟩, ⟨A2, n2, c2, l2⟩] = l1 ++ l2 := by simp [cat]
  refine (concat24 B [⟨A1, n1, c1, l1⟩, ⟨A2, n2, c2, l2⟩] w.heap.size 2 N wb (fun p hp => ?_) (by omega) (by omega) (fun i p hp => ?_) rfl (by omega) (by rw [hcat]; exact hN) hb).mono ?_
  · simp only [List.mem_cons, List.not_mem_nil, or_false] at hp
    rcases hp with rfl | rfl
    · exact Words.Rd.below h1 bx hB
    · exact Words.Rd.below h2 bx hB
  · rw [hc i]
    match i, hp with
    | 0, hp => injection hp with hp; subst hp; rfl
    | 1, hp => injection hp with hp; subst hp; rfl
  · rintro e w' ⟨A, C, rfl, ho, hb2⟩
    rw [hcat] at ho
    exact ⟨A, C, rfl, ho.more bx.size, bx.trans (hb2.mono bx.size)⟩
theorem concat_three (B : Nat) (A1 A3 : Option Addr) (n1 c1 n3 c3 N : Nat) (l1 l3 : List En) (x : En) (w : World) (h1 : Ens w B A1 n1 c1 l1) (h3 : Ens w B A3 n3 c3 l3) (hB : B ≤ w.heap.size) (hN : (l1 ++ [x] ++ l3).length = N) (hb : N * 24 ≤ 140737488355328) :
    Calls Try.prog 24 #[.slice (some ⟨w.heap.size + 1, 0, none⟩) 3 3] (((w.alloc (.cells #[.string (str x.n), .int .i64 x.i] 24)).alloc (.cells #[.slice A1 n1 c1, .slice (some ⟨w.heap.size, 0, none⟩) 1 1, .slice A3 n3 c3] 22)).drew)
      fun e w' => ∃ A C, e = .returned (.slice A N C) ∧ OwnEn w' w.heap.size A N C (l1 ++ [x] ++ l3) ∧ Below w.heap.size w w' := by
  have hw := Whole.new (w.alloc (.cells #[.string (str x.n), .int .i64 x.i] 24)) 22 #[Value.slice A1 n1 c1, .slice (some ⟨w.heap.size, 0, none⟩) 1 1, .slice A3 n3 c3]
  rw [World.size_alloc] at hw
  have hx1 := one_en w x
  obtain ⟨wb, hwb⟩ : ∃ wb, ((w.alloc (.cells #[.string (str x.n), .int .i64 x.i] 24)).alloc (.cells #[.slice A1 n1 c1, .slice (some ⟨w.heap.size, 0, none⟩) 1 1, .slice A3 n3 c3] 22)).drew = wb := ⟨_, rfl⟩
  have bx : Below w.heap.size w wb := by rw [← hwb]; exact ((boxed w _).alloc (boxed w _).size _).drew
  have hs : wb.heap.size = w.heap.size + 2 := by rw [← hwb]; simp
  have hx : Ens wb (w.heap.size + 1) (some ⟨w.heap.size, 0, none⟩) 1 1 [x] := by
    rw [← hwb]
    exact Words.Rd.drew (Words.Rd.alloc hx1 (by simp) _)
  have hc : ∀ i, wb.cell? ⟨w.heap.size + 1, i, none⟩ = (#[Value.slice A1 n1 c1, .slice (some ⟨w.heap.size, 0, none⟩) 1 1, .slice A3 n3 c3] : Array Value)[i]? := fun i => by rw [← hwb]; exact hw.cell i
  rw [hwb]
  have hcat : cat [⟨A1, n1, c1, l1⟩, ⟨some ⟨w.heap.size, 0, none⟩, 1, 1, [x]⟩, ⟨A3, n3, c3, l3⟩] = l1 ++ [x] ++ l3 := by simp [cat]
  refine (concat24 (w.heap.size + 1) [⟨A1, n1, c1, l1⟩, ⟨some ⟨w.heap.size, 0, none⟩, 1, 1, [x]⟩, ⟨A3, n3, c3, l3⟩] (w.heap.size + 1) 3 N wb (fun p hp => ?_) (by omega) (by omega) (fun i p hp => ?_) rfl (by omega) (by rw [hcat]; exact hN) hb).mono ?_
  · simp only [List.mem_cons, List.not_mem_nil, or_false] at hp
    rcases hp with rfl | rfl | rfl
    · exact (Words.Rd.below h1 bx hB).more (by omega)
    · exact hx
    · exact (Words.Rd.below h3 bx hB).more (by omega)
  · rw [hc i]
    match i, hp with
    | 0, hp => injection hp with hp; subst hp; rfl
    | 1, hp => injection hp with hp; subst hp; rfl
    | 2, hp => injection hp with hp; subst hp; rfl
  · rintro e w' ⟨A, C, rfl, ho, hb2⟩
    rw [hcat] at ho
    exact ⟨A, C, rfl, ho.more bx.size, bx.trans (hb2.mono bx.size)⟩
theorem without25 (B : Nat) (A : Option Addr) (n c k : Nat) (l : List En) (w : World) (h : Ens w B A n c l) (hB : B ≤ w.heap.size) (hk : k < n) (hn : n * 24 ≤ 140737488355000) :
    Calls Try.prog 25 #[.slice A n c, .int .i64 k] w fun e w' => ∃ A2 N C, e = .returned (.slice A2 N C) ∧ (l.take k ++ l.drop (k + 1)).length = N ∧ OwnEn w' w.heap.size A2 N C (l.take k ++ l.drop (k + 1)) ∧ Below w.heap.size w w' := by
  obtain ⟨i0, hi0, hz0, hz1, hz2⟩ := info_parts info24
  have hN := h.small
  have hl := h.len
  have hnc := Words.Rd.le h
  obtain ⟨m, hm⟩ : ∃ m, k + 1 = m := ⟨_, rfl⟩
  have hkm : (k : Int) + 1 = (m : Int) := by omega
  have hwm : IntKind.i64.wrap (m : Int) = (m : Int) := by rw [IntKind.wrap_i64]; omega
  have hs1 := fun w => run_head (P := Try.prog) w 22 24 i0 Try.underlying22 hi0 A n c k k rfl (by omega)
  have hs2 := fun w => run_tailN (P := Try.prog) w 22 24 i0 2 Try.underlying22 hi0 hz1 A n c m (m : Int) rfl (by omega)
  have H1 := Lib.hid (Ens.top h (k := k) (by omega))
  have H2 := Lib.hid (Ens.rest h (k := m) (by omega))
  generalize (if c = m then A else A.map (·.add (m * 2))) = A2 at *
  have hlen : (l.take k ++ l.drop m).length = n - 1 := by rw [List.length_append, List.length_take, List.length_drop, hl]; omega
  have HL := Lib.hid hlen
  have HX := Lib.hid (concat_two B A A2 k c (n - m) (c - m) (n - 1) (l.take k) (l.drop m) w H1.out H2.out hB hlen (by omega))
  rw [hm]
  generalize n - m = n2 at *
  generalize c - m = c2 at *
  clear h hl hlen hm
  go_enter Try.func25, Try.ntmps25
  go_wp2_with fail
  go_region_with (go_at_call 24; refine (HX.out).mono ?_; rintro e w' ⟨A3, c3, rfl, ho, hb⟩)
  all_goals
    have O3 := Lib.hid ho
    have B3 := Lib.hid hb
    clear ho hb
    go_wp2_with fail
    go_ret
    exact ⟨A3, _, c3, rfl, HL.out, O3.out, B3.out⟩
end Go.Proofs.Ytiagbacmjiimpaa.Dir
