/-
  What the document's own Push returns.
-/
import Derived.Test.YtkkmfeclondlpaaPush
namespace Go.Proofs.Ytkkmfeclondlpaa.Heap
open Go.ChangeShapes Go.WideShapes Go.ChangeAt Go.RowKit Words Go.Sort
set_option linter.unusedVariables false

def eb : Obj := .cells #[] 24
theorem own_eb (y : World) (base : Nat) (hb : base ≤ y.heap.size) : (y.alloc eb).ownsRow base 24 2 (.slice (some ⟨y.heap.size, 0, none⟩) 0 0) 0 [] := y.ownsRow_lit #[] 0 hb (by decide) rfl
theorem rd_one {w w' : World} {g : Nat} {x : Wn} (h0 : w'.cell? ⟨g, 0, none⟩ = some (.int .i64 x.id)) (h1 : w'.cell? ⟨g, 1, none⟩ = some (.int .i64 x.wear)) (hg : g < w'.heap.size) : Words.Rd w' w'.heap.size 2 (some ⟨g, 0, none⟩) 1 1 (wcells x) :=
  ⟨rfl, Nat.le_refl _, by unfold maxLen; omega, (fun h => by cases h), fun _ => ⟨g, 0, rfl, hg, fun j u hu => by
    rw [Nat.zero_add]
    rcases j with _ | _ | j
    · rw [h0, ← hu]; rfl
    · rw [h1, ← hu]; rfl
    · simp [wcells] at hu⟩⟩
/-- The three orders in which the two literals and the first append may come. -/
structure Lits (w1 : World) (B : Nat) (A : Option Addr) (n c : Nat) (l : List Wn) (x : Wn) : Prop where
  o1 : ((w1.alloc (.cells #[.int .i64 x.id, .int .i64 x.wear] 24)).alloc (.cells #[] 24)).drew.ownsRow w1.heap.size 24 2 (.slice (some ⟨w1.heap.size + 1, 0, none⟩) 0 0) 0 []
  o2 : ((w1.alloc (.cells #[] 24)).alloc (.cells #[.int .i64 x.id, .int .i64 x.wear] 24)).drew.ownsRow w1.heap.size 24 2 (.slice (some ⟨w1.heap.size, 0, none⟩) 0 0) 0 []
  o3 : (w1.alloc (.cells #[] 24)).drew.ownsRow w1.heap.size 24 2 (.slice (some ⟨w1.heap.size, 0, none⟩) 0 0) 0 []
  r1 : Words.Rd ((w1.alloc (.cells #[.int .i64 x.id, .int .i64 x.wear] 24)).alloc (.cells #[] 24)).drew B 2 A n c (hcells l)
  r2 : Words.Rd ((w1.alloc (.cells #[] 24)).alloc (.cells #[.int .i64 x.id, .int .i64 x.wear] 24)).drew B 2 A n c (hcells l)
  r3 : Words.Rd (w1.alloc (.cells #[] 24)).drew B 2 A n c (hcells l)
  b1 : Below w1.heap.size w1 ((w1.alloc (.cells #[.int .i64 x.id, .int .i64 x.wear] 24)).alloc (.cells #[] 24)).drew
  b2 : Below w1.heap.size w1 ((w1.alloc (.cells #[] 24)).alloc (.cells #[.int .i64 x.id, .int .i64 x.wear] 24)).drew
  b3 : Below w1.heap.size w1 (w1.alloc (.cells #[] 24)).drew
  s1 : w1.heap.size ≤ ((w1.alloc (.cells #[.int .i64 x.id, .int .i64 x.wear] 24)).alloc (.cells #[] 24)).drew.heap.size
  s2 : w1.heap.size ≤ ((w1.alloc (.cells #[] 24)).alloc (.cells #[.int .i64 x.id, .int .i64 x.wear] 24)).drew.heap.size
  s3 : w1.heap.size ≤ (w1.alloc (.cells #[] 24)).drew.heap.size
theorem lits {w1 : World} {B : Nat} {A : Option Addr} {n c : Nat} {l : List Wn} (x : Wn) (h : Hp w1 B A n c l) (hB : B ≤ w1.heap.size) : Lits w1 B A n c l x := by
  have b1 : Below w1.heap.size w1 ((w1.alloc (.cells #[.int .i64 x.id, .int .i64 x.wear] 24)).alloc (.cells #[] 24)).drew := (two_blocks w1 _ _).drew
  have b2 : Below w1.heap.size w1 ((w1.alloc (.cells #[] 24)).alloc (.cells #[.int .i64 x.id, .int .i64 x.wear] 24)).drew := (two_blocks w1 _ _).drew
  have b3 : Below w1.heap.size w1 (w1.alloc (.cells #[] 24)).drew := ((Below.refl _ _).alloc (Nat.le_refl _) _).drew
  refine ⟨?_, ?_, own_eb w1 _ (Nat.le_refl _), Words.Rd.below h b1 hB, Words.Rd.below h b2 hB, Words.Rd.below h b3 hB, b1, b2, b3, b1.size, b2.size, b3.size⟩
  · have := own_eb (w1.alloc (.cells #[.int .i64 x.id, .int .i64 x.wear] 24)) w1.heap.size (by simp)
    rw [World.size_alloc] at this
    exact this
  · exact Go.World.ownsRow.alloc (own_eb w1 _ (Nat.le_refl _)) _
/-- .. behind the first append: the one block that is to come still lies there. -/
theorem one1 {w1 w2 : World} {x : Wn} (hg : ((w1.alloc (.cells #[.int .i64 x.id, .int .i64 x.wear] 24)).alloc (.cells #[] 24)).drew.grownBy w2 (Value.slice (some ⟨w1.heap.size + 1, 0, none⟩) 0 0).ownBlock) : Words.Rd w2 w2.heap.size 2 (some ⟨w1.heap.size, 0, none⟩) 1 1 (wcells x) := by
  have hsz := hg.size
  have h1 : ∀ j u, #[Value.int .i64 x.id, .int .i64 x.wear][j]? = some u → w2.cell? ⟨w1.heap.size, j, none⟩ = some u := fun j u hu => by
    refine hg.cell ?_ (by simp [Value.ownBlock])
    show ((w1.alloc (.cells #[.int .i64 x.id, .int .i64 x.wear] 24)).alloc (.cells #[] 24)).cell? _ = _
    rw [World.cell?_alloc_lt _ _ _ (by simp), cell_of_row _ _ _ _ 24 (0, 0) (heap_alloc_new w1 _)]
    exact hu
  have hs2 : w1.heap.size + 2 ≤ w2.heap.size := by simpa using hsz
  exact rd_one (w := w1) (h1 0 _ rfl) (h1 1 _ rfl) (by omega)
theorem one2 {w1 w2 : World} {x : Wn} (hg : ((w1.alloc (.cells #[] 24)).alloc (.cells #[.int .i64 x.id, .int .i64 x.wear] 24)).drew.grownBy w2 (Value.slice (some ⟨w1.heap.size, 0, none⟩) 0 0).ownBlock) : Words.Rd w2 w2.heap.size 2 (some ⟨w1.heap.size + 1, 0, none⟩) 1 1 (wcells x) := by
  have hsz := hg.size
  have h1 : ∀ j u, #[Value.int .i64 x.id, .int .i64 x.wear][j]? = some u → w2.cell? ⟨w1.heap.size + 1, j, none⟩ = some u := fun j u hu => by
    refine hg.cell ?_ (by simp [Value.ownBlock])
    show ((w1.alloc (.cells #[] 24)).alloc (.cells #[.int .i64 x.id, .int .i64 x.wear] 24)).cell? _ = _
    have := heap_alloc_new (w1.alloc (.cells #[] 24)) (.cells #[.int .i64 x.id, .int .i64 x.wear] 24)
    rw [World.size_alloc] at this
    rw [cell_of_row _ _ _ _ 24 (0, 0) this]
    exact hu
  have hs2 : w1.heap.size + 2 ≤ w2.heap.size := by simpa using hsz
  exact rd_one (w := w1) (h1 0 _ rfl) (h1 1 _ rfl) (by omega)
theorem wcells_cell (x : Wn) : ∀ u ∈ wcells x, u.oneCell' = true := fun u hu => by
  simp [wcells] at hu
  rcases hu with rfl | rfl <;> rfl
theorem own_two {w : World} {base : Nat} {A : Option Addr} {n c : Nat} {l : List Wn} {x : Wn} (h : w.ownsRow base 24 2 (.slice A (n + 1) c) (n + 1) (hcells l ++ wcells x)) : OwnHp w base A (n + 1) c (l ++ [x]) := by
  unfold OwnHp
  rw [hcells_append]
  exact h
theorem own_more {w2 : World} {base : Nat} {v : Value} {n : Nat} {xs : List Value} (h : w2.ownsRow base 24 2 v n xs) (x : Wn) : (w2.alloc (.cells #[.int .i64 x.id, .int .i64 x.wear] 24)).ownsRow base 24 2 v n xs := Go.World.ownsRow.alloc h _
theorem one_more (w2 : World) (x : Wn) : Words.Rd (w2.alloc (.cells #[.int .i64 x.id, .int .i64 x.wear] 24)) (w2.heap.size + 1) 2 (some ⟨w2.heap.size, 0, none⟩) 1 1 (wcells x) := lit_one w2 x
theorem below_more {w1 w2 : World} (h : Below w1.heap.size w1 w2) (x : Wn) : Below w1.heap.size w1 (w2.alloc (.cells #[.int .i64 x.id, .int .i64 x.wear] 24)) := h.alloc h.size _
theorem size_more {w1 w2 : World} (h : Below w1.heap.size w1 w2) (x : Wn) : w1.heap.size ≤ (w2.alloc (.cells #[.int .i64 x.id, .int .i64 x.wear] 24)).heap.size := (below_more h x).size
theorem up_from {l : List Wn} {k p : Nat} (h0 : 0 < k) (hp : p = (k - 1) / 2) (h : less (nth l k) (nth l p) = true) : up l k = up (swap l k p) p := by
  subst hp
  exact up_go h0 h
theorem up_here {l : List Wn} {k p : Nat} (hp : p = (k - 1) / 2) (h : less (nth l k) (nth l p) = false) : up l k = l := by
  subst hp
  exact up_stop h
set_option maxRecDepth 100000 in
set_option maxHeartbeats 4000000 in
theorem fpush10 (B : Nat) (A : Option Addr) (n c : Nat) (l : List Wn) (x : Wn) (w : World) (h : Hp w B A n c l) (hB : B ≤ w.heap.size) (hs : Small n) :
    Calls Try.prog 10 #[.slice A n c, wval x] w (MadeT w (pval l x) (perr l)) := by
  have B0 := Lib.hid ((Below.refl w.heap.size w).alloc (Nat.le_refl _) (wb x))
  have HR := right14 B A n c l (w.alloc (wb x)) (Words.Rd.below h B0.out hB) (Nat.le_trans hB B0.out.size) hs
  have hl := h.len
  have H := Lib.hid h
  clear h
  unfold wval
  cases hr : right l with
  | false =>
    have HE := Lib.hid (perr_form hr)
    rw [hr] at HR
    have HR := Lib.hid HR
    clear hr hs
    unfold wb at HR
    go_enter Try.func10, Try.ntmps10
    go_wp2_with fail
    refine (HR.out).mono ?_; rintro e w1 ⟨rfl, hb⟩
    have B1 := Lib.hid (B0.out.trans (hb.mono B0.out.size))
    clear hb
    go_wp2_with fail
    go_ret2
    exact madeT_nil HE.out (by omega) B1.out
  | true =>
    rw [hr] at HR
    by_cases h4 : 4096 ≤ n
    · have HE := Lib.hid (perr_full hr (by omega))
      have HR := Lib.hid HR
      have h4' : (4095 : Int) < (n : Int) := by omega
      clear hr hs
      unfold wb at HR
      go_enter Try.func10, Try.ntmps10
      go_wp2_with fail
      refine (HR.out).mono ?_; rintro e w1 ⟨rfl, hb⟩
      have B1 := Lib.hid (B0.out.trans (hb.mono B0.out.size))
      clear hb
      go_wp2_with fail
      go_ret2
      exact madeT_nil HE.out (by omega) B1.out
    · obtain ⟨i0, hi0, hz0, hz1, hz2⟩ := info_parts info24
      have mx := mixedO
      have HE := Lib.hid (perr_ok hr (by omega))
      have HR := Lib.hid HR
      have h4' : ¬ (4095 : Int) < (n : Int) := by omega
      clear hr hs
      unfold wb at HR
      go_enter Try.func10, Try.ntmps10
      go_wp2_with fail
      refine (HR.out).mono ?_; rintro e w1 ⟨rfl, hb⟩
      obtain ⟨e0, e1⟩ := box_kept hb
      have hsz : w.heap.size < w1.heap.size := by have := hb.size; simp at this; omega
      have B1 := Lib.hid (B0.out.trans (hb.mono B0.out.size))
      clear hb
      have HT := Lib.hid (lits x (Words.Rd.below H.out B1.out hB) (Nat.le_trans hB B1.out.size))
      go_upto_region 5 with fail
      go_cut [6] (fun u wx => ∃ A3 c3, u = .slice A3 (n + 1) c3 ∧ OwnHp wx w1.heap.size A3 (n + 1) c3 (l ++ [x]) ∧ Below w1.heap.size w1 wx)
      case first =>
        go_region_law (first
          | (refine step_append_rd (P := Try.prog) _ rfl (.tmp 14) (.tmp 15) 22 rfl w1.heap.size 24 i0 _ 2 16 Try.underlying22 hi0 hz0 hz1 hz2 rfl (by decide) _ 0 [] (by simp [Act.eval]) HT.out.o1 B A n c (hcells l) (by simp [Act.eval]) HT.out.r1 (hcells_one l) (by simp only [maxLen]; omega) (by omega) HT.out.s1 ?_
             intro A2 c2 w2 hown2 hg2
             simp only [Nat.zero_add, List.nil_append] at hown2
             have hx2 := one1 hg2
             have hb2 := below_grown HT.out.b1 HT.out.o1 hg2 HT.out.s1 (Nat.le_refl _))
          | (refine step_append_rd (P := Try.prog) _ rfl (.tmp 14) (.tmp 15) 22 rfl w1.heap.size 24 i0 _ 2 16 Try.underlying22 hi0 hz0 hz1 hz2 rfl (by decide) _ 0 [] (by simp [Act.eval]) HT.out.o2 B A n c (hcells l) (by simp [Act.eval]) HT.out.r2 (hcells_one l) (by simp only [maxLen]; omega) (by omega) HT.out.s2 ?_
             intro A2 c2 w2 hown2 hg2
             simp only [Nat.zero_add, List.nil_append] at hown2
             have hx2 := one2 hg2
             have hb2 := below_grown HT.out.b2 HT.out.o2 hg2 HT.out.s2 (Nat.le_refl _))
          | (refine step_append_rd (P := Try.prog) _ rfl (.tmp 14) (.tmp 15) 22 rfl w1.heap.size 24 i0 _ 2 16 Try.underlying22 hi0 hz0 hz1 hz2 rfl (by decide) _ 0 [] (by simp [Act.eval]) HT.out.o3 B A n c (hcells l) (by simp [Act.eval]) HT.out.r3 (hcells_one l) (by simp only [maxLen]; omega) (by omega) HT.out.s3 ?_
             intro A2 c2 w2 hown2 hg2
             simp only [Nat.zero_add, List.nil_append] at hown2
             have hb2 := below_grown HT.out.b3 HT.out.o3 hg2 HT.out.s3 (Nat.le_refl _)
             have k0 := (hb2.cell (p := ⟨w.heap.size, 0, none⟩) hsz).trans e0
             have k1 := (hb2.cell (p := ⟨w.heap.size, 1, none⟩) hsz).trans e1)
          | (refine step_append_rd (P := Try.prog) _ rfl (.tmp 16) (.tmp 18) 22 rfl w1.heap.size 24 i0 _ 2 16 Try.underlying22 hi0 hz0 hz1 hz2 rfl (by decide) _ n (hcells l) (by simp [Act.eval]) hown2 w2.heap.size _ 1 1 (wcells x) (by simp [Act.eval]) hx2 (wcells_cell x) (by simp only [maxLen]; omega) (by omega) hb2.size ?_
             intro A3 c3 w3 hown3 hg3
             have hb3 := below_grown hb2 hown2 hg3 hb2.size (Nat.le_refl _))
          | (refine step_append_rd (P := Try.prog) _ rfl (.tmp 16) (.tmp 18) 22 rfl w1.heap.size 24 i0 _ 2 16 Try.underlying22 hi0 hz0 hz1 hz2 rfl (by decide) _ n (hcells l) (by simp [Act.eval]) (own_more hown2 x) (w2.heap.size + 1) _ 1 1 (wcells x) (by simp [Act.eval]) (one_more w2 x) (wcells_cell x) (by simp only [maxLen]; omega) (by omega) (size_more hb2 x) ?_
             intro A3 c3 w3 hown3 hg3
             have hb3 := below_grown (below_more hb2 x) (own_more hown2 x) hg3 (size_more hb2 x) (Nat.le_refl _)))
        all_goals
          go_wp2_with fail
          go_meet
          exact ⟨A3, c3, rfl, own_two hown3, hb3⟩
      case rest =>
        obtain ⟨A3, c3, rfl, o3, b3⟩ := hcut
        obtain ⟨g, rfl, hg1, hg2⟩ := o3.addr (by omega)
        have E0 := Lib.hid ((b3.cell (p := ⟨w.heap.size, 0, none⟩) hsz).trans e0)
        have E1 := Lib.hid ((b3.cell (p := ⟨w.heap.size, 1, none⟩) hsz).trans e1)
        have T0 := Lib.hid (Turned.refl o3)
        have O3 := Lib.hid o3
        have B3 := Lib.hid b3
        have hb0 : w.heap.size ≠ g := by omega
        have hb1 : w.heap.size < wc.heap.size := by omega
        have hx0 : Hid (nth (l ++ [x]) n = x) := Lib.hid (by rw [← hl]; simp [nth, List.getD])
        have HV : Hid (pval l x = up (l ++ [x]) n) := Lib.hid (by rw [pval_ok HE.out, ← hl]; rfl)
        clear o3 b3 e0 e1 HT hi0 hz0 hz1 hz2
        go_wp2_with fail
        go_loopw [7] (fun i wr => ∃ (k : Nat) (lk : List Wn), i = .int .i64 k ∧ k < n + 1 ∧ up lk k = up (l ++ [x]) n ∧ nth lk k = x ∧ Turned wc w1.heap.size g (n + 1) c3 lk wr) (fun i _ => (intOf i).toNat)
        case atStart => exact ⟨n, l ++ [x], rfl, by omega, rfl, hx0.out, T0.out⟩
        case round =>
          obtain ⟨k, lk, rfl, hkn, hinv, hkx, ht⟩ := hrel
          have HI := Lib.hid hinv
          have HT := Lib.hid ht
          have HK := Lib.hid hkx
          have L := ht.own.len
          have hszr : wc.heap.size ≤ wr.heap.size := ht.grown.size
          have k0 := ht.grown.cell E0.out (by show some w.heap.size ≠ some g; simpa using hb0)
          have k1 := ht.grown.cell E1.out (by show some w.heap.size ≠ some g; simpa using hb0)
          have q0 := fun m os => cell_grown (w := wr) (a := ⟨w.heap.size, 0, none⟩) (by show w.heap.size < _; omega) k0 m os
          have q1 := fun m os => cell_grown (w := wr) (a := ⟨w.heap.size, 1, none⟩) (by show w.heap.size < _; omega) k1 m os
          have QB := Lib.hid (fun (w2 : World) (t : Turned wc w1.heap.size g (n + 1) c3 lk w2) => And.intro (t.grown.cell E0.out (by show some w.heap.size ≠ some g; simpa using hb0)) (t.grown.cell E1.out (by show some w.heap.size ≠ some g; simpa using hb0)))
          clear hinv hkx k0 k1
          by_cases h0 : 0 < k
          · have h0' : (0 : Int) < (k : Int) := by omega
            obtain ⟨p, hp⟩ : ∃ p, p = (k - 1) / 2 := ⟨_, rfl⟩
            have hdiv : ((k : Int) - 1).tdiv 2 = (p : Int) := by rw [Int.tdiv_eq_ediv_of_nonneg (by omega)]; omega
            have hpk : p < k := by omega
            have hpn : p < n + 1 := by omega
            have hne : k ≠ p := by omega
            obtain ⟨d0, d1⟩ := HT.out.own.cellsG (nth_get (l := lk) (k := p) (by omega))
            have HL := less23 x (nth lk p)
            have HG := Lib.hid (fun hz => up_from (l := lk) h0 hp hz)
            have HN := Lib.hid (fun hz => up_here (l := lk) hp hz)
            have SW := Lib.hid (fun (w2 : World) (t : Turned wc w1.heap.size g (n + 1) c3 lk w2) => OwnHp.swapF t.own hkn hpn hne)
            have TS := Lib.hid (fun (w2 : World) (t : Turned wc w1.heap.size g (n + 1) c3 lk w2) => Turned.swap t hkn hpn)
            have HS : Hid (nth (swap lk k p) p = x) := Lib.hid (by rw [nth_swap (by omega), if_pos rfl]; exact HK.out)
            rw [HK.out] at HG HN SW TS
            obtain ⟨y, hy⟩ : ∃ y, y = nth lk p := ⟨_, rfl⟩
            rw [← hy] at d0 d1 HL HG HN SW TS
            unfold wval at HL
            clear hy ht L hp
            cases hz : less x y with
            | true =>
              rw [hz] at HL
              have HL := Lib.hid HL
              have HE2 := Lib.hid (HG.out hz)
              clear hz
              go_wp2_with fail
              refine wp_region_quiet_grown (by assumption) (by kernel_rfl) ?_
              repeat (go_big_quiet_step (first | (go_at_call 23; exact Calls.grown_of (HL.out _))))
              refine wpQuiet_nil ?_
              intro _ hw2
              obtain ⟨⟨nq, osq⟩, hw3⟩ := hw2
              subst hw3
              have HT2 := Lib.hid (HT.out.more nq osq)
              have S := SW.out _ HT2.out
              have Q := QB.out _ HT2.out
              have HT3 := Lib.hid (TS.out _ HT2.out)
              clear d0 d1 q0 q1
              generalize grow (wr.drewN nq) osq = w2 at *
              obtain ⟨s0, s1, s2, s3, s4, s5, s6, s7, s8, s9, s10⟩ := S
              have t0 : ((w2.setCell ⟨g, k * 2, none⟩ (.int .i64 y.id)).setCell ⟨g, k * 2 + 1, none⟩ (.int .i64 y.wear)).cell? ⟨w.heap.size, 0, none⟩ = some (.int .i64 x.id) := by
                rw [World.cell?_setCell_other _ _ _ _ (fun e => hb0 (by injection e with e1; exact e1.symm)), World.cell?_setCell_other _ _ _ _ (fun e => hb0 (by injection e with e1; exact e1.symm))]; exact Q.1
              have t1 : ((w2.setCell ⟨g, k * 2, none⟩ (.int .i64 y.id)).setCell ⟨g, k * 2 + 1, none⟩ (.int .i64 y.wear)).cell? ⟨w.heap.size, 1, none⟩ = some (.int .i64 x.wear) := by
                rw [World.cell?_setCell_other _ _ _ _ (fun e => hb0 (by injection e with e1; exact e1.symm)), World.cell?_setCell_other _ _ _ _ (fun e => hb0 (by injection e with e1; exact e1.symm))]; exact Q.2
              clear Q
              go_wp2_with fail
              exact ⟨⟨p, swap lk k p, rfl, hpn, by have e := HI.out; rw [HE2.out] at e; exact e, HS.out, HT3.out⟩, by simp [intOf]; omega⟩
            | false =>
              rw [hz] at HL
              have HL := Lib.hid HL
              have HE2 := Lib.hid (HN.out hz)
              clear hz
              go_wp2_with fail
              refine wp_region_quiet_grown (by assumption) (by kernel_rfl) ?_
              repeat (go_big_quiet_step (first | (go_at_call 23; exact Calls.grown_of (HL.out _))))
              refine wpQuiet_nil ?_
              intro _ hw2
              obtain ⟨⟨nq, osq⟩, hw3⟩ := hw2
              subst hw3
              have HT2 := Lib.hid (HT.out.more nq osq)
              clear d0 d1 q0 q1
              go_wp2_with fail
              go_ret2
              have B4 := below_grown B3.out O3.out HT2.out.grown B3.out.size (Nat.le_refl _)
              rw [HV.out, HE.out, ← HI.out, HE2.out]
              exact ⟨_, c3, n + 1, rfl, own_base HT2.out.own (by omega), B1.out.trans (B4.mono B1.out.size)⟩
          · obtain rfl : k = 0 := by omega
            have HE2 := Lib.hid (up_zero lk)
            clear ht L
            go_wp2_with fail
            refine wp_region_quiet_grown (by assumption) (by kernel_rfl) ?_
            repeat (go_big_quiet_step (fail))
            refine wpQuiet_nil ?_
            intro _ hw2
            obtain ⟨⟨nq, osq⟩, hw3⟩ := hw2
            subst hw3
            have HT2 := Lib.hid (HT.out.more nq osq)
            clear q0 q1
            go_wp2_with fail
            go_ret2
            have B4 := below_grown B3.out O3.out HT2.out.grown B3.out.size (Nat.le_refl _)
            rw [HV.out, HE.out, ← HI.out, HE2.out]
            exact ⟨_, c3, n + 1, rfl, own_base HT2.out.own (by omega), B1.out.trans (B4.mono B1.out.size)⟩
end Go.Proofs.Ytkkmfeclondlpaa.Heap
