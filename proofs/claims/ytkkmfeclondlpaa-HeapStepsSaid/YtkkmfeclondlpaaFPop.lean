/-
  What the document's own Pop returns.
-/
import Derived.Test.YtkkmfeclondlpaaPop
import Derived.Test.YtkkmfeclondlpaaFPush
namespace Go.Proofs.Ytkkmfeclondlpaa.Heap
open Go.ChangeShapes Go.WideShapes Go.ChangeAt Go.RowKit Words Go.Sort
set_option linter.unusedVariables false

/-- 'l[1:m]', of elements of two cells. -/
theorem run_mid (w : World) (i0 : TypeInfo) (hi0 : Try.prog.info? 24 = some i0) (hz1 : i0.size = 2) (g o n c m : Nat) (h1 : 1 ≤ m) (h2 : m ≤ c) (h3 : 1 < c) :
    (Instr.slice 22 (.slice (some ⟨g, o, none⟩) n c) (some (.int .i64 1)) (some (.int .i64 (m : Int))) none).run Try.prog w = .ok (.slice (some ⟨g, o + 2, none⟩) (m - 1) (c - 1)) w := by
  have he : Try.prog.elem 22 = 24 := by simp [Program.elem, Try.underlying22]
  have h := run_slice_lh (P := Try.prog) w 22 (some ⟨g, o, none⟩) n c (by rw [he]; exact Try.underlying22) .i64 .i64 1 (m : Int) (by omega) (by omega) (by omega)
  rw [h, he]
  simp [sizeOf, typeInfo, hi0, sliced, hz1, Addr.add]
  omega
theorem Hp.mid {w : World} {B g o n c m : Nat} {l : List Wn} (h : Hp w B (some ⟨g, o, none⟩) n c l) (h1 : 1 ≤ m) (hm : m ≤ n) : Words.Rd w B 2 (some ⟨g, o + 2, none⟩) (m - 1) (c - 1) (hcells ((l.take m).drop 1)) := by
  have hl := h.len
  have hle := Words.Rd.le h
  have hmax := Words.Rd.max h
  have hlen : ((l.take m).drop 1).length = m - 1 := by rw [List.length_drop, List.length_take]; omega
  refine ⟨by rw [hcells_length, hlen], by omega, by omega, (fun e => by cases e), fun hn => ?_⟩
  obtain ⟨b, o', e, hb, hc⟩ := Words.Rd.row h (by omega)
  injection e with e
  injection e with e1 e2
  subst e1 e2
  refine ⟨g, o + 2, rfl, hb, fun j u hu => ?_⟩
  have hj : j < (m - 1) * 2 := by
    have := (List.getElem?_eq_some_iff.1 hu).1
    rw [hcells_length, hlen] at this
    exact this
  have hq : ((l.take m).drop 1)[j / 2]? = some (nth l (1 + j / 2)) := by
    rw [List.getElem?_drop, List.getElem?_take_of_lt (by omega)]
    exact nth_get (by omega)
  have e1 := flat_get (f := wcells) wcells_length hq (j := j % 2) (by omega)
  rw [show j / 2 * 2 + j % 2 = j by omega] at e1
  have e2 := flat_get (f := wcells) wcells_length (nth_get (l := l) (k := 1 + j / 2) (by omega)) (j := j % 2) (by omega)
  rw [show (1 + j / 2) * 2 + j % 2 = 2 + j by omega] at e2
  have := hc (2 + j) u (by unfold hcells; rw [e2, ← e1]; exact hu)
  rwa [← Nat.add_assoc] at this
theorem hcells_cons (x : Wn) (l : List Wn) : hcells (x :: l) = wcells x ++ hcells l := List.flatMap_cons
theorem own_head {w : World} {base : Nat} {A : Option Addr} {n c m : Nat} {l : List Wn} {x : Wn} (h : w.ownsRow base 24 2 (.slice A (1 + (m - 1)) c) (1 + (m - 1)) (wcells x ++ hcells ((l.take m).drop 1))) (h1 : 1 ≤ m) (hm : m < l.length) (hx : x = nth l m) (hl : l.length = m + 1) : OwnHp w base A m c ((l.take m).set 0 x) := by
  subst hx
  have e : (l.take m).set 0 (nth l m) = nth l m :: (l.take m).drop 1 := by
    have := pop_base (l := l) (by omega)
    rwa [show l.length - 1 = m by omega] at this
  rw [e]
  unfold OwnHp
  rw [hcells_cons]
  rw [show 1 + (m - 1) = m by omega] at h
  exact h
set_option maxRecDepth 100000 in
set_option maxHeartbeats 4000000 in
theorem fpop12 (B : Nat) (A : Option Addr) (n c : Nat) (l : List Wn) (w : World) (h : Hp w B A n c l) (hB : B ≤ w.heap.size) (hs : Small n) :
    Calls Try.prog 12 #[.slice A n c] w (MadeP w (tlist l) (tval l) (terr l)) := by
  have B0 := Lib.hid ((Below.refl w.heap.size w).alloc (Nat.le_refl _) (.cells #[.int .i64 0, .int .i64 0] 24))
  have HR := right14 B A n c l (w.alloc (.cells #[.int .i64 0, .int .i64 0] 24)) (Words.Rd.below h B0.out hB) (Nat.le_trans hB B0.out.size) hs
  have hl := h.len
  have H := Lib.hid h
  clear h
  cases hr : right l with
  | false =>
    have HE := Lib.hid (terr_form hr)
    rw [hr] at HR
    have HR := Lib.hid HR
    clear hr hs
    go_enter Try.func12, Try.ntmps12
    go_wp2_with fail
    refine (HR.out).mono ?_; rintro e w1 ⟨rfl, hb⟩
    obtain ⟨z0, z1, z2, z3⟩ := zero_box hb
    have HW := Lib.hid (zero_whole hb)
    have hsz : w.heap.size < w1.heap.size := by have := hb.size; simp at this; omega
    have B1 := Lib.hid (B0.out.trans (hb.mono B0.out.size))
    clear hb
    have hn1 := fill_next (x := ⟨0, 0⟩) HW.out
    go_wp2_with fail
    refine bodyPost_ret (results_wn (x := ⟨0, 0⟩) rfl rfl (fill_cells (x := ⟨0, 0⟩) HW.out).1 (fill_cells (x := ⟨0, 0⟩) HW.out).2) rfl ?_
    exact madeP_nil HE.out (by omega) (fill_below ⟨0, 0⟩ B1.out (Nat.le_refl _))
  | true =>
    rw [hr] at HR
    by_cases h0 : n = 0
    · have HE := Lib.hid (terr_none hr (by omega))
      have HR := Lib.hid HR
      have h0' : ((n : Int) == 0) = true := by rw [beq_iff_eq]; omega
      clear hr hs h0 hl
      go_enter Try.func12, Try.ntmps12
      go_wp2_with fail
      refine (HR.out).mono ?_; rintro e w1 ⟨rfl, hb⟩
      obtain ⟨z0, z1, z2, z3⟩ := zero_box hb
      have HW := Lib.hid (zero_whole hb)
      have hsz : w.heap.size < w1.heap.size := by have := hb.size; simp at this; omega
      have B1 := Lib.hid (B0.out.trans (hb.mono B0.out.size))
      clear hb
      have hn1 := fill_next (x := ⟨0, 0⟩) HW.out
      go_wp2_with fail
      refine bodyPost_ret (results_wn (x := ⟨0, 0⟩) rfl rfl (fill_cells (x := ⟨0, 0⟩) HW.out).1 (fill_cells (x := ⟨0, 0⟩) HW.out).2) rfl ?_
      exact madeP_nil HE.out (by omega) (fill_below ⟨0, 0⟩ B1.out (Nat.le_refl _))
    · obtain ⟨i0, hi0, hz0, hz1, hz2⟩ := info_parts info24
      have HE := Lib.hid (terr_ok hr (by omega))
      have HR := Lib.hid HR
      have h0' : ((n : Int) == 0) = false := by rw [beq_eq_false_iff_ne]; omega
      have hm9 : n ≤ 8796093022207 := by unfold Small at hs; omega
      obtain ⟨g, o, rfl, hgB, _⟩ := Words.Rd.row H.out (by omega)
      have hcap := Words.Rd.le H.out
      have HV : Hid (tval l = nth l 0) := Lib.hid (tval_ok HE.out)
      have hgw : g < w.heap.size := by omega
      clear hr hs
      by_cases h1 : n = 1
      · have h1' : ((n : Int) == 1) = true := by rw [beq_iff_eq]; omega
        have h1i : (1 : Int) ≤ (n : Int) := by omega
        have hn0 : 0 < n := by omega
        have HL : Hid (tlist l = []) := Lib.hid (by rw [tlist_ok HE.out, popped_one (by omega)])
        clear h1 h0
        go_enter Try.func12, Try.ntmps12
        go_wp2_with fail
        refine (HR.out).mono ?_; rintro e w1 ⟨rfl, hb⟩
        obtain ⟨z0, z1, z2, z3⟩ := zero_box hb
        have HW := Lib.hid (zero_whole hb)
        have hsz : w.heap.size < w1.heap.size := by have := hb.size; simp at this; omega
        have B1 := Lib.hid (B0.out.trans (hb.mono B0.out.size))
        clear hb
        have hn1 := fill_next (x := nth l 0) HW.out
        obtain ⟨d0, d1⟩ := Hp.cells (Words.Rd.below H.out B1.out hB) rfl (nth_get (l := l) (k := 0) (by omega))
        rw [Nat.zero_mul, Nat.add_zero] at d0 d1
        generalize nth l 0 = v at *
        clear hl
        go_wp2_with fail
        go_region
        go_wp2_with fail
        refine bodyPost_ret (results_wn (x := v) rfl rfl (fill_cells (x := v) HW.out).1 (fill_cells (x := v) HW.out).2) rfl ?_
        exact madeP_ok HL.out HV.out HE.out (l := []) (World.ownsRow_nil _ w.heap.size _ _) (Nat.le_refl _) (fill_below v B1.out (Nat.le_refl _)).drew
      · have h1' : ((n : Int) == 1) = false := by rw [beq_eq_false_iff_ne]; omega
        obtain ⟨m, hm⟩ : ∃ m, m = n - 1 := ⟨_, rfl⟩
        have hnm : (n : Int) - 1 = (m : Int) := by omega
        have hwm : IntKind.i64.wrap (m : Int) = (m : Int) := by rw [IntKind.wrap_i64]; omega
        have hmn : m < n := by omega
        have hm1 : 1 ≤ m := by omega
        have hmi : (1 : Int) ≤ (m : Int) := by omega
        have hmc : (m : Int) ≤ (c : Int) := by omega
        have HM : Hid (l.length = m + 1) := Lib.hid (by omega)
        have HL : Hid (tlist l = down ((l.take m).set 0 (nth l m)) 0) := Lib.hid (by rw [tlist_ok HE.out]; unfold popped; rw [hl, ← hm])
        have hsl := fun w => run_mid w i0 hi0 hz1 g o n c m hm1 (by omega) (by omega)
        clear hm h1 h0
        go_enter Try.func12, Try.ntmps12
        go_wp2_with fail
        refine (HR.out).mono ?_; rintro e w1 ⟨rfl, hb⟩
        have HW := Lib.hid (zero_whole hb)
        have hsz : w.heap.size < w1.heap.size := by have := hb.size; simp at this; omega
        have B1 := Lib.hid (B0.out.trans (hb.mono B0.out.size))
        clear hb
        obtain ⟨d0, d1⟩ := Hp.cells (Words.Rd.below H.out B1.out hB) rfl (nth_get (l := l) (k := m) (by omega))
        obtain ⟨y, hy⟩ : ∃ y, y = nth l m := ⟨_, rfl⟩
        rw [← hy] at d0 d1 HL
        have HY := Lib.hid hy
        have BX := Lib.hid (((Below.refl w1.heap.size w1).alloc (Nat.le_refl _) (.cells #[.int .i64 y.id, .int .i64 y.wear] 24)).drew)
        have OX : Hid ((w1.alloc (.cells #[.int .i64 y.id, .int .i64 y.wear] 24)).drew.ownsRow w1.heap.size 24 2 (.slice (some ⟨w1.heap.size, 0, none⟩) 1 1) 1 (wcells y)) := Lib.hid (w1.ownsRow_lit _ 1 (Nat.le_refl _) (by unfold maxLen; omega) rfl)
        have RX := Lib.hid (Hp.mid (Words.Rd.below (Words.Rd.below H.out B1.out hB) BX.out (Nat.le_trans hB B1.out.size)) hm1 (by omega))
        have SX : w1.heap.size ≤ (w1.alloc (.cells #[.int .i64 y.id, .int .i64 y.wear] 24)).drew.heap.size := BX.out.size
        clear hy hl
        go_upto_region 7 with fail
        go_cut [5] (fun u wx => ∃ A3 c3, u = .slice A3 m c3 ∧ OwnHp wx w1.heap.size A3 m c3 ((l.take m).set 0 y) ∧ Below w1.heap.size w1 wx)
        case first =>
          go_wp2_with fail
          go_region_law (first
            | (refine step_append_rd (P := Try.prog) _ rfl (.tmp 26) (.tmp 31) 22 rfl w1.heap.size 24 i0 _ 2 16 Try.underlying22 hi0 hz0 hz1 hz2 rfl (by decide) _ 1 (wcells y) (by simp [Act.eval]) OX.out B _ (m - 1) (c - 1) (hcells ((l.take m).drop 1)) (by simp [Act.eval]) RX.out (hcells_one _) (by simp only [maxLen]; omega) (by omega) SX ?_
               intro A3 c3 w3 hown3 hg3
               have hb3 := below_grown BX.out OX.out hg3 SX (Nat.le_refl _)
               have ho3 := own_head (n := n) hown3 hm1 (by have := HM.out; omega) HY.out HM.out
               rw [show 1 + (m - 1) = m by omega]
               clear hown3 hg3))
          all_goals
            go_simp
            go_wp2_with fail
            go_meet
            exact ⟨A3, c3, rfl, ho3, hb3⟩
        case rest =>
          obtain ⟨A3, c3, rfl, o3, b3⟩ := hcut
          have B3 := Lib.hid (B1.out.trans (b3.mono B1.out.size)).drew
          have HD : Calls Try.prog 31 #[.slice A3 m c3, .int .i64 0] wc.drew (MadeHp wc.drew (down ((l.take m).set 0 y) 0) m) := fdown31 _ A3 m c3 ((l.take m).set 0 y) 0 wc.drew o3.drew.hp (Nat.le_refl _) (by omega) (by omega)
          have HD := Lib.hid HD
          have HWc := Lib.hid (whole_below HW.out b3 hsz)
          have HR0 := Lib.hid (fun (w4 : World) (b : Below wc.drew.heap.size wc.drew w4) => Hp.cells (Words.Rd.below H.out (B3.out.trans (b.mono B3.out.size)) hB) rfl (nth_get (l := l) (k := 0) (by have := HM.out; omega)))
          have q0 := Hp.cells (Words.Rd.below H.out (B1.out.trans (b3.mono B1.out.size)) hB) rfl (nth_get (l := l) (k := 0) (by have := HM.out; omega))
          rw [Nat.zero_mul, Nat.add_zero] at q0 HR0
          obtain ⟨q0, q1⟩ := q0
          have hn0 : (0 : Int) < (n : Int) := by omega
          have hbs : w1.heap.size ≤ wc.heap.size := b3.size
          generalize nth l 0 = v at *
          clear d0 d1 o3 b3 hi0 hz0 hz1 hz2 hsl
          go_wp2_with fail
          go_region_with (first | (go_at_call 31; refine (HD.out).mono ?_; rintro e w4 ⟨A4, c4, rfl, o4, b4⟩
                                   have HW4 := Lib.hid (whole_below (HWc.out.drewN 1) b4 (by show w.heap.size < wc.heap.size; omega))
                                   have z0 := HW4.out.cell 0
                                   have z1 := HW4.out.cell 1
                                   have z2 := HW4.out.frozen 0
                                   have z3 := HW4.out.frozen 1
                                   have hn1 := fill_next (x := v) HW4.out
                                   obtain ⟨r0, r1⟩ := HR0.out w4 b4
                                   have B4 := Lib.hid (B3.out.trans (b4.mono B3.out.size))
                                   have O4 := Lib.hid o4
                                   clear o4 b4))
          all_goals
            go_wp2_with fail
            refine bodyPost_ret (results_wn (x := v) rfl rfl (fill_cells (x := v) HW4.out).1 (fill_cells (x := v) HW4.out).2) rfl ?_
            exact madeP_ok HL.out HV.out HE.out (fill_own O4.out (by show w.heap.size < wc.heap.size; omega) v) (by show w.heap.size ≤ wc.heap.size; omega) (fill_below v B4.out (Nat.le_refl _))
end Go.Proofs.Ytkkmfeclondlpaa.Heap
