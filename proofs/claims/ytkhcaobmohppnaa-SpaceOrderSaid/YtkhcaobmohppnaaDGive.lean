/-
  Blocks given back, whole; an operation on the device, whole: the program's own.
-/
import Derived.Test.YtkhcaobmohppnaaDGv0
import Derived.Test.YtkhcaobmohppnaaDGv1
import Derived.Test.YtkhcaobmohppnaaDGv2
import Derived.Test.YtkhcaobmohppnaaDHeld
import Derived.Test.YtkhcaobmohppnaaDPerf
namespace Go.Proofs.Ytkhcaobmohppnaa.Spc
open Go.ChangeShapes Go.WideShapes Go.ChangeAt Go.RowKit Words Go.Sort
set_option linter.unusedVariables false

theorem give_to {base g : Nat} {s a m : Int} {l L : List Gp} {w : World} {vs : Array Value} (hok : okRow s l = true) (hs : ser s l ⟨3, a, m⟩ = 0) (hL : Ch s (-1) L ∧ ∀ x : Int, mem L x = if a ≤ x ∧ x < a + m then true else mem l x)
    (h : Calls Try.prog 39 vs w fun e w' => e = .returned (aval 0 a) ∧ (∃ A' n' c', RD w' base g s A' n' c' L) ∧ Fr base w w') : Calls Try.prog 39 vs w (PF base g s l ⟨3, a, m⟩ w) := by
  obtain ⟨e1, e2⟩ := give_eq hok hs hL
  unfold PF
  rw [hs, e2, if_pos rfl, e1]
  exact h
theorem give39_pf (base g n c : Nat) (s : Int) (A : Option Addr) (l : List Gp) (a m : Int) (w : World) (d : RD w base g s A n c l) (hok : okRow s l = true) (hc : cerr s ⟨3, a, m⟩ = 0) (hb : base ≤ w.heap.size) :
    Calls Try.prog 39 #[.pointer (some ⟨g, 0, none⟩), .agg #[.int .i64 a, .int .i64 m]] w (PF base g s l ⟨3, a, m⟩ w) := by
  have hr := (cerr_ok hc).2
  simp at hr
  obtain ⟨h0, h4, hch⟩ := ok_ch hok
  have ha : 0 ≤ a := by omega
  have hm : 1 ≤ m := by omega
  have has : a + m ≤ s := by omega
  have ham : a + m ≤ 4096 := by omega
  have hll := d.row.len
  have hn : n ≤ 5000 := by have := ok_len hok; omega
  have hl := ok_sums hok
  obtain ⟨i, hcnt⟩ := cnt_exists l a
  have hil := hcnt.1
  by_cases hh : i < n ∧ (gth l i).a < a + m
  · have hs := give_held_is hok hcnt ha hm has (by omega) hh.2
    refine (give_held base g i n c s A l a m w d hcnt hh.1 hh.2 hl ha hm ham hb hn).mono ?_
    rintro e w' ⟨rfl, b⟩
    exact pf_err d hb hs (by decide) b
  have hf : i < l.length → a + m ≤ (gth l i).a := fun h => by
    rcases Int.lt_or_le (gth l i).a (a + m) with h1 | h1
    · exact absurd ⟨by omega, h1⟩ hh
    · exact h1
  have hs := give_free_is hok hcnt ha hm has hf
  have hpo := Cnt.post hok hf
  have hpr := hcnt.pre
  have hap : l.take i ++ l.drop i = l := List.take_append_drop i l
  have hch1 : Ch s (-1) (l.take i ++ l.drop i) := by rw [hap]; exact hch
  -- what lies behind
  have hR : (i = n ∧ ∀ q ∈ l.drop i, a + m < q.a) ∨ (i < n ∧ a + m < (gth l i).a ∧ ∀ q ∈ l.drop i, a + m < q.a) ∨ (i < n ∧ (gth l i).a = a + m) := by
    by_cases hin : i < n
    · have h1 := hf (by omega)
      by_cases h2 : (gth l i).a = a + m
      · exact .inr (.inr ⟨hin, h2⟩)
      · refine .inr (.inl ⟨hin, by omega, fun q hq => ?_⟩)
        rw [drop_next (gth_get (by omega : i < l.length))] at hq
        rcases List.mem_cons.1 hq with rfl | hq
        · omega
        · have := ch_after hch (by omega : i < l.length) q hq
          have := hl _ (List.mem_of_getElem? (gth_get (by omega : i < l.length)))
          omega
    · refine .inl ⟨by omega, fun q hq => ?_⟩
      rw [List.drop_eq_nil_of_le (by omega)] at hq
      cases hq
  -- what lies ahead
  have hL : (i = 0 ∧ ∀ p ∈ l.take i, p.a + p.m < a) ∨ (∃ t, i = t + 1 ∧ ¬ (gth l t).a + (gth l t).m = a ∧ ∀ p ∈ l.take i, p.a + p.m < a) ∨ (∃ t, i = t + 1 ∧ (gth l t).a + (gth l t).m = a) := by
    match i, hcnt, hil, hpr with
    | 0, _, _, _ => exact .inl ⟨rfl, fun p hp => by cases hp⟩
    | t + 1, hcnt, hil, hpr =>
      have ht := hcnt.2.1 t (by omega)
      by_cases h2 : (gth l t).a + (gth l t).m = a
      · exact .inr (.inr ⟨t, rfl, h2⟩)
      · refine .inr (.inl ⟨t, rfl, h2, fun p hp => ?_⟩)
        rw [take_next (gth_get (by omega : t < l.length))] at hp
        rcases List.mem_append.1 hp with hp | hp
        · have := ch_before hch (by omega : t < l.length) p hp
          have := hl _ (List.mem_of_getElem? (gth_get (by omega : t < l.length)))
          omega
        · rw [List.mem_singleton] at hp
          subst hp
          omega
  rcases hL with ⟨l1, l2⟩ | ⟨t, l1, l2, l3⟩ | ⟨t, l1, l2⟩
  · rcases hR with ⟨r1, r2⟩ | ⟨r1, r2, r3⟩ | ⟨r1, r2⟩
    · refine give_to hok hs ?_ (give_00 base g i n c s A l a m w d hcnt l1 r1 hl ha hm ham hb hn)
      have := give_free hch1 ha hm has l2 r2
      rw [hap] at this
      exact this
    · refine give_to hok hs ?_ (give_01 base g i n c s A l a m w d hcnt l1 r1 r2 hl ha hm ham hb hn)
      have := give_free hch1 ha hm has l2 r3
      rw [hap] at this
      exact this
    · refine give_to hok hs ?_ (give_02 base g i n c s A l a m w d hcnt l1 r1 r2 hl ha hm ham hb hn)
      have e := drop_next (gth_get (by omega : i < l.length))
      rw [e] at hch1 hap
      have := give_right hch1 ha hm l2 r2.symm
      rw [hap] at this
      exact this
  · rcases hR with ⟨r1, r2⟩ | ⟨r1, r2, r3⟩ | ⟨r1, r2⟩
    · refine give_to hok hs ?_ (give_10 base g i t n c s A l a m w d hcnt l1 l2 r1 hl ha hm ham hb hn)
      have := give_free hch1 ha hm has l3 r2
      rw [hap] at this
      exact this
    · refine give_to hok hs ?_ (give_11 base g i t n c s A l a m w d hcnt l1 l2 r1 r2 hl ha hm ham hb hn)
      have := give_free hch1 ha hm has l3 r3
      rw [hap] at this
      exact this
    · refine give_to hok hs ?_ (give_12 base g i t n c s A l a m w d hcnt l1 l2 r1 r2 hl ha hm ham hb hn)
      have e := drop_next (gth_get (by omega : i < l.length))
      rw [e] at hch1 hap
      have := give_right hch1 ha hm l3 r2.symm
      rw [hap] at this
      exact this
  · have et : l.take i = l.take t ++ [gth l t] := by rw [l1]; exact take_next (gth_get (by omega))
    rw [et] at hch1 hap
    rcases hR with ⟨r1, r2⟩ | ⟨r1, r2, r3⟩ | ⟨r1, r2⟩
    · refine give_to hok hs ?_ (give_20 base g i t n c s A l a m w d hcnt l1 l2 r1 hl ha hm ham hb hn)
      have := give_left hch1 ha hm has l2 r2
      rw [hap, Int.add_comm (gth l t).m m] at this
      exact this
    · refine give_to hok hs ?_ (give_21 base g i t n c s A l a m w d hcnt l1 l2 r1 r2 hl ha hm ham hb hn)
      have := give_left hch1 ha hm has l2 r3
      rw [hap, Int.add_comm (gth l t).m m] at this
      exact this
    · refine give_to hok hs ?_ (give_22 base g i t n c s A l a m w d hcnt l1 l2 r1 r2 hl ha hm ham hb hn)
      have e := drop_next (gth_get (by omega : i < l.length))
      rw [e] at hch1 hap
      have := give_both hch1 ha hm l2 r2.symm
      rw [hap, Int.add_comm (gth l t).m m] at this
      exact this
theorem perform28 (base g n c : Nat) (s : Int) (A : Option Addr) (l : List Gp) (o : Sp) (w : World) (d : RD w base g s A n c l) (hok : okRow s l = true) (hb : base ≤ w.heap.size) :
    Calls Try.prog 28 #[.pointer (some ⟨g, 0, none⟩), sval o] w (PF base g s l o w) := by
  obtain ⟨k, a, m⟩ := o
  unfold sval
  by_cases hc : cerr s ⟨k, a, m⟩ = 0
  · rcases (cerr_ok hc).1 with h | h | h
    · simp only at h; subst h; exact perf_1 base g n c s A l a m w d hok hb hc
    · simp only at h; subst h; exact perf_2 base g n c s A l a m w d hok hb hc
    · simp only at h; subst h; exact perf_3 base g n c s A l a m w d hok hb hc fun x dx hx => give39_pf base g n c s A l a m x dx hok hc hx
  · exact perf_err base g n c s A l k a m w d hok hb hc
end Go.Proofs.Ytkhcaobmohppnaa.Spc
