/-
  What slices.ContainsFunc says with each of the tests that the laws hand to it.
-/
import Derived.Test.YtkhcaobmohppnaaSCon
namespace Go.Proofs.Ytkhcaobmohppnaa.Spc
open Go.ChangeShapes Go.WideShapes Go.ChangeAt Go.RowKit Words Go.Sort
set_option linter.unusedVariables false

/-- The index is one, or -1; nothing that was there has changed. -/
def IdxB (b : Bool) (w : World) (e : Ending) (w' : World) : Prop := ∃ r : Int, e = .returned (.int .i64 r) ∧ decide (0 ≤ r) = b ∧ Below w.heap.size w w'
theorem back19 (x : Gp) (g1 g2 : Nat) (a m : Int) (w : World) (h1 : w.cell? ⟨g1, 1, none⟩ = some (.int .i64 a)) (h2 : w.cell? ⟨g2, 0, none⟩ = some (.int .i64 m)) (hw : IntKind.i64.wrap (a + m) = a + m) (hx : IntKind.i64.wrap (x.a + x.m) = x.a + x.m) :
    Calls Try.prog 19 #[gval x, .pointer (some ⟨g1, 0, none⟩), .pointer (some ⟨g2, 0, none⟩)] w fun e w' => e = .returned (.bool (decide (x.a ≤ a) && decide (a + m ≤ x.a + x.m))) ∧ Below w.heap.size w w' := by
  obtain ⟨xa, xm⟩ := x
  unfold gval
  simp only at hx ⊢
  have hg1 : g1 < w.heap.size := World.block_lt_of_cell? w ⟨g1, 1, none⟩ h1
  have hg2 : g2 < w.heap.size := World.block_lt_of_cell? w ⟨g2, 0, none⟩ h2
  have k1 : (w.alloc (.cells #[.int .i64 xa, .int .i64 xm] 36)).cell? ⟨g1, 1, none⟩ = some (.int .i64 a) := (World.cell?_alloc_lt w _ _ hg1).trans h1
  have k2 : (w.alloc (.cells #[.int .i64 xa, .int .i64 xm] 36)).cell? ⟨g2, 0, none⟩ = some (.int .i64 m) := (World.cell?_alloc_lt w _ _ hg2).trans h2
  have BB := Lib.hid (boxed w (.cells #[.int .i64 xa, .int .i64 xm] 36))
  go_enter Try.func19, Try.ntmps19
  by_cases t1 : xa ≤ a
  · by_cases t2 : a + m ≤ xa + xm
    · have HV : Hid ((decide (xa ≤ a) && decide (a + m ≤ xa + xm)) = true) := Lib.hid (by simp [t1, t2])
      go_wp2_with fail
      go_ret
      exact ⟨ret_bool HV.out.symm, BB.out⟩
    · have HV : Hid (decide (a + m ≤ xa + xm) = false) := Lib.hid (by simp [t2])
      go_wp2_with fail
      go_ret
      exact ⟨ret_bool HV.out.symm, BB.out⟩
  · have HV : Hid ((decide (xa ≤ a) && decide (a + m ≤ xa + xm)) = false) := Lib.hid (by simp [t1])
    go_wp2_with fail
    go_ret
    exact ⟨ret_bool HV.out.symm, BB.out⟩
theorem full21 (x : Gp) (g : Nat) (m : Int) (w : World) (h1 : w.cell? ⟨g, 0, none⟩ = some (.int .i64 m)) :
    Calls Try.prog 21 #[gval x, .pointer (some ⟨g, 0, none⟩)] w fun e w' => e = .returned (.bool (decide (m ≤ x.m))) ∧ Below w.heap.size w w' := by
  obtain ⟨xa, xm⟩ := x
  unfold gval
  simp only
  have hg1 : g < w.heap.size := World.block_lt_of_cell? w ⟨g, 0, none⟩ h1
  have k1 : (w.alloc (.cells #[.int .i64 xa, .int .i64 xm] 36)).cell? ⟨g, 0, none⟩ = some (.int .i64 m) := (World.cell?_alloc_lt w _ _ hg1).trans h1
  have BB := Lib.hid (boxed w (.cells #[.int .i64 xa, .int .i64 xm] 36))
  go_enter Try.func21, Try.ntmps21
  go_wp2_with fail
  go_ret
  exact ⟨rfl, BB.out⟩
theorem order24 (x : An) (w : World) : Calls Try.prog 24 #[aval x.e x.a] w fun e w' => e = .returned (.bool (x.e != 0)) ∧ Below w.heap.size w w' := by
  obtain ⟨xe, xa⟩ := x
  unfold aval
  simp only
  have BB := Lib.hid (boxed w (.cells #[.int .i64 xe, .int .i64 xa] 27))
  go_enter Try.func24, Try.ntmps24
  go_wp2_with fail
  go_ret
  exact ⟨rfl, BB.out⟩
theorem index33_back (g1 g2 : Nat) (p : Gp → Bool) (B : Nat) (A : Option Addr) (n c : Nat) (l : List Gp) (w : World) (h : Gps w B A n c l) (hB : B ≤ w.heap.size)
    (HC : ∀ (x : Gp) (wr : World), x ∈ l → Below w.heap.size w wr → Calls Try.prog 19 #[gval x, .pointer (some ⟨g1, 0, none⟩), .pointer (some ⟨g2, 0, none⟩)] wr fun e w' => e = .returned (.bool (p x)) ∧ Below wr.heap.size wr w') :
    Calls Try.prog 33 #[.slice A n c, .func (.func 19) #[] #[.pointer (some ⟨g1, 0, none⟩), .pointer (some ⟨g2, 0, none⟩)]] w (IdxB (l.any p) w) := by
  have hm := Rd.small h
  have H := Lib.hid h
  have L := Lib.hid h.len
  have HC := Lib.hid HC
  clear h
  go_enter Try.func33, Try.ntmps33
  go_wp2_with fail
  go_loopw [8] (fun i wr => ∃ k : Nat, k ≤ n ∧ i = .int .i64 k ∧ (l.take k).any p = false ∧ Below w.heap.size w wr) (fun i _ => (n - intOf i).toNat)
  case atStart => exact ⟨0, by omega, rfl, rfl, Below.refl _ _⟩
  case round =>
    obtain ⟨k, hk, rfl, hinv, hbel⟩ := hrel
    have HI := Lib.hid hinv
    have HB := Lib.hid hbel
    clear hinv hbel
    by_cases hlt : k < n
    · obtain ⟨g, o, rfl, _, _⟩ := Words.Rd.row H.out (by omega)
      obtain ⟨x, hx⟩ : ∃ x, l[k]? = some x := ⟨_, List.getElem?_eq_getElem (by rw [L.out]; exact hlt)⟩
      obtain ⟨c0, c1⟩ := Gps.cells (Words.Rd.below H.out HB.out hB) rfl hx
      have HX := Lib.hid hx
      have HD := HC.out x wr (List.mem_of_getElem? hx) HB.out
      unfold gval at HD
      clear hx
      cases hz : p x with
      | false =>
        rw [hz] at HD
        have HD := Lib.hid HD
        have HZ := Lib.hid hz
        clear hz
        go_wp2_with fail
        refine (HD.out).mono ?_; rintro e w' ⟨rfl, hb⟩
        have HB2 := Lib.hid (HB.out.trans (hb.mono HB.out.size))
        clear hb c0 c1
        go_wp2_with fail
        go_roundw
        case rel => exact ⟨k + 1, by omega, by go_num, by rw [List.take_add_one, HX.out, List.any_append, HI.out]; simp only [Bool.false_or, Option.toList, List.any_cons, List.any_nil, Bool.or_false]; exact HZ.out, HB2.out⟩
        case measure => simp [intOf]; omega
      | true =>
        rw [hz] at HD
        have HD := Lib.hid HD
        have HZ := Lib.hid hz
        clear hz
        go_wp2_with fail
        refine (HD.out).mono ?_; rintro e w' ⟨rfl, hb⟩
        have HB2 := Lib.hid (HB.out.trans (hb.mono HB.out.size))
        clear hb c0 c1
        go_wp2_with fail
        go_ret
        refine ⟨_, rfl, ?_, HB2.out⟩
        rw [List.any_eq_true.2 ⟨x, List.mem_iff_getElem?.2 ⟨k, HX.out⟩, HZ.out⟩, decide_eq_true_iff]
        omega
    · obtain rfl : k = n := by omega
      go_wp2_with fail
      go_ret
      refine ⟨_, rfl, ?_, HB.out⟩
      have h := HI.out
      rw [List.take_of_length_le (by rw [L.out]; omega)] at h
      rw [h]
      rfl
theorem contains18_back (g1 g2 : Nat) (p : Gp → Bool) (B : Nat) (A : Option Addr) (n c : Nat) (l : List Gp) (w : World) (h : Gps w B A n c l) (hB : B ≤ w.heap.size)
    (HC : ∀ (x : Gp) (wr : World), x ∈ l → Below w.heap.size w wr → Calls Try.prog 19 #[gval x, .pointer (some ⟨g1, 0, none⟩), .pointer (some ⟨g2, 0, none⟩)] wr fun e w' => e = .returned (.bool (p x)) ∧ Below wr.heap.size wr w') :
    Calls Try.prog 18 #[.slice A n c, .func (.func 19) #[] #[.pointer (some ⟨g1, 0, none⟩), .pointer (some ⟨g2, 0, none⟩)]] w fun e w' => e = .returned (.bool (l.any p)) ∧ Below w.heap.size w w' := by
  have HC := Lib.hid (index33_back g1 g2 p B A n c l w h hB HC)
  clear h
  go_enter Try.func18, Try.ntmps18
  go_wp2_with fail
  refine (HC.out).mono ?_; rintro e w' ⟨r, rfl, hr, hb⟩
  have HR := Lib.hid hr
  have HB := Lib.hid hb
  clear hr hb
  go_wp2_with fail
  go_ret
  exact ⟨ret_bool HR.out, HB.out⟩
theorem index33_full (g1 : Nat) (p : Gp → Bool) (B : Nat) (A : Option Addr) (n c : Nat) (l : List Gp) (w : World) (h : Gps w B A n c l) (hB : B ≤ w.heap.size)
    (HC : ∀ (x : Gp) (wr : World), x ∈ l → Below w.heap.size w wr → Calls Try.prog 21 #[gval x, .pointer (some ⟨g1, 0, none⟩)] wr fun e w' => e = .returned (.bool (p x)) ∧ Below wr.heap.size wr w') :
    Calls Try.prog 33 #[.slice A n c, .func (.func 21) #[] #[.pointer (some ⟨g1, 0, none⟩)]] w (IdxB (l.any p) w) := by
  have hm := Rd.small h
  have H := Lib.hid h
  have L := Lib.hid h.len
  have HC := Lib.hid HC
  clear h
  go_enter Try.func33, Try.ntmps33
  go_wp2_with fail
  go_loopw [8] (fun i wr => ∃ k : Nat, k ≤ n ∧ i = .int .i64 k ∧ (l.take k).any p = false ∧ Below w.heap.size w wr) (fun i _ => (n - intOf i).toNat)
  case atStart => exact ⟨0, by omega, rfl, rfl, Below.refl _ _⟩
  case round =>
    obtain ⟨k, hk, rfl, hinv, hbel⟩ := hrel
    have HI := Lib.hid hinv
    have HB := Lib.hid hbel
    clear hinv hbel
    by_cases hlt : k < n
    · obtain ⟨g, o, rfl, _, _⟩ := Words.Rd.row H.out (by omega)
      obtain ⟨x, hx⟩ : ∃ x, l[k]? = some x := ⟨_, List.getElem?_eq_getElem (by rw [L.out]; exact hlt)⟩
      obtain ⟨c0, c1⟩ := Gps.cells (Words.Rd.below H.out HB.out hB) rfl hx
      have HX := Lib.hid hx
      have HD := HC.out x wr (List.mem_of_getElem? hx) HB.out
      unfold gval at HD
      clear hx
      cases hz : p x with
      | false =>
        rw [hz] at HD
        have HD := Lib.hid HD
        have HZ := Lib.hid hz
        clear hz
        go_wp2_with fail
        refine (HD.out).mono ?_; rintro e w' ⟨rfl, hb⟩
        have HB2 := Lib.hid (HB.out.trans (hb.mono HB.out.size))
        clear hb c0 c1
        go_wp2_with fail
        go_roundw
        case rel => exact ⟨k + 1, by omega, by go_num, by rw [List.take_add_one, HX.out, List.any_append, HI.out]; simp only [Bool.false_or, Option.toList, List.any_cons, List.any_nil, Bool.or_false]; exact HZ.out, HB2.out⟩
        case measure => simp [intOf]; omega
      | true =>
        rw [hz] at HD
        have HD := Lib.hid HD
        have HZ := Lib.hid hz
        clear hz
        go_wp2_with fail
        refine (HD.out).mono ?_; rintro e w' ⟨rfl, hb⟩
        have HB2 := Lib.hid (HB.out.trans (hb.mono HB.out.size))
        clear hb c0 c1
        go_wp2_with fail
        go_ret
        refine ⟨_, rfl, ?_, HB2.out⟩
        rw [List.any_eq_true.2 ⟨x, List.mem_iff_getElem?.2 ⟨k, HX.out⟩, HZ.out⟩, decide_eq_true_iff]
        omega
    · obtain rfl : k = n := by omega
      go_wp2_with fail
      go_ret
      refine ⟨_, rfl, ?_, HB.out⟩
      have h := HI.out
      rw [List.take_of_length_le (by rw [L.out]; omega)] at h
      rw [h]
      rfl
theorem contains18_full (g1 : Nat) (p : Gp → Bool) (B : Nat) (A : Option Addr) (n c : Nat) (l : List Gp) (w : World) (h : Gps w B A n c l) (hB : B ≤ w.heap.size)
    (HC : ∀ (x : Gp) (wr : World), x ∈ l → Below w.heap.size w wr → Calls Try.prog 21 #[gval x, .pointer (some ⟨g1, 0, none⟩)] wr fun e w' => e = .returned (.bool (p x)) ∧ Below wr.heap.size wr w') :
    Calls Try.prog 18 #[.slice A n c, .func (.func 21) #[] #[.pointer (some ⟨g1, 0, none⟩)]] w fun e w' => e = .returned (.bool (l.any p)) ∧ Below w.heap.size w w' := by
  have HC := Lib.hid (index33_full g1 p B A n c l w h hB HC)
  clear h
  go_enter Try.func18, Try.ntmps18
  go_wp2_with fail
  refine (HC.out).mono ?_; rintro e w' ⟨r, rfl, hr, hb⟩
  have HR := Lib.hid hr
  have HB := Lib.hid hb
  clear hr hb
  go_wp2_with fail
  go_ret
  exact ⟨ret_bool HR.out, HB.out⟩
theorem index34_order (p : An → Bool) (B : Nat) (A : Option Addr) (n c : Nat) (l : List An) (w : World) (h : Ans w B A n c l) (hB : B ≤ w.heap.size)
    (HC : ∀ (x : An) (wr : World), x ∈ l → Below w.heap.size w wr → Calls Try.prog 24 #[aval x.e x.a] wr fun e w' => e = .returned (.bool (p x)) ∧ Below wr.heap.size wr w') :
    Calls Try.prog 34 #[.slice A n c, .func (.func 24) #[] #[]] w (IdxB (l.any p) w) := by
  have hm := Rd.small h
  have H := Lib.hid h
  have L := Lib.hid h.len
  have HC := Lib.hid HC
  clear h
  go_enter Try.func34, Try.ntmps34
  go_wp2_with fail
  go_loopw [8] (fun i wr => ∃ k : Nat, k ≤ n ∧ i = .int .i64 k ∧ (l.take k).any p = false ∧ Below w.heap.size w wr) (fun i _ => (n - intOf i).toNat)
  case atStart => exact ⟨0, by omega, rfl, rfl, Below.refl _ _⟩
  case round =>
    obtain ⟨k, hk, rfl, hinv, hbel⟩ := hrel
    have HI := Lib.hid hinv
    have HB := Lib.hid hbel
    clear hinv hbel
    by_cases hlt : k < n
    · obtain ⟨g, o, rfl, _, _⟩ := Words.Rd.row H.out (by omega)
      obtain ⟨x, hx⟩ : ∃ x, l[k]? = some x := ⟨_, List.getElem?_eq_getElem (by rw [L.out]; exact hlt)⟩
      obtain ⟨c0, c1⟩ := Ans.cells (Words.Rd.below H.out HB.out hB) rfl hx
      have HX := Lib.hid hx
      have HD := HC.out x wr (List.mem_of_getElem? hx) HB.out
      unfold aval at HD
      clear hx
      cases hz : p x with
      | false =>
        rw [hz] at HD
        have HD := Lib.hid HD
        have HZ := Lib.hid hz
        clear hz
        go_wp2_with fail
        refine (HD.out).mono ?_; rintro e w' ⟨rfl, hb⟩
        have HB2 := Lib.hid (HB.out.trans (hb.mono HB.out.size))
        clear hb c0 c1
        go_wp2_with fail
        go_roundw
        case rel => exact ⟨k + 1, by omega, by go_num, by rw [List.take_add_one, HX.out, List.any_append, HI.out]; simp only [Bool.false_or, Option.toList, List.any_cons, List.any_nil, Bool.or_false]; exact HZ.out, HB2.out⟩
        case measure => simp [intOf]; omega
      | true =>
        rw [hz] at HD
        have HD := Lib.hid HD
        have HZ := Lib.hid hz
        clear hz
        go_wp2_with fail
        refine (HD.out).mono ?_; rintro e w' ⟨rfl, hb⟩
        have HB2 := Lib.hid (HB.out.trans (hb.mono HB.out.size))
        clear hb c0 c1
        go_wp2_with fail
        go_ret
        refine ⟨_, rfl, ?_, HB2.out⟩
        rw [List.any_eq_true.2 ⟨x, List.mem_iff_getElem?.2 ⟨k, HX.out⟩, HZ.out⟩, decide_eq_true_iff]
        omega
    · obtain rfl : k = n := by omega
      go_wp2_with fail
      go_ret
      refine ⟨_, rfl, ?_, HB.out⟩
      have h := HI.out
      rw [List.take_of_length_le (by rw [L.out]; omega)] at h
      rw [h]
      rfl
theorem contains23_order (p : An → Bool) (B : Nat) (A : Option Addr) (n c : Nat) (l : List An) (w : World) (h : Ans w B A n c l) (hB : B ≤ w.heap.size)
    (HC : ∀ (x : An) (wr : World), x ∈ l → Below w.heap.size w wr → Calls Try.prog 24 #[aval x.e x.a] wr fun e w' => e = .returned (.bool (p x)) ∧ Below wr.heap.size wr w') :
    Calls Try.prog 23 #[.slice A n c, .func (.func 24) #[] #[]] w fun e w' => e = .returned (.bool (l.any p)) ∧ Below w.heap.size w w' := by
  have HC := Lib.hid (index34_order  p B A n c l w h hB HC)
  clear h
  go_enter Try.func23, Try.ntmps23
  go_wp2_with fail
  refine (HC.out).mono ?_; rintro e w' ⟨r, rfl, hr, hb⟩
  have HR := Lib.hid hr
  have HB := Lib.hid hb
  clear hr hb
  go_wp2_with fail
  go_ret
  exact ⟨ret_bool HR.out, HB.out⟩
end Go.Proofs.Ytkhcaobmohppnaa.Spc
