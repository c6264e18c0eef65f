/-
  What is wrong with an operation; which gap is chosen; how many gaps lie ahead: the program's own.
-/
import Derived.Test.YtkhcaobmohppnaaDDev
namespace Go.Proofs.Ytkhcaobmohppnaa.Spc
open Go.ChangeShapes Go.WideShapes Go.ChangeAt Go.RowKit Words Go.Sort
set_option linter.unusedVariables false

/-- Which gap is chosen, by its place. -/
def Pick (o : Sp) (l : List Gp) (v : Int) : Prop := (∃ i : Nat, v = i ∧ i < l.length ∧ pk o l = ((gth l i).a, (gth l i).m) ∧ o.m ≤ (gth l i).m) ∨ (v = -1 ∧ pk o l = (-1, 0))
theorem pick_zero (o : Sp) (l : List Gp) : Pick o (l.take 0) (-1) := .inr ⟨rfl, rfl⟩
theorem gth_take {l : List Gp} {i k : Nat} (h : i < k) : gth (l.take k) i = gth l i := by
  unfold gth
  rw [List.getD_eq_getElem?_getD, List.getD_eq_getElem?_getD, List.getElem?_take_of_lt h]
theorem Pick.next {o : Sp} {l : List Gp} {k : Nat} {v : Int} (h : Pick o (l.take k) v) (hk : k < l.length) (hn : ¬ (o.m ≤ (gth l k).m ∧ (v = -1 ∨ ∃ i : Nat, v = i ∧ o.k = 2 ∧ (gth l k).m < (gth l i).m))) (ha : ∀ g ∈ l, 0 ≤ g.a) (hv : o.m ≤ (gth l k).m → v ≠ -1) (h2 : ∀ i : Nat, v = i → o.m ≤ (gth l k).m → o.k = 2 → ¬ (gth l k).m < (gth l i).m) : Pick o (l.take (k + 1)) v := by
  have hp := pk_next (o := o) (gth_get hk)
  rcases h with ⟨i, hvi, hi, he, hm⟩ | ⟨hvi, he⟩
  · rw [List.length_take] at hi
    have hik : i < k := by omega
    rw [gth_take hik] at he hm
    refine .inl ⟨i, hvi, by rw [List.length_take]; omega, ?_, by rw [gth_take (by omega)]; exact hm⟩
    rw [gth_take (by omega), hp, he]
    refine pkS_no fun ⟨c1, c2⟩ => ?_
    have h0 := ha _ (List.mem_of_getElem? (gth_get (l := l) (k := i) (by omega)))
    rcases c2 with c2 | ⟨c2, c3⟩
    · simp at c2; omega
    · exact h2 i hvi c1 c2 c3
  · refine .inr ⟨hvi, ?_⟩
    rw [hp, he]
    exact pkS_no fun ⟨c1, _⟩ => hv c1 hvi
theorem Pick.here {o : Sp} {l : List Gp} {k : Nat} {v : Int} (h : Pick o (l.take k) v) (hk : k < l.length) (hm : o.m ≤ (gth l k).m) (hc : v = -1 ∨ ∃ i : Nat, v = i ∧ o.k = 2 ∧ (gth l k).m < (gth l i).m) : Pick o (l.take (k + 1)) k := by
  have hp := pk_next (o := o) (gth_get hk)
  refine .inl ⟨k, rfl, by rw [List.length_take]; omega, ?_, by rw [gth_take (by omega)]; exact hm⟩
  rw [gth_take (by omega), hp]
  rcases h with ⟨i, hvi, hi, he, _⟩ | ⟨hvi, he⟩
  · rw [List.length_take] at hi
    rw [gth_take (by omega)] at he
    rw [he]
    refine pkS_yes hm (.inr ?_)
    rcases hc with hc | ⟨j, hj, h2, h3⟩
    · omega
    · obtain rfl : j = i := by omega
      exact ⟨h2, h3⟩
  · rw [he]
    exact pkS_yes hm (.inl (by decide))
/-- The first one found is the one. -/
theorem Pick.first {o : Sp} {l : List Gp} {k : Nat} (ho : o.k = 1) (h : Pick o (l.take (k + 1)) k) (hk : k < l.length) (ha : ∀ g ∈ l, 0 ≤ g.a) : Pick o l k := by
  rcases h with ⟨i, hvi, hi, he, hm⟩ | ⟨hvi, _⟩
  · obtain rfl : i = k := by omega
    rw [gth_take (by omega)] at he hm
    refine .inl ⟨i, rfl, hk, ?_, hm⟩
    have e : pk o l = (l.drop (i + 1)).foldl (pkS o) (pk o (l.take (i + 1))) := by
      unfold pk
      rw [← List.foldl_append, List.take_append_drop]
    rw [e, he]
    exact pk1_stay ho (by show 0 ≤ (gth l i).a; exact ha _ (List.mem_of_getElem? (gth_get hk)))
  · omega
theorem Pick.whole {o : Sp} {l : List Gp} {n : Nat} {v : Int} (h : Pick o (l.take n) v) (hn : l.length = n) : Pick o l v := by
  rwa [List.take_of_length_le (by omega)] at h
theorem Pick.low {o : Sp} {l : List Gp} {v : Int} (h : Pick o l v) : v = -1 ∨ ∃ i : Nat, v = i ∧ i < l.length := by
  rcases h with ⟨i, hvi, hi, _⟩ | ⟨hvi, _⟩
  · exact .inr ⟨i, hvi, hi⟩
  · exact .inl hvi
set_option maxHeartbeats 4000000 in
theorem first37 (base g n c : Nat) (s : Int) (A : Option Addr) (l : List Gp) (o : Sp) (w : World) (d : RD w base g s A n c l) (ho : o.k = 1) (ha : ∀ g ∈ l, 0 ≤ g.a) :
    Calls Try.prog 37 #[.pointer (some ⟨g, 0, none⟩), .int .i64 o.m] w fun e w' => ∃ v, e = .returned (.int .i64 v) ∧ Pick o l v ∧ Below w.heap.size w w' := by
  have HN := d.row.gps.small
  have HL := Lib.hid d.row.len
  have H := Lib.hid d.row.gps
  have b0 : Below w.heap.size w w := Below.refl _ _
  have B0 := Lib.hid b0
  have c0 := d.gaps
  have HA := Lib.hid ha
  have HO := Lib.hid ho
  obtain ⟨m, hm⟩ : ∃ m, m = o.m := ⟨_, rfl⟩
  have HM := Lib.hid hm
  rw [← hm]
  clear b0 d ha ho hm
  go_enter Try.func37, Try.ntmps37
  go_wp2_with fail
  go_loopw [12] (fun i wr => ∃ (k : Nat), i = .int .i64 k ∧ k ≤ n ∧ Below w.heap.size w wr ∧ Pick o (l.take k) (-1)) (fun i _ => (n - intOf i).toNat)
  case atStart => exact ⟨0, rfl, by omega, B0.out, pick_zero o l⟩
  case round =>
    obtain ⟨k, rfl, hk, hbel, hp⟩ := hrel
    have BW := Lib.hid hbel
    have PP := Lib.hid hp
    clear hbel hp
    by_cases hlt : k < n
    · obtain ⟨g', o', rfl, _, _⟩ := Words.Rd.row H.out (by omega)
      have HK : Hid (k < l.length) := Lib.hid (by rw [HL.out]; exact hlt)
      obtain ⟨c1, c2⟩ := Gps.cells (Words.Rd.below H.out BW.out (Nat.le_refl _)) rfl (gth_get HK.out)
      have NX := Lib.hid (fun (h : ¬ m ≤ (gth l k).m) => Pick.next PP.out HK.out (fun hc => h (by rw [HM.out]; exact hc.1)) HA.out (fun hc => absurd (by rw [HM.out]; exact hc) h) (fun i hi hc => absurd (by rw [HM.out]; exact hc) h))
      have HR := Lib.hid (fun (h : m ≤ (gth l k).m) => Pick.first HO.out (Pick.here PP.out HK.out (by rw [← HM.out]; exact h) (.inl rfl)) HK.out HA.out)
      obtain ⟨⟨xa, xm⟩, hx⟩ : ∃ x, x = gth l k := ⟨_, rfl⟩
      rw [← hx] at c1 c2 NX HR
      simp only at c1 c2 NX HR
      have BX := Lib.hid (BW.out.alloc BW.out.size (.cells #[.int .i64 xa, .int .i64 xm] 36))
      clear hx
      by_cases hc : m ≤ xm
      · have H1 := Lib.hid (HR.out hc)
        go_wp2_with fail
        go_ret
        exact ⟨_, rfl, H1.out, BX.out⟩
      · have H1 := Lib.hid (NX.out hc)
        go_wp2_with fail
        go_roundw
        case rel => exact ⟨k + 1, by go_num, by omega, BX.out, H1.out⟩
        case measure => simp [intOf]; omega
    · obtain rfl : k = n := by omega
      have H1 := Lib.hid (PP.out.whole HL.out)
      go_wp2_with fail
      go_ret
      exact ⟨_, rfl, H1.out, BW.out⟩
/-- How many gaps end at a block or ahead of it. -/
def Cnt (l : List Gp) (a : Int) (i : Nat) : Prop := i ≤ l.length ∧ (∀ j, j < i → (gth l j).a + (gth l j).m ≤ a) ∧ (i < l.length → a < (gth l i).a + (gth l i).m)
set_option maxHeartbeats 4000000 in
theorem before41 (base g n c : Nat) (s : Int) (A : Option Addr) (l : List Gp) (a : Int) (w : World) (d : RD w base g s A n c l) (ha : ∀ g ∈ l, IntKind.i64.wrap (g.a + g.m) = g.a + g.m) :
    Calls Try.prog 41 #[.pointer (some ⟨g, 0, none⟩), .int .i64 a] w fun e w' => ∃ v : Nat, e = .returned (.int .i64 v) ∧ Cnt l a v ∧ Below w.heap.size w w' := by
  have HN := d.row.gps.small
  have HL := Lib.hid d.row.len
  have H := Lib.hid d.row.gps
  have b0 : Below w.heap.size w w := Below.refl _ _
  have B0 := Lib.hid b0
  have c0 := d.gaps
  have HA := Lib.hid ha
  have HD := Lib.hid d
  clear b0 d ha
  go_enter Try.func41, Try.ntmps41
  go_wp2_with fail
  go_loopw [12] (fun i wr => ∃ (k : Nat), i = .int .i64 k ∧ k ≤ n ∧ Below w.heap.size w wr ∧ ∀ j, j < k → (gth l j).a + (gth l j).m ≤ a) (fun i _ => (n - intOf i).toNat)
  case atStart => exact ⟨0, rfl, by omega, B0.out, fun j hj => absurd hj (by omega)⟩
  case round =>
    obtain ⟨k, rfl, hk, hbel, hp⟩ := hrel
    have BW := Lib.hid hbel
    have PP := Lib.hid hp
    clear hbel hp
    by_cases hlt : k < n
    · obtain ⟨g', o', rfl, _, _⟩ := Words.Rd.row H.out (by omega)
      have HK : Hid (k < l.length) := Lib.hid (by rw [HL.out]; exact hlt)
      obtain ⟨c1, c2⟩ := Gps.cells (Words.Rd.below H.out BW.out (Nat.le_refl _)) rfl (gth_get HK.out)
      have HE := Lib.hid (fun w => end31 (gth l k) w (HA.out _ (List.mem_of_getElem? (gth_get HK.out))))
      have HR := Lib.hid (fun (h : a < (gth l k).a + (gth l k).m) => show Cnt l a k from ⟨Nat.le_of_lt HK.out, PP.out, fun _ => h⟩)
      have NX := Lib.hid (fun (h : ¬ a < (gth l k).a + (gth l k).m) => show ∀ j, j < k + 1 → (gth l j).a + (gth l j).m ≤ a from fun j hj => by
        by_cases hjk : j = k
        · subst hjk; omega
        · exact PP.out j (by omega))
      obtain ⟨⟨xa, xm⟩, hx⟩ : ∃ x, x = gth l k := ⟨_, rfl⟩
      rw [← hx] at c1 c2 NX HR HE
      unfold gval at HE
      simp only at c1 c2 NX HR HE
      have BX := Lib.hid (BW.out.alloc BW.out.size (.cells #[.int .i64 xa, .int .i64 xm] 36))
      clear hx
      go_wp2_with fail
      refine (HE.out _).mono ?_; rintro e w3 ⟨rfl, L3⟩
      have B3 := Lib.hid (BX.out.trans (L3.below.mono BX.out.size))
      clear L3
      by_cases hc : a < xa + xm
      · have H1 := Lib.hid (HR.out hc)
        go_wp2_with fail
        go_ret
        exact ⟨_, rfl, H1.out, B3.out⟩
      · have H1 := Lib.hid (NX.out (by omega))
        go_wp2_with fail
        go_roundw
        case rel => exact ⟨k + 1, by go_num, by omega, B3.out, H1.out⟩
        case measure => simp [intOf]; omega
    · obtain rfl : k = n := by omega
      have H1 : Hid (Cnt l a k) := Lib.hid ⟨by rw [HL.out]; exact Nat.le_refl _, PP.out, fun h => absurd h (by rw [HL.out]; omega)⟩
      have c3 := (HD.out.below BW.out).gaps
      go_wp2_with fail
      go_ret
      exact ⟨_, rfl, H1.out, BW.out⟩
end Go.Proofs.Ytkhcaobmohppnaa.Spc
