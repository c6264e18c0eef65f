/-
  The document's own row of blocks, and its gaps.
-/
import Derived.Test.YtkhcaobmohppnaaSMem
namespace Go.Proofs.Ytkhcaobmohppnaa.Spc
open Go.ChangeShapes Go.WideShapes Go.ChangeAt Go.RowKit Words Go.Sort
set_option linter.unusedVariables false

def okRow (s : Int) (l : List Gp) : Bool := decide (0 ≤ s) && decide (s ≤ 4096) && va s l
def rowOf (l : List Gp) (n : Nat) : List Bool := (List.range n).map fun k : Nat => mem l (k : Int)
theorem rowOf_length (l : List Gp) (n : Nat) : (rowOf l n).length = n := by unfold rowOf; simp
theorem at_rowOf {l : List Gp} {n x : Nat} (h : x < n) : at_ (rowOf l n) x = mem l x := at_get (by unfold rowOf; rw [List.getElem?_map, List.getElem?_range h]; rfl)
theorem row_ext {a b : List Bool} (hl : a.length = b.length) (h : ∀ x, x < a.length → at_ a x = at_ b x) : a = b := by
  apply List.ext_getElem?
  intro j
  by_cases hj : j < a.length
  · rw [get_at hj, get_at (by omega), h j hj]
  · rw [List.getElem?_eq_none (by omega), List.getElem?_eq_none (by omega)]
/-- What the outer loop keeps of the row. -/
def RI (row : List Bool) (n : Nat) (l : List Gp) : Prop := row.length = n ∧ ∀ x : Nat, x < n → at_ row x = mem l x
/-- .. and the inner one. -/
def RJ (row : List Bool) (n : Nat) (l : List Gp) (g : Gp) (j : Nat) : Prop := row.length = n ∧ ∀ x : Nat, x < n → at_ row x = (mem l x || inG ⟨g.a, j⟩ x)
theorem ri_start (n : Nat) : RI (List.replicate n false) n [] := ⟨List.length_replicate, fun x hx => by rw [at_replicate]; simp [mem_nil]⟩
theorem RI.inner {row : List Bool} {n : Nat} {l : List Gp} (h : RI row n l) (g : Gp) : RJ row n l g 0 := ⟨h.1, fun x hx => by
  rw [h.2 x hx, inG_no.2 (by simp), Bool.or_false]⟩
theorem RJ.next {row : List Bool} {n : Nat} {l : List Gp} {g : Gp} {j k : Nat} (h : RJ row n l g j) (hk : (k : Int) = g.a + j) (hkn : k < n) : RJ (row.set k true) n l g (j + 1) := by
  refine ⟨by rw [List.length_set]; exact h.1, fun x hx => ?_⟩
  rw [at_set (by rw [h.1]; exact hkn)]
  by_cases hxk : x = k
  · subst hxk
    rw [if_pos rfl, inG_yes.2 ⟨by show g.a ≤ _; omega, by show _ < g.a + ((j + 1 : Nat) : Int); omega⟩, Bool.or_true]
  · rw [if_neg hxk, h.2 x hx]
    congr 1
    rw [Bool.eq_iff_iff, inG_yes, inG_yes]
    simp
    omega
theorem RJ.done {row : List Bool} {n : Nat} {l : List Gp} {g : Gp} {j : Nat} (h : RJ row n l g j) (hj : (j : Int) = g.m) : RI row n (l ++ [g]) := ⟨h.1, fun x hx => by
  rw [h.2 x hx, mem_app, hj]
  show _ = (mem l x || (inG g x || false))
  rw [Bool.or_false]⟩
theorem vF_no {s last : Int} {l : List Gp} {k : Nat} {g : Gp} (hg : l[k]? = some g) (h : va s l = vF s last (l.drop k)) (ho : okG s last g = false) : va s l = false := by
  rw [h, drop_next hg]; unfold vF; rw [ho]; rfl
theorem vF_go {s last : Int} {l : List Gp} {k : Nat} {g : Gp} (hg : l[k]? = some g) (h : va s l = vF s last (l.drop k)) (ho : okG s last g = true) : va s l = vF s (g.a + g.m) (l.drop (k + 1)) := by
  rw [h, drop_next hg]
  conv => lhs; unfold vF
  rw [ho]; rfl
def NRowed (w : World) (s : Int) (l : List Gp) (e : Ending) (w' : World) : Prop :=
  Below w.heap.size w w' ∧ ((okRow s l = false ∧ e = .returned (.tuple #[.slice none 0 0, .bool false])) ∨ (okRow s l = true ∧ ∃ g c, e = .returned (.tuple #[.slice (some ⟨g, 0, none⟩) s.toNat c, .bool true]) ∧ OwnB w' w.heap.size (some ⟨g, 0, none⟩) s.toNat c (rowOf l s.toNat)))
theorem NRowed.no {w w' : World} {s : Int} {l : List Gp} {e : Ending} (h : NRowed w s l e w') (ho : okRow s l = false) : e = .returned (.tuple #[.slice none 0 0, .bool false]) ∧ Below w.heap.size w w' := by
  obtain ⟨h1, h2 | h2⟩ := h
  · exact ⟨h2.2, h1⟩
  · rw [ho] at h2; cases h2.1
theorem NRowed.yes {w w' : World} {s : Int} {l : List Gp} {e : Ending} (h : NRowed w s l e w') (ho : okRow s l = true) : (∃ g c, e = .returned (.tuple #[.slice (some ⟨g, 0, none⟩) s.toNat c, .bool true]) ∧ OwnB w' w.heap.size (some ⟨g, 0, none⟩) s.toNat c (rowOf l s.toNat)) ∧ Below w.heap.size w w' := by
  obtain ⟨h1, h2 | h2⟩ := h
  · rw [ho] at h2; cases h2.1
  · exact ⟨h2.2, h1⟩
set_option maxHeartbeats 4000000 in
theorem nrow11 (B : Nat) (A : Option Addr) (n c : Nat) (l : List Gp) (s : Int) (w : World) (h : Gps w B A n c l) (hB : B ≤ w.heap.size) :
    Calls Try.prog 11 #[.int .i64 s, .slice A n c] w (NRowed w s l) := by
  have HN := h.small
  have HL := Lib.hid h.len
  have H := Lib.hid h
  have b0 : Below w.heap.size w w := Below.refl _ _
  have B0 := Lib.hid b0
  clear h b0
  by_cases s1 : s < 0
  · have HF : Hid (okRow s l = false) := Lib.hid (by unfold okRow; rw [decide_eq_false (by omega)]; rfl)
    go_enter Try.func11, Try.ntmps11
    go_wp2_with fail
    go_ret2
    exact ⟨B0.out, .inl ⟨HF.out, rfl⟩⟩
  by_cases s2 : 4096 < s
  · have HF : Hid (okRow s l = false) := Lib.hid (by unfold okRow; rw [decide_eq_false (show ¬ s ≤ 4096 by omega)]; simp)
    go_enter Try.func11, Try.ntmps11
    go_wp2_with fail
    go_ret2
    exact ⟨B0.out, .inl ⟨HF.out, rfl⟩⟩
  obtain ⟨z, rfl⟩ : ∃ z : Nat, s = z := ⟨s.toNat, by omega⟩
  have HOK : Hid (okRow z l = va z l) := Lib.hid (by unfold okRow; rw [decide_eq_true (show (0 : Int) ≤ z by omega), decide_eq_true (show (z : Int) ≤ 4096 by omega)]; rfl)
  have HZ : Hid ((z : Int).toNat = z) := Lib.hid (by omega)
  obtain ⟨i0, hi0, hz0, hz1, hz2⟩ := info_parts info4
  go_enter Try.func11, Try.ntmps11
  go_wp2_with (at_make; refine wpList_make_full _ rfl _ _ 30 rfl w.heap.size 4 i0 _ 1 Try.underlying30 hi0 hz0 hz1 .i64 .i64 _ _ z rfl rfl (by omega) (by omega) (by rw [hz2]; omega) (by simp only [maxLen]; omega) (Nat.le_refl _) ?_
               intro w2 hown2 hg2)
  have B2 : Hid (Below w.heap.size w w2) := Lib.hid ((Below.refl _ _).grown hg2 (Nat.le_refl _) (fun k hk => by cases hk))
  rw [made_bools] at hown2
  have O2 : Hid (OwnB w2 w.heap.size (some ⟨w.heap.size, 0, none⟩) z z (List.replicate z false)) := Lib.hid hown2
  have R2 := Lib.hid (ri_start z)
  have SZ : Hid (w.heap.size < w2.heap.size) := Lib.hid (hown2.lt _ rfl).2
  clear hown2 hg2 hi0 hz0 hz1 hz2
  go_wp2_with fail
  go_loopw [7, 21] (fun lv i wr => ∃ (k : Nat) (last : Int) (row : List Bool), lv = .int .i64 last ∧ i = .int .i64 k ∧ k ≤ n ∧ -1 ≤ last ∧ last ≤ 4096 ∧ va z l = vF z last (l.drop k) ∧ RI row z (l.take k) ∧ OwnB wr w.heap.size (some ⟨w.heap.size, 0, none⟩) z z row ∧ Below w.heap.size w wr) (fun _ i _ => (n - intOf i).toNat)
  case atStart => exact ⟨0, -1, _, rfl, rfl, by omega, by omega, by omega, rfl, R2.out, O2.out, B2.out⟩
  case round =>
    obtain ⟨k, last, row, rfl, rfl, hk, l1, l2, hva, hri, hrow, hbel⟩ := hrel
    have VA := Lib.hid hva
    have RR := Lib.hid hri
    have OR := Lib.hid hrow
    have BR := Lib.hid hbel
    clear hva hri hrow hbel
    by_cases hlt : k < n
    · obtain ⟨g, o, rfl, _, _⟩ := Words.Rd.row H.out (by omega)
      obtain ⟨⟨ga, gm⟩, hr⟩ : ∃ r, l[k]? = some r := ⟨_, List.getElem?_eq_getElem (by rw [HL.out]; exact hlt)⟩
      obtain ⟨c0, c1⟩ := Gps.cells (Words.Rd.below H.out BR.out hB) rfl hr
      have HR := Lib.hid hr
      have BX := Lib.hid (BR.out.alloc BR.out.size (.cells #[.int .i64 ga, .int .i64 gm] 36))
      clear hr
      by_cases t1 : ga ≤ last
      · have HF : Hid (okRow z l = false) := Lib.hid (by rw [HOK.out]; exact vF_no HR.out VA.out (by rw [← Bool.not_eq_true, okG_yes]; simp only; omega))
        go_wp2_with fail
        go_ret2
        exact ⟨BX.out, .inl ⟨HF.out, rfl⟩⟩
      by_cases t2 : gm < 1
      · have HF : Hid (okRow z l = false) := Lib.hid (by rw [HOK.out]; exact vF_no HR.out VA.out (by rw [← Bool.not_eq_true, okG_yes]; simp only; omega))
        go_wp2_with fail
        go_ret2
        exact ⟨BX.out, .inl ⟨HF.out, rfl⟩⟩
      by_cases t3 : (z : Int) < gm
      · have HF : Hid (okRow z l = false) := Lib.hid (by rw [HOK.out]; exact vF_no HR.out VA.out (by rw [← Bool.not_eq_true, okG_yes]; simp only; omega))
        go_wp2_with fail
        go_ret2
        exact ⟨BX.out, .inl ⟨HF.out, rfl⟩⟩
      have hw1 : IntKind.i64.wrap ((z : Int) - gm) = z - gm := by rw [IntKind.wrap_i64]; omega
      by_cases t4 : (z : Int) - gm < ga
      · have HF : Hid (okRow z l = false) := Lib.hid (by rw [HOK.out]; exact vF_no HR.out VA.out (by rw [← Bool.not_eq_true, okG_yes]; simp only; omega))
        go_wp2_with fail
        go_ret2
        exact ⟨BX.out, .inl ⟨HF.out, rfl⟩⟩
      have VN := Lib.hid (vF_go HR.out VA.out (by rw [okG_yes]; simp only; omega))
      obtain ⟨a, rfl⟩ : ∃ a : Nat, ga = a := ⟨ga.toNat, by omega⟩
      obtain ⟨m, rfl⟩ : ∃ m : Nat, gm = m := ⟨gm.toNat, by omega⟩
      have ham : a + m ≤ z := by omega
      have RJ0 := Lib.hid (RR.out.inner ⟨a, m⟩)
      have OX := Lib.hid (OR.out.below (boxed wr (.cells #[.int .i64 a, .int .i64 m] 36)) (Nat.le_refl _))
      have GX := Lib.hid (Whole.new wr 36 #[.int .i64 a, .int .i64 m])
      have SR : Hid (w.heap.size < wr.heap.size) := Lib.hid (OR.out.lt _ rfl).2
      have TN := Lib.hid (take_next HR.out)
      have hw2 : IntKind.i64.wrap ((a : Int) + m) = a + m := by rw [IntKind.wrap_i64]; omega
      generalize wr = wq at *
      go_wp2_with fail
      go_loopw [51] (fun i wx => ∃ (j : Nat) (row' : List Bool), i = .int .i64 j ∧ j ≤ m ∧ RJ row' z (l.take k) ⟨a, m⟩ j ∧ OwnB wx w.heap.size (some ⟨w.heap.size, 0, none⟩) z z row' ∧ Below w.heap.size w wx ∧ Whole wx wq.heap.size 36 #[.int .i64 a, .int .i64 m]) (fun i _ => (m - intOf i).toNat)
      case atStart => exact ⟨0, row, rfl, by omega, RJ0.out, OX.out, BX.out, GX.out⟩
      case round =>
        obtain ⟨j, row', rfl, hj, hrj, hrow', hbel', hbox⟩ := hrel
        have RJJ := Lib.hid hrj
        have OJ := Lib.hid hrow'
        have BJ := Lib.hid hbel'
        have GJ := Lib.hid hbox
        have g0 := Whole.cell hbox 0
        have g1 := Whole.cell hbox 1
        simp at g0 g1
        clear hrj hrow' hbel' hbox c0 c1
        by_cases hjm : j < m
        · have haj : a + j < z := by omega
          have hw3 : IntKind.i64.wrap ((a : Int) + (j : Int)) = ((a + j : Nat) : Int) := by rw [IntKind.wrap_i64]; omega
          have k0 := OJ.out.at_ haj
          have k1 := OJ.out.frozen (a + j)
          have ST := Lib.hid (OJ.out.set (a + j) true)
          have RN := Lib.hid (RJJ.out.next (k := a + j) (by show ((a + j : Nat) : Int) = (a : Int) + j; omega) haj)
          have BN := Lib.hid (BJ.out.setCell (p := ⟨w.heap.size, a + j, none⟩) (Nat.le_refl _) (.bool true))
          have GN : Hid (Whole _ wq.heap.size 36 #[.int .i64 a, .int .i64 m]) := Lib.hid ((ST.out.2.block wq.heap.size GJ.out.lt (fun e => by have := SR.out; injection e with e; omega)).trans GJ.out)
          go_wp2_with fail
          go_roundw
          case rel => exact ⟨j + 1, _, by go_num, by omega, RN.out, ST.out.1, BN.out, GN.out⟩
          case measure => simp [intOf]; omega
        · obtain rfl : j = m := by omega
          have RD := Lib.hid (RJJ.out.done (g := ⟨a, j⟩) rfl)
          rw [← TN.out] at RD
          go_wp2_with fail
          go_roundw
          case rel => exact ⟨k + 1, _, row', rfl, by go_num, by omega, by omega, by omega, VN.out, RD.out, OJ.out, BJ.out⟩
          case measure => simp [intOf]; omega
    · obtain rfl : k = n := by omega
      have hall : l.take k = l := List.take_of_length_le (by rw [HL.out]; exact Nat.le_refl _)
      have RR' := RR.out
      rw [hall] at RR'
      have HROW : Hid (row = rowOf l z) := Lib.hid (row_ext (by rw [RR'.1, rowOf_length]) fun x hx => by rw [RR'.1] at hx; rw [RR'.2 x hx, at_rowOf hx])
      have HV : Hid (okRow z l = true) := Lib.hid (by rw [HOK.out, VA.out, List.drop_eq_nil_of_le (by rw [HL.out]; exact Nat.le_refl _)]; rfl)
      clear RR' hall
      go_wp2_with fail
      go_ret2
      refine ⟨BR.out, .inr ⟨HV.out, w.heap.size, z, by rw [HZ.out]; rfl, ?_⟩⟩
      rw [HZ.out, ← HROW.out]
      exact OR.out
end Go.Proofs.Ytkhcaobmohppnaa.Spc
