/-
  What slices.Grow and slices.Concat return here: lists of entries, one behind the other, in a row of the call's own; a list's head and tail.
-/
import Derived.Test.YtiagbacmjiimpaaPPlace
import Derived.RegionTactic
import Derived.Deep.RegionWith
namespace Go.Proofs.Ytiagbacmjiimpaa.Dir
open Go.ChangeShapes Go.WideShapes Go.ChangeAt Go.RowKit Words Go.Sort
set_option linter.unusedVariables false

section
variable {P : Program} (w : World)
/-- 'append' within the capacity: the value stays at its address. -/
theorem run_append_room_rd (base : Nat) (t ty e : TypeId) (i : TypeInfo) (size : Nat) (ht : P.underlying t = some (.slice e)) (hi : P.info? e = some i) (hsize : i.size = size)
    (D : Option Addr) (k C : Nat) (xs : List Value) (hown : w.ownsRow base e size (.slice D k C) k xs)
    (B : Nat) (A : Option Addr) (m c : Nat) (news : List Value) (hr : Rd w B size A m c news) (h1 : ∀ u ∈ news, u.oneCell' = true) (hroom : k + m ≤ C) :
    ∃ w', (Builtin.append_ #[t, t] ty #[.slice D k C, .slice A m c]).run P w = .ok (.slice D (k + m) C) w' ∧ w'.ownsRow base e size (.slice D (k + m) C) (k + m) (xs ++ news) ∧ w.grownBy w' (Value.slice D k C).ownBlock := by
  subst hsize
  cases A with
  | none =>
    have hc := hr.none_ rfl
    have hm : m = 0 := by have := hr.le; omega
    subst hc hm
    have hnews : news = [] := List.eq_nil_of_length_eq_zero (by simpa using hr.len)
    subst hnews
    exact ⟨w, run_append_owned_none w base t ty e i i.size ht hi _ k xs hown, by simpa using hown, World.grownBy.refl w _⟩
  | some a =>
    rcases hown.2 with ⟨hv, hk⟩ | ⟨g, cap, cur, hv, hb, hg, hnc, hcm, hcs, htake⟩
    · injection hv with hv1 hv2 hv3
      subst hv1 hv2 hv3
      have hm : m = 0 := by omega
      subst hm
      have hnews : news = [] := List.eq_nil_of_length_eq_zero (by simpa using hr.len)
      subst hnews
      refine ⟨w, ?_, by simpa using hown, World.grownBy.refl w _⟩
      have hf := run_firstCells_some (P := P) w i.size 0 a 0 c [] (by simp) (by simp)
      simp [Builtin.append_, run_underlying ht, sizeOf, typeInfo, hi, Builtin.lenOf, hf]
    · injection hv with hv1 hv2 hv3
      subst hv1 hv3
      have hcells : ∀ j u, news[j]? = some u → w.cell? (a.add j) = some u := by
        intro j u hu
        rcases Nat.eq_zero_or_pos m with h0 | h0
        · subst h0
          have hnews : news = [] := List.eq_nil_of_length_eq_zero (by simpa using hr.len)
          subst hnews
          simp at hu
        · obtain ⟨b, o, e1, _, hc⟩ := hr.row h0
          injection e1 with e1
          subst e1
          rw [Addr.add_lit]
          exact hc j u hu
      obtain ⟨w', h2, h3, h4⟩ := run_append_fits (P := P) w base t ty e i i.size ht hi rfl g k C xs hown a m c news hr.len hcells h1 hroom
      exact ⟨w', h2, h3, h4⟩
theorem wpList_append_room_rd {ops : Array Oper} {rest : List Oper} {o : Oper} {a : Act} {Q : Exit → Act → World → Prop} (hgd : o.guard = none) (s x : Operand) (t : TypeId)
    (ho : o.op = .call { callee := .builtin .append, args := #[s, x], argTypes := #[t, t] })
    (base : Nat) (e : TypeId) (i : TypeInfo) (size : Nat) (ht : P.underlying t = some (.slice e)) (hi : P.info? e = some i) (hsize : i.size = size)
    (D : Option Addr) (k C : Nat) (xs : List Value) (hs : a.eval s = .slice D k C) (hown : w.ownsRow base e size (.slice D k C) k xs)
    (B : Nat) (A : Option Addr) (m c : Nat) (news : List Value) (hx : a.eval x = .slice A m c) (hr : Rd w B size A m c news) (h1 : ∀ u ∈ news, u.oneCell' = true) (hroom : k + m ≤ C)
    (h : ∀ w', w'.ownsRow base e size (.slice D (k + m) C) (k + m) (xs ++ news) → w.grownBy w' (Value.slice D k C).ownBlock → wpList P ops Q rest (a.put o.dst (.slice D (k + m) C)) w') : wpList P ops Q (o :: rest) a w := by
  obtain ⟨w', hrun, h2, h3⟩ := run_append_room_rd (P := P) w base t o.type e i size ht hi hsize D k C xs hown B A m c news hr h1 hroom
  exact Lib.wpList_append_run w hgd s x t t ho _ _ hs hx _ w' hrun (h w' h2 h3)
end


/-- 'x[k:]'. -/
theorem run_tailN {P : Program} (w : World) (t e : TypeId) (i : TypeInfo) (sz : Nat) (ht : P.underlying t = some (.slice e)) (hi : P.info? e = some i) (hs : i.size = sz) (A : Option Addr) (n c k : Nat) (K : Int) (hK : K = (k : Int)) (hk : k ≤ n) :
    (Instr.slice t (.slice A n c) (some (.int .i64 K)) none none).run P w = .ok (.slice (if c = k then A else A.map (·.add (k * sz))) (n - k) (c - k)) w := by
  subst hK
  have he : P.elem t = e := by simp [Program.elem, ht]
  have h := run_slice_l (P := P) w t A n c (by rw [he]; exact ht) .i64 (k : Int) (by omega) (by omega)
  rw [h, he]
  simp [sizeOf, typeInfo, hi, sliced, hs]
theorem lcd (l : List En) : ∀ k : Nat, (lcells l).drop (k * 2) = lcells (l.drop k) := by
  induction l with
  | nil => intro k; simp [lcells]
  | cons x l ih =>
    intro k
    cases k with
    | zero => simp
    | succ k =>
      show (ecells x ++ lcells l).drop ((k + 1) * 2) = lcells (l.drop k)
      rw [← ih k, List.drop_append, ecells_length, List.drop_eq_nil_of_le (by rw [ecells_length]; omega), List.nil_append]
      congr 1
      omega
theorem Ens.top {w : World} {B n c k : Nat} {A : Option Addr} {l : List En} (h : Ens w B A n c l) (hk : k ≤ n) : Ens w B A k c (l.take k) := by
  have := Words.Rd.head h hk
  rw [show (lcells l).take (k * 2) = lcells (l.take k) from flat_take ecells_length l k] at this
  exact this
theorem Ens.rest {w : World} {B n c k : Nat} {A : Option Addr} {l : List En} (h : Ens w B A n c l) (hk : k ≤ n) : Ens w B (if c = k then A else A.map (·.add (k * 2))) (n - k) (c - k) (l.drop k) := by
  have hl := h.len
  have hle := Words.Rd.le h
  have hmax := Words.Rd.max h
  refine ⟨by rw [lcells_length, List.length_drop, hl], by omega, by omega, fun he => ?_, fun hn => ?_⟩
  · split at he
    · omega
    · have : A = none := by cases A with
        | none => rfl
        | some a => cases he
      have := Words.Rd.none_ h this
      omega
  · obtain ⟨b, o, e, hb, hc⟩ := Words.Rd.row h (by omega)
    rw [if_neg (by omega), e]
    refine ⟨b, o + k * 2, by simp [Addr.add], hb, fun j u hu => ?_⟩
    rw [← lcd, List.getElem?_drop] at hu
    have := hc _ u hu
    rwa [← Nat.add_assoc] at this
/-- Room for at least n entries in a row of the call's own, or nothing where n is 0. -/
def Room (w : World) (n : Nat) (e : Ending) (w' : World) : Prop :=
  ∃ A C, e = .returned (.slice A 0 C) ∧ w'.ownsRow w.heap.size 24 2 (.slice A 0 C) 0 [] ∧ n ≤ C ∧ Below w.heap.size w w'
theorem grow31 (n : Nat) (w : World) (hn : n * 24 ≤ 140737488355328) : Calls Try.prog 31 #[.slice none 0 0, .int .i64 n] w (Room w n) := by
  obtain ⟨i0, hi0, hz0, hz1, hz2⟩ := info_parts info24
  have hsl := fun w => run_head (P := Try.prog) w 22 24 i0 Try.underlying22 hi0 none 0 0 0 0 rfl (Nat.le_refl _)
  by_cases h0 : n = 0
  · subst h0
    go_enter Try.func31, Try.ntmps31
    go_wp2_with fail
    go_ret
    exact ⟨none, 0, rfl, w.ownsRow_nil _ _ _, Nat.le_refl _, Below.refl _ _⟩
  · have hp : ¬ ((n : Int) ≤ 0) := by omega
    have hrun := Lib.run_append_nil_zeros (P := Try.prog) w 22 3 22 24 i0 _ .i64 .i64 Try.underlying22 Try.underlying3 hi0 hz0 n (by omega) (by omega) (by omega) (by rw [hz2]; omega)
    have hge := grownCap_ge w n 0 24
    have hle := grownCap_le_maxLen w n 0 24 (by simp only [maxLen]; omega)
    generalize grownCap w n 0 24 = C at *
    have hsl2 := fun w' => run_head (P := Try.prog) w' 22 24 i0 Try.underlying22 hi0 (some ⟨w.heap.size, 0, none⟩) n C 0 0 rfl (Nat.zero_le _)
    have HR := Lib.hid hrun
    have HC := Lib.hid hle
    clear hrun hle
    go_enter Try.func31, Try.ntmps31
    go_wp2_with (at_builtin; refine Lib.wpList_append_run _ rfl _ _ 22 3 rfl _ _ rfl rfl _ _ HR.out ?_)
    go_ret
    refine ⟨_, C, rfl, World.ownsRow_made (w := w.drew) _ C (Nat.le_refl _) HC.out ?_, hge, ((Below.refl _ _).drew).alloc (Nat.le_refl _) _⟩
    rw [Array.size_append, size_zeroCells, size_zeroCells]
    show n * 2 + (C - n) * 2 = C * 2
    omega
/-- A list as it is handed to Concat. -/
structure Pt where
  A : Option Addr
  n : Nat
  c : Nat
  l : List En
def Pt.val (p : Pt) : Value := .slice p.A p.n p.c
def cat (ps : List Pt) : List En := ps.flatMap (·.l)
theorem cat_next {ps : List Pt} {k : Nat} {p : Pt} (h : ps[k]? = some p) : cat (ps.take (k + 1)) = cat (ps.take k) ++ p.l := by
  unfold cat
  rw [take_next h, List.flatMap_append]
  simp
theorem cat_len {ps : List Pt} {k : Nat} : (cat (ps.take k)).length ≤ (cat ps).length := by
  unfold cat
  conv => rhs; rw [← List.take_append_drop k ps, List.flatMap_append, List.length_append]
  omega
set_option maxHeartbeats 2000000 in
theorem concat24 (B : Nat) (ps : List Pt) (g m N : Nat) (w : World) (h : ∀ p ∈ ps, Ens w B p.A p.n p.c p.l) (hB : B ≤ w.heap.size) (hg : g < w.heap.size)
    (hc : ∀ i p, ps[i]? = some p → w.cell? ⟨g, i, none⟩ = some p.val) (hm : ps.length = m) (hm2 : m ≤ 100) (hN : (cat ps).length = N) (hb : N * 24 ≤ 140737488355328) :
    Calls Try.prog 24 #[.slice (some ⟨g, 0, none⟩) m m] w fun e w' => ∃ A C, e = .returned (.slice A N C) ∧ OwnEn w' w.heap.size A N C (cat ps) ∧ Below w.heap.size w w' := by
  obtain ⟨i0, hi0, hz0, hz1, hz2⟩ := info_parts info24
  have H := Lib.hid h
  have HC := Lib.hid hc
  have HM := Lib.hid hm
  have HN := Lib.hid hN
  have HL := Lib.hid (fun k => Nat.le_trans (cat_len (ps := ps) (k := k)) (Nat.le_of_eq hN))
  have HG := Lib.hid (grow31 N w hb)
  have H0 : Hid (cat (ps.take 0) = []) := Lib.hid rfl
  have B0 := Lib.hid (Below.refl w.heap.size w)
  clear h hc hm hN
  go_enter Try.func24, Try.ntmps24
  go_wp2_with fail
  go_loop [3, 11] (fun s i => ∃ k x : Nat, k ≤ m ∧ i = .int .i64 k ∧ s = .int .i64 x ∧ (cat (ps.take k)).length = x) (fun _ i => (m - intOf i).toNat)
  case atStart => exact ⟨0, 0, by omega, rfl, rfl, by rw [H0.out]; rfl⟩
  case round =>
    obtain ⟨k, x, hk, rfl, rfl, hx⟩ := hrel
    have HX := Lib.hid hx
    clear hx
    by_cases hlt : k < m
    · obtain ⟨p, hp⟩ : ∃ p, ps[k]? = some p := ⟨_, List.getElem?_eq_getElem (by rw [HM.out]; exact hlt)⟩
      have hcell := HC.out k p hp
      have hlen := (H.out p (List.mem_of_getElem? hp)).len
      have hsum : (cat (ps.take (k + 1))).length = x + p.n := by rw [cat_next hp, List.length_append, HX.out, hlen]
      have hle := HL.out (k + 1)
      rw [hsum] at hle
      have HS := Lib.hid hsum
      obtain ⟨A, n, c, l⟩ := p
      unfold Pt.val at hcell
      simp only at hcell HS hle
      have hwr : IntKind.i64.wrap ((x : Int) + (n : Int)) = ((x + n : Nat) : Int) := by rw [IntKind.wrap_i64]; omega
      clear hp hlen hsum
      go_wp2_with fail
      go_round
      case rel => exact ⟨k + 1, x + n, by omega, by go_num, by go_num, HS.out⟩
      case measure => simp [intOf]; omega
    · obtain rfl : k = m := by omega
      obtain rfl : x = N := by rw [← HX.out, List.take_of_length_le (by rw [HM.out]; exact Nat.le_refl _)]; exact HN.out
      go_wp2_with fail
      refine (HG.out).mono ?_; rintro e w1 ⟨A, C, rfl, hown, hC, hb1⟩
      have O1 := Lib.hid hown
      have B1 := Lib.hid hb1
      have HCC := Lib.hid hC
      clear hown hb1 hC
      go_wp2_with fail
      go_loopw [6, 27] (fun v i wr => ∃ j y : Nat, j ≤ k ∧ i = .int .i64 j ∧ v = .slice A y C ∧ (cat (ps.take j)).length = y ∧ Below w.heap.size w wr ∧ wr.ownsRow w.heap.size 24 2 (.slice A y C) y (lcells (cat (ps.take j)))) (fun _ i _ => (k - intOf i).toNat)
      case atStart => exact ⟨0, 0, by omega, rfl, rfl, by rw [H0.out]; rfl, B1.out, O1.out⟩
      case round =>
        obtain ⟨j, y, hj, rfl, rfl, hy, hbel, hown⟩ := hrel
        have hz : w.heap.size ≤ wr.heap.size := hbel.size
        have HY := Lib.hid hy
        have BW := Lib.hid hbel
        have O2 := Lib.hid hown
        clear hy hbel hown
        by_cases hlt : j < k
        · obtain ⟨p, hp⟩ : ∃ p, ps[j]? = some p := ⟨_, List.getElem?_eq_getElem (by rw [HM.out]; exact hlt)⟩
          have hcell : wr.cell? ⟨g, j, none⟩ = some p.val := (BW.out.cell (p := ⟨g, j, none⟩) hg).trans (HC.out j p hp)
          have hr := Words.Rd.below (H.out p (List.mem_of_getElem? hp)) BW.out hB
          have hlen := (H.out p (List.mem_of_getElem? hp)).len
          have hsum : (cat (ps.take (j + 1))).length = y + p.n := by rw [cat_next hp, List.length_append, HY.out, hlen]
          have hle := HL.out (j + 1)
          rw [hsum] at hle
          have HS := Lib.hid hsum
          have HE : Hid (lcells (cat (ps.take (j + 1))) = lcells (cat (ps.take j)) ++ lcells p.l) := Lib.hid (by rw [cat_next hp, lcells_append])
          obtain ⟨A3, n3, c3, l3⟩ := p
          unfold Pt.val at hcell
          simp only at hcell HS HE hr hle
          have R := Lib.hid hr
          clear hp hlen hsum hr
          go_wp2_with (at_builtin; refine wpList_append_room_rd _ rfl (.tmp 31) (.tmp 32) 22 rfl w.heap.size 24 i0 2 Try.underlying22 hi0 hz1 A y C (lcells (cat (ps.take j))) rfl O2.out B A3 n3 c3 (lcells l3) rfl R.out (lcells_one l3) (by have := HCC.out; omega) ?_
                       intro w2 hown2 hg2
                       have B2 := Lib.hid (below_grown BW.out O2.out hg2 hz (Nat.le_refl _))
                       rw [← HE.out] at hown2
                       have O3 := Lib.hid hown2
                       clear hown2 hg2)
          go_roundw
          case rel => exact ⟨j + 1, y + n3, by omega, by go_num, rfl, HS.out, B2.out, O3.out⟩
          case measure => simp [intOf]; omega
        · obtain rfl : j = k := by omega
          have ec : Hid (cat (ps.take j) = cat ps) := Lib.hid (by rw [List.take_of_length_le (by rw [HM.out]; exact Nat.le_refl _)])
          obtain rfl : y = x := by rw [← HY.out, ec.out, HN.out]
          go_wp2_with fail
          go_ret
          refine ⟨A, C, rfl, ?_, BW.out⟩
          unfold OwnEn
          rw [← ec.out]
          exact O2.out
end Go.Proofs.Ytiagbacmjiimpaa.Dir
