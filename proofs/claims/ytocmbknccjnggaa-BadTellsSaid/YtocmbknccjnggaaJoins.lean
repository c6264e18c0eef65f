/-
  What slices.Grow and slices.Concat return here: three lists, one behind the other, in a row of the call's own; and what bad.Mark returns.
-/
import Derived.Test.YtocmbknccjnggaaMade
import Derived.RegionTactic
import Derived.Deep.RegionWith
namespace Go.Proofs.Ytocmbknccjnggaa.Bad
open Go.ChangeShapes Go.WideShapes Go.ChangeAt Go.RowKit Words

section
variable {P : Program} (w : World)
/-- 'append' within the capacity: the value stays at its address. -/
theorem run_append_room_rd (base : Nat) (t ty e : TypeId) (i : TypeInfo) (size : Nat) (ht : P.underlying t = some (.slice e)) (hi : P.info? e = some i) (hsize : i.size = size)
    (D : Option Addr) (k C : Nat) (xs : List Value) (hown : w.ownsRow base e size (.slice D k C) k xs)
    (B : Nat) (A : Option Addr) (m c : Nat) (news : List Value) (hr : Rd w B size A m c news) (h1 : ∀ u ∈ news, u.oneCell' = true) (hroom : k + m ≤ C) :
    ∃ w', (Builtin.append_ #[t, t] ty #[.slice D k C, .slice A m c]).run P w = .ok (.slice D (k + m) C) w' ∧ w'.ownsRow base e size (.slice D (k + m) C) (k + m) (xs ++ news) ∧ w.grownBy w' (Value.slice D k C).ownBlock := by
  subst hsize
  cases A with
  | none =>
    have hc := hr.none_ rfl
    have hm : m = 0 := by have := hr.le; omega
    subst hc hm
    have hnews : news = [] := List.eq_nil_of_length_eq_zero (by simpa using hr.len)
    subst hnews
    exact ⟨w, run_append_owned_none w base t ty e i i.size ht hi _ k xs hown, by simpa using hown, World.grownBy.refl w _⟩
  | some a =>
    rcases hown.2 with ⟨hv, hk⟩ | ⟨g, cap, cur, hv, hb, hg, hnc, hcm, hcs, htake⟩
    · injection hv with hv1 hv2 hv3
      subst hv1 hv2 hv3
      have hm : m = 0 := by omega
      subst hm
      have hnews : news = [] := List.eq_nil_of_length_eq_zero (by simpa using hr.len)
      subst hnews
      refine ⟨w, ?_, by simpa using hown, World.grownBy.refl w _⟩
      have hf := run_firstCells_some (P := P) w i.size 0 a 0 c [] (by simp) (by simp)
      simp [Builtin.append_, run_underlying ht, sizeOf, typeInfo, hi, Builtin.lenOf, hf]
    · injection hv with hv1 hv2 hv3
      subst hv1 hv3
      have hcells : ∀ j u, news[j]? = some u → w.cell? (a.add j) = some u := by
        intro j u hu
        rcases Nat.eq_zero_or_pos m with h0 | h0
        · subst h0
          have hnews : news = [] := List.eq_nil_of_length_eq_zero (by simpa using hr.len)
          subst hnews
          simp at hu
        · obtain ⟨b, o, e1, _, hc⟩ := hr.row h0
          injection e1 with e1
          subst e1
          rw [Addr.add_lit]
          exact hc j u hu
      obtain ⟨w', h2, h3, h4⟩ := run_append_fits (P := P) w base t ty e i i.size ht hi rfl g k C xs hown a m c news hr.len hcells h1 hroom
      exact ⟨w', h2, h3, h4⟩
theorem wpList_append_room_rd {ops : Array Oper} {rest : List Oper} {o : Oper} {a : Act} {Q : Exit → Act → World → Prop} (hgd : o.guard = none) (s x : Operand) (t : TypeId)
    (ho : o.op = .call { callee := .builtin .append, args := #[s, x], argTypes := #[t, t] })
    (base : Nat) (e : TypeId) (i : TypeInfo) (size : Nat) (ht : P.underlying t = some (.slice e)) (hi : P.info? e = some i) (hsize : i.size = size)
    (D : Option Addr) (k C : Nat) (xs : List Value) (hs : a.eval s = .slice D k C) (hown : w.ownsRow base e size (.slice D k C) k xs)
    (B : Nat) (A : Option Addr) (m c : Nat) (news : List Value) (hx : a.eval x = .slice A m c) (hr : Rd w B size A m c news) (h1 : ∀ u ∈ news, u.oneCell' = true) (hroom : k + m ≤ C)
    (h : ∀ w', w'.ownsRow base e size (.slice D (k + m) C) (k + m) (xs ++ news) → w.grownBy w' (Value.slice D k C).ownBlock → wpList P ops Q rest (a.put o.dst (.slice D (k + m) C)) w') : wpList P ops Q (o :: rest) a w := by
  obtain ⟨w', hrun, h2, h3⟩ := run_append_room_rd (P := P) w base t o.type e i size ht hi hsize D k C xs hown B A m c news hr h1 hroom
  exact Lib.wpList_append_run w hgd s x t t ho _ _ hs hx _ w' hrun (h w' h2 h3)
end

/-- 'x[k:]' of elements of one cell each. -/
theorem run_tail {P : Program} (w : World) (t e : TypeId) (i : TypeInfo) (ht : P.underlying t = some (.slice e)) (hi : P.info? e = some i) (hs : i.size = 1) (A : Option Addr) (n c k : Nat) (K : Int) (hK : K = (k : Int)) (hk : k ≤ n) :
    (Instr.slice t (.slice A n c) (some (.int .i64 K)) none none).run P w = .ok (.slice (if c = k then A else A.map (·.add k)) (n - k) (c - k)) w := by
  subst hK
  have he : P.elem t = e := by simp [Program.elem, ht]
  have h := run_slice_l (P := P) w t A n c (by rw [he]; exact ht) .i64 (k : Int) (by omega) (by omega)
  rw [h, he]
  simp [sizeOf, typeInfo, hi, sliced, hs]
theorem Rd.tail1 {w : World} {B n c k : Nat} {A : Option Addr} {xs : List Value} (h : Rd w B 1 A n c xs) (hk : k ≤ n) : Rd w B 1 (if c = k then A else A.map (·.add k)) (n - k) (c - k) (xs.drop k) := by
  have hl := h.len
  have hle := h.le
  have hmax := h.max
  refine ⟨by rw [List.length_drop, hl]; omega, by omega, by omega, fun he => ?_, fun hn => ?_⟩
  · split at he
    · omega
    · have : A = none := by cases A with
        | none => rfl
        | some a => cases he
      have := h.none_ this
      omega
  · obtain ⟨b, o, e, hb, hc⟩ := h.row (by omega)
    rw [if_neg (by omega), e]
    refine ⟨b, o + k, by simp [Addr.add], hb, fun j u hu => ?_⟩
    rw [List.getElem?_drop] at hu
    have := hc _ u hu
    rwa [← Nat.add_assoc] at this
/-- Room for at least n numbers in a row of the call's own, or nothing where n is 0. -/
def Room (w : World) (n : Nat) (e : Ending) (w' : World) : Prop :=
  ∃ A C, e = .returned (.slice A 0 C) ∧ w'.ownsRow w.heap.size 3 1 (.slice A 0 C) 0 [] ∧ n ≤ C ∧ Below w.heap.size w w'
theorem grow26 (n : Nat) (w : World) (hn : n ≤ 100000) : Calls Try.prog 26 #[.slice none 0 0, .int .i64 n] w (Room w n) := by
  obtain ⟨i0, hi0, hz0, hz1, hz2⟩ := info_parts info3
  have hsl := fun w => run_head (P := Try.prog) w 22 3 i0 Try.underlying22 hi0 none 0 0 0 0 rfl (Nat.le_refl _)
  by_cases h0 : n = 0
  · subst h0
    go_enter Try.func26, Try.ntmps26
    go_wp2_with fail
    go_ret
    exact ⟨none, 0, rfl, w.ownsRow_nil _ _ _, Nat.le_refl _, Below.refl _ _⟩
  · have hp : ¬ ((n : Int) ≤ 0) := by omega
    have hrun := Lib.run_append_nil_zeros (P := Try.prog) w 22 3 22 3 i0 (.int .i64 0) .i64 .i64 Try.underlying22 Try.underlying3 hi0 hz0 n (by omega) (by omega) (by omega) (by rw [hz2]; omega)
    have hge := grownCap_ge w n 0 3
    have hle := grownCap_le_maxLen w n 0 3 (by simp only [maxLen]; omega)
    generalize grownCap w n 0 3 = C at *
    have hsl2 := fun w' => run_head (P := Try.prog) w' 22 3 i0 Try.underlying22 hi0 (some ⟨w.heap.size, 0, none⟩) n C 0 0 rfl (Nat.zero_le _)
    have HR := Lib.hid hrun
    have HC := Lib.hid hle
    clear hrun hle
    go_enter Try.func26, Try.ntmps26
    go_wp2_with (at_builtin; refine Lib.wpList_append_run _ rfl _ _ 22 3 rfl _ _ rfl rfl _ _ HR.out ?_)
    go_ret
    refine ⟨_, C, rfl, World.ownsRow_made (w := w.drew) _ C (Nat.le_refl _) HC.out ?_, hge, ((Below.refl _ _).drew).alloc (Nat.le_refl _) _⟩
    rw [Array.size_append, size_zeroCells, size_zeroCells]
    show n * 1 + (C - n) * 1 = C * 1
    omega
set_option maxHeartbeats 2000000 in
theorem concat21 (B : Nat) (A1 A2 A3 : Option Addr) (n1 k1 n2 k2 n3 k3 : Nat) (l1 l2 l3 : List Int) (g : Nat) (w : World) (h1 : Ints w B A1 n1 k1 l1) (h2 : Ints w B A2 n2 k2 l2) (h3 : Ints w B A3 n3 k3 l3) (hB : B ≤ w.heap.size) (hg : g < w.heap.size)
    (d0 : w.cell? ⟨g, 0, none⟩ = some (.slice A1 n1 k1)) (d1 : w.cell? ⟨g, 1, none⟩ = some (.slice A2 n2 k2)) (d2 : w.cell? ⟨g, 2, none⟩ = some (.slice A3 n3 k3)) (r1 : n1 ≤ 8192) (r2 : n2 ≤ 8192) (r3 : n3 ≤ 8192) :
    Calls Try.prog 21 #[.slice (some ⟨g, 0, none⟩) 3 3] w (MadeI w (l1 ++ l2 ++ l3) (n1 + n2 + n3)) := by
  obtain ⟨i0, hi0, hz0, hz1, hz2⟩ := info_parts info3
  have T1 := Lib.hid h1
  have T2 := Lib.hid h2
  have T3 := Lib.hid h3
  have HG := grow26 (n1 + n2 + n3) w (by omega)
  rw [Int.natCast_add, Int.natCast_add] at HG
  have HG := Lib.hid HG
  have D0 := Lib.hid d0
  have D1 := Lib.hid d1
  have D2 := Lib.hid d2
  clear h1 h2 h3
  go_enter Try.func21, Try.ntmps21
  go_wp2_with fail
  go_loop [3, 11] (fun s i => (i = .int .i64 0 ∧ s = .int .i64 0) ∨ (i = .int .i64 1 ∧ s = .int .i64 n1) ∨ (i = .int .i64 2 ∧ s = .int .i64 (n1 + n2)) ∨ (i = .int .i64 3 ∧ s = .int .i64 (n1 + n2 + n3))) (fun _ i => (3 - intOf i).toNat)
  case atStart => exact .inl ⟨rfl, rfl⟩
  case round =>
    rcases hrel with ⟨rfl, rfl⟩ | ⟨rfl, rfl⟩ | ⟨rfl, rfl⟩ | ⟨rfl, rfl⟩
    · go_wp2_with fail
      go_round
      case rel => exact .inr (.inl ⟨rfl, rfl⟩)
      case measure => simp [intOf]
    · go_wp2_with fail
      go_round
      case rel => exact .inr (.inr (.inl ⟨rfl, rfl⟩))
      case measure => simp [intOf]
    · go_wp2_with fail
      go_round
      case rel => exact .inr (.inr (.inr ⟨rfl, rfl⟩))
      case measure => simp [intOf]
    · go_wp2_with fail
      refine (HG.out).mono ?_; rintro e w1 ⟨A, C, rfl, hown, hC, hb⟩
      have O1 := Lib.hid hown
      have B1 := Lib.hid hb
      have HC := Lib.hid hC
      clear hown hb hC
      go_wp2_with fail
      go_loopw [6, 27] (fun v i wr => Below w.heap.size w wr ∧ ((i = .int .i64 0 ∧ v = .slice A 0 C ∧ wr.ownsRow w.heap.size 3 1 (.slice A 0 C) 0 []) ∨ (i = .int .i64 1 ∧ v = .slice A n1 C ∧ wr.ownsRow w.heap.size 3 1 (.slice A n1 C) n1 (icells l1)) ∨
          (i = .int .i64 2 ∧ v = .slice A (n1 + n2) C ∧ wr.ownsRow w.heap.size 3 1 (.slice A (n1 + n2) C) (n1 + n2) (icells l1 ++ icells l2)) ∨
          (i = .int .i64 3 ∧ v = .slice A (n1 + n2 + n3) C ∧ wr.ownsRow w.heap.size 3 1 (.slice A (n1 + n2 + n3) C) (n1 + n2 + n3) (icells l1 ++ icells l2 ++ icells l3)))) (fun _ i _ => (3 - intOf i).toNat)
      case atStart => exact ⟨B1.out, .inl ⟨rfl, rfl, O1.out⟩⟩
      case round =>
        obtain ⟨hbel, hcase⟩ := hrel
        have hz : w.heap.size ≤ wr.heap.size := hbel.size
        have c0 : wr.cell? ⟨g, 0, none⟩ = some (.slice A1 n1 k1) := (hbel.cell (p := ⟨g, 0, none⟩) hg).trans D0.out
        have c1 : wr.cell? ⟨g, 1, none⟩ = some (.slice A2 n2 k2) := (hbel.cell (p := ⟨g, 1, none⟩) hg).trans D1.out
        have c2 : wr.cell? ⟨g, 2, none⟩ = some (.slice A3 n3 k3) := (hbel.cell (p := ⟨g, 2, none⟩) hg).trans D2.out
        have BW := Lib.hid hbel
        have R1 := Lib.hid (Rd.below T1.out hbel hB)
        have R2 := Lib.hid (Rd.below T2.out hbel hB)
        have R3 := Lib.hid (Rd.below T3.out hbel hB)
        clear hbel
        rcases hcase with ⟨rfl, rfl, hown⟩ | ⟨rfl, rfl, hown⟩ | ⟨rfl, rfl, hown⟩ | ⟨rfl, rfl, hown⟩
        · have O2 := Lib.hid hown
          clear hown
          go_wp2_with (at_builtin; refine wpList_append_room_rd _ rfl (.tmp 31) (.tmp 32) 22 rfl w.heap.size 3 i0 1 Try.underlying22 hi0 hz1 A 0 C [] rfl O2.out B A1 n1 k1 (icells l1) rfl R1.out (icells_one l1) (by have := HC.out; omega) ?_
                       intro w2 hown2 hg2
                       have B2 := Lib.hid (below_grown BW.out O2.out hg2 hz (Nat.le_refl _))
                       rw [Nat.zero_add, List.nil_append] at hown2
                       have O3 := Lib.hid hown2
                       clear hown2 hg2)
          go_roundw
          case rel => exact ⟨B2.out, .inr (.inl ⟨rfl, by simp, O3.out⟩)⟩
          case measure => simp [intOf]
        · have O2 := Lib.hid hown
          clear hown
          go_wp2_with (at_builtin; refine wpList_append_room_rd _ rfl (.tmp 31) (.tmp 32) 22 rfl w.heap.size 3 i0 1 Try.underlying22 hi0 hz1 A n1 C (icells l1) rfl O2.out B A2 n2 k2 (icells l2) rfl R2.out (icells_one l2) (by have := HC.out; omega) ?_
                       intro w2 hown2 hg2
                       have B2 := Lib.hid (below_grown BW.out O2.out hg2 hz (Nat.le_refl _))
                       have O3 := Lib.hid hown2
                       clear hown2 hg2)
          go_roundw
          case rel => exact ⟨B2.out, .inr (.inr (.inl ⟨rfl, rfl, O3.out⟩))⟩
          case measure => simp [intOf]
        · have O2 := Lib.hid hown
          clear hown
          go_wp2_with (at_builtin; refine wpList_append_room_rd _ rfl (.tmp 31) (.tmp 32) 22 rfl w.heap.size 3 i0 1 Try.underlying22 hi0 hz1 A (n1 + n2) C (icells l1 ++ icells l2) rfl O2.out B A3 n3 k3 (icells l3) rfl R3.out (icells_one l3) (by have := HC.out; omega) ?_
                       intro w2 hown2 hg2
                       have B2 := Lib.hid (below_grown BW.out O2.out hg2 hz (Nat.le_refl _))
                       have O3 := Lib.hid hown2
                       clear hown2 hg2)
          go_roundw
          case rel => exact ⟨B2.out, .inr (.inr (.inr ⟨rfl, rfl, O3.out⟩))⟩
          case measure => simp [intOf]
        · have O2 := Lib.hid hown
          clear hown
          go_wp2_with fail
          go_ret
          refine ⟨A, C, rfl, ?_, BW.out⟩
          unfold OwnI
          rw [icells_append, icells_append]
          exact O2.out
end Go.Proofs.Ytocmbknccjnggaa.Bad
