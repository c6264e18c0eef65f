/-
  What slices.Grow and slices.Concat return: two lists, one behind the other, in a row of the call's own.
-/
import Derived.Test.YtkkmfeclondlpaaMade
import Derived.RegionTactic
import Derived.Deep.RegionLaw
namespace Go.Proofs.Ytkkmfeclondlpaa.Heap
open Go.ChangeShapes Go.WideShapes Go.ChangeAt Go.RowKit Words Go.Sort
set_option linter.unusedVariables false

section
variable {P : Program} (w : World)
/-- 'append' within the capacity: the value stays at its address. -/
theorem run_append_room_rd (base : Nat) (t ty e : TypeId) (i : TypeInfo) (size : Nat) (ht : P.underlying t = some (.slice e)) (hi : P.info? e = some i) (hsize : i.size = size)
    (D : Option Addr) (k C : Nat) (xs : List Value) (hown : w.ownsRow base e size (.slice D k C) k xs)
    (B : Nat) (A : Option Addr) (m c : Nat) (news : List Value) (hr : Rd w B size A m c news) (h1 : ∀ u ∈ news, u.oneCell' = true) (hroom : k + m ≤ C) :
    ∃ w', (Builtin.append_ #[t, t] ty #[.slice D k C, .slice A m c]).run P w = .ok (.slice D (k + m) C) w' ∧ w'.ownsRow base e size (.slice D (k + m) C) (k + m) (xs ++ news) ∧ w.grownBy w' (Value.slice D k C).ownBlock := by
  subst hsize
  cases A with
  | none =>
    have hc := hr.none_ rfl
    have hm : m = 0 := by have := hr.le; omega
    subst hc hm
    have hnews : news = [] := List.eq_nil_of_length_eq_zero (by simpa using hr.len)
    subst hnews
    exact ⟨w, run_append_owned_none w base t ty e i i.size ht hi _ k xs hown, by simpa using hown, World.grownBy.refl w _⟩
  | some a =>
    rcases hown.2 with ⟨hv, hk⟩ | ⟨g, cap, cur, hv, hb, hg, hnc, hcm, hcs, htake⟩
    · injection hv with hv1 hv2 hv3
      subst hv1 hv2 hv3
      have hm : m = 0 := by omega
      subst hm
      have hnews : news = [] := List.eq_nil_of_length_eq_zero (by simpa using hr.len)
      subst hnews
      refine ⟨w, ?_, by simpa using hown, World.grownBy.refl w _⟩
      have hf := run_firstCells_some (P := P) w i.size 0 a 0 c [] (by simp) (by simp)
      simp [Builtin.append_, run_underlying ht, sizeOf, typeInfo, hi, Builtin.lenOf, hf]
    · injection hv with hv1 hv2 hv3
      subst hv1 hv3
      have hcells : ∀ j u, news[j]? = some u → w.cell? (a.add j) = some u := by
        intro j u hu
        rcases Nat.eq_zero_or_pos m with h0 | h0
        · subst h0
          have hnews : news = [] := List.eq_nil_of_length_eq_zero (by simpa using hr.len)
          subst hnews
          simp at hu
        · obtain ⟨b, o, e1, _, hc⟩ := hr.row h0
          injection e1 with e1
          subst e1
          rw [Addr.add_lit]
          exact hc j u hu
      obtain ⟨w', h2, h3, h4⟩ := run_append_fits (P := P) w base t ty e i i.size ht hi rfl g k C xs hown a m c news hr.len hcells h1 hroom
      exact ⟨w', h2, h3, h4⟩
theorem wpList_append_room_rd {ops : Array Oper} {rest : List Oper} {o : Oper} {a : Act} {Q : Exit → Act → World → Prop} (hgd : o.guard = none) (s x : Operand) (t : TypeId)
    (ho : o.op = .call { callee := .builtin .append, args := #[s, x], argTypes := #[t, t] })
    (base : Nat) (e : TypeId) (i : TypeInfo) (size : Nat) (ht : P.underlying t = some (.slice e)) (hi : P.info? e = some i) (hsize : i.size = size)
    (D : Option Addr) (k C : Nat) (xs : List Value) (hs : a.eval s = .slice D k C) (hown : w.ownsRow base e size (.slice D k C) k xs)
    (B : Nat) (A : Option Addr) (m c : Nat) (news : List Value) (hx : a.eval x = .slice A m c) (hr : Rd w B size A m c news) (h1 : ∀ u ∈ news, u.oneCell' = true) (hroom : k + m ≤ C)
    (h : ∀ w', w'.ownsRow base e size (.slice D (k + m) C) (k + m) (xs ++ news) → w.grownBy w' (Value.slice D k C).ownBlock → wpList P ops Q rest (a.put o.dst (.slice D (k + m) C)) w') : wpList P ops Q (o :: rest) a w := by
  obtain ⟨w', hrun, h2, h3⟩ := run_append_room_rd (P := P) w base t o.type e i size ht hi hsize D k C xs hown B A m c news hr h1 hroom
  exact Lib.wpList_append_run w hgd s x t t ho _ _ hs hx _ w' hrun (h w' h2 h3)
/-- 'append' as one step of a region that draws its order: it may grow. -/
theorem step_append_rd {ops : Array Oper} {o : Oper} {a : Act} {K : Act → World → Prop} {Q : Exit → Act → World → Prop} {E : Prop}
    (hg : o.guard = none) (s x : Operand) (t : TypeId) (hop : o.op = Op.call { callee := Callee.builtin Builtin.append, args := #[s, x], argTypes := #[t, t] })
    (base : Nat) (e : TypeId) (i : TypeInfo) (z : Value) (size bytes : Nat) (ht : P.underlying t = some (.slice e)) (hi : P.info? e = some i) (hz : i.zero = some z)
    (hsize : i.size = size) (hby : i.bytes = bytes) (hzs : z.cells.size = size) (hsz : 0 < size)
    (v : Value) (n : Nat) (xs : List Value) (hs : a.eval s = v) (hown : w.ownsRow base e size v n xs)
    (B : Nat) (A : Option Addr) (m c : Nat) (news : List Value) (hx : a.eval x = .slice A m c) (hr : Rd w B size A m c news) (h1 : ∀ u ∈ news, u.oneCell' = true)
    (h63 : n + m ≤ maxLen) (hbytes : (n + m) * bytes ≤ 140737488355328) (hbase : base ≤ w.heap.size)
    (hK : ∀ A' c' w', w'.ownsRow base e size (.slice A' (n + m) c') (n + m) (xs ++ news) → w.grownBy w' v.ownBlock → K (a.put o.dst (.slice A' (n + m) c')) w') :
    if Region.wanted o (yielded ops a.tmps) = true then Oper.wp P o a w K Q else E := by
  have hw : Region.wanted o (yielded ops a.tmps) = true := by simp [Region.wanted, hg]
  rw [if_pos hw]
  obtain ⟨v', w', hrun, h2, h3⟩ := run_append_rd (P := P) w base t o.type e i z size bytes ht hi hz hsize hby hzs hsz v n xs hown B A m c news hr h1 h63 hbytes hbase
  obtain ⟨A', c', rfl⟩ := own_form h2
  unfold Oper.wp
  simp [execOp, hop, resolve, invoke, builtin, hs, hx, hrun, Result.andThen]
  exact hK A' c' w' h2 h3
end

/-- Room for at least n blocks in a row of the call's own, or nothing where n is 0. -/
def Room (w : World) (n : Nat) (e : Ending) (w' : World) : Prop :=
  ∃ A C, e = .returned (.slice A 0 C) ∧ w'.ownsRow w.heap.size 24 2 (.slice A 0 C) 0 [] ∧ n ≤ C ∧ Below w.heap.size w w'
theorem grow38 (n : Nat) (w : World) (hn : n ≤ 100000) : Calls Try.prog 38 #[.slice none 0 0, .int .i64 n] w (Room w n) := by
  obtain ⟨i0, hi0, hz0, hz1, hz2⟩ := info_parts info24
  have hsl := fun w => run_head (P := Try.prog) w 22 24 i0 Try.underlying22 hi0 none 0 0 0 0 rfl (Nat.le_refl _)
  by_cases h0 : n = 0
  · subst h0
    go_enter Try.func38, Try.ntmps38
    go_wp2_with fail
    go_ret
    exact ⟨none, 0, rfl, w.ownsRow_nil _ _ _, Nat.le_refl _, Below.refl _ _⟩
  · have hp : ¬ ((n : Int) ≤ 0) := by omega
    have hrun := Lib.run_append_nil_zeros (P := Try.prog) w 22 3 22 24 i0 (.agg #[.int .i64 0, .int .i64 0]) .i64 .i64 Try.underlying22 Try.underlying3 hi0 hz0 n (by omega) (by rw [hz1]; omega) (by omega) (by rw [hz2]; omega)
    have hge := grownCap_ge w n 0 24
    have hle := grownCap_le_maxLen w n 0 24 (by simp only [maxLen]; omega)
    generalize grownCap w n 0 24 = C at *
    have hsl2 := fun w' => run_head (P := Try.prog) w' 22 24 i0 Try.underlying22 hi0 (some ⟨w.heap.size, 0, none⟩) n C 0 0 rfl (Nat.zero_le _)
    have HR := Lib.hid hrun
    have HC := Lib.hid hle
    clear hrun hle
    go_enter Try.func38, Try.ntmps38
    go_wp2_with (at_builtin; refine Lib.wpList_append_run _ rfl _ _ 22 3 rfl _ _ rfl rfl _ _ HR.out ?_)
    go_ret
    refine ⟨_, C, rfl, World.ownsRow_made (w := w.drew) _ C (Nat.le_refl _) HC.out ?_, hge, ((Below.refl _ _).drew).alloc (Nat.le_refl _) _⟩
    rw [Array.size_append, size_zeroCells, size_zeroCells]
    show n * 2 + (C - n) * 2 = C * 2
    omega
set_option maxHeartbeats 2000000 in
theorem concat25 (B : Nat) (A1 A2 : Option Addr) (n1 k1 n2 k2 : Nat) (l1 l2 : List Wn) (g : Nat) (w : World) (h1 : Hp w B A1 n1 k1 l1) (h2 : Hp w B A2 n2 k2 l2) (hB : B ≤ w.heap.size) (hg : g < w.heap.size)
    (d0 : w.cell? ⟨g, 0, none⟩ = some (.slice A1 n1 k1)) (d1 : w.cell? ⟨g, 1, none⟩ = some (.slice A2 n2 k2)) (r1 : n1 ≤ 8192) (r2 : n2 ≤ 8192) :
    Calls Try.prog 25 #[.slice (some ⟨g, 0, none⟩) 2 2] w (MadeHp w (l1 ++ l2) (n1 + n2)) := by
  obtain ⟨i0, hi0, hz0, hz1, hz2⟩ := info_parts info24
  have T1 := Lib.hid h1
  have T2 := Lib.hid h2
  have HG := grow38 (n1 + n2) w (by omega)
  rw [Int.natCast_add] at HG
  have HG := Lib.hid HG
  have D0 := Lib.hid d0
  have D1 := Lib.hid d1
  clear h1 h2
  go_enter Try.func25, Try.ntmps25
  go_wp2_with fail
  go_loop [3, 11] (fun s i => (i = .int .i64 0 ∧ s = .int .i64 0) ∨ (i = .int .i64 1 ∧ s = .int .i64 n1) ∨ (i = .int .i64 2 ∧ s = .int .i64 (n1 + n2))) (fun _ i => (2 - intOf i).toNat)
  case atStart => exact .inl ⟨rfl, rfl⟩
  case round =>
    rcases hrel with ⟨rfl, rfl⟩ | ⟨rfl, rfl⟩ | ⟨rfl, rfl⟩
    · go_wp2_with fail
      go_round
      case rel => exact .inr (.inl ⟨rfl, rfl⟩)
      case measure => simp [intOf]
    · go_wp2_with fail
      go_round
      case rel => exact .inr (.inr ⟨rfl, rfl⟩)
      case measure => simp [intOf]
    · go_wp2_with fail
      refine (HG.out).mono ?_; rintro e w1 ⟨A, C, rfl, hown, hC, hb⟩
      have O1 := Lib.hid hown
      have B1 := Lib.hid hb
      have HC := Lib.hid hC
      clear hown hb hC
      go_wp2_with fail
      go_loopw [6, 27] (fun v i wr => Below w.heap.size w wr ∧ ((i = .int .i64 0 ∧ v = .slice A 0 C ∧ wr.ownsRow w.heap.size 24 2 (.slice A 0 C) 0 []) ∨ (i = .int .i64 1 ∧ v = .slice A n1 C ∧ wr.ownsRow w.heap.size 24 2 (.slice A n1 C) n1 (hcells l1)) ∨
          (i = .int .i64 2 ∧ v = .slice A (n1 + n2) C ∧ wr.ownsRow w.heap.size 24 2 (.slice A (n1 + n2) C) (n1 + n2) (hcells l1 ++ hcells l2)))) (fun _ i _ => (2 - intOf i).toNat)
      case atStart => exact ⟨B1.out, .inl ⟨rfl, rfl, O1.out⟩⟩
      case round =>
        obtain ⟨hbel, hcase⟩ := hrel
        have hz : w.heap.size ≤ wr.heap.size := hbel.size
        have c0 : wr.cell? ⟨g, 0, none⟩ = some (.slice A1 n1 k1) := (hbel.cell (p := ⟨g, 0, none⟩) hg).trans D0.out
        have c1 : wr.cell? ⟨g, 1, none⟩ = some (.slice A2 n2 k2) := (hbel.cell (p := ⟨g, 1, none⟩) hg).trans D1.out
        have BW := Lib.hid hbel
        have R1 := Lib.hid (Rd.below T1.out hbel hB)
        have R2 := Lib.hid (Rd.below T2.out hbel hB)
        clear hbel
        rcases hcase with ⟨rfl, rfl, hown⟩ | ⟨rfl, rfl, hown⟩ | ⟨rfl, rfl, hown⟩
        · have O2 := Lib.hid hown
          clear hown
          go_wp2_with (at_builtin; refine wpList_append_room_rd _ rfl (.tmp 31) (.tmp 32) 22 rfl w.heap.size 24 i0 2 Try.underlying22 hi0 hz1 A 0 C [] rfl O2.out B A1 n1 k1 (hcells l1) rfl R1.out (hcells_one l1) (by have := HC.out; omega) ?_
                       intro w2 hown2 hg2
                       have B2 := Lib.hid (below_grown BW.out O2.out hg2 hz (Nat.le_refl _))
                       rw [Nat.zero_add, List.nil_append] at hown2
                       have O3 := Lib.hid hown2
                       clear hown2 hg2)
          go_roundw
          case rel => exact ⟨B2.out, .inr (.inl ⟨rfl, by simp, O3.out⟩)⟩
          case measure => simp [intOf]
        · have O2 := Lib.hid hown
          clear hown
          go_wp2_with (at_builtin; refine wpList_append_room_rd _ rfl (.tmp 31) (.tmp 32) 22 rfl w.heap.size 24 i0 2 Try.underlying22 hi0 hz1 A n1 C (hcells l1) rfl O2.out B A2 n2 k2 (hcells l2) rfl R2.out (hcells_one l2) (by have := HC.out; omega) ?_
                       intro w2 hown2 hg2
                       have B2 := Lib.hid (below_grown BW.out O2.out hg2 hz (Nat.le_refl _))
                       have O3 := Lib.hid hown2
                       clear hown2 hg2)
          go_roundw
          case rel => exact ⟨B2.out, .inr (.inr ⟨rfl, rfl, O3.out⟩)⟩
          case measure => simp [intOf]
        · have O2 := Lib.hid hown
          clear hown
          go_wp2_with fail
          go_ret
          refine ⟨A, C, rfl, ?_, BW.out⟩
          unfold OwnHp
          rw [hcells_append]
          exact O2.out
end Go.Proofs.Ytkkmfeclondlpaa.Heap
