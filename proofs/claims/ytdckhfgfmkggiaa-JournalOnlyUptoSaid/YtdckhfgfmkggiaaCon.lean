/-
  What is asked of the program's Write, Read and Fold; slices.Clone and Concat at bytes and at texts.
-/
import Derived.Test.YtdckhfgfmkggiaaJRead12
import Derived.Lib.AppendZeros
namespace Go.Proofs.Ytdckhfgfmkggiaa.Jrn
open Go.ChangeShapes Go.WideShapes Go.ChangeAt Go.RowKit Words Crc
set_option linter.unusedVariables false

/-- A text, anywhere, and an error code. -/
def TextTo (w : World) (r : Bytes × Int) (e : Ending) (w' : World) : Prop :=
  ∃ A c, e = two (.slice A r.1.length c) r.2 ∧ Txt w' w'.heap.size A r.1.length c r.1 ∧ Below w.heap.size w w'
theorem TextErr.to {w w' : World} {r : Bytes × Int} {e : Ending} (h : TextErr w r e w') : TextTo w r e w' := by
  obtain ⟨A, c, he, ho, hb⟩ := h
  exact ⟨A, c, he, Rd.of_own ho, hb⟩
def WriteC : Prop := ∀ (B : Nat) (A : Option Addr) (n c : Nat) (l : Bytes) (w : World), Txt w B A n c l → B ≤ w.heap.size → Calls Try.prog 9 #[.slice A n c] w (TextTo w (writeR l))
def ReadC : Prop := ∀ (B : Nat) (A : Option Addr) (n c : Nat) (b : Bytes) (w : World), Txt w B A n c b → B ≤ w.heap.size → n ≤ 4294967296 → Calls Try.prog 11 #[.slice A n c] w (ReadTo w b)
def FoldC : Prop := ∀ (B : Nat) (A : Option Addr) (n c : Nat) (vs : List Sl) (ls : List Bytes) (w : World), Grid w B A n c vs ls → B ≤ w.heap.size → n ≤ 4194304 → Calls Try.prog 14 #[.slice A n c] w (TextErr w (foldR ls))
/-! ### slices.Clone -/
def MadeOne (w : World) (l : Bytes) (e : Ending) (w' : World) : Prop :=
  ∃ A c, e = .returned (.slice A l.length c) ∧ w'.ownsRow w.heap.size 5 1 (.slice A l.length c) l.length (bcells l) ∧ Below w.heap.size w w'
set_option maxHeartbeats 1000000 in
theorem clone21 (B : Nat) (A : Option Addr) (n c : Nat) (l : Bytes) (w : World) (h : Txt w B A n c l) (hB : B ≤ w.heap.size) (hn : n ≤ 140737488355328) :
    Calls Try.prog 21 #[.slice A n c] w (MadeOne w l) := by
  obtain ⟨i0, hi0, hz0, hz1, hz2⟩ := info_parts info5
  cases A with
  | none =>
    have hc := Rd.none_ h rfl
    have hn0 : n = 0 := by have := Rd.le h; omega
    have hl := h.len
    subst hc hn0
    have hl0 : l = [] := List.eq_nil_of_length_eq_zero hl
    subst hl0
    clear h hl
    have hq := Lib.run_eql_slice_nil (P := Try.prog) w 22 5 none 0 0 0 0 Try.underlying22
    go_enter Try.func21, Try.ntmps21
    go_wp2_with fail
    go_ret
    exact ⟨none, 0, rfl, own_nil w, Below.refl _ _⟩
  | some a =>
    have H := Lib.hid h
    have HN := Lib.hid h.len
    clear h
    have hq := Lib.run_eql_slice_nil (P := Try.prog) w 22 5 (some a) n c 0 0 Try.underlying22
    have hown1 : (w.alloc (.cells #[] 5)).ownsRow w.heap.size 5 1 (.slice (some ⟨w.heap.size, 0, none⟩) 0 0) 0 [] := w.ownsRow_lit #[] 0 (Nat.le_refl _) (by decide) rfl
    have hb1 : Below w.heap.size w (w.alloc (.cells #[] 5)) := (Below.refl _ _).alloc (Nat.le_refl _) _
    have hz1' : w.heap.size ≤ (w.alloc (.cells #[] 5)).heap.size := hb1.size
    have HR := Lib.hid (Rd.alloc H.out hB (.cells #[] 5))
    go_enter Try.func21, Try.ntmps21
    go_wp2_with (first
      | (at_builtin; refine wpList_append_rd _ rfl (.tmp 5) (.tmp 6) 22 rfl w.heap.size 5 i0 (.int .u8 0) 1 1 Try.underlying22 hi0 hz0 hz1 hz2 rfl (by decide) _ 0 [] rfl hown1 B (some a) n c (bcells l) rfl HR.out (bcells_one l) (by simp only [maxLen]; omega) (by omega) hz1' ?_
         intro A2 c2 w2 hown2 hg2
         have hb2 : Below w.heap.size w w2 := below_grown hb1 hown1 hg2 hz1' (Nat.le_refl _)
         simp only [Nat.zero_add, List.nil_append] at hown2))
    go_ret
    have hn' := HN.out
    subst hn'
    exact ⟨A2, c2, rfl, hown2, hb2⟩
/-! ### slices.Concat -/
section
variable {P : Program} (w : World)
/-- 'append' within the capacity: the value stays at its address. -/
theorem run_append_room_rd (base : Nat) (t ty e : TypeId) (i : TypeInfo) (size : Nat) (ht : P.underlying t = some (.slice e)) (hi : P.info? e = some i) (hsize : i.size = size)
    (D : Option Addr) (k C : Nat) (xs : List Value) (hown : w.ownsRow base e size (.slice D k C) k xs)
    (B : Nat) (A : Option Addr) (m c : Nat) (news : List Value) (hr : Rd w B size A m c news) (h1 : ∀ u ∈ news, u.oneCell' = true) (hroom : k + m ≤ C) :
    ∃ w', (Builtin.append_ #[t, t] ty #[.slice D k C, .slice A m c]).run P w = .ok (.slice D (k + m) C) w' ∧ w'.ownsRow base e size (.slice D (k + m) C) (k + m) (xs ++ news) ∧ w.grownBy w' (Value.slice D k C).ownBlock := by
  subst hsize
  cases A with
  | none =>
    have hc := hr.none_ rfl
    have hm : m = 0 := by have := hr.le; omega
    subst hc hm
    have hnews : news = [] := List.eq_nil_of_length_eq_zero (by simpa using hr.len)
    subst hnews
    exact ⟨w, run_append_owned_none w base t ty e i i.size ht hi _ k xs hown, by simpa using hown, World.grownBy.refl w _⟩
  | some a =>
    rcases hown.2 with ⟨hv, hk⟩ | ⟨g, cap, cur, hv, hb, hg, hnc, hcm, hcs, htake⟩
    · injection hv with hv1 hv2 hv3
      subst hv1 hv2 hv3
      have hm : m = 0 := by omega
      subst hm
      have hnews : news = [] := List.eq_nil_of_length_eq_zero (by simpa using hr.len)
      subst hnews
      refine ⟨w, ?_, by simpa using hown, World.grownBy.refl w _⟩
      have hf := run_firstCells_some (P := P) w i.size 0 a 0 c [] (by simp) (by simp)
      simp [Builtin.append_, run_underlying ht, sizeOf, typeInfo, hi, Builtin.lenOf, hf]
    · injection hv with hv1 hv2 hv3
      subst hv1 hv3
      have hcells : ∀ j u, news[j]? = some u → w.cell? (a.add j) = some u := by
        intro j u hu
        rcases Nat.eq_zero_or_pos m with h0 | h0
        · subst h0
          have hnews : news = [] := List.eq_nil_of_length_eq_zero (by simpa using hr.len)
          subst hnews
          simp at hu
        · obtain ⟨b, o, e1, _, hc⟩ := hr.row h0
          injection e1 with e1
          subst e1
          rw [Addr.add_lit]
          exact hc j u hu
      obtain ⟨w', h2, h3, h4⟩ := run_append_fits (P := P) w base t ty e i i.size ht hi rfl g k C xs hown a m c news hr.len hcells h1 hroom
      exact ⟨w', h2, h3, h4⟩
theorem wpList_append_room_rd {ops : Array Oper} {rest : List Oper} {o : Oper} {a : Act} {Q : Exit → Act → World → Prop} (hgd : o.guard = none) (s x : Operand) (t : TypeId)
    (ho : o.op = .call { callee := .builtin .append, args := #[s, x], argTypes := #[t, t] })
    (base : Nat) (e : TypeId) (i : TypeInfo) (size : Nat) (ht : P.underlying t = some (.slice e)) (hi : P.info? e = some i) (hsize : i.size = size)
    (D : Option Addr) (k C : Nat) (xs : List Value) (hs : a.eval s = .slice D k C) (hown : w.ownsRow base e size (.slice D k C) k xs)
    (B : Nat) (A : Option Addr) (m c : Nat) (news : List Value) (hx : a.eval x = .slice A m c) (hr : Rd w B size A m c news) (h1 : ∀ u ∈ news, u.oneCell' = true) (hroom : k + m ≤ C)
    (h : ∀ w', w'.ownsRow base e size (.slice D (k + m) C) (k + m) (xs ++ news) → w.grownBy w' (Value.slice D k C).ownBlock → wpList P ops Q rest (a.put o.dst (.slice D (k + m) C)) w') : wpList P ops Q (o :: rest) a w := by
  obtain ⟨w', hrun, h2, h3⟩ := run_append_room_rd (P := P) w base t o.type e i size ht hi hsize D k C xs hown B A m c news hr h1 hroom
  exact Lib.wpList_append_run w hgd s x t t ho _ _ hs hx _ w' hrun (h w' h2 h3)
end

/-- Room for at least n bytes in a row of the call's own, or nothing where n is 0. -/
def RoomB (w : World) (n : Nat) (e : Ending) (w' : World) : Prop :=
  ∃ A C, e = .returned (.slice A 0 C) ∧ w'.ownsRow w.heap.size 5 1 (.slice A 0 C) 0 [] ∧ n ≤ C ∧ Below w.heap.size w w'
theorem grow22 (n : Nat) (w : World) (hn : n ≤ 281474976702464) : Calls Try.prog 22 #[.slice none 0 0, .int .i64 n] w (RoomB w n) := by
  obtain ⟨i0, hi0, hz0, hz1, hz2⟩ := info_parts info5
  have hsl := fun w => run_head (P := Try.prog) w 22 5 i0 Try.underlying22 hi0 none 0 0 0 0 rfl (Nat.le_refl _)
  by_cases h0 : n = 0
  · subst h0
    go_enter Try.func22, Try.ntmps22
    go_wp2_with fail
    go_ret
    exact ⟨none, 0, rfl, own_nil w, Nat.le_refl _, Below.refl _ _⟩
  · have hp : ¬ ((n : Int) ≤ 0) := by omega
    have hrun := Lib.run_append_nil_zeros (P := Try.prog) w 22 3 22 5 i0 (.int .u8 0) .i64 .i64 Try.underlying22 Try.underlying3 hi0 hz0 n (by omega) (by omega) (by omega) (by rw [hz2]; omega)
    have hge := grownCap_ge w n 0 5
    have hle := grownCap_le_maxLen w n 0 5 (by simp only [maxLen]; omega)
    generalize grownCap w n 0 5 = C at *
    have hsl2 := fun w' => run_head (P := Try.prog) w' 22 5 i0 Try.underlying22 hi0 (some ⟨w.heap.size, 0, none⟩) n C 0 0 rfl (Nat.zero_le _)
    have HR := Lib.hid hrun
    have HC := Lib.hid hle
    clear hrun hle
    go_enter Try.func22, Try.ntmps22
    go_wp2_with (at_builtin; refine Lib.wpList_append_run _ rfl _ _ 22 3 rfl _ _ rfl rfl _ _ HR.out ?_)
    go_ret
    refine ⟨_, C, rfl, World.ownsRow_made (w := w.drew) _ C (Nat.le_refl _) HC.out ?_, hge, ((Below.refl _ _).drew).alloc (Nat.le_refl _) _⟩
    rw [Array.size_append, size_zeroCells, size_zeroCells]
    show n * 1 + (C - n) * 1 = C * 1
    omega
set_option maxHeartbeats 1000000 in
theorem concat16 (B : Nat) (A1 A2 : Option Addr) (n1 k1 n2 k2 : Nat) (l1 l2 : List UInt8) (g : Nat) (w : World) (h1 : Txt w B A1 n1 k1 l1) (h2 : Txt w B A2 n2 k2 l2) (hB : B ≤ w.heap.size) (hg : g < w.heap.size)
    (d0 : w.cell? ⟨g, 0, none⟩ = some (.slice A1 n1 k1)) (d1 : w.cell? ⟨g, 1, none⟩ = some (.slice A2 n2 k2)) (r1 : n1 ≤ 140737488351232) (r2 : n2 ≤ 140737488351232) :
    Calls Try.prog 16 #[.slice (some ⟨g, 0, none⟩) 2 2] w (MadeOne w (l1 ++ l2)) := by
  obtain ⟨i0, hi0, hz0, hz1, hz2⟩ := info_parts info5
  have T1 := Lib.hid h1
  have T2 := Lib.hid h2
  have L1 := Lib.hid h1.len
  have L2 := Lib.hid h2.len
  have HG := grow22 (n1 + n2) w (by omega)
  rw [Int.natCast_add] at HG
  have HG := Lib.hid HG
  have D0 := Lib.hid d0
  have D1 := Lib.hid d1
  clear h1 h2
  go_enter Try.func16, Try.ntmps16
  go_wp2_with fail
  go_loop [3, 11] (fun s i => (i = .int .i64 0 ∧ s = .int .i64 0) ∨ (i = .int .i64 1 ∧ s = .int .i64 n1) ∨ (i = .int .i64 2 ∧ s = .int .i64 (n1 + n2))) (fun _ i => (2 - intOf i).toNat)
  case atStart => exact .inl ⟨rfl, rfl⟩
  case round =>
    rcases hrel with ⟨rfl, rfl⟩ | ⟨rfl, rfl⟩ | ⟨rfl, rfl⟩
    · go_wp2_with fail
      go_round
      case rel => exact .inr (.inl ⟨rfl, rfl⟩)
      case measure => simp [intOf]
    · go_wp2_with fail
      go_round
      case rel => exact .inr (.inr ⟨rfl, rfl⟩)
      case measure => simp [intOf]
    · go_wp2_with fail
      refine (HG.out).mono ?_; rintro e w1 ⟨A, C, rfl, hown, hC, hb⟩
      have O1 := Lib.hid hown
      have B1 := Lib.hid hb
      have HC := Lib.hid hC
      clear hown hb hC
      go_wp2_with fail
      go_loopw [6, 27] (fun v i wr => Below w.heap.size w wr ∧ ((i = .int .i64 0 ∧ v = .slice A 0 C ∧ wr.ownsRow w.heap.size 5 1 (.slice A 0 C) 0 []) ∨ (i = .int .i64 1 ∧ v = .slice A n1 C ∧ wr.ownsRow w.heap.size 5 1 (.slice A n1 C) n1 (bcells l1)) ∨
          (i = .int .i64 2 ∧ v = .slice A (n1 + n2) C ∧ wr.ownsRow w.heap.size 5 1 (.slice A (n1 + n2) C) (n1 + n2) (bcells l1 ++ bcells l2)))) (fun _ i _ => (2 - intOf i).toNat)
      case atStart => exact ⟨B1.out, .inl ⟨rfl, rfl, O1.out⟩⟩
      case round =>
        obtain ⟨hbel, hcase⟩ := hrel
        have hz : w.heap.size ≤ wr.heap.size := hbel.size
        have c0 : wr.cell? ⟨g, 0, none⟩ = some (.slice A1 n1 k1) := (hbel.cell (p := ⟨g, 0, none⟩) hg).trans D0.out
        have c1 : wr.cell? ⟨g, 1, none⟩ = some (.slice A2 n2 k2) := (hbel.cell (p := ⟨g, 1, none⟩) hg).trans D1.out
        have BW := Lib.hid hbel
        have R1 := Lib.hid (Rd.below T1.out hbel hB)
        have R2 := Lib.hid (Rd.below T2.out hbel hB)
        clear hbel
        rcases hcase with ⟨rfl, rfl, hown⟩ | ⟨rfl, rfl, hown⟩ | ⟨rfl, rfl, hown⟩
        · have O2 := Lib.hid hown
          clear hown
          go_wp2_with (at_builtin; refine wpList_append_room_rd _ rfl (.tmp 31) (.tmp 32) 22 rfl w.heap.size 5 i0 1 Try.underlying22 hi0 hz1 A 0 C [] rfl O2.out B A1 n1 k1 (bcells l1) rfl R1.out (bcells_one l1) (by have := HC.out; omega) ?_
                       intro w2 hown2 hg2
                       have B2 := Lib.hid (below_grown BW.out O2.out hg2 hz (Nat.le_refl _))
                       rw [Nat.zero_add, List.nil_append] at hown2
                       have O3 := Lib.hid hown2
                       clear hown2 hg2)
          go_roundw
          case rel => exact ⟨B2.out, .inr (.inl ⟨rfl, by simp, O3.out⟩)⟩
          case measure => simp [intOf]
        · have O2 := Lib.hid hown
          clear hown
          go_wp2_with (at_builtin; refine wpList_append_room_rd _ rfl (.tmp 31) (.tmp 32) 22 rfl w.heap.size 5 i0 1 Try.underlying22 hi0 hz1 A n1 C (bcells l1) rfl O2.out B A2 n2 k2 (bcells l2) rfl R2.out (bcells_one l2) HC.out ?_
                       intro w2 hown2 hg2
                       have B2 := Lib.hid (below_grown BW.out O2.out hg2 hz (Nat.le_refl _))
                       have O3 := Lib.hid hown2
                       clear hown2 hg2)
          go_roundw
          case rel => exact ⟨B2.out, .inr (.inr ⟨rfl, rfl, O3.out⟩)⟩
          case measure => simp [intOf]
        · have O2 := Lib.hid hown
          clear hown
          go_wp2_with fail
          go_ret
          refine ⟨A, C, ?_, ?_, BW.out⟩
          · rw [show (l1 ++ l2).length = n1 + n2 by rw [List.length_append, L1.out, L2.out]]; rfl
          · rw [show (l1 ++ l2).length = n1 + n2 by rw [List.length_append, L1.out, L2.out], bcells_append]; exact O2.out
def MadeRow (w : World) (l : List Sl) (e : Ending) (w' : World) : Prop :=
  ∃ A c, e = .returned (.slice A l.length c) ∧ w'.ownsRow w.heap.size 22 1 (.slice A l.length c) l.length (svals l) ∧ Below w.heap.size w w'
theorem rd_len {w : World} {B n c : Nat} {A : Option Addr} {vs : List Sl} (h : Rd w B 1 A n c (svals vs)) : vs.length = n := by have := Rd.len h; rw [svals_length] at this; omega
/-- Room for at least n bytes in a row of the call's own, or nothing where n is 0. -/
def RoomR (w : World) (n : Nat) (e : Ending) (w' : World) : Prop :=
  ∃ A C, e = .returned (.slice A 0 C) ∧ w'.ownsRow w.heap.size 22 1 (.slice A 0 C) 0 [] ∧ n ≤ C ∧ Below w.heap.size w w'
theorem grow23 (n : Nat) (w : World) (hn : n ≤ 5864062014805) : Calls Try.prog 23 #[.slice none 0 0, .int .i64 n] w (RoomR w n) := by
  obtain ⟨i0, hi0, hz0, hz1, hz2⟩ := info_parts info22
  have hsl := fun w => run_head (P := Try.prog) w 26 22 i0 Try.underlying26 hi0 none 0 0 0 0 rfl (Nat.le_refl _)
  by_cases h0 : n = 0
  · subst h0
    go_enter Try.func23, Try.ntmps23
    go_wp2_with fail
    go_ret
    exact ⟨none, 0, rfl, w.ownsRow_nil _ _ _, Nat.le_refl _, Below.refl _ _⟩
  · have hp : ¬ ((n : Int) ≤ 0) := by omega
    have hrun := Lib.run_append_nil_zeros (P := Try.prog) w 26 3 26 22 i0 (.slice none 0 0) .i64 .i64 Try.underlying26 Try.underlying3 hi0 hz0 n (by omega) (by omega) (by omega) (by rw [hz2]; omega)
    have hge := grownCap_ge w n 0 22
    have hle := grownCap_le_maxLen w n 0 22 (by simp only [maxLen]; omega)
    generalize grownCap w n 0 22 = C at *
    have hsl2 := fun w' => run_head (P := Try.prog) w' 26 22 i0 Try.underlying26 hi0 (some ⟨w.heap.size, 0, none⟩) n C 0 0 rfl (Nat.zero_le _)
    have HR := Lib.hid hrun
    have HC := Lib.hid hle
    clear hrun hle
    go_enter Try.func23, Try.ntmps23
    go_wp2_with (at_builtin; refine Lib.wpList_append_run _ rfl _ _ 26 3 rfl _ _ rfl rfl _ _ HR.out ?_)
    go_ret
    refine ⟨_, C, rfl, World.ownsRow_made (w := w.drew) _ C (Nat.le_refl _) HC.out ?_, hge, ((Below.refl _ _).drew).alloc (Nat.le_refl _) _⟩
    rw [Array.size_append, size_zeroCells, size_zeroCells]
    show n * 1 + (C - n) * 1 = C * 1
    omega
set_option maxHeartbeats 1000000 in
theorem concat17 (B : Nat) (A1 A2 : Option Addr) (n1 k1 n2 k2 : Nat) (l1 l2 : List Sl) (g : Nat) (w : World) (h1 : Rd w B 1 A1 n1 k1 (svals l1)) (h2 : Rd w B 1 A2 n2 k2 (svals l2)) (hB : B ≤ w.heap.size) (hg : g < w.heap.size)
    (d0 : w.cell? ⟨g, 0, none⟩ = some (.slice A1 n1 k1)) (d1 : w.cell? ⟨g, 1, none⟩ = some (.slice A2 n2 k2)) (r1 : n1 ≤ 2147483648) (r2 : n2 ≤ 2147483648) :
    Calls Try.prog 17 #[.slice (some ⟨g, 0, none⟩) 2 2] w (MadeRow w (l1 ++ l2)) := by
  obtain ⟨i0, hi0, hz0, hz1, hz2⟩ := info_parts info22
  have T1 := Lib.hid h1
  have T2 := Lib.hid h2
  have L1 := Lib.hid (rd_len h1)
  have L2 := Lib.hid (rd_len h2)
  have HG := grow23 (n1 + n2) w (by omega)
  rw [Int.natCast_add] at HG
  have HG := Lib.hid HG
  have D0 := Lib.hid d0
  have D1 := Lib.hid d1
  clear h1 h2
  go_enter Try.func17, Try.ntmps17
  go_wp2_with fail
  go_loop [3, 11] (fun s i => (i = .int .i64 0 ∧ s = .int .i64 0) ∨ (i = .int .i64 1 ∧ s = .int .i64 n1) ∨ (i = .int .i64 2 ∧ s = .int .i64 (n1 + n2))) (fun _ i => (2 - intOf i).toNat)
  case atStart => exact .inl ⟨rfl, rfl⟩
  case round =>
    rcases hrel with ⟨rfl, rfl⟩ | ⟨rfl, rfl⟩ | ⟨rfl, rfl⟩
    · go_wp2_with fail
      go_round
      case rel => exact .inr (.inl ⟨rfl, rfl⟩)
      case measure => simp [intOf]
    · go_wp2_with fail
      go_round
      case rel => exact .inr (.inr ⟨rfl, rfl⟩)
      case measure => simp [intOf]
    · go_wp2_with fail
      refine (HG.out).mono ?_; rintro e w1 ⟨A, C, rfl, hown, hC, hb⟩
      have O1 := Lib.hid hown
      have B1 := Lib.hid hb
      have HC := Lib.hid hC
      clear hown hb hC
      go_wp2_with fail
      go_loopw [6, 27] (fun v i wr => Below w.heap.size w wr ∧ ((i = .int .i64 0 ∧ v = .slice A 0 C ∧ wr.ownsRow w.heap.size 22 1 (.slice A 0 C) 0 []) ∨ (i = .int .i64 1 ∧ v = .slice A n1 C ∧ wr.ownsRow w.heap.size 22 1 (.slice A n1 C) n1 (svals l1)) ∨
          (i = .int .i64 2 ∧ v = .slice A (n1 + n2) C ∧ wr.ownsRow w.heap.size 22 1 (.slice A (n1 + n2) C) (n1 + n2) (svals l1 ++ svals l2)))) (fun _ i _ => (2 - intOf i).toNat)
      case atStart => exact ⟨B1.out, .inl ⟨rfl, rfl, O1.out⟩⟩
      case round =>
        obtain ⟨hbel, hcase⟩ := hrel
        have hz : w.heap.size ≤ wr.heap.size := hbel.size
        have c0 : wr.cell? ⟨g, 0, none⟩ = some (.slice A1 n1 k1) := (hbel.cell (p := ⟨g, 0, none⟩) hg).trans D0.out
        have c1 : wr.cell? ⟨g, 1, none⟩ = some (.slice A2 n2 k2) := (hbel.cell (p := ⟨g, 1, none⟩) hg).trans D1.out
        have BW := Lib.hid hbel
        have R1 := Lib.hid (Rd.below T1.out hbel hB)
        have R2 := Lib.hid (Rd.below T2.out hbel hB)
        clear hbel
        rcases hcase with ⟨rfl, rfl, hown⟩ | ⟨rfl, rfl, hown⟩ | ⟨rfl, rfl, hown⟩
        · have O2 := Lib.hid hown
          clear hown
          go_wp2_with (at_builtin; refine wpList_append_room_rd _ rfl (.tmp 31) (.tmp 32) 26 rfl w.heap.size 22 i0 1 Try.underlying26 hi0 hz1 A 0 C [] rfl O2.out B A1 n1 k1 (svals l1) rfl R1.out (svals_one l1) (by have := HC.out; omega) ?_
                       intro w2 hown2 hg2
                       have B2 := Lib.hid (below_grown BW.out O2.out hg2 hz (Nat.le_refl _))
                       rw [Nat.zero_add, List.nil_append] at hown2
                       have O3 := Lib.hid hown2
                       clear hown2 hg2)
          go_roundw
          case rel => exact ⟨B2.out, .inr (.inl ⟨rfl, by simp, O3.out⟩)⟩
          case measure => simp [intOf]
        · have O2 := Lib.hid hown
          clear hown
          go_wp2_with (at_builtin; refine wpList_append_room_rd _ rfl (.tmp 31) (.tmp 32) 26 rfl w.heap.size 22 i0 1 Try.underlying26 hi0 hz1 A n1 C (svals l1) rfl O2.out B A2 n2 k2 (svals l2) rfl R2.out (svals_one l2) HC.out ?_
                       intro w2 hown2 hg2
                       have B2 := Lib.hid (below_grown BW.out O2.out hg2 hz (Nat.le_refl _))
                       have O3 := Lib.hid hown2
                       clear hown2 hg2)
          go_roundw
          case rel => exact ⟨B2.out, .inr (.inr ⟨rfl, rfl, O3.out⟩)⟩
          case measure => simp [intOf]
        · have O2 := Lib.hid hown
          clear hown
          go_wp2_with fail
          go_ret
          refine ⟨A, C, ?_, ?_, BW.out⟩
          · rw [show (l1 ++ l2).length = n1 + n2 by rw [List.length_append, L1.out, L2.out]]; rfl
          · rw [show (l1 ++ l2).length = n1 + n2 by rw [List.length_append, L1.out, L2.out], svals_append]; exact O2.out
end Go.Proofs.Ytdckhfgfmkggiaa.Jrn
