/-
  What Open, the document's own Open, and bytes.Clone return.
-/
import Derived.Test.YtkoakfbdhehndaaWalks
namespace Go.Proofs.Ytkoakfbdhehndaa.Crc
open Go.ChangeShapes Go.WideShapes Go.ChangeAt Go.RowKit Words

def MadeOne (w : World) (l : List UInt8) (e : Ending) (w' : World) : Prop :=
  ∃ A c, e = .returned (.slice A l.length c) ∧ w'.ownsRow w.heap.size 5 1 (.slice A l.length c) l.length (bcells l) ∧ Below w.heap.size w w'
set_option maxHeartbeats 1000000 in
theorem clone (B : Nat) (A : Option Addr) (n c : Nat) (l : List UInt8) (w : World) (h : Txt w B A n c l) (hB : B ≤ w.heap.size) (hn : n ≤ 4098) :
    Calls Try.prog 17 #[.slice A n c] w (MadeOne w l) := by
  obtain ⟨i0, hi0, hz0, hz1, hz2⟩ := info_parts info5
  cases A with
  | none =>
    have hc := Rd.none_ h rfl
    have hn0 : n = 0 := by have := Rd.le h; omega
    have hl := h.len
    subst hc hn0
    have hl0 : l = [] := List.eq_nil_of_length_eq_zero hl
    subst hl0
    clear h hl
    have hq := Lib.run_eql_slice_nil (P := Try.prog) w 23 5 none 0 0 0 0 Try.underlying23
    go_enter Try.func17, Try.ntmps17
    go_wp2_with fail
    go_ret
    exact ⟨none, 0, rfl, own_nil w, Below.refl _ _⟩
  | some a =>
    have H := Lib.hid h
    have HN := Lib.hid h.len
    clear h
    have hq := Lib.run_eql_slice_nil (P := Try.prog) w 23 5 (some a) n c 0 0 Try.underlying23
    have hown1 : (w.alloc (.cells #[] 5)).ownsRow w.heap.size 5 1 (.slice (some ⟨w.heap.size, 0, none⟩) 0 0) 0 [] := w.ownsRow_lit #[] 0 (Nat.le_refl _) (by decide) rfl
    have hb1 : Below w.heap.size w (w.alloc (.cells #[] 5)) := (Below.refl _ _).alloc (Nat.le_refl _) _
    have hz1' : w.heap.size ≤ (w.alloc (.cells #[] 5)).heap.size := hb1.size
    have HR := Lib.hid (Rd.alloc H.out hB (.cells #[] 5))
    go_enter Try.func17, Try.ntmps17
    go_wp2_with (first
      | (at_builtin; refine wpList_append_rd _ rfl (.tmp 5) (.tmp 6) 23 rfl w.heap.size 5 i0 (.int .u8 0) 1 1 Try.underlying23 hi0 hz0 hz1 hz2 rfl (by decide) _ 0 [] rfl hown1 B (some a) n c (bcells l) rfl HR.out (bcells_one l) (by simp only [maxLen]; omega) (by omega) hz1' ?_
         intro A2 c2 w2 hown2 hg2
         have hb2 : Below w.heap.size w w2 := below_grown hb1 hown1 hg2 hz1' (Nat.le_refl _)
         simp only [Nat.zero_add, List.nil_append] at hown2))
    go_ret
    have hn' := HN.out
    subst hn'
    exact ⟨A2, c2, rfl, hown2, hb2⟩
theorem pair_val (x y : Nat) (hx : x < 256) (hy : y < 256) :
    bits .or .u16 (IntKind.u16.wrap (IntKind.u16.wrap (x : Int) * 256)) (IntKind.u16.wrap (y : Int)) = ((x * 256 + y : Nat) : Int) := by
  have e1 : IntKind.u16.wrap (x : Int) = (x : Int) := by rw [IntKind.wrap_u16]; omega
  have e2 : IntKind.u16.wrap ((x : Int) * 256) = ((x * 256 : Nat) : Int) := by rw [IntKind.wrap_u16]; omega
  have e3 : IntKind.u16.wrap (y : Int) = (y : Int) := by rw [IntKind.wrap_u16]; omega
  rw [e1, e2, e3, or16' _ _ (by omega) (by omega)]
  congr 1
  have h := Nat.shiftLeft_add_eq_or_of_lt (i := 8) (b := y) hy x
  rw [Nat.shiftLeft_eq] at h
  exact h.symm
/-- What Open returns for a text of at least two bytes, by its checksum. -/
def Opened (w : World) (m : List UInt8) (v : Nat) (e : Ending) (w' : World) : Prop :=
  (sum 65535 m = v → Made w m e w') ∧ (sum 65535 m ≠ v → e = two (.slice none 0 0) 7 ∧ ∃ k, w' = w.drewN k)
theorem opened_ok {w : World} {m : List UInt8} {v k : Nat} {e : Ending} {w' : World} (h : sum 65535 m = v) (h' : Made (w.drewN k) m e w') : Opened w m v e w' := by
  refine ⟨fun _ => ?_, fun h1 => absurd h h1⟩
  obtain ⟨A, c, h1, h2, h3⟩ := h'
  exact ⟨A, c, h1, h2, ⟨h3.os, h3.tape, h3.output, h3.size, h3.block⟩⟩
theorem opened_bad {w : World} {m : List UInt8} {v k : Nat} (h : sum 65535 m ≠ v) : Opened w m v (.returned (.tuple #[.slice none 0 0, .int .i64 7])) (w.drewN k) :=
  ⟨fun h1 => absurd h1 h, fun _ => ⟨rfl, k, rfl⟩⟩
set_option maxHeartbeats 1000000 in
theorem openAny (B : Nat) (A : Option Addr) (n c : Nat) (m : List UInt8) (x y : UInt8) (w : World) (h : Txt w B A n c (m ++ [x, y])) (hB : B ≤ w.heap.size) (hn : n ≤ 4098) :
    Calls Try.prog 11 #[.slice A n c] w (Opened w m (x.toNat * 256 + y.toNat)) := by
  have hl := h.len
  rw [List.length_append] at hl
  have hl2 : m.length + 2 = n := hl
  have hnc := Rd.le h
  obtain ⟨b, o, rfl, _, _⟩ := Rd.row h (by omega)
  have hx := h.cellAt rfl (show (m ++ [x, y])[m.length]? = some x by simp)
  have hy := h.cellAt rfl (show (m ++ [x, y])[m.length + 1]? = some y by simp)
  have hx' : w.cell? ⟨b, o + ((n : Int) - 2).toNat, none⟩ = some (.int .u8 (x.toNat : Int)) := by rw [show ((n : Int) - 2).toNat = m.length by omega]; exact hx
  have hy' : w.cell? ⟨b, o + ((n : Int) - 2 + 1).toNat, none⟩ = some (.int .u8 (y.toNat : Int)) := by rw [show ((n : Int) - 2 + 1).toNat = m.length + 1 by omega]; exact hy
  have hm : Txt w B (some ⟨b, o, none⟩) (n - 2) c m := by
    have := h.head (show n - 2 ≤ n by omega)
    rwa [List.take_append_of_le_length (by omega), List.take_of_length_le (by omega)] at this
  have HC := Lib.hid (fun k => sumOf 65535 (by decide) B (some ⟨b, o, none⟩) (n - 2) c m (w.drewN k) (Rd.drewN hm k))
  have HK := Lib.hid (fun k => clone B (some ⟨b, o, none⟩) (n - 2) c m (w.drewN k) (Rd.drewN hm k) hB (by omega))
  have HV := Lib.hid (pair_val x.toNat y.toNat (byte_lt x) (byte_lt y))
  have hsl : ∀ w : World, (Instr.slice 23 (.slice (some ⟨b, o, none⟩) n c) none (some (.int .i64 ((n : Int) - 2))) none).run Try.prog w = .ok (.slice (some ⟨b, o, none⟩) (n - 2) c) w := by
    obtain ⟨i0, hi0, _⟩ := info_parts info5
    exact fun w => run_head w 23 5 i0 Try.underlying23 hi0 _ n c (n - 2) _ (by omega) (by omega)
  have HS := Lib.hid hsl
  clear h hx hy hsl
  have k1 : (n : Int) - 2 < (n : Int) := by omega
  have k0 : (0 : Int) ≤ (n : Int) - 2 := by omega
  have k2 : (n : Int) - 2 ≤ 4096 := by omega
  have k3 : (0 : Int) ≤ (n : Int) - 2 + 1 := by omega
  have k4 : (n : Int) - 2 + 1 < (n : Int) := by omega
  have k5 : IntKind.i64.wrap ((n : Int) - 2 + 1) = (n : Int) - 2 + 1 := IntWalk.i64_in _ (by omega)
  have K5 := Lib.hid k5
  clear k5
  generalize x.toNat * 256 + y.toNat = v at *
  go_enter Try.func11, Try.ntmps11
  go_wp2_with fail
  have k6 := K5.out
  go_quiet (fail)
  rw [HV.out]
  clear k6 hx' hy' HV k3 k4
  have hsl := HS.out
  go_wp2_with fail
  refine (HC.out _).mono ?_; rintro e w' ⟨rfl, rfl⟩
  by_cases ht : sum 65535 m = v
  · have HT := Lib.hid ht
    rw [ht]
    clear ht
    go_wp2_with fail
    refine (HK.out _).mono ?_; rintro e w' ⟨A2, c2, rfl, hown, hbel⟩
    go_wp2_with fail
    go_ret2
    exact opened_ok HT.out ⟨A2, c2, rfl, hown, hbel⟩
  · have HT := Lib.hid ht
    have hne : (((sum 65535 m : Nat) : Int) != (v : Int)) = true := by rw [bne_iff_ne]; omega
    clear ht
    go_wp2_with fail
    go_ret2
    exact opened_bad HT.out
theorem openOut (A : Option Addr) (n c : Nat) (w : World) (hn : n < 2 ∨ 4098 < n) (hm : n ≤ 9223372036854775807) :
    Calls Try.prog 11 #[.slice A n c] w fun e w' => e = two (.slice none 0 0) 2 ∧ w = w' := by
  rcases hn with hn | hn
  · go_enter Try.func11, Try.ntmps11
    go_wp2_with fail
    go_ret2
    exact ⟨rfl, rfl⟩
  · have h1 : ¬ ((n : Int) - 2 < 0) := by omega
    have h2 : (4096 : Int) < (n : Int) - 2 := by omega
    go_enter Try.func11, Try.ntmps11
    go_wp2_with fail
    go_ret2
    exact ⟨rfl, rfl⟩

/-- What the document's own Open returns. -/
def RefOpened (w : World) (A : Option Addr) (c : Nat) (m : List UInt8) (v : Nat) (e : Ending) (w' : World) : Prop :=
  (sum 65535 m = v → e = two (.slice A m.length c) 0) ∧ (sum 65535 m ≠ v → e = two (.slice none 0 0) 7) ∧ Below w.heap.size w w'
theorem sealed_iff (m : List UInt8) (x y : UInt8) : sealed_ m = m ++ [x, y] ↔ sum 65535 m = x.toNat * 256 + y.toNat := by
  refine ⟨fun h => ?_, sealed_of m x y⟩
  have h1 := sum_sealed m
  rw [h] at h1
  exact (sum_zero_iff m x y).1 h1
set_option maxHeartbeats 1000000 in
theorem refOpenAny (B : Nat) (A : Option Addr) (n c : Nat) (m : List UInt8) (x y : UInt8) (w : World) (h : Txt w B A n c (m ++ [x, y])) (hB : B ≤ w.heap.size) (hn : n ≤ 4098) :
    Calls Try.prog 12 #[.slice A n c] w (RefOpened w A c m (x.toNat * 256 + y.toNat)) := by
  have hl := h.len
  rw [List.length_append] at hl
  have hl2 : m.length + 2 = n := hl
  have hnc := Rd.le h
  have hm : Txt w B A (n - 2) c m := by
    have := h.head (show n - 2 ≤ n by omega)
    rwa [List.take_append_of_le_length (by omega), List.take_of_length_le (by omega)] at this
  have HC := Lib.hid (refSealAny B A (n - 2) c m w hm (by omega))
  have hsl : ∀ w : World, (Instr.slice 23 (.slice A n c) none (some (.int .i64 ((n : Int) - 2))) none).run Try.prog w = .ok (.slice A (n - 2) c) w := by
    obtain ⟨i0, hi0, _⟩ := info_parts info5
    exact fun w => run_head w 23 5 i0 Try.underlying23 hi0 _ n c (n - 2) _ (by omega) (by omega)
  have HL := Lib.hid hl2
  have k0 : (2 : Int) ≤ (n : Int) := by omega
  have H := Lib.hid h
  have HI := Lib.hid (sealed_iff m x y)
  clear h hl hl2
  have k2 : (n : Int) ≤ 4098 := by omega
  generalize x.toNat * 256 + y.toNat = v at *
  go_enter Try.func12, Try.ntmps12
  go_wp2_with fail
  refine (HC.out).mono ?_; rintro e w1 ⟨A2, c2, rfl, hown, hbel⟩
  unfold two
  have hc1 : (convert 23 9 (.slice A2 (sealed_ m).length c2)).run Try.prog w1 = .ok (.string (str (sealed_ m))) w1 := run_string w1 23 9 5 Try.underlying23 Try.underlying5 Try.underlying9 (Rd.of_own hown)
  have hc2 : (convert 23 9 (.slice A n c)).run Try.prog w1 = .ok (.string (str (m ++ [x, y]))) w1 := run_string w1 23 9 5 Try.underlying23 Try.underlying5 Try.underlying9 (Rd.below H.out hbel hB)
  have hl1 := HL.out
  by_cases ht : sum 65535 m = v
  · have hb := str_beq (t := true) (propext ⟨fun _ => rfl, fun _ => HI.out.2 ht⟩)
    have HT := Lib.hid ht
    clear ht hl1
    go_wp2_with fail
    go_ret2
    refine ⟨fun _ => ?_, fun h => absurd HT.out h, hbel⟩
    rw [show m.length = n - 2 by have := HL.out; omega]
    rfl
  · have hb := str_beq (t := false) (propext ⟨fun h => absurd (HI.out.1 h) ht, fun h => by cases h⟩)
    have HT := Lib.hid ht
    clear ht hl1
    go_wp2_with fail
    go_ret2
    exact ⟨fun h => absurd h HT.out, fun _ => rfl, hbel⟩
theorem refOpenOut (A : Option Addr) (n c : Nat) (w : World) (hn : n < 2 ∨ 4098 < n) (hm : n ≤ 9223372036854775807) :
    Calls Try.prog 12 #[.slice A n c] w fun e w' => e = two (.slice none 0 0) 2 ∧ w = w' := by
  rcases hn with hn | hn
  · go_enter Try.func12, Try.ntmps12
    go_wp2_with fail
    go_ret2
    exact ⟨rfl, rfl⟩
  · have h1 : ¬ ((n : Int) < 2) := by omega
    have h2 : (4098 : Int) < (n : Int) := by omega
    go_enter Try.func12, Try.ntmps12
    go_wp2_with fail
    go_ret2
    exact ⟨rfl, rfl⟩
end Go.Proofs.Ytkoakfbdhehndaa.Crc
