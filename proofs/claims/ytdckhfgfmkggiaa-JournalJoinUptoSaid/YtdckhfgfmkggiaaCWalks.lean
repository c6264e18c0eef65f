/-
  What Sum, Seal and Open of package crc return, walked through the program's text.
-/
import Derived.Test.YtdckhfgfmkggiaaProg
import Derived.Test.YtdckhfgfmkggiaaCPlain
import Derived.Test.YtdckhfgfmkggiaaWords
import Derived.Deep.QuietTactic
import Derived.BigQuiet
namespace Go.Proofs.Ytdckhfgfmkggiaa.Crc
open Go.ChangeShapes Go.WideShapes Go.ChangeAt Go.RowKit Words
set_option linter.unusedVariables false

theorem ret_int {k : IntKind} {a b : Int} (h : a = b) : Ending.returned (.int k a) = .returned (.int k b) := by rw [h]
theorem ret_bool {a b : Bool} (h : a = b) : Ending.returned (.bool a) = .returned (.bool b) := by rw [h]
theorem u16_num {a b : Int} (h : a = b) : Value.int .u16 a = Value.int .u16 b := by rw [h]
theorem xor16' (a b : Nat) (ha : a < 65536) (hb : b < 65536) : bits .xor .u16 (a : Int) (b : Int) = ((a ^^^ b : Nat) : Int) := u16_xor_nat a b ha hb
theorem or16' (a b : Nat) (ha : a < 65536) (hb : b < 65536) : bits .or .u16 (a : Int) (b : Int) = ((a ||| b : Nat) : Int) := u16_or_nat a b ha hb

theorem shift8 (s : Nat) (hs : s < 65536) (w : World) :
    Calls Try.prog 26 #[.int .u16 s] w fun e w' => e = .returned (.int .u16 (Lk 8 s : Nat)) ∧ w = w' := by
  go_enter Try.func26, Try.ntmps26
  go_wp2
  go_loop [0, 4] (fun x i => ∃ k : Nat, k ≤ 8 ∧ i = .int .i64 k ∧ x = .int .u16 (Lk k s : Nat)) (fun _ i => (8 - intOf i).toNat)
  case atStart => exact ⟨0, by omega, rfl, rfl⟩
  case round =>
    obtain ⟨k, hk, rfl, rfl⟩ := hrel
    have hx := Lk_lt k s hs
    have HL : Hid (Lk (k + 1) s = L (Lk k s)) := Lib.hid rfl
    by_cases hlt : k < 8
    · generalize Lk k s = x at *
      by_cases hb : x < 32768
      · have HS : Hid (L x = 2 * x) := Lib.hid (L_small x hb)
        have hd : ((x : Int) / 32768 == 1) = false := by rw [beq_eq_false_iff_ne]; omega
        go_wp2
        go_round
        case rel => exact ⟨k + 1, by omega, by go_num, u16_num (by rw [HL.out, HS.out]; omega)⟩
        case measure => simp [intOf]; omega
      · have HS : Hid (bits .xor .u16 (IntKind.u16.wrap ((x : Int) * 2)) 4129 = ((L x : Nat) : Int)) := Lib.hid (by
          rw [L_big x (by omega) hx, show IntKind.u16.wrap ((x : Int) * 2) = ((2 * x % 65536 : Nat) : Int) by rw [IntKind.wrap_u16]; omega]
          exact xor16' _ 4129 (by omega) (by decide))
        have hd : ((x : Int) / 32768 == 1) = true := by rw [beq_iff_eq]; omega
        go_wp2
        go_round
        case rel => exact ⟨k + 1, by omega, by go_num, u16_num (by rw [HL.out, HS.out])⟩
        case measure => simp [intOf]; omega
    · obtain rfl : k = 8 := by omega
      clear HL
      go_wp2
      go_ret
      exact ⟨ret_int rfl, rfl⟩

/-- The byte in front of the checksum. -/
theorem byte_in (s c : Nat) (hs : s < 65536) (hc : c < 256) : bits .xor .u16 (s : Int) ((c : Int) * 256) = ((s ^^^ c * 256 : Nat) : Int) := xor16' s (c * 256) hs (by omega)
theorem sumOf (s : Nat) (hs : s < 65536) (B : Nat) (A : Option Addr) (n c : Nat) (l : List UInt8) (w : World) (h : Txt w B A n c l) :
    Calls Try.prog 24 #[.int .u16 s, .slice A n c] w fun e w' => e = .returned (.int .u16 (sum s l : Nat)) ∧ w = w' := by
  have hl := h.len
  have hm : n ≤ 9223372036854775807 := by have := h.le; have := h.max; unfold maxLen at this; omega
  have H := Lib.hid h
  have HN := Lib.hid hl
  clear h hl
  go_enter Try.func24, Try.ntmps24
  go_wp2
  go_loop [0, 9] (fun x i => ∃ k : Nat, k ≤ n ∧ i = .int .i64 k ∧ x = .int .u16 (sum s (l.take k) : Nat)) (fun _ i => (n - intOf i).toNat)
  case atStart => exact ⟨0, by omega, rfl, rfl⟩
  case round =>
    obtain ⟨k, hk, rfl, rfl⟩ := hrel
    have hx := sum_lt (l.take k) s hs
    by_cases hlt : k < n
    · obtain ⟨b, o, rfl, _, _⟩ := Rd.row H.out (by omega)
      have hlk : k < l.length := by rw [HN.out]; exact hlt
      have hcell := H.out.cellAt rfl (List.getElem?_eq_getElem hlk)
      have HT : Hid (sum s (l.take (k + 1)) = byt (sum s (l.take k)) l[k].toNat) := Lib.hid (by rw [List.take_succ_eq_append_getElem hlk, sum_snoc])
      have hc := byte_lt l[k]
      generalize l[k].toNat = c at *
      generalize sum s (l.take k) = x at *
      have HB := Lib.hid (byte_in x c hx hc)
      have hxc : x ^^^ c * 256 < 65536 := xor16 hx (by omega)
      have HC := Lib.hid (shift8 _ hxc w)
      go_wp2_with fail
      rw [HB.out]
      refine (HC.out).mono ?_; rintro e w' ⟨rfl, rfl⟩
      go_wp2
      go_round
      case rel => exact ⟨k + 1, by omega, by go_num, u16_num (by rw [HT.out]; rfl)⟩
      case measure => simp [intOf]; omega
    · obtain rfl : k = n := by omega
      go_wp2
      go_ret
      exact ⟨ret_int (by rw [List.take_of_length_le (by rw [HN.out]; omega)]), rfl⟩

theorem info5 : (Try.prog.info? 5).map (fun i => (i.zero, i.size, i.bytes)) = some (some (.int .u8 0), 1, 1) := by kernel_rfl
/-- Two results in one piece. -/
def two (v : Value) (k : Int) : Ending := .returned (.tuple #[v, .int .i64 k])
/-- A text of the call's own, and no error. -/
def Made (w : World) (l : List UInt8) (e : Ending) (w' : World) : Prop :=
  ∃ A c, e = two (.slice A l.length c) 0 ∧ w'.ownsRow w.heap.size 5 1 (.slice A l.length c) l.length (bcells l) ∧ Below w.heap.size w w'
theorem made_mk {w w' : World} {l : List UInt8} {A : Option Addr} {n c : Nat} {xs : List Value} (hn : l.length = n) (hx : xs = bcells l) (h : w'.ownsRow w.heap.size 5 1 (.slice A n c) n xs) (hb : Below w.heap.size w w') :
    Made w l (.returned (.tuple #[.slice A n c, .int .i64 0])) w' := by
  subst hn hx
  exact ⟨A, c, rfl, h, hb⟩
theorem rd_pair (w : World) (x y : Value) : Rd (w.alloc (.cells #[x, y] 5)) (w.heap.size + 1) 1 (some ⟨w.heap.size, 0, none⟩) 2 2 [x, y] := by
  refine ⟨rfl, Nat.le_refl _, by decide, (fun h => by cases h), fun _ => ⟨w.heap.size, 0, rfl, Nat.lt_succ_self _, fun j u hu => ?_⟩⟩
  rw [Nat.zero_add, cell_of_row _ _ j #[x, y] 5 (0, 0) (heap_alloc_new w _)]
  rw [← hu]; simp
theorem hi_cell (s : Nat) (h : s < 65536) : byteCell (hi s) = .int .u8 ((s : Int) / 256) := by
  unfold byteCell
  rw [hi_nat s h]; rfl
theorem lo_cell (s : Nat) : byteCell (lo s) = .int .u8 ((s : Int) % 256) := by
  unfold byteCell
  rw [lo_nat s]; rfl
set_option maxHeartbeats 1000000 in
theorem sealAny (B : Nat) (A : Option Addr) (n c : Nat) (l : List UInt8) (w : World) (h : Txt w B A n c l) (hB : B ≤ w.heap.size) (hn : n ≤ 4096) :
    Calls Try.prog 18 #[.slice A n c] w (Made w (sealed_ l)) := by
  have hs := sum_lt l 65535 (by decide)
  obtain ⟨i0, hi0, hz0, hz1, hz2⟩ := info_parts info5
  have H := Lib.hid h
  have HN := Lib.hid h.len
  have HC := Lib.hid (sumOf 65535 (by decide) B A n c l w h)
  have HS : Hid (sealed_ l = l ++ [hi (sum 65535 l), lo (sum 65535 l)]) := Lib.hid rfl
  clear h
  have HH := Lib.hid (hi_cell (sum 65535 l) hs)
  have HL := Lib.hid (lo_cell (sum 65535 l))
  generalize sum 65535 l = s at *
  go_enter Try.func18, Try.ntmps18
  go_wp2_with fail
  refine (HC.out).mono ?_; rintro e w' ⟨rfl, rfl⟩
  go_wp2_with (first
    | (at_make; refine wpList_make_own _ rfl _ _ 22 rfl w.heap.size 5 i0 (.int .u8 0) 1 Try.underlying22 hi0 hz0 hz1 .i64 .i64 _ (n + 2) rfl rfl (by omega) (by rw [hz2]; omega) (by simp only [maxLen]; omega) (Nat.le_refl _) ?_
       intro w1 hown1 hg1
       have hb1 : Below w.heap.size w w1 := (Below.refl _ _).grown hg1 (Nat.le_refl _) (fun k hk => by cases hk)
       have hz : w.heap.size ≤ w1.heap.size := hb1.size
       have HR := Lib.hid (Rd.below H.out hb1 hB))
    | (at_builtin; refine wpList_append_rd _ rfl (.tmp 15) (.tmp 16) 22 rfl w.heap.size 5 i0 (.int .u8 0) 1 1 Try.underlying22 hi0 hz0 hz1 hz2 rfl (by decide) _ 0 [] rfl hown1 B A n c (bcells l) rfl HR.out (bcells_one l) (by simp only [maxLen]; omega) (by omega) hz ?_
       intro A2 c2 w2 hown2 hg2
       have hb2 : Below w.heap.size w w2 := below_grown hb1 hown1 hg2 hz (Nat.le_refl _)
       have hz2' : w.heap.size ≤ w2.heap.size := hb2.size
       simp only [Nat.zero_add, List.nil_append] at hown2
       clear HR)
    | (at_builtin; refine wpList_append_rd _ rfl (.tmp 18) (.tmp 24) 22 rfl w.heap.size 5 i0 (.int .u8 0) 1 1 Try.underlying22 hi0 hz0 hz1 hz2 rfl (by decide) _ n (bcells l) rfl (hown2.alloc _) (w2.heap.size + 1) (some ⟨w2.heap.size, 0, none⟩) 2 2 [byteCell (hi s), byteCell (lo s)] rfl (by rw [HH.out, HL.out]; exact rd_pair _ _ _) (bcells_one [hi s, lo s]) (by simp only [maxLen]; omega) (by omega) (by simp; omega) ?_
       intro A3 c3 w3 hown3 hg3
       have hb3 : Below w.heap.size w w3 := below_grown (hb2.alloc hz2' _) (hown2.alloc _) hg3 (by simp; omega) (Nat.le_refl _)))
  go_ret2
  exact made_mk (by rw [sealed_length, HN.out]) (by rw [HS.out, bcells_append]; rfl) hown3 hb3
theorem sealBig (A : Option Addr) (n c : Nat) (w : World) (hn : 4096 < n) (hm : n ≤ 9223372036854775807) :
    Calls Try.prog 18 #[.slice A n c] w fun e w' => e = two (.slice none 0 0) 2 ∧ w = w' := by
  go_enter Try.func18, Try.ntmps18
  go_wp2_with fail
  go_ret2
  exact ⟨rfl, rfl⟩
theorem own_nil (w : World) : w.ownsRow w.heap.size 5 1 (.slice none 0 0) 0 [] := w.ownsRow_nil _ _ _
def MadeOne (w : World) (l : List UInt8) (e : Ending) (w' : World) : Prop :=
  ∃ A c, e = .returned (.slice A l.length c) ∧ w'.ownsRow w.heap.size 5 1 (.slice A l.length c) l.length (bcells l) ∧ Below w.heap.size w w'
set_option maxHeartbeats 1000000 in
theorem clone (B : Nat) (A : Option Addr) (n c : Nat) (l : List UInt8) (w : World) (h : Txt w B A n c l) (hB : B ≤ w.heap.size) (hn : n ≤ 4098) :
    Calls Try.prog 27 #[.slice A n c] w (MadeOne w l) := by
  obtain ⟨i0, hi0, hz0, hz1, hz2⟩ := info_parts info5
  cases A with
  | none =>
    have hc := Rd.none_ h rfl
    have hn0 : n = 0 := by have := Rd.le h; omega
    have hl := h.len
    subst hc hn0
    have hl0 : l = [] := List.eq_nil_of_length_eq_zero hl
    subst hl0
    clear h hl
    have hq := Lib.run_eql_slice_nil (P := Try.prog) w 22 5 none 0 0 0 0 Try.underlying22
    go_enter Try.func27, Try.ntmps27
    go_wp2_with fail
    go_ret
    exact ⟨none, 0, rfl, own_nil w, Below.refl _ _⟩
  | some a =>
    have H := Lib.hid h
    have HN := Lib.hid h.len
    clear h
    have hq := Lib.run_eql_slice_nil (P := Try.prog) w 22 5 (some a) n c 0 0 Try.underlying22
    have hown1 : (w.alloc (.cells #[] 5)).ownsRow w.heap.size 5 1 (.slice (some ⟨w.heap.size, 0, none⟩) 0 0) 0 [] := w.ownsRow_lit #[] 0 (Nat.le_refl _) (by decide) rfl
    have hb1 : Below w.heap.size w (w.alloc (.cells #[] 5)) := (Below.refl _ _).alloc (Nat.le_refl _) _
    have hz1' : w.heap.size ≤ (w.alloc (.cells #[] 5)).heap.size := hb1.size
    have HR := Lib.hid (Rd.alloc H.out hB (.cells #[] 5))
    go_enter Try.func27, Try.ntmps27
    go_wp2_with (first
      | (at_builtin; refine wpList_append_rd _ rfl (.tmp 5) (.tmp 6) 22 rfl w.heap.size 5 i0 (.int .u8 0) 1 1 Try.underlying22 hi0 hz0 hz1 hz2 rfl (by decide) _ 0 [] rfl hown1 B (some a) n c (bcells l) rfl HR.out (bcells_one l) (by simp only [maxLen]; omega) (by omega) hz1' ?_
         intro A2 c2 w2 hown2 hg2
         have hb2 : Below w.heap.size w w2 := below_grown hb1 hown1 hg2 hz1' (Nat.le_refl _)
         simp only [Nat.zero_add, List.nil_append] at hown2))
    go_ret
    have hn' := HN.out
    subst hn'
    exact ⟨A2, c2, rfl, hown2, hb2⟩
theorem pair_val (x y : Nat) (hx : x < 256) (hy : y < 256) :
    bits .or .u16 (IntKind.u16.wrap (IntKind.u16.wrap (x : Int) * 256)) (IntKind.u16.wrap (y : Int)) = ((x * 256 + y : Nat) : Int) := by
  have e1 : IntKind.u16.wrap (x : Int) = (x : Int) := by rw [IntKind.wrap_u16]; omega
  have e2 : IntKind.u16.wrap ((x : Int) * 256) = ((x * 256 : Nat) : Int) := by rw [IntKind.wrap_u16]; omega
  have e3 : IntKind.u16.wrap (y : Int) = (y : Int) := by rw [IntKind.wrap_u16]; omega
  rw [e1, e2, e3, or16' _ _ (by omega) (by omega)]
  congr 1
  have h := Nat.shiftLeft_add_eq_or_of_lt (i := 8) (b := y) hy x
  rw [Nat.shiftLeft_eq] at h
  exact h.symm
/-- What Open returns for a text of at least two bytes, by its checksum. -/
def Opened (w : World) (m : List UInt8) (v : Nat) (e : Ending) (w' : World) : Prop :=
  (sum 65535 m = v → Made w m e w') ∧ (sum 65535 m ≠ v → e = two (.slice none 0 0) 7 ∧ ∃ k, w' = w.drewN k)
theorem opened_ok {w : World} {m : List UInt8} {v k : Nat} {e : Ending} {w' : World} (h : sum 65535 m = v) (h' : Made (w.drewN k) m e w') : Opened w m v e w' := by
  refine ⟨fun _ => ?_, fun h1 => absurd h h1⟩
  obtain ⟨A, c, h1, h2, h3⟩ := h'
  exact ⟨A, c, h1, h2, ⟨h3.os, h3.tape, h3.output, h3.size, h3.block⟩⟩
theorem opened_bad {w : World} {m : List UInt8} {v k : Nat} (h : sum 65535 m ≠ v) : Opened w m v (.returned (.tuple #[.slice none 0 0, .int .i64 7])) (w.drewN k) :=
  ⟨fun h1 => absurd h1 h, fun _ => ⟨rfl, k, rfl⟩⟩
set_option maxHeartbeats 1000000 in
theorem openAny (B : Nat) (A : Option Addr) (n c : Nat) (m : List UInt8) (x y : UInt8) (w : World) (h : Txt w B A n c (m ++ [x, y])) (hB : B ≤ w.heap.size) (hn : n ≤ 4098) :
    Calls Try.prog 25 #[.slice A n c] w (Opened w m (x.toNat * 256 + y.toNat)) := by
  have hl := h.len
  rw [List.length_append] at hl
  have hl2 : m.length + 2 = n := hl
  have hnc := Rd.le h
  obtain ⟨b, o, rfl, _, _⟩ := Rd.row h (by omega)
  have hx := h.cellAt rfl (show (m ++ [x, y])[m.length]? = some x by simp)
  have hy := h.cellAt rfl (show (m ++ [x, y])[m.length + 1]? = some y by simp)
  have hx' : w.cell? ⟨b, o + ((n : Int) - 2).toNat, none⟩ = some (.int .u8 (x.toNat : Int)) := by rw [show ((n : Int) - 2).toNat = m.length by omega]; exact hx
  have hy' : w.cell? ⟨b, o + ((n : Int) - 2 + 1).toNat, none⟩ = some (.int .u8 (y.toNat : Int)) := by rw [show ((n : Int) - 2 + 1).toNat = m.length + 1 by omega]; exact hy
  have hm : Txt w B (some ⟨b, o, none⟩) (n - 2) c m := by
    have := h.head (show n - 2 ≤ n by omega)
    rwa [List.take_append_of_le_length (by omega), List.take_of_length_le (by omega)] at this
  have HC := Lib.hid (fun k => sumOf 65535 (by decide) B (some ⟨b, o, none⟩) (n - 2) c m (w.drewN k) (Rd.drewN hm k))
  have HK := Lib.hid (fun k => clone B (some ⟨b, o, none⟩) (n - 2) c m (w.drewN k) (Rd.drewN hm k) hB (by omega))
  have HV := Lib.hid (pair_val x.toNat y.toNat (byte_lt x) (byte_lt y))
  have hsl : ∀ w : World, (Instr.slice 22 (.slice (some ⟨b, o, none⟩) n c) none (some (.int .i64 ((n : Int) - 2))) none).run Try.prog w = .ok (.slice (some ⟨b, o, none⟩) (n - 2) c) w := by
    obtain ⟨i0, hi0, _⟩ := info_parts info5
    exact fun w => run_head w 22 5 i0 Try.underlying22 hi0 _ n c (n - 2) _ (by omega) (by omega)
  have HS := Lib.hid hsl
  clear h hx hy hsl
  have k1 : (n : Int) - 2 < (n : Int) := by omega
  have k0 : (0 : Int) ≤ (n : Int) - 2 := by omega
  have k2 : (n : Int) - 2 ≤ 4096 := by omega
  have k3 : (0 : Int) ≤ (n : Int) - 2 + 1 := by omega
  have k4 : (n : Int) - 2 + 1 < (n : Int) := by omega
  have k5 : IntKind.i64.wrap ((n : Int) - 2 + 1) = (n : Int) - 2 + 1 := IntWalk.i64_in _ (by omega)
  have K5 := Lib.hid k5
  clear k5
  generalize x.toNat * 256 + y.toNat = v at *
  go_enter Try.func25, Try.ntmps25
  go_wp2_with fail
  have k6 := K5.out
  go_quiet (fail)
  rw [HV.out]
  clear k6 hx' hy' HV k3 k4
  have hsl := HS.out
  go_wp2_with fail
  refine (HC.out _).mono ?_; rintro e w' ⟨rfl, rfl⟩
  by_cases ht : sum 65535 m = v
  · have HT := Lib.hid ht
    rw [ht]
    clear ht
    go_wp2_with fail
    refine (HK.out _).mono ?_; rintro e w' ⟨A2, c2, rfl, hown, hbel⟩
    go_wp2_with fail
    go_ret2
    exact opened_ok HT.out ⟨A2, c2, rfl, hown, hbel⟩
  · have HT := Lib.hid ht
    have hne : (((sum 65535 m : Nat) : Int) != (v : Int)) = true := by rw [bne_iff_ne]; omega
    clear ht
    go_wp2_with fail
    go_ret2
    exact opened_bad HT.out
theorem openOut (A : Option Addr) (n c : Nat) (w : World) (hn : n < 2 ∨ 4098 < n) (hm : n ≤ 9223372036854775807) :
    Calls Try.prog 25 #[.slice A n c] w fun e w' => e = two (.slice none 0 0) 2 ∧ w = w' := by
  rcases hn with hn | hn
  · go_enter Try.func25, Try.ntmps25
    go_wp2_with fail
    go_ret2
    exact ⟨rfl, rfl⟩
  · have h1 : ¬ ((n : Int) - 2 < 0) := by omega
    have h2 : (4096 : Int) < (n : Int) - 2 := by omega
    go_enter Try.func25, Try.ntmps25
    go_wp2_with fail
    go_ret2
    exact ⟨rfl, rfl⟩

theorem sealed_iff (m : List UInt8) (x y : UInt8) : sealed_ m = m ++ [x, y] ↔ sum 65535 m = x.toNat * 256 + y.toNat := by
  refine ⟨fun h => ?_, sealed_of m x y⟩
  have h1 := sum_sealed m
  rw [h] at h1
  exact (sum_zero_iff m x y).1 h1
def sealR (l : List UInt8) : List UInt8 × Int := if l.length ≤ 4096 then (sealed_ l, 0) else ([], 2)
def openR (l : List UInt8) : List UInt8 × Int :=
  if l.length < 2 ∨ 4098 < l.length then ([], 2) else if sealed_ (l.take (l.length - 2)) = l then (l.take (l.length - 2), 0) else ([], 7)
/-- A text and an error code; nothing that was there has changed. -/
def TextErr (w : World) (r : List UInt8 × Int) (e : Ending) (w' : World) : Prop :=
  ∃ A c, e = two (.slice A r.1.length c) r.2 ∧ Txt w' w'.heap.size A r.1.length c r.1 ∧ Below w.heap.size w w'
theorem made_text {w w' : World} {l : List UInt8} {e : Ending} (h : Made w l e w') : TextErr w (l, 0) e w' := by
  obtain ⟨A, c, rfl, h1, h2⟩ := h
  exact ⟨A, c, rfl, Rd.of_own h1, h2⟩
theorem nil_text {w w' : World} {e : Ending} {k : Int} (h : e = two (.slice none 0 0) k) (hb : Below w.heap.size w w') : TextErr w ([], k) e w' :=
  ⟨none, 0, h, Rd.nil_ _ _ _, hb⟩
theorem below_drewN0 (w : World) (k : Nat) : Below w.heap.size w (w.drewN k) := ⟨rfl, rfl, rfl, Nat.le_refl _, fun _ _ => rfl⟩
theorem seal_any (B : Nat) (A : Option Addr) (n c : Nat) (l : List UInt8) (w : World) (h : Txt w B A n c l) (hB : B ≤ w.heap.size) :
    Calls Try.prog 18 #[.slice A n c] w (TextErr w (sealR l)) := by
  have hl := h.len
  have hm : n ≤ 9223372036854775807 := by have := Rd.le h; have := Rd.max h; unfold maxLen at this; omega
  unfold sealR
  by_cases hn : n ≤ 4096
  · rw [if_pos (by omega)]
    exact (sealAny B A n c l w h hB hn).mono fun e w' h => made_text h
  · rw [if_neg (by omega)]
    refine (sealBig A n c w (by omega) hm).mono ?_
    rintro e w' ⟨h, rfl⟩
    exact nil_text h (Below.refl _ _)
theorem last_two (l : List UInt8) (h : 2 ≤ l.length) : ∃ x y, l = l.take (l.length - 2) ++ [x, y] := by
  refine ⟨l[l.length - 2], l[l.length - 1], ?_⟩
  have e : l.drop (l.length - 2) = [l[l.length - 2], l[l.length - 1]] := by
    apply List.ext_getElem
    · simp; omega
    · intro i h1 h2
      simp at h1 h2
      have hi : i = 0 ∨ i = 1 := by omega
      rcases hi with rfl | rfl
      · simp
      · simp only [List.getElem_drop, List.getElem_cons_succ, List.getElem_cons_zero]
        congr 1
        omega
  rw [← e]
  exact (List.take_append_drop _ _).symm
theorem open_any (B : Nat) (A : Option Addr) (n c : Nat) (l : List UInt8) (w : World) (h : Txt w B A n c l) (hB : B ≤ w.heap.size) :
    Calls Try.prog 25 #[.slice A n c] w (TextErr w (openR l)) := by
  have hl := h.len
  have hm : n ≤ 9223372036854775807 := by have := Rd.le h; have := Rd.max h; unfold maxLen at this; omega
  unfold openR
  by_cases hn : n < 2 ∨ 4098 < n
  · rw [if_pos (by omega)]
    refine (openOut A n c w hn hm).mono ?_
    rintro e w' ⟨h, rfl⟩
    exact nil_text h (Below.refl _ _)
  · rw [if_neg (by omega)]
    obtain ⟨x, y, hxy⟩ := last_two l (by omega)
    generalize l.take (l.length - 2) = m at *
    subst hxy
    refine (openAny B A n c m x y w h hB (by omega)).mono ?_
    rintro e w' ⟨h1, h2⟩
    by_cases hs : sum 65535 m = x.toNat * 256 + y.toNat
    · rw [if_pos ((sealed_iff m x y).2 hs)]
      exact made_text (h1 hs)
    · rw [if_neg (fun h => hs ((sealed_iff m x y).1 h))]
      obtain ⟨h3, k, rfl⟩ := h2 hs
      exact nil_text h3 (Crc.below_drewN0 w k)
end Go.Proofs.Ytdckhfgfmkggiaa.Crc
