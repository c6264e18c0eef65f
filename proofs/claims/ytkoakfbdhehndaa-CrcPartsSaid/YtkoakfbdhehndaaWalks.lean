/-
  What each function of package crc, and each that it calls, returns: walked through the program's text.
-/
import Derived.Test.YtkoakfbdhehndaaRows
import Derived.Test.YtkoakfbdhehndaaPlain
import Derived.Test.YtkoakfbdhehndaaWords
import Derived.Deep.QuietTactic
import Derived.BigQuiet
namespace Go.Proofs.Ytkoakfbdhehndaa.Crc
open Go.ChangeShapes Go.WideShapes Go.ChangeAt Go.RowKit Words

theorem ret_int {k : IntKind} {a b : Int} (h : a = b) : Ending.returned (.int k a) = .returned (.int k b) := by rw [h]
theorem ret_bool {a b : Bool} (h : a = b) : Ending.returned (.bool a) = .returned (.bool b) := by rw [h]
theorem u16_num {a b : Int} (h : a = b) : Value.int .u16 a = Value.int .u16 b := by rw [h]
theorem xor16' (a b : Nat) (ha : a < 65536) (hb : b < 65536) : bits .xor .u16 (a : Int) (b : Int) = ((a ^^^ b : Nat) : Int) := u16_xor_nat a b ha hb
theorem or16' (a b : Nat) (ha : a < 65536) (hb : b < 65536) : bits .or .u16 (a : Int) (b : Int) = ((a ||| b : Nat) : Int) := u16_or_nat a b ha hb

theorem shift8 (s : Nat) (hs : s < 65536) (w : World) :
    Calls Try.prog 18 #[.int .u16 s] w fun e w' => e = .returned (.int .u16 (Lk 8 s : Nat)) ∧ w = w' := by
  go_enter Try.func18, Try.ntmps18
  go_wp2
  go_loop [0, 4] (fun x i => ∃ k : Nat, k ≤ 8 ∧ i = .int .i64 k ∧ x = .int .u16 (Lk k s : Nat)) (fun _ i => (8 - intOf i).toNat)
  case atStart => exact ⟨0, by omega, rfl, rfl⟩
  case round =>
    obtain ⟨k, hk, rfl, rfl⟩ := hrel
    have hx := Lk_lt k s hs
    have HL : Hid (Lk (k + 1) s = L (Lk k s)) := Lib.hid rfl
    by_cases hlt : k < 8
    · generalize Lk k s = x at *
      by_cases hb : x < 32768
      · have HS : Hid (L x = 2 * x) := Lib.hid (L_small x hb)
        have hd : ((x : Int) / 32768 == 1) = false := by rw [beq_eq_false_iff_ne]; omega
        go_wp2
        go_round
        case rel => exact ⟨k + 1, by omega, by go_num, u16_num (by rw [HL.out, HS.out]; omega)⟩
        case measure => simp [intOf]; omega
      · have HS : Hid (bits .xor .u16 (IntKind.u16.wrap ((x : Int) * 2)) 4129 = ((L x : Nat) : Int)) := Lib.hid (by
          rw [L_big x (by omega) hx, show IntKind.u16.wrap ((x : Int) * 2) = ((2 * x % 65536 : Nat) : Int) by rw [IntKind.wrap_u16]; omega]
          exact xor16' _ 4129 (by omega) (by decide))
        have hd : ((x : Int) / 32768 == 1) = true := by rw [beq_iff_eq]; omega
        go_wp2
        go_round
        case rel => exact ⟨k + 1, by omega, by go_num, u16_num (by rw [HL.out, HS.out])⟩
        case measure => simp [intOf]; omega
    · obtain rfl : k = 8 := by omega
      clear HL
      go_wp2
      go_ret
      exact ⟨ret_int rfl, rfl⟩

/-- The byte in front of the checksum. -/
theorem byte_in (s c : Nat) (hs : s < 65536) (hc : c < 256) : bits .xor .u16 (s : Int) ((c : Int) * 256) = ((s ^^^ c * 256 : Nat) : Int) := xor16' s (c * 256) hs (by omega)
theorem sumOf (s : Nat) (hs : s < 65536) (B : Nat) (A : Option Addr) (n c : Nat) (l : List UInt8) (w : World) (h : Txt w B A n c l) :
    Calls Try.prog 13 #[.int .u16 s, .slice A n c] w fun e w' => e = .returned (.int .u16 (sum s l : Nat)) ∧ w = w' := by
  have hl := h.len
  have hm : n ≤ 9223372036854775807 := by have := h.le; have := h.max; unfold maxLen at this; omega
  have H := Lib.hid h
  have HN := Lib.hid hl
  clear h hl
  go_enter Try.func13, Try.ntmps13
  go_wp2
  go_loop [0, 9] (fun x i => ∃ k : Nat, k ≤ n ∧ i = .int .i64 k ∧ x = .int .u16 (sum s (l.take k) : Nat)) (fun _ i => (n - intOf i).toNat)
  case atStart => exact ⟨0, by omega, rfl, rfl⟩
  case round =>
    obtain ⟨k, hk, rfl, rfl⟩ := hrel
    have hx := sum_lt (l.take k) s hs
    by_cases hlt : k < n
    · obtain ⟨b, o, rfl, _, _⟩ := Rd.row H.out (by omega)
      have hlk : k < l.length := by rw [HN.out]; exact hlt
      have hcell := H.out.cellAt rfl (List.getElem?_eq_getElem hlk)
      have HT : Hid (sum s (l.take (k + 1)) = byt (sum s (l.take k)) l[k].toNat) := Lib.hid (by rw [List.take_succ_eq_append_getElem hlk, sum_snoc])
      have hc := byte_lt l[k]
      generalize l[k].toNat = c at *
      generalize sum s (l.take k) = x at *
      have HB := Lib.hid (byte_in x c hx hc)
      have hxc : x ^^^ c * 256 < 65536 := xor16 hx (by omega)
      have HC := Lib.hid (shift8 _ hxc w)
      go_wp2_with fail
      rw [HB.out]
      refine (HC.out).mono ?_; rintro e w' ⟨rfl, rfl⟩
      go_wp2
      go_round
      case rel => exact ⟨k + 1, by omega, by go_num, u16_num (by rw [HT.out]; rfl)⟩
      case measure => simp [intOf]; omega
    · obtain rfl : k = n := by omega
      go_wp2
      go_ret
      exact ⟨ret_int (by rw [List.take_of_length_le (by rw [HN.out]; omega)]), rfl⟩

theorem L_bit (x b : Nat) (hx : x < 65536) (hb : b < 2) : L (x ^^^ 32768 * b) = if x / 32768 = b then 2 * x % 65536 else (2 * x % 65536) ^^^ 4129 := by
  rw [L_xor x _ hx (by omega)]
  have h2 : b = 0 ∨ b = 1 := by omega
  rcases h2 with rfl | rfl
  · by_cases h : x < 32768
    · rw [L_small x h, if_pos (by omega)]; simp [L]; omega
    · rw [L_big x (by omega) hx, if_neg (by omega)]; simp [L]
  · by_cases h : x < 32768
    · rw [L_small x h, if_neg (by omega), show 2 * x % 65536 = 2 * x by omega]; rfl
    · rw [L_big x (by omega) hx, if_pos (by omega), Nat.xor_assoc]; simp [L]
theorem ref_step (y c j : Nat) (hy : y < 65536) (hc : c < 256) :
    ((((y : Int) / 32768 != bits .and .i64 ((c : Int) / 2 ^ (7 - j)) 1) = true) → bits .xor .i64 ((y : Int) * 2 % 65536) 4129 = ((L (y ^^^ 32768 * (c / 2 ^ (7 - j) % 2)) : Nat) : Int)) ∧
    ((((y : Int) / 32768 != bits .and .i64 ((c : Int) / 2 ^ (7 - j)) 1) = false) → (y : Int) * 2 % 65536 = ((L (y ^^^ 32768 * (c / 2 ^ (7 - j) % 2)) : Nat) : Int)) := by
  have hq : c / 2 ^ (7 - j) ≤ c := Nat.div_le_self _ _
  have e1 : bits .and .i64 ((c : Int) / 2 ^ (7 - j)) 1 = ((c / 2 ^ (7 - j) % 2 : Nat) : Int) := by
    rw [show ((c : Int) / 2 ^ (7 - j)) = ((c / 2 ^ (7 - j) : Nat) : Int) by simp, show (1 : Int) = ((1 : Nat) : Int) from rfl, and_i64 _ _ (by omega) (by decide), nat_mask1]
  have e2 : ((y : Int) * 2 % 65536) = ((2 * y % 65536 : Nat) : Int) := by omega
  have e3 : bits .xor .i64 ((y : Int) * 2 % 65536) 4129 = (((2 * y % 65536) ^^^ 4129 : Nat) : Int) := by
    rw [e2]; exact xor_i64 _ 4129 (by omega) (by decide)
  have hb : c / 2 ^ (7 - j) % 2 < 2 := Nat.mod_lt _ (by decide)
  rw [e1, e3, e2, L_bit y _ hy hb]
  generalize c / 2 ^ (7 - j) % 2 = b at *
  refine ⟨fun h => ?_, fun h => ?_⟩
  · rw [if_neg]
    intro hh
    rw [bne_iff_ne] at h
    omega
  · rw [if_pos]
    have : ((y : Int) / 32768) = ((b : Nat) : Int) := by simpa using h
    omega
theorem i64_num {a b : Int} (h : a = b) : Value.int .i64 a = Value.int .i64 b := by rw [h]
theorem refSum (s : Nat) (hs : s < 65536) (B : Nat) (A : Option Addr) (n c : Nat) (l : List UInt8) (w : World) (h : Txt w B A n c l) :
    Calls Try.prog 14 #[.int .u16 s, .slice A n c] w fun e w' => e = .returned (.int .u16 (sum s l : Nat)) ∧ w = w' := by
  have hl := h.len
  have hm : n ≤ 9223372036854775807 := by have := h.le; have := h.max; unfold maxLen at this; omega
  have H := Lib.hid h
  have HN := Lib.hid hl
  clear h hl
  go_enter Try.func14, Try.ntmps14
  go_wp2
  go_loop [5, 15] (fun x i => ∃ k : Nat, k ≤ n ∧ i = .int .i64 k ∧ x = .int .i64 (sum s (l.take k) : Nat)) (fun _ i => (n - intOf i).toNat)
  case atStart => exact ⟨0, by omega, rfl, rfl⟩
  case round =>
    obtain ⟨k, hk, rfl, rfl⟩ := hrel
    have hx := sum_lt (l.take k) s hs
    by_cases hlt : k < n
    · obtain ⟨b, o, rfl, _, _⟩ := Rd.row H.out (by omega)
      have hlk : k < l.length := by rw [HN.out]; exact hlt
      have hcell := H.out.cellAt rfl (List.getElem?_eq_getElem hlk)
      have HT : Hid (sum s (l.take (k + 1)) = byt (sum s (l.take k)) l[k].toNat) := Lib.hid (by rw [List.take_succ_eq_append_getElem hlk, sum_snoc])
      have hc := byte_lt l[k]
      generalize l[k].toNat = c at *
      generalize sum s (l.take k) = x0 at *
      go_wp2
      go_loop [5, 8, 9, 10] (fun x q _ _ => ∃ j y : Nat, j ≤ 8 ∧ q = .int .i64 (7 - (j : Int)) ∧ x = .int .i64 y ∧ y < 65536 ∧ y ^^^ (c % 2 ^ (8 - j)) * 2 ^ (8 + j) = Lk j (x0 ^^^ c * 256)) (fun _ q _ _ => (intOf q + 1).toNat)
      case atStart => exact ⟨0, x0, by omega, rfl, rfl, hx, by rw [show c % 2 ^ (8 - 0) = c from Nat.mod_eq_of_lt hc]; rfl⟩
      case round =>
        obtain ⟨j, y, hj, rfl, rfl, hy, hinv⟩ := hrel
        have HI := Lib.hid hinv
        clear hinv
        by_cases hj8 : j < 8
        · have h0 : (0 : Int) ≤ 7 - (j : Int) := by omega
          have HS := Lib.hid (ref_step y c j hy hc)
          have HJ := Lib.hid (bit_step y x0 c j hy hj8 HI.out)
          have hLt : L (y ^^^ 32768 * (c / 2 ^ (7 - j) % 2)) < 65536 := L_lt _ (xor16 hy (by have := Nat.mod_lt (c / 2 ^ (7 - j)) (show 2 > 0 by decide); omega))
          go_wp2_with fail
          all_goals
            go_round
            case rel => exact ⟨j + 1, L (y ^^^ 32768 * (c / 2 ^ (7 - j) % 2)), by omega, i64_num (by omega), i64_num (by first | exact HS.out.1 (by assumption) | exact HS.out.2 (by assumption)), hLt, by
              rw [show 8 - (j + 1) = 7 - j by omega, show 8 + (j + 1) = 9 + j by omega]; exact HJ.out⟩
            case measure => simp [intOf]; omega
        · obtain rfl : j = 8 := by omega
          have HY : Hid (y = byt x0 c) := Lib.hid (by show y = Lk 8 (x0 ^^^ c * 256); have h := HI.out; simpa [Nat.mod_one] using h)
          go_wp2
          go_round
          case rel => exact ⟨k + 1, by omega, by go_num, i64_num (by rw [HT.out, HY.out])⟩
          case measure => simp [intOf]; omega
    · obtain rfl : k = n := by omega
      go_wp2
      go_ret
      exact ⟨ret_int (by rw [List.take_of_length_le (by rw [HN.out]; omega)]), rfl⟩

theorem info5 : (Try.prog.info? 5).map (fun i => (i.zero, i.size, i.bytes)) = some (some (.int .u8 0), 1, 1) := by kernel_rfl
/-- Two results in one piece. -/
def two (v : Value) (k : Int) : Ending := .returned (.tuple #[v, .int .i64 k])
/-- A text of the call's own, and no error. -/
def Made (w : World) (l : List UInt8) (e : Ending) (w' : World) : Prop :=
  ∃ A c, e = two (.slice A l.length c) 0 ∧ w'.ownsRow w.heap.size 5 1 (.slice A l.length c) l.length (bcells l) ∧ Below w.heap.size w w'
theorem made_mk {w w' : World} {l : List UInt8} {A : Option Addr} {n c : Nat} {xs : List Value} (hn : l.length = n) (hx : xs = bcells l) (h : w'.ownsRow w.heap.size 5 1 (.slice A n c) n xs) (hb : Below w.heap.size w w') :
    Made w l (.returned (.tuple #[.slice A n c, .int .i64 0])) w' := by
  subst hn hx
  exact ⟨A, c, rfl, h, hb⟩
theorem rd_pair (w : World) (x y : Value) : Rd (w.alloc (.cells #[x, y] 5)) (w.heap.size + 1) 1 (some ⟨w.heap.size, 0, none⟩) 2 2 [x, y] := by
  refine ⟨rfl, Nat.le_refl _, by decide, (fun h => by cases h), fun _ => ⟨w.heap.size, 0, rfl, Nat.lt_succ_self _, fun j u hu => ?_⟩⟩
  rw [Nat.zero_add, cell_of_row _ _ j #[x, y] 5 (0, 0) (heap_alloc_new w _)]
  rw [← hu]; simp
theorem hi_cell (s : Nat) (h : s < 65536) : byteCell (hi s) = .int .u8 ((s : Int) / 256) := by
  unfold byteCell
  rw [hi_nat s h]; rfl
theorem lo_cell (s : Nat) : byteCell (lo s) = .int .u8 ((s : Int) % 256) := by
  unfold byteCell
  rw [lo_nat s]; rfl
set_option maxHeartbeats 1000000 in
theorem sealAny (B : Nat) (A : Option Addr) (n c : Nat) (l : List UInt8) (w : World) (h : Txt w B A n c l) (hB : B ≤ w.heap.size) (hn : n ≤ 4096) :
    Calls Try.prog 9 #[.slice A n c] w (Made w (sealed_ l)) := by
  have hs := sum_lt l 65535 (by decide)
  obtain ⟨i0, hi0, hz0, hz1, hz2⟩ := info_parts info5
  have H := Lib.hid h
  have HN := Lib.hid h.len
  have HC := Lib.hid (sumOf 65535 (by decide) B A n c l w h)
  have HS : Hid (sealed_ l = l ++ [hi (sum 65535 l), lo (sum 65535 l)]) := Lib.hid rfl
  clear h
  have HH := Lib.hid (hi_cell (sum 65535 l) hs)
  have HL := Lib.hid (lo_cell (sum 65535 l))
  generalize sum 65535 l = s at *
  go_enter Try.func9, Try.ntmps9
  go_wp2_with fail
  refine (HC.out).mono ?_; rintro e w' ⟨rfl, rfl⟩
  go_wp2_with (first
    | (at_make; refine wpList_make_own _ rfl _ _ 23 rfl w.heap.size 5 i0 (.int .u8 0) 1 Try.underlying23 hi0 hz0 hz1 .i64 .i64 _ (n + 2) rfl rfl (by omega) (by rw [hz2]; omega) (by simp only [maxLen]; omega) (Nat.le_refl _) ?_
       intro w1 hown1 hg1
       have hb1 : Below w.heap.size w w1 := (Below.refl _ _).grown hg1 (Nat.le_refl _) (fun k hk => by cases hk)
       have hz : w.heap.size ≤ w1.heap.size := hb1.size
       have HR := Lib.hid (Rd.below H.out hb1 hB))
    | (at_builtin; refine wpList_append_rd _ rfl (.tmp 15) (.tmp 16) 23 rfl w.heap.size 5 i0 (.int .u8 0) 1 1 Try.underlying23 hi0 hz0 hz1 hz2 rfl (by decide) _ 0 [] rfl hown1 B A n c (bcells l) rfl HR.out (bcells_one l) (by simp only [maxLen]; omega) (by omega) hz ?_
       intro A2 c2 w2 hown2 hg2
       have hb2 : Below w.heap.size w w2 := below_grown hb1 hown1 hg2 hz (Nat.le_refl _)
       have hz2' : w.heap.size ≤ w2.heap.size := hb2.size
       simp only [Nat.zero_add, List.nil_append] at hown2
       clear HR)
    | (at_builtin; refine wpList_append_rd _ rfl (.tmp 18) (.tmp 24) 23 rfl w.heap.size 5 i0 (.int .u8 0) 1 1 Try.underlying23 hi0 hz0 hz1 hz2 rfl (by decide) _ n (bcells l) rfl (hown2.alloc _) (w2.heap.size + 1) (some ⟨w2.heap.size, 0, none⟩) 2 2 [byteCell (hi s), byteCell (lo s)] rfl (by rw [HH.out, HL.out]; exact rd_pair _ _ _) (bcells_one [hi s, lo s]) (by simp only [maxLen]; omega) (by omega) (by simp; omega) ?_
       intro A3 c3 w3 hown3 hg3
       have hb3 : Below w.heap.size w w3 := below_grown (hb2.alloc hz2' _) (hown2.alloc _) hg3 (by simp; omega) (Nat.le_refl _)))
  go_ret2
  exact made_mk (by rw [sealed_length, HN.out]) (by rw [HS.out, bcells_append]; rfl) hown3 hb3
theorem sealBig (A : Option Addr) (n c : Nat) (w : World) (hn : 4096 < n) (hm : n ≤ 9223372036854775807) :
    Calls Try.prog 9 #[.slice A n c] w fun e w' => e = two (.slice none 0 0) 2 ∧ w = w' := by
  go_enter Try.func9, Try.ntmps9
  go_wp2_with fail
  go_ret2
  exact ⟨rfl, rfl⟩
theorem own_nil (w : World) : w.ownsRow w.heap.size 5 1 (.slice none 0 0) 0 [] := w.ownsRow_nil _ _ _
set_option maxHeartbeats 1000000 in
theorem refSealAny (B : Nat) (A : Option Addr) (n c : Nat) (l : List UInt8) (w : World) (h : Txt w B A n c l) (hn : n ≤ 4096) :
    Calls Try.prog 10 #[.slice A n c] w (Made w (sealed_ l)) := by
  have hs := sum_lt l 65535 (by decide)
  obtain ⟨i0, hi0, hz0, hz1, hz2⟩ := info_parts info5
  have H := Lib.hid h
  have HN := Lib.hid h.len
  have HC := Lib.hid (refSum 65535 (by decide) B A n c l w h)
  have HS : Hid (sealed_ l = l ++ [hi (sum 65535 l), lo (sum 65535 l)]) := Lib.hid rfl
  have hown1 := own_nil w
  have hb1 := Below.refl w.heap.size w
  clear h
  have HH := Lib.hid (hi_cell (sum 65535 l) hs)
  have HL := Lib.hid (lo_cell (sum 65535 l))
  generalize sum 65535 l = s at *
  go_enter Try.func10, Try.ntmps10
  go_wp2_with fail
  refine (HC.out).mono ?_; rintro e w' ⟨rfl, rfl⟩
  go_wp2_with (first
    | (at_builtin; refine wpList_append_rd _ rfl (.tmp 11) (.tmp 12) 23 rfl w.heap.size 5 i0 (.int .u8 0) 1 1 Try.underlying23 hi0 hz0 hz1 hz2 rfl (by decide) _ 0 [] rfl hown1 B A n c (bcells l) rfl H.out (bcells_one l) (by simp only [maxLen]; omega) (by omega) (Nat.le_refl _) ?_
       intro A2 c2 w2 hown2 hg2
       have hb2 : Below w.heap.size w w2 := below_grown hb1 hown1 hg2 (Nat.le_refl _) (Nat.le_refl _)
       have hz2' : w.heap.size ≤ w2.heap.size := hb2.size
       simp only [Nat.zero_add, List.nil_append] at hown2)
    | (at_builtin; refine wpList_append_rd _ rfl (.tmp 14) (.tmp 21) 23 rfl w.heap.size 5 i0 (.int .u8 0) 1 1 Try.underlying23 hi0 hz0 hz1 hz2 rfl (by decide) _ n (bcells l) rfl (hown2.alloc _) (w2.heap.size + 1) (some ⟨w2.heap.size, 0, none⟩) 2 2 [byteCell (hi s), byteCell (lo s)] rfl (by rw [HH.out, HL.out]; exact rd_pair _ _ _) (bcells_one [hi s, lo s]) (by simp only [maxLen]; omega) (by omega) (by simp; omega) ?_
       intro A3 c3 w3 hown3 hg3
       have hb3 : Below w.heap.size w w3 := below_grown (hb2.alloc hz2' _) (hown2.alloc _) hg3 (by simp; omega) (Nat.le_refl _)))
  go_ret2
  exact made_mk (by rw [sealed_length, HN.out]) (by rw [HS.out, bcells_append]; rfl) hown3 hb3
theorem refSealBig (A : Option Addr) (n c : Nat) (w : World) (hn : 4096 < n) (hm : n ≤ 9223372036854775807) :
    Calls Try.prog 10 #[.slice A n c] w fun e w' => e = two (.slice none 0 0) 2 ∧ w = w' := by
  go_enter Try.func10, Try.ntmps10
  go_wp2_with fail
  go_ret2
  exact ⟨rfl, rfl⟩
end Go.Proofs.Ytkoakfbdhehndaa.Crc
