/-
  Lists of texts in memory; the document's own sum.
-/
import Derived.Test.YtdckhfgfmkggiaaProg
import Derived.Test.YtdckhfgfmkggiaaBase
import Derived.Test.YtdckhfgfmkggiaaJPlain
import Derived.Deep.QuietTactic
import Derived.BigQuiet
import Derived.RegionTactic
import Derived.ChangeAlike
import Derived.Deep.RegionWith
import Derived.Deep.CutBlock
import Derived.Deep.DeepCutAuto
namespace Go.Proofs.Ytdckhfgfmkggiaa.Jrn
open Go.ChangeShapes Go.WideShapes Go.ChangeAt Go.RowKit Words Crc
set_option linter.unusedVariables false

abbrev Sl := Option Addr × Nat × Nat
def sval (v : Sl) : Value := .slice v.1 v.2.1 v.2.2
def svals (vs : List Sl) : List Value := vs.map sval
theorem svals_length (vs : List Sl) : (svals vs).length = vs.length := List.length_map _
theorem svals_get (vs : List Sl) (j : Nat) : (svals vs)[j]? = vs[j]?.map sval := List.getElem?_map
theorem svals_append (a b : List Sl) : svals (a ++ b) = svals a ++ svals b := List.map_append
theorem svals_one (vs : List Sl) : ∀ u ∈ svals vs, u.oneCell' = true := by
  intro u hu
  obtain ⟨_, _, rfl⟩ := List.mem_map.1 hu
  rfl
/-- A [][]byte that reads: its rows, each a text. -/
structure Grid (w : World) (B : Nat) (a : Option Addr) (len cap : Nat) (vs : List Sl) (ls : List Bytes) : Prop where
  top : Rd w B 1 a len cap (svals vs)
  lens : ls.length = vs.length
  each : ∀ (j : Nat) (v : Sl) (l : Bytes), vs[j]? = some v → ls[j]? = some l → Txt w B v.1 v.2.1 v.2.2 l
section
variable {w w' : World} {B : Nat} {a : Option Addr} {len cap : Nat} {vs : List Sl} {ls : List Bytes}
theorem Grid.vlen (h : Grid w B a len cap vs ls) : vs.length = len := by have := Rd.len h.top; rw [svals_length] at this; omega
theorem Grid.count (h : Grid w B a len cap vs ls) : ls.length = len := h.lens.trans h.vlen
theorem Grid.below {D : Nat} (h : Grid w B a len cap vs ls) (hb : Below D w w') (hB : B ≤ D) : Grid w' B a len cap vs ls := ⟨Rd.below h.top hb hB, h.lens, fun j v l hv hl => Rd.below (h.each j v l hv hl) hb hB⟩
theorem Grid.more {B' : Nat} (h : Grid w B a len cap vs ls) (hB : B ≤ B') : Grid w B' a len cap vs ls := ⟨Rd.more h.top hB, h.lens, fun j v l hv hl => Rd.more (h.each j v l hv hl) hB⟩
theorem Grid.drewN (h : Grid w B a len cap vs ls) (n : Nat) : Grid (w.drewN n) B a len cap vs ls := ⟨Rd.drewN h.top n, h.lens, fun j v l hv hl => Rd.drewN (h.each j v l hv hl) n⟩
/-- The k-th row. -/
theorem Grid.at_ (h : Grid w B a len cap vs ls) {b o k : Nat} (e : a = some ⟨b, o, none⟩) (hk : k < len) : ∃ (A : Option Addr) (n c : Nat) (l : Bytes), ls[k]? = some l ∧ vs[k]? = some (A, n, c) ∧ w.cell? ⟨b, o + k, none⟩ = some (.slice A n c) ∧ Txt w B A n c l := by
  obtain ⟨v, hv⟩ : ∃ v, vs[k]? = some v := ⟨_, List.getElem?_eq_getElem (by rw [h.vlen]; exact hk)⟩
  obtain ⟨l, hl⟩ : ∃ l, ls[k]? = some l := ⟨_, List.getElem?_eq_getElem (by rw [h.count]; exact hk)⟩
  obtain ⟨A, n, c⟩ := v
  exact ⟨A, n, c, l, hl, hv, Rd.cellAt h.top e (by omega) k _ (by rw [svals_get, hv]; rfl), h.each k _ l hv hl⟩
theorem Grid.head (h : Grid w B a len cap vs ls) {k : Nat} (hk : k ≤ len) : Grid w B a k cap (vs.take k) (ls.take k) := by
  refine ⟨?_, by rw [List.length_take, List.length_take, h.lens], fun j v l hv hl => ?_⟩
  · have := Rd.head h.top hk
    rw [Nat.mul_one] at this
    have e : (svals vs).take k = svals (vs.take k) := List.map_take.symm
    rw [e] at this
    exact this
  · rw [List.getElem?_take] at hv hl
    split at hv
    · rename_i hj
      rw [if_pos hj] at hl
      exact h.each j v l hv hl
    · cases hv
theorem Grid.nil (w : World) (B c : Nat) : Grid w B none 0 0 [] [] := ⟨Rd.nil_ _ _ _, rfl, fun j v l hv => by simp at hv⟩
end
/-! ### the document's own sum -/
theorem L_bit (x b : Nat) (hx : x < 65536) (hb : b < 2) : L (x ^^^ 32768 * b) = if x / 32768 = b then 2 * x % 65536 else (2 * x % 65536) ^^^ 4129 := by
  rw [L_xor x _ hx (by omega)]
  have h2 : b = 0 ∨ b = 1 := by omega
  rcases h2 with rfl | rfl
  · by_cases h : x < 32768
    · rw [L_small x h, if_pos (by omega)]; simp [L]; omega
    · rw [L_big x (by omega) hx, if_neg (by omega)]; simp [L]
  · by_cases h : x < 32768
    · rw [L_small x h, if_neg (by omega), show 2 * x % 65536 = 2 * x by omega]; rfl
    · rw [L_big x (by omega) hx, if_pos (by omega), Nat.xor_assoc]; simp [L]
theorem ref_step (y c j : Nat) (hy : y < 65536) (hc : c < 256) :
    ((((y : Int) / 32768 != bits .and .i64 ((c : Int) / 2 ^ (7 - j)) 1) = true) → bits .xor .i64 ((y : Int) * 2 % 65536) 4129 = ((L (y ^^^ 32768 * (c / 2 ^ (7 - j) % 2)) : Nat) : Int)) ∧
    ((((y : Int) / 32768 != bits .and .i64 ((c : Int) / 2 ^ (7 - j)) 1) = false) → (y : Int) * 2 % 65536 = ((L (y ^^^ 32768 * (c / 2 ^ (7 - j) % 2)) : Nat) : Int)) := by
  have hq : c / 2 ^ (7 - j) ≤ c := Nat.div_le_self _ _
  have e1 : bits .and .i64 ((c : Int) / 2 ^ (7 - j)) 1 = ((c / 2 ^ (7 - j) % 2 : Nat) : Int) := by
    rw [show ((c : Int) / 2 ^ (7 - j)) = ((c / 2 ^ (7 - j) : Nat) : Int) by simp, show (1 : Int) = ((1 : Nat) : Int) from rfl, and_i64 _ _ (by omega) (by decide), nat_mask1]
  have e2 : ((y : Int) * 2 % 65536) = ((2 * y % 65536 : Nat) : Int) := by omega
  have e3 : bits .xor .i64 ((y : Int) * 2 % 65536) 4129 = (((2 * y % 65536) ^^^ 4129 : Nat) : Int) := by
    rw [e2]; exact xor_i64 _ 4129 (by omega) (by decide)
  have hb : c / 2 ^ (7 - j) % 2 < 2 := Nat.mod_lt _ (by decide)
  rw [e1, e3, e2, L_bit y _ hy hb]
  generalize c / 2 ^ (7 - j) % 2 = b at *
  refine ⟨fun h => ?_, fun h => ?_⟩
  · rw [if_neg]
    intro hh
    rw [bne_iff_ne] at h
    omega
  · rw [if_pos]
    have : ((y : Int) / 32768) = ((b : Nat) : Int) := by simpa using h
    omega
theorem refSum19 (s : Nat) (hs : s < 65536) (B : Nat) (A : Option Addr) (n c : Nat) (l : List UInt8) (w : World) (h : Txt w B A n c l) :
    Calls Try.prog 19 #[.int .u16 s, .slice A n c] w fun e w' => e = .returned (.int .u16 (sum s l : Nat)) ∧ w = w' := by
  have hl := h.len
  have hm : n ≤ 9223372036854775807 := by have := h.le; have := h.max; unfold maxLen at this; omega
  have H := Lib.hid h
  have HN := Lib.hid hl
  clear h hl
  go_enter Try.func19, Try.ntmps19
  go_wp2
  go_loop [5, 15] (fun x i => ∃ k : Nat, k ≤ n ∧ i = .int .i64 k ∧ x = .int .i64 (sum s (l.take k) : Nat)) (fun _ i => (n - intOf i).toNat)
  case atStart => exact ⟨0, by omega, rfl, rfl⟩
  case round =>
    obtain ⟨k, hk, rfl, rfl⟩ := hrel
    have hx := sum_lt (l.take k) s hs
    by_cases hlt : k < n
    · obtain ⟨b, o, rfl, _, _⟩ := Rd.row H.out (by omega)
      have hlk : k < l.length := by rw [HN.out]; exact hlt
      have hcell := H.out.cellAt rfl (List.getElem?_eq_getElem hlk)
      have HT : Hid (sum s (l.take (k + 1)) = byt (sum s (l.take k)) l[k].toNat) := Lib.hid (by rw [List.take_succ_eq_append_getElem hlk, sum_snoc])
      have hc := byte_lt l[k]
      generalize l[k].toNat = c at *
      generalize sum s (l.take k) = x0 at *
      go_wp2
      go_loop [5, 8, 9, 10] (fun x q _ _ => ∃ j y : Nat, j ≤ 8 ∧ q = .int .i64 (7 - (j : Int)) ∧ x = .int .i64 y ∧ y < 65536 ∧ y ^^^ (c % 2 ^ (8 - j)) * 2 ^ (8 + j) = Lk j (x0 ^^^ c * 256)) (fun _ q _ _ => (intOf q + 1).toNat)
      case atStart => exact ⟨0, x0, by omega, rfl, rfl, hx, by rw [show c % 2 ^ (8 - 0) = c from Nat.mod_eq_of_lt hc]; rfl⟩
      case round =>
        obtain ⟨j, y, hj, rfl, rfl, hy, hinv⟩ := hrel
        have HI := Lib.hid hinv
        clear hinv
        by_cases hj8 : j < 8
        · have h0 : (0 : Int) ≤ 7 - (j : Int) := by omega
          have HS := Lib.hid (ref_step y c j hy hc)
          have HJ := Lib.hid (bit_step y x0 c j hy hj8 HI.out)
          have hLt : L (y ^^^ 32768 * (c / 2 ^ (7 - j) % 2)) < 65536 := L_lt _ (xor16 hy (by have := Nat.mod_lt (c / 2 ^ (7 - j)) (show 2 > 0 by decide); omega))
          go_wp2_with fail
          all_goals
            go_round
            case rel => exact ⟨j + 1, L (y ^^^ 32768 * (c / 2 ^ (7 - j) % 2)), by omega, i64_num (by omega), i64_num (by first | exact HS.out.1 (by assumption) | exact HS.out.2 (by assumption)), hLt, by
              rw [show 8 - (j + 1) = 7 - j by omega, show 8 + (j + 1) = 9 + j by omega]; exact HJ.out⟩
            case measure => simp [intOf]; omega
        · obtain rfl : j = 8 := by omega
          have HY : Hid (y = byt x0 c) := Lib.hid (by show y = Lk 8 (x0 ^^^ c * 256); have h := HI.out; simpa [Nat.mod_one] using h)
          go_wp2
          go_round
          case rel => exact ⟨k + 1, by omega, by go_num, i64_num (by rw [HT.out, HY.out])⟩
          case measure => simp [intOf]; omega
    · obtain rfl : k = n := by omega
      go_wp2
      go_ret
      exact ⟨ret_int (by rw [List.take_of_length_le (by rw [HN.out]; omega)]), rfl⟩
theorem info5 : (Try.prog.info? 5).map (fun i => (i.zero, i.size, i.bytes)) = some (some (.int .u8 0), 1, 1) := by kernel_rfl
theorem info22 : (Try.prog.info? 22).map (fun i => (i.zero, i.size, i.bytes)) = some (some (.slice none 0 0), 1, 24) := by kernel_rfl
/-- Two results in one piece. -/
def two (v : Value) (k : Int) : Ending := .returned (.tuple #[v, .int .i64 k])
/-- A text and an error code; nothing that was there has changed; the text lies in a new block. -/
def TextErr (w : World) (r : List UInt8 × Int) (e : Ending) (w' : World) : Prop :=
  ∃ A c, e = two (.slice A r.1.length c) r.2 ∧ w'.ownsRow w.heap.size 5 1 (.slice A r.1.length c) r.1.length (bcells r.1) ∧ Below w.heap.size w w'
theorem text_mk {w w' : World} {l : List UInt8} {k : Int} {A : Option Addr} {n c : Nat} {xs : List Value} (hn : l.length = n) (hx : xs = bcells l) (h : w'.ownsRow w.heap.size 5 1 (.slice A n c) n xs) (hb : Below w.heap.size w w') :
    TextErr w (l, k) (.returned (.tuple #[.slice A n c, .int .i64 k])) w' := by
  subst hn hx
  exact ⟨A, c, rfl, h, hb⟩
theorem own_nil (w : World) : w.ownsRow w.heap.size 5 1 (.slice none 0 0) 0 [] := w.ownsRow_nil _ _ _
theorem text_nil {w w' : World} {k : Int} (hb : Below w.heap.size w w') : TextErr w ([], k) (.returned (.tuple #[.slice none 0 0, .int .i64 k])) w' := ⟨none, 0, rfl, w'.ownsRow_nil _ _ _, hb⟩
theorem hi_cell (s : Nat) (h : s < 65536) : byteCell (hi s) = .int .u8 ((s : Int) / 256) := by
  unfold byteCell
  rw [hi_nat s h]; rfl
theorem lo_cell (s : Nat) : byteCell (lo s) = .int .u8 ((s : Int) % 256) := by
  unfold byteCell
  rw [lo_nat s]; rfl
theorem rd_pair (w : World) (x y : Value) : Rd (w.alloc (.cells #[x, y] 5)) (w.heap.size + 1) 1 (some ⟨w.heap.size, 0, none⟩) 2 2 [x, y] := by
  refine ⟨rfl, Nat.le_refl _, by decide, (fun h => by cases h), fun _ => ⟨w.heap.size, 0, rfl, Nat.lt_succ_self _, fun j u hu => ?_⟩⟩
  rw [Nat.zero_add, cell_of_row _ _ j #[x, y] 5 (0, 0) (heap_alloc_new w _)]
  rw [← hu]; simp
theorem hd_cell {r : Bytes} {n : Nat} (hn : r.length = n) (h : n ≤ 255) : byteCell (hd r) = .int .u8 (n : Int) := by
  unfold byteCell
  rw [hd_nat (by omega), hn]
set_option maxHeartbeats 2000000 in
theorem jwrite10 (B : Nat) (A : Option Addr) (n c : Nat) (l : List UInt8) (w : World) (h : Txt w B A n c l) (hB : B ≤ w.heap.size) :
    Calls Try.prog 10 #[.slice A n c] w (TextErr w (writeR l)) := by
  have hl := h.len
  have hm : n ≤ 9223372036854775807 := by have := Rd.le h; have := Rd.max h; unfold maxLen at this; omega
  unfold writeR
  by_cases hn : n ≤ 255
  · rw [if_pos (by omega)]
    have hs := sum_lt (hd l :: l) 65535 (by decide)
    obtain ⟨i0, hi0, hz0, hz1, hz2⟩ := info_parts info5
    have H := Lib.hid h
    have HN := Lib.hid hl
    have HC := Lib.hid (fun B A c w h => refSum19 65535 (by decide) B A (n + 1) c (hd l :: l) w h)
    have HS : Hid (enc l = (hd l :: l) ++ [hi (sum 65535 (hd l :: l)), lo (sum 65535 (hd l :: l))]) := Lib.hid rfl
    have HH := Lib.hid (hi_cell (sum 65535 (hd l :: l)) hs)
    have HL := Lib.hid (lo_cell (sum 65535 (hd l :: l)))
    have HD := Lib.hid (hd_cell hl hn)
    generalize sum 65535 (hd l :: l) = s at *
    have hown1 : (w.alloc (.cells #[.int .u8 n] 5)).ownsRow w.heap.size 5 1 (.slice (some ⟨w.heap.size, 0, none⟩) 1 1) 1 [.int .u8 n] := w.ownsRow_lit #[.int .u8 n] 1 (Nat.le_refl _) (by decide) rfl
    have hb1 : Below w.heap.size w (w.alloc (.cells #[.int .u8 n] 5)) := (Below.refl _ _).alloc (Nat.le_refl _) _
    have hz1' : w.heap.size ≤ (w.alloc (.cells #[.int .u8 n] 5)).heap.size := hb1.size
    have HR := Lib.hid (Rd.below H.out hb1 hB)
    clear h hl
    go_enter Try.func10, Try.ntmps10
    go_wp2_with (first
      | (at_builtin; refine wpList_append_rd _ rfl (.tmp 13) (.tmp 14) 22 rfl w.heap.size 5 i0 (.int .u8 0) 1 1 Try.underlying22 hi0 hz0 hz1 hz2 rfl (by decide) _ 1 [.int .u8 n] rfl hown1 B A n c (bcells l) rfl HR.out (bcells_one l) (by simp only [maxLen]; omega) (by omega) hz1' ?_
         intro A2 c2 w2 hown2 hg2
         have hb2 : Below w.heap.size w w2 := below_grown hb1 hown1 hg2 hz1' (Nat.le_refl _)
         have hz2' : w.heap.size ≤ w2.heap.size := hb2.size
         rw [Nat.add_comm 1 n] at hown2
         rw [Nat.add_comm 1 n]))
    have hown2' : w2.ownsRow w.heap.size 5 1 (.slice A2 (n + 1) c2) (n + 1) (bcells (hd l :: l)) := by
      rw [show bcells (hd l :: l) = [.int .u8 n] ++ bcells l by rw [← HD.out]; rfl]; exact hown2
    have O2 := Lib.hid hown2'
    refine (HC.out _ _ _ _ (Rd.of_own hown2')).mono ?_; rintro e w' ⟨rfl, rfl⟩
    clear hown2 hown2' hg2
    go_wp2_with (first
      | (at_builtin; refine wpList_append_rd _ rfl (.tmp 18) (.tmp 25) 22 rfl w.heap.size 5 i0 (.int .u8 0) 1 1 Try.underlying22 hi0 hz0 hz1 hz2 rfl (by decide) _ (n + 1) (bcells (hd l :: l)) rfl (O2.out.alloc _) (w2.heap.size + 1) (some ⟨w2.heap.size, 0, none⟩) 2 2 [byteCell (hi s), byteCell (lo s)] rfl (by rw [HH.out, HL.out]; exact rd_pair _ _ _) (bcells_one [hi s, lo s]) (by simp only [maxLen]; omega) (by omega) (by simp; omega) ?_
         intro A3 c3 w3 hown3 hg3
         have hb3 : Below w.heap.size w w3 := below_grown (hb2.alloc hz2' _) (O2.out.alloc _) hg3 (by simp; omega) (Nat.le_refl _)))
    go_ret2
    exact text_mk (by rw [enc_length, HN.out]) (by rw [HS.out, bcells_append]; rfl) hown3 hb3
  · rw [if_neg (by omega)]
    have hgt : 255 < n := by omega
    clear h hl hn
    go_enter Try.func10, Try.ntmps10
    go_wp2_with fail
    go_ret2
    exact text_nil (Below.refl _ _)
end Go.Proofs.Ytdckhfgfmkggiaa.Jrn
