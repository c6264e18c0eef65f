/-
  What the document's own CBits, CBytes, CMay, CTorn and CForce return.
-/
import Derived.Test.YtaombamfglljaaaAlive
namespace Go.Proofs.Ytaombamfglljaaa.Cell
open Go.ChangeShapes Go.WideShapes Go.ChangeAt Go.RowKit Words

theorem own_nil4 (w : World) : w.ownsRow w.heap.size 4 1 (.slice none 0 0) 0 [] := w.ownsRow_nil _ _ _
theorem low_bit (x : UInt8) (j : Nat) : ((((x.toNat / 2 ^ j : Nat) : Int) % 2) == 1) = bt x j := by
  rw [bt_div, Bool.eq_iff_iff, beq_iff_eq, decide_eq_true_eq]
  omega
theorem half (x j : Nat) : (((x / 2 ^ j : Nat) : Int) / 2) = ((x / 2 ^ (j + 1) : Nat) : Int) := by
  rw [Nat.pow_succ, ← Nat.div_div_eq_div_mul]; omega
def bools (l : List Bool) : List Value := l.map Value.bool
theorem bools_snoc (l : List Bool) (b : Bool) : bools l ++ [.bool b] = bools (l ++ [b]) := by simp [bools]
set_option maxHeartbeats 1000000 in
theorem cbits (B : Nat) (A : Option Addr) (n c : Nat) (l : List UInt8) (w : World) (h : Txt w B A n c l) (hB : B ≤ w.heap.size) (hn : n ≤ 1048576) :
    Calls Try.prog 27 #[.slice A n c] w (MadeRow w 4 (8 * n) (bools (bitsL l))) := by
  obtain ⟨i0, hi0, hz0, hz1, hz2⟩ := info_parts info4
  have H := Lib.hid h
  have L := Lib.hid h.len
  clear h
  go_enter Try.func27, Try.ntmps27
  go_wp2_with fail
  go_loopw [3, 8] (fun o i wr => ∃ (k : Nat) (A1 : Option Addr) (c1 : Nat), k ≤ n ∧ i = .int .i64 k ∧ o = .slice A1 (8 * k) c1 ∧ wr.ownsRow w.heap.size 4 1 (.slice A1 (8 * k) c1) (8 * k) (bools (bitsTo l k 0)) ∧ Below w.heap.size w wr) (fun _ i _ => (n - intOf i).toNat)
  case atStart => exact ⟨0, none, 0, by omega, rfl, rfl, own_nil4 w, Below.refl _ _⟩
  case round =>
    obtain ⟨k, A1, c1, hk, rfl, rfl, hown, hbel⟩ := hrel
    have O := Lib.hid hown
    have BW := Lib.hid hbel
    clear hown
    by_cases hlt : k < n
    · obtain ⟨b1, o1, rfl, _, _⟩ := Rd.row H.out (by omega)
      obtain ⟨x, hx⟩ : ∃ x, l[k]? = some x := ⟨_, List.getElem?_eq_getElem (by rw [L.out]; exact hlt)⟩
      have d1 := Txt.cellAt (Rd.below H.out hbel hB) rfl hx
      have HX := Lib.hid hx
      clear hbel hx
      go_wp2_with fail
      clear d1
      go_loopw [3, 5, 12] (fun o y i wr => ∃ (j : Nat) (A2 : Option Addr) (c2 : Nat), j ≤ 8 ∧ i = .int .i64 j ∧ y = .int .u8 ((x.toNat / 2 ^ j : Nat) : Int) ∧ o = .slice A2 (8 * k + j) c2 ∧ wr.ownsRow w.heap.size 4 1 (.slice A2 (8 * k + j) c2) (8 * k + j) (bools (bitsTo l k j)) ∧ Below w.heap.size w wr) (fun _ _ i _ => (8 - intOf i).toNat)
      case atStart => exact ⟨0, A1, c1, by omega, rfl, by simp, rfl, O.out, BW.out⟩
      case round =>
        obtain ⟨j, A2, c2, hj, rfl, rfl, rfl, hown2, hbel2⟩ := hrel
        have O2 := Lib.hid hown2
        have BW2 := Lib.hid hbel2
        have hsz := hbel2.size
        clear hown2 hbel2
        by_cases hj8 : j < 8
        · have hbit := low_bit x j
          have HS := Lib.hid (bitsTo_step HX.out hj8)
          have HHalf := Lib.hid (half x.toNat j)
          have hcj : x.toNat / 2 ^ j < 256 := Nat.lt_of_le_of_lt (Nat.div_le_self _ _) (byte_lt x)
          generalize bt x j = t at *
          generalize x.toNat / 2 ^ j = cj at *
          have hr : Rd (wr.alloc (.cells #[.bool t] 4)) (wr.heap.size + 1) 1 (some ⟨wr.heap.size, 0, none⟩) 1 1 [.bool t] := Rd.new wr 4 _ (0, 0) _ 1 rfl rfl (by decide)
          have HR := Lib.hid hr
          clear hr
          go_wp2_with (at_builtin; refine wpList_append_rd _ rfl (.tmp 14) (.tmp 18) 28 rfl w.heap.size 4 i0 (.bool false) 1 1 Try.underlying28 hi0 hz0 hz1 hz2 rfl (by decide) _ (8 * k + j) (bools (bitsTo l k j)) rfl (O2.out.alloc _) (wr.heap.size + 1) (some ⟨wr.heap.size, 0, none⟩) 1 1 [.bool t] rfl HR.out (by intro u hu; rw [List.mem_singleton.1 hu]; rfl) (by simp only [maxLen]; omega) (by omega) (by simp; omega) ?_
                       intro A3 c3 w3 hown3 hg3
                       have B3 := Lib.hid (below_grown (BW2.out.alloc hsz _) (O2.out.alloc _) hg3 (by simp; omega) (Nat.le_refl _))
                       rw [bools_snoc, HS.out] at hown3
                       have O3 := Lib.hid hown3
                       clear hown3 hg3)
          go_roundw
          case rel => exact ⟨j + 1, A3, c3, by omega, by go_num, by rw [← HHalf.out], rfl, O3.out, B3.out⟩
          case measure => simp [intOf]; omega
        · obtain rfl : j = 8 := by omega
          have HN : Hid (bitsTo l k 8 = bitsTo l (k + 1) 0) := Lib.hid (bitsTo_next l k)
          rw [HN.out] at O2
          clear HN
          go_wp2_with fail
          go_roundw
          case rel => exact ⟨k + 1, A2, c2, by omega, by go_num, rfl, O2.out, BW2.out⟩
          case measure => simp [intOf]; omega
    · obtain rfl : k = n := by omega
      clear hbel
      go_wp2_with fail
      go_ret
      have hb := bitsTo_all l
      rw [L.out] at hb
      exact ⟨_, _, rfl, by rw [← hb]; exact O.out, BW.out⟩
theorem add_bit (x : UInt8) (r : Nat) (hr : r < 8) : (((x.toNat : Int) % 2 ^ r + 2 ^ r) % 256) = ((UInt8.ofNat (x.toNat % 2 ^ r + 2 ^ r)).toNat : Int) := by
  have h := packed_sum x r hr
  rw [UInt8.toNat_ofNat', Nat.mod_eq_of_lt h, show ((x.toNat : Int) % 2 ^ r + 2 ^ r) = ((x.toNat % 2 ^ r + 2 ^ r : Nat) : Int) by simp]
  omega
set_option maxHeartbeats 1000000 in
theorem cbytes (B : Nat) (A : Option Addr) (n c : Nat) (l : List UInt8) (w : World) (h : Bts w B A n c (bitsL l)) (hB : B ≤ w.heap.size) (hn : l.length ≤ 1048576) :
    Calls Try.prog 28 #[.slice A n c] w (MadeOne w l) := by
  obtain ⟨i0, hi0, hz0, hz1, hz2⟩ := info_parts info5
  have hl := h.len
  rw [bitsL_length] at hl
  obtain ⟨m, hm⟩ : ∃ m, m = l.length := ⟨_, rfl⟩
  rw [← hm] at hl hn
  subst hl
  have H := Lib.hid h
  have L := Lib.hid hm
  clear h hm
  go_enter Try.func28, Try.ntmps28
  go_wp2_with (at_make; refine wpList_make_full _ rfl _ _ 22 rfl w.heap.size 5 i0 (.int .u8 0) 1 Try.underlying22 hi0 hz0 hz1 .i64 .i64 _ _ m rfl rfl (by omega) (by omega) (by rw [hz2]; omega) (by simp only [maxLen]; omega) (Nat.le_refl _) ?_
               intro w2 hown2 hg2)
  have hb2 : Below w.heap.size w w2 := (Below.refl _ _).grown hg2 (Nat.le_refl _) (fun k hk => by cases hk)
  rw [made_zeros, L.out, ← packed_zero] at hown2
  have O3 := Lib.hid hown2
  have B3 := Lib.hid hb2
  clear hown2 hb2 hg2
  rw [← L.out] at O3
  go_loopw [12] (fun i wr => ∃ (k : Nat), k ≤ 8 * m ∧ i = .int .i64 k ∧ wr.ownsRow w.heap.size 5 1 (.slice (some ⟨w.heap.size, 0, none⟩) m m) m (bcells (packed l k)) ∧ Below w.heap.size w wr) (fun i _ => (8 * m - intOf i).toNat)
  case atStart => exact ⟨0, by omega, rfl, O3.out, B3.out⟩
  case round =>
    obtain ⟨k, hk, rfl, hown, hbel⟩ := hrel
    have O := Lib.hid hown
    have BW := Lib.hid hbel
    clear hown
    by_cases hlt : k < 8 * m
    · obtain ⟨b1, o1, rfl, _, _⟩ := Rd.row H.out (by omega)
      obtain ⟨x, hx⟩ : ∃ x, l[k / 8]? = some x := ⟨_, List.getElem?_eq_getElem (by have := L.out; omega)⟩
      have hxb : (bitsL l)[k]? = some (bt x (k % 8)) := by rw [bitsL_get, hx]; rfl
      have d1 := Bts.cellAt (Rd.below H.out hbel hB) rfl hxb
      have HX := Lib.hid hx
      clear hbel hx hxb
      cases hb : bt x (k % 8) with
      | false =>
        rw [hb] at d1
        have HP : Hid (packed l k = packed l (k + 1)) := Lib.hid (packed_skip HX.out hb)
        clear hb
        go_wp2_with fail
        go_roundw
        case rel => exact ⟨k + 1, by omega, by go_num, by rw [← HP.out]; exact O.out, BW.out⟩
        case measure => simp [intOf]; omega
      | true =>
        rw [hb] at d1
        have HP : Hid ((packed l k).set (k / 8) (UInt8.ofNat (x.toNat % 2 ^ (k % 8) + 2 ^ (k % 8))) = packed l (k + 1)) := Lib.hid (packed_one HX.out hb)
        have f1 := O.out.frozenAt (k / 8)
        have T1 : Txt _ _ (some ⟨w.heap.size, 0, none⟩) m m (packed l k) := Rd.of_own O.out
        have d2 := T1.cellAt rfl (packed_here HX.out)
        rw [Nat.zero_add] at d2
        have HA := Lib.hid (add_bit x (k % 8) (Nat.mod_lt _ (by decide)))
        clear hb T1
        go_wp2_with fail
        have s2 : (k : Int).tdiv 8 = ((k / 8 : Nat) : Int) := by rw [Int.tdiv_eq_ediv_of_nonneg (by omega)]; omega
        have s3 : IntKind.i64.wrap ((k / 8 : Nat) : Int) = ((k / 8 : Nat) : Int) := IntWalk.i64_in _ (by omega)
        have s4 : (k : Int).tmod 8 = ((k % 8 : Nat) : Int) := by rw [Int.tmod_eq_emod_of_nonneg (by omega)]; omega
        have s5 : ((k / 8 : Nat) : Int) < (m : Int) := by omega
        have s6 : (0 : Int) ≤ ((k % 8 : Nat) : Int) := by omega
        go_region
        rw [HA.out]
        obtain ⟨O4, b4⟩ := stored_byte O.out (k / 8) (UInt8.ofNat (x.toNat % 2 ^ (k % 8) + 2 ^ (k % 8))) (Nat.le_refl _)
        rw [HP.out] at O4
        have HO4 := Lib.hid O4
        have HB4 := Lib.hid b4
        clear O4 b4 d1 d2 f1 s2 s3 s4 s5 s6 HA HP
        go_wp2_with fail
        go_roundw
        case rel => exact ⟨k + 1, by omega, by go_num, HO4.out, (BW.out.trans HB4.out).drew⟩
        case measure => simp [intOf]; omega
    · obtain rfl : k = 8 * m := by omega
      clear hbel
      go_wp2_with fail
      go_ret
      have hb := packed_all l
      rw [← L.out] at hb
      have hO := O.out
      rw [hb] at hO
      exact ⟨some ⟨w.heap.size, 0, none⟩, m, by rw [← L.out]; rfl, by rw [← L.out]; exact hO, BW.out⟩
end Go.Proofs.Ytaombamfglljaaa.Cell
