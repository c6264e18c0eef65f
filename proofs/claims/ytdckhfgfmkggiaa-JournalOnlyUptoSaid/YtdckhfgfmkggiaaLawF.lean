/-
  JournalSpoilt, walked under what is asked of Fold and Read.
-/
import Derived.Test.YtdckhfgfmkggiaaLawE
import Derived.IntWalk
namespace Go.Proofs.Ytdckhfgfmkggiaa.Jrn
open Go.ChangeShapes Go.WideShapes Go.ChangeAt Go.RowKit Words Crc
set_option linter.unusedVariables false

/-- A byte of an own text stored. -/
theorem stored_byte {w : World} {base g c n D : Nat} {l : List UInt8} (h : w.ownsRow base 5 1 (.slice (some ⟨g, 0, none⟩) n c) n (bcells l)) (j : Nat) (b : UInt8) (hg : D ≤ g) :
    (w.setCell ⟨g, j, none⟩ (.int .u8 (b.toNat : Int))).ownsRow base 5 1 (.slice (some ⟨g, 0, none⟩) n c) n (bcells (l.set j b)) ∧ Below D w (w.setCell ⟨g, j, none⟩ (.int .u8 (b.toNat : Int))) := by
  refine ⟨?_, (Below.refl _ _).setCell hg _⟩
  have := (h.stored j (byteCell b)).1
  rw [bcells_set] at this
  exact this
/-- A bit of the burst, in the walk's spelling. -/
theorem bit_of (z k : Nat) (hz : z < 65536) : (bits BinOp.and IntKind.u16 ((z : Int) / 2 ^ (15 - k)) 1 == 1) = z.testBit (15 - k) := by
  have hq : z / 2 ^ (15 - k) ≤ z := Nat.div_le_self _ _
  have e1 : bits .and .u16 ((z : Int) / 2 ^ (15 - k)) 1 = ((z / 2 ^ (15 - k) % 2 : Nat) : Int) := by
    rw [show ((z : Int) / 2 ^ (15 - k)) = ((z / 2 ^ (15 - k) : Nat) : Int) by simp, show (1 : Int) = ((1 : Nat) : Int) from rfl, u16_and_nat _ _ (by omega) (by decide), nat_mask1]
  rw [e1, Nat.testBit_eq_decide_div_mod_eq, Bool.eq_iff_iff]
  simp only [beq_iff_eq, decide_eq_true_eq]
  omega
/-- A byte with one bit turned, in the walk's spelling. -/
theorem turned_byte (y : UInt8) (r : Nat) (hr : r < 8) : ∃ d : UInt8, d.toNat = y.toNat ^^^ 2 ^ (7 - r) ∧ bits BinOp.xor IntKind.u8 (y.toNat : Int) (128 / 2 ^ r) = (d.toNat : Int) := by
  have hp : 2 ^ (7 - r) < 256 := Nat.lt_of_lt_of_le (Nat.pow_lt_pow_right (by decide) (show 7 - r < 8 by omega)) (by decide)
  have hx : y.toNat ^^^ 2 ^ (7 - r) < 256 := Nat.xor_lt_two_pow (n := 8) (byte_lt y) hp
  have e : ((128 : Int) / 2 ^ r) = ((2 ^ (7 - r) : Nat) : Int) := by
    have h7 : ∀ r, r < 8 → 128 / 2 ^ r = 2 ^ (7 - r) := by decide
    rw [show (128 : Int) = ((128 : Nat) : Int) from rfl, show ((128 : Nat) : Int) / 2 ^ r = ((128 / 2 ^ r : Nat) : Int) by simp, h7 r hr]
  refine ⟨UInt8.ofNat (y.toNat ^^^ 2 ^ (7 - r)), ?_, ?_⟩
  · rw [UInt8.toNat_ofNat']; exact Nat.mod_eq_of_lt hx
  · rw [e, u8_xor_nat _ _ (byte_lt y) hp, UInt8.toNat_ofNat', Nat.mod_eq_of_lt hx]
theorem burst_seen (n p z : Nat) (hz : z < 65536) (h0 : 0 < z) : Lk (8 * n - p) (Crc.part z 16) ≠ 0 := by
  rw [part_all]
  intro h
  have := Lk_eq_zero _ z hz h
  omega
/-- The journal behind k bits of the burst: start is where the record begins. -/
structure SI (l : List Bytes) (wh : Nat) (r : Bytes) (a z k : Nat) (Y X : Bytes) : Prop where
  eq : Y = flat (l.take wh) ++ (X ++ flat (l.drop (wh + 1)))
  len : X.length = r.length + 3
  hd0 : X[0]? = some (hd r)
  sum : sum 65535 X = Lk (8 * (r.length + 3) - (8 + a)) (Crc.part z k)
section
variable {l : List Bytes} {wh a z k : Nat} {r Y X : Bytes}
theorem si_start (hr : l[wh]? = some r) (hz : z < 65536) : SI l wh r a z 0 (flat l) (enc r) :=
  ⟨flat_split hr, enc_length r, rfl, by rw [part_zero z hz, Lk_zero]; exact sum_sealed _⟩
theorem SI.size (h : SI l wh r a z k Y X) : Y.length = tot (l.take wh) + (r.length + 3) + (flat (l.drop (wh + 1))).length := by
  rw [h.eq, List.length_append, List.length_append, flat_length, h.len]; omega
theorem SI.skip (h : SI l wh r a z k Y X) (hk : k < 16) (hb : ¬ z.testBit (15 - k) = true) : SI l wh r a z (k + 1) Y X :=
  ⟨h.eq, h.len, h.hd0, by rw [part_step z k hk, if_neg hb]; exact h.sum⟩
theorem SI.at_ (h : SI l wh r a z k Y X) {q : Nat} (hq : q < r.length + 2) : ∃ y, Y[tot (l.take wh) + 1 + q]? = some y ∧ X[1 + q]? = some y := by
  have hl := flat_length (l.take wh)
  obtain ⟨y, hy⟩ : ∃ y, X[1 + q]? = some y := ⟨_, List.getElem?_eq_getElem (by rw [h.len]; omega)⟩
  refine ⟨y, ?_, hy⟩
  rw [h.eq, List.getElem?_append_right (by omega), hl, show tot (l.take wh) + 1 + q - tot (l.take wh) = 1 + q by omega, List.getElem?_append_left (by rw [h.len]; omega)]
  exact hy
theorem SI.turn (h : SI l wh r a z k Y X) (hz : z < 65536) (hk : k < 16) (ha : a + 16 ≤ 8 * (r.length + 2)) (hb : z.testBit (15 - k) = true) {y d : UInt8} (hy : X[1 + (a + k) / 8]? = some y) (hd : d.toNat = y.toNat ^^^ 2 ^ (7 - (a + k) % 8)) :
    SI l wh r a z (k + 1) (Y.set (tot (l.take wh) + 1 + (a + k) / 8) d) (X.set (1 + (a + k) / 8) d) := by
  have hl := flat_length (l.take wh)
  have hX := h.len
  refine ⟨?_, by rw [List.length_set]; exact h.len, ?_, ?_⟩
  · rw [h.eq, List.set_append_right _ _ (by omega), hl, show tot (l.take wh) + 1 + (a + k) / 8 - tot (l.take wh) = 1 + (a + k) / 8 by omega, List.set_append_left _ _ (by rw [hX]; omega)]
  · rw [List.getElem?_set, if_neg (by omega)]
    exact h.hd0
  · have hs := sum_turn X 65535 (1 + (a + k) / 8) ((a + k) % 8) y (by decide) hy (Nat.mod_lt _ (by decide)) d hd
    rw [hX, show 8 * (1 + (a + k) / 8) + (a + k) % 8 = 8 + a + k by omega, h.sum, burst_step (r.length + 3) (8 + a) k z hz hk (by omega) hb] at hs
    exact hs
theorem SI.read (h : SI l wh r a z 16 Y X) (hall : l.all okR = true) (hr : l[wh]? = some r) (hz : z < 65536) (h0 : 0 < z) : jr Y = l.take wh := by
  rw [h.eq]
  exact jr_spoilt hall hr h.len h.hd0 (by rw [h.sum]; exact burst_seen _ _ z hz h0)
end
end Go.Proofs.Ytdckhfgfmkggiaa.Jrn
