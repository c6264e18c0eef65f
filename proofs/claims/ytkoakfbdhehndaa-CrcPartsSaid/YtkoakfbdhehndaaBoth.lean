/-
  Seal and Open, the code's and the document's own, each by one contract for every text.
-/
import Derived.Test.YtkoakfbdhehndaaAlive
namespace Go.Proofs.Ytkoakfbdhehndaa.Crc
open Go.ChangeShapes Go.WideShapes Go.ChangeAt Go.RowKit Words

def sealR (l : List UInt8) : List UInt8 × Int := if l.length ≤ 4096 then (sealed_ l, 0) else ([], 2)
def openR (l : List UInt8) : List UInt8 × Int :=
  if l.length < 2 ∨ 4098 < l.length then ([], 2) else if sealed_ (l.take (l.length - 2)) = l then (l.take (l.length - 2), 0) else ([], 7)
/-- A text and an error code; nothing that was there has changed. -/
def TextErr (w : World) (r : List UInt8 × Int) (e : Ending) (w' : World) : Prop :=
  ∃ A c, e = two (.slice A r.1.length c) r.2 ∧ Txt w' w'.heap.size A r.1.length c r.1 ∧ Below w.heap.size w w'
theorem made_text {w w' : World} {l : List UInt8} {e : Ending} (h : Made w l e w') : TextErr w (l, 0) e w' := by
  obtain ⟨A, c, rfl, h1, h2⟩ := h
  exact ⟨A, c, rfl, Rd.of_own h1, h2⟩
theorem nil_text {w w' : World} {e : Ending} {k : Int} (h : e = two (.slice none 0 0) k) (hb : Below w.heap.size w w') : TextErr w ([], k) e w' :=
  ⟨none, 0, h, Rd.nil_ _ _ _, hb⟩
theorem below_drewN (w : World) (k : Nat) : Below w.heap.size w (w.drewN k) := ⟨rfl, rfl, rfl, Nat.le_refl _, fun _ _ => rfl⟩
theorem seal_any (B : Nat) (A : Option Addr) (n c : Nat) (l : List UInt8) (w : World) (h : Txt w B A n c l) (hB : B ≤ w.heap.size) :
    Calls Try.prog 9 #[.slice A n c] w (TextErr w (sealR l)) := by
  have hl := h.len
  have hm : n ≤ 9223372036854775807 := by have := Rd.le h; have := Rd.max h; unfold maxLen at this; omega
  unfold sealR
  by_cases hn : n ≤ 4096
  · rw [if_pos (by omega)]
    exact (sealAny B A n c l w h hB hn).mono fun e w' h => made_text h
  · rw [if_neg (by omega)]
    refine (sealBig A n c w (by omega) hm).mono ?_
    rintro e w' ⟨h, rfl⟩
    exact nil_text h (Below.refl _ _)
theorem refSeal_any (B : Nat) (A : Option Addr) (n c : Nat) (l : List UInt8) (w : World) (h : Txt w B A n c l) :
    Calls Try.prog 10 #[.slice A n c] w (TextErr w (sealR l)) := by
  have hl := h.len
  have hm : n ≤ 9223372036854775807 := by have := Rd.le h; have := Rd.max h; unfold maxLen at this; omega
  unfold sealR
  by_cases hn : n ≤ 4096
  · rw [if_pos (by omega)]
    exact (refSealAny B A n c l w h hn).mono fun e w' h => made_text h
  · rw [if_neg (by omega)]
    refine (refSealBig A n c w (by omega) hm).mono ?_
    rintro e w' ⟨h, rfl⟩
    exact nil_text h (Below.refl _ _)
theorem last_two (l : List UInt8) (h : 2 ≤ l.length) : ∃ x y, l = l.take (l.length - 2) ++ [x, y] := by
  refine ⟨l[l.length - 2], l[l.length - 1], ?_⟩
  have e : l.drop (l.length - 2) = [l[l.length - 2], l[l.length - 1]] := by
    apply List.ext_getElem
    · simp; omega
    · intro i h1 h2
      simp at h1 h2
      have hi : i = 0 ∨ i = 1 := by omega
      rcases hi with rfl | rfl
      · simp
      · simp only [List.getElem_drop, List.getElem_cons_succ, List.getElem_cons_zero]
        congr 1
        omega
  rw [← e]
  exact (List.take_append_drop _ _).symm
theorem open_any (B : Nat) (A : Option Addr) (n c : Nat) (l : List UInt8) (w : World) (h : Txt w B A n c l) (hB : B ≤ w.heap.size) :
    Calls Try.prog 11 #[.slice A n c] w (TextErr w (openR l)) := by
  have hl := h.len
  have hm : n ≤ 9223372036854775807 := by have := Rd.le h; have := Rd.max h; unfold maxLen at this; omega
  unfold openR
  by_cases hn : n < 2 ∨ 4098 < n
  · rw [if_pos (by omega)]
    refine (openOut A n c w hn hm).mono ?_
    rintro e w' ⟨h, rfl⟩
    exact nil_text h (Below.refl _ _)
  · rw [if_neg (by omega)]
    obtain ⟨x, y, hxy⟩ := last_two l (by omega)
    generalize l.take (l.length - 2) = m at *
    subst hxy
    refine (openAny B A n c m x y w h hB (by omega)).mono ?_
    rintro e w' ⟨h1, h2⟩
    by_cases hs : sum 65535 m = x.toNat * 256 + y.toNat
    · rw [if_pos ((sealed_iff m x y).2 hs)]
      exact made_text (h1 hs)
    · rw [if_neg (fun h => hs ((sealed_iff m x y).1 h))]
      obtain ⟨h3, k, rfl⟩ := h2 hs
      exact nil_text h3 (below_drewN w k)
theorem refOpen_any (B : Nat) (A : Option Addr) (n c : Nat) (l : List UInt8) (w : World) (h : Txt w B A n c l) (hB : B ≤ w.heap.size) :
    Calls Try.prog 12 #[.slice A n c] w (TextErr w (openR l)) := by
  have hl := h.len
  have hm : n ≤ 9223372036854775807 := by have := Rd.le h; have := Rd.max h; unfold maxLen at this; omega
  unfold openR
  by_cases hn : n < 2 ∨ 4098 < n
  · rw [if_pos (by omega)]
    refine (refOpenOut A n c w hn hm).mono ?_
    rintro e w' ⟨h, rfl⟩
    exact nil_text h (Below.refl _ _)
  · rw [if_neg (by omega)]
    have hd := h.head (k := n - 2) (by omega)
    rw [← hl] at hd
    obtain ⟨x, y, hxy⟩ := last_two l (by omega)
    generalize l.take (l.length - 2) = m at *
    subst hxy
    refine (refOpenAny B A n c m x y w h hB (by omega)).mono ?_
    rintro e w' ⟨h1, h2, hb⟩
    by_cases hs : sum 65535 m = x.toNat * 256 + y.toNat
    · rw [if_pos ((sealed_iff m x y).2 hs)]
      have hd2 : Txt w' w'.heap.size A m.length c m := by
        rw [show (m ++ [x, y]).length - 2 = m.length by simp] at hd
        exact Rd.more (Rd.below hd hb hB) (Nat.le_trans hB hb.size)
      exact ⟨A, c, h1 hs, hd2, hb⟩
    · rw [if_neg (fun h => hs ((sealed_iff m x y).1 h))]
      exact nil_text (h2 hs) hb
theorem open_bad (l : List UInt8) (h1 : 2 ≤ l.length) (h2 : l.length ≤ 4098) (h : sum 65535 l ≠ 0) : openR l = ([], 7) := by
  unfold openR
  rw [if_neg (by omega), if_neg]
  obtain ⟨x, y, hxy⟩ := last_two l h1
  generalize l.take (l.length - 2) = m at *
  subst hxy
  intro hs
  exact h ((sum_zero_iff m x y).2 ((sealed_iff m x y).1 hs))
/-- A byte of an own text stored. -/
theorem stored_byte {w : World} {base g c n D : Nat} {l : List UInt8} (h : w.ownsRow base 5 1 (.slice (some ⟨g, 0, none⟩) n c) n (bcells l)) (j : Nat) (b : UInt8) (hg : D ≤ g) :
    (w.setCell ⟨g, j, none⟩ (.int .u8 (b.toNat : Int))).ownsRow base 5 1 (.slice (some ⟨g, 0, none⟩) n c) n (bcells (l.set j b)) ∧ Below D w (w.setCell ⟨g, j, none⟩ (.int .u8 (b.toNat : Int))) := by
  refine ⟨?_, (Below.refl _ _).setCell hg _⟩
  have := (h.stored j (byteCell b)).1
  rw [bcells_set] at this
  exact this
/-- A bit of the burst, in the walk's spelling. -/
theorem bit_of (z k : Nat) (hz : z < 65536) : (bits BinOp.and IntKind.u16 ((z : Int) / 2 ^ (15 - k)) 1 == 1) = z.testBit (15 - k) := by
  have hq : z / 2 ^ (15 - k) ≤ z := Nat.div_le_self _ _
  have e1 : bits .and .u16 ((z : Int) / 2 ^ (15 - k)) 1 = ((z / 2 ^ (15 - k) % 2 : Nat) : Int) := by
    rw [show ((z : Int) / 2 ^ (15 - k)) = ((z / 2 ^ (15 - k) : Nat) : Int) by simp, show (1 : Int) = ((1 : Nat) : Int) from rfl, u16_and_nat _ _ (by omega) (by decide), nat_mask1]
  rw [e1, Nat.testBit_eq_decide_div_mod_eq, Bool.eq_iff_iff]
  simp only [beq_iff_eq, decide_eq_true_eq]
  omega
/-- A byte with one bit turned, in the walk's spelling. -/
theorem turned_byte (y : UInt8) (r : Nat) (hr : r < 8) : ∃ d : UInt8, d.toNat = y.toNat ^^^ 2 ^ (7 - r) ∧ bits BinOp.xor IntKind.u8 (y.toNat : Int) (128 / 2 ^ r) = (d.toNat : Int) := by
  have hp : 2 ^ (7 - r) < 256 := Nat.lt_of_lt_of_le (Nat.pow_lt_pow_right (by decide) (show 7 - r < 8 by omega)) (by decide)
  have hx : y.toNat ^^^ 2 ^ (7 - r) < 256 := Nat.xor_lt_two_pow (n := 8) (byte_lt y) hp
  have e : ((128 : Int) / 2 ^ r) = ((2 ^ (7 - r) : Nat) : Int) := by
    have h7 : ∀ r, r < 8 → 128 / 2 ^ r = 2 ^ (7 - r) := by decide
    rw [show (128 : Int) = ((128 : Nat) : Int) from rfl, show ((128 : Nat) : Int) / 2 ^ r = ((128 / 2 ^ r : Nat) : Int) by simp, h7 r hr]
  refine ⟨UInt8.ofNat (y.toNat ^^^ 2 ^ (7 - r)), ?_, ?_⟩
  · rw [UInt8.toNat_ofNat']; exact Nat.mod_eq_of_lt hx
  · rw [e, u8_xor_nat _ _ (byte_lt y) hp, UInt8.toNat_ofNat', Nat.mod_eq_of_lt hx]
theorem burst_seen (n p z : Nat) (hz : z < 65536) (h0 : 0 < z) : Lk (8 * n - p) (part z 16) ≠ 0 := by
  rw [part_all]
  intro h
  have := Lk_eq_zero _ z hz h
  omega
end Go.Proofs.Ytkoakfbdhehndaa.Crc
