/-
  Plain mathematics of the checksum: the sixteen-bit shift step, a byte's step, the sum of a text; linear and one to one; turned bits and neighbours that changed places.
-/
namespace Go.Proofs.Ytdckhfgfmkggiaa.Crc

/-- One shift: the bit shifted out changes the bits behind it. -/
def L (s : Nat) : Nat := (2 * s % 65536) ^^^ (4129 * (s / 32768))
def Lk : Nat → Nat → Nat
  | 0, s => s
  | k + 1, s => L (Lk k s)
def byt (s c : Nat) : Nat := Lk 8 (s ^^^ c * 256)
def sum (s : Nat) (l : List UInt8) : Nat := l.foldl (fun s c => byt s c.toNat) s

theorem xor16 {a b : Nat} (ha : a < 65536) (hb : b < 65536) : a ^^^ b < 65536 := Nat.xor_lt_two_pow (n := 16) ha hb
theorem L_lt (s : Nat) (h : s < 65536) : L s < 65536 := by
  unfold L
  exact xor16 (Nat.mod_lt _ (by decide)) (by omega)
theorem Lk_lt (k s : Nat) (h : s < 65536) : Lk k s < 65536 := by
  induction k with
  | zero => exact h
  | succ k ih => exact L_lt _ ih
theorem L_xor (x y : Nat) (hx : x < 65536) (hy : y < 65536) : L (x ^^^ y) = L x ^^^ L y := by
  have h1 : 2 * (x ^^^ y) % 65536 = (2 * x % 65536) ^^^ (2 * y % 65536) := by
    have a : ∀ z : Nat, 2 * z = z <<< 1 := fun z => by rw [Nat.shiftLeft_eq]; omega
    rw [a, a, a, Nat.shiftLeft_xor_distrib]
    exact Nat.xor_mod_two_pow (n := 16)
  have h2 : (x ^^^ y) / 32768 = (x / 32768) ^^^ (y / 32768) := by
    have a : ∀ z : Nat, z / 32768 = z >>> 15 := fun z => by rw [Nat.shiftRight_eq_div_pow]
    rw [a, a, a, Nat.shiftRight_xor_distrib]
  have h3 : 4129 * ((x / 32768) ^^^ (y / 32768)) = (4129 * (x / 32768)) ^^^ (4129 * (y / 32768)) := by
    have ha : x / 32768 = 0 ∨ x / 32768 = 1 := by omega
    have hb : y / 32768 = 0 ∨ y / 32768 = 1 := by omega
    rcases ha with ha | ha <;> rcases hb with hb | hb <;> rw [ha, hb] <;> decide
  unfold L
  rw [h1, h2, h3]
  ac_rfl
theorem L_small (s : Nat) (h : s < 32768) : L s = 2 * s := by
  unfold L
  rw [show s / 32768 = 0 by omega, show 2 * s % 65536 = 2 * s by omega]
  simp
theorem L_big (s : Nat) (h : 32768 ≤ s) (h' : s < 65536) : L s = (2 * s % 65536) ^^^ 4129 := by
  unfold L
  rw [show s / 32768 = 1 by omega]
theorem L_eq_zero (s : Nat) (h : s < 65536) (hz : L s = 0) : s = 0 := by
  by_cases hs : s < 32768
  · rw [L_small s hs] at hz; omega
  · rw [L_big s (by omega) h] at hz
    have e : 2 * s % 65536 = 4129 := by
      have := congrArg (· ^^^ 4129) hz
      simpa [Nat.xor_assoc] using this
    omega
theorem xor_eq_zero {a b : Nat} (h : a ^^^ b = 0) : a = b := by
  have := congrArg (· ^^^ b) h
  simpa [Nat.xor_assoc] using this
theorem Lk_xor (k x y : Nat) (hx : x < 65536) (hy : y < 65536) : Lk k (x ^^^ y) = Lk k x ^^^ Lk k y := by
  induction k with
  | zero => rfl
  | succ k ih => show L (Lk k (x ^^^ y)) = _; rw [ih, L_xor _ _ (Lk_lt k x hx) (Lk_lt k y hy)]; rfl
theorem Lk_eq_zero (k s : Nat) (h : s < 65536) (hz : Lk k s = 0) : s = 0 := by
  induction k with
  | zero => exact hz
  | succ k ih => exact ih (L_eq_zero _ (Lk_lt k s h) hz)
theorem Lk_zero (k : Nat) : Lk k 0 = 0 := by
  induction k with
  | zero => rfl
  | succ k ih => show L (Lk k 0) = 0; rw [ih]; rfl
theorem Lk_inj (k x y : Nat) (hx : x < 65536) (hy : y < 65536) (h : Lk k x = Lk k y) : x = y := by
  have e : Lk k (x ^^^ y) = 0 := by rw [Lk_xor k x y hx hy, h, Nat.xor_self]
  exact xor_eq_zero (Lk_eq_zero k _ (xor16 hx hy) e)
theorem Lk_add (j k s : Nat) : Lk (j + k) s = Lk j (Lk k s) := by
  induction j with
  | zero => rw [Nat.zero_add]; rfl
  | succ j ih => rw [show j + 1 + k = (j + k) + 1 by omega]; show L (Lk (j + k) s) = _; rw [ih]; rfl
theorem Lk_small (k s : Nat) (h : s * 2 ^ k < 65536) : Lk k s = s * 2 ^ k := by
  induction k with
  | zero => simp [Lk]
  | succ k ih =>
    rw [Nat.pow_succ] at h ⊢
    have h2 : s * 2 ^ k < 32768 := by rw [← Nat.mul_assoc] at h; omega
    show L (Lk k s) = _
    have e : s * (2 ^ k * 2) = 2 * (s * 2 ^ k) := by rw [← Nat.mul_assoc]; omega
    rw [ih (by omega), L_small _ h2, e]

/-! ### a byte's step -/
theorem byte_lt (c : UInt8) : c.toNat < 256 := c.toNat_lt
theorem byt_lt (s c : Nat) (hs : s < 65536) (hc : c < 256) : byt s c < 65536 := Lk_lt 8 _ (xor16 hs (by omega))
theorem byt_inj (s t c : Nat) (hs : s < 65536) (ht : t < 65536) (hc : c < 256) (h : byt s c = byt t c) : s = t := by
  have e := Lk_inj 8 _ _ (xor16 hs (by omega)) (xor16 ht (by omega)) h
  have := congrArg (· ^^^ c * 256) e
  simpa [Nat.xor_assoc] using this
theorem byt_xor (s t c d : Nat) (hs : s < 65536) (ht : t < 65536) (hc : c < 256) (hd : d < 256) : byt (s ^^^ t) (c ^^^ d) = byt s c ^^^ byt t d := by
  unfold byt
  rw [← Lk_xor 8 _ _ (xor16 hs (by omega)) (xor16 ht (by omega))]
  have e : (c ^^^ d) * 256 = (c * 256) ^^^ (d * 256) := by
    have a : ∀ z : Nat, z * 256 = z <<< 8 := fun z => by rw [Nat.shiftLeft_eq]
    rw [a, a, a, Nat.shiftLeft_xor_distrib]
  rw [e]
  congr 1
  ac_rfl
theorem high_low (a b : Nat) (hb : b < 256) : a * 256 + b = (a * 256) ^^^ b := by
  have h : a * 256 + b = (a <<< 8) ||| b := by rw [← Nat.shiftLeft_add_eq_or_of_lt (i := 8) hb, Nat.shiftLeft_eq]
  apply Nat.eq_of_testBit_eq
  intro i
  rw [h, Nat.testBit_or, Nat.testBit_xor, Nat.testBit_shiftLeft]
  have e : (a * 256).testBit i = (decide (i ≥ 8) && a.testBit (i - 8)) := by rw [show a * 256 = a <<< 8 by rw [Nat.shiftLeft_eq]]; exact Nat.testBit_shiftLeft ..
  rw [e]
  by_cases hi : i ≥ 8
  · have hz : b.testBit i = false := Nat.testBit_lt_two_pow (Nat.lt_of_lt_of_le hb (show 256 ≤ 2 ^ i from Nat.pow_le_pow_right (by decide : 0 < 2) hi))
    rw [hz]; simp
  · simp [hi]
theorem two_bytes (s a b : Nat) (hs : s < 65536) (ha : a < 256) (hb : b < 256) : byt (byt s a) b = Lk 16 (s ^^^ (a * 256 + b)) := by
  have e : b * 256 = Lk 8 b := (Lk_small 8 b (by omega)).symm
  have x : Lk 8 (s ^^^ a * 256) ^^^ Lk 8 b = Lk 8 (s ^^^ a * 256 ^^^ b) := (Lk_xor 8 _ _ (xor16 hs (by omega)) (by omega)).symm
  unfold byt
  rw [e, x, ← Lk_add 8 8, high_low a b hb, Nat.xor_assoc]

/-! ### the sum of a text -/
theorem sum_lt (l : List UInt8) : ∀ s, s < 65536 → sum s l < 65536 := by
  induction l with
  | nil => exact fun s h => h
  | cons c l ih => exact fun s h => ih _ (byt_lt s _ h (byte_lt c))
theorem sum_cons (s : Nat) (c : UInt8) (l : List UInt8) : sum s (c :: l) = sum (byt s c.toNat) l := rfl
theorem sum_append (s : Nat) (a b : List UInt8) : sum s (a ++ b) = sum (sum s a) b := by unfold sum; rw [List.foldl_append]
theorem sum_snoc (s : Nat) (a : List UInt8) (c : UInt8) : sum s (a ++ [c]) = byt (sum s a) c.toNat := by rw [sum_append]; rfl
theorem sum_inj (l : List UInt8) : ∀ s t, s < 65536 → t < 65536 → sum s l = sum t l → s = t := by
  induction l with
  | nil => exact fun s t _ _ h => h
  | cons c l ih => exact fun s t hs ht h => byt_inj s t _ hs ht (byte_lt c) (ih _ _ (byt_lt s _ hs (byte_lt c)) (byt_lt t _ ht (byte_lt c)) h)
/-- Mixed texts of one length have mixed sums. -/
theorem sum_mix (a : List UInt8) : ∀ (b : List UInt8) (s t : Nat), a.length = b.length → s < 65536 → t < 65536 → sum (s ^^^ t) (List.zipWith (· ^^^ ·) a b) = sum s a ^^^ sum t b := by
  induction a with
  | nil =>
    intro b s t h _ _
    cases b with
    | nil => rfl
    | cons _ _ => cases h
  | cons c a ih =>
    intro b s t h hs ht
    cases b with
    | nil => cases h
    | cons d b =>
      simp only [List.zipWith_cons_cons, sum_cons]
      rw [UInt8.toNat_xor, byt_xor s t _ _ hs ht (byte_lt c) (byte_lt d)]
      exact ih b _ _ (by simpa using h) (byt_lt s _ hs (byte_lt c)) (byt_lt t _ ht (byte_lt d))
/-- A text with its sum behind it. -/
def hi (s : Nat) : UInt8 := UInt8.ofNat (s / 256)
def lo (s : Nat) : UInt8 := UInt8.ofNat (s % 256)
def sealed_ (l : List UInt8) : List UInt8 := l ++ [hi (sum 65535 l), lo (sum 65535 l)]
theorem hi_nat (s : Nat) (h : s < 65536) : (hi s).toNat = s / 256 := by unfold hi; rw [UInt8.toNat_ofNat']; exact Nat.mod_eq_of_lt (by omega)
theorem lo_nat (s : Nat) : (lo s).toNat = s % 256 := by unfold lo; rw [UInt8.toNat_ofNat']; exact Nat.mod_eq_of_lt (Nat.mod_lt _ (by decide))
theorem sum_two (s : Nat) (a b : UInt8) (hs : s < 65536) : sum s [a, b] = Lk 16 (s ^^^ (a.toNat * 256 + b.toNat)) := two_bytes s _ _ hs (byte_lt a) (byte_lt b)
/-- The sum of a text and of what stands behind it is 0 just where what stands behind it is the sum. -/
theorem sum_zero_iff (l : List UInt8) (a b : UInt8) : sum 65535 (l ++ [a, b]) = 0 ↔ sum 65535 l = a.toNat * 256 + b.toNat := by
  have hs := sum_lt l 65535 (by decide)
  have ha := byte_lt a
  have hb := byte_lt b
  rw [sum_append, sum_two _ a b hs]
  constructor
  · exact fun h => xor_eq_zero (Lk_eq_zero 16 _ (xor16 hs (by omega)) h)
  · intro h; rw [h, Nat.xor_self]; exact Lk_zero 16
theorem sum_sealed (l : List UInt8) : sum 65535 (sealed_ l) = 0 := by
  have hs := sum_lt l 65535 (by decide)
  exact (sum_zero_iff l _ _).2 (by rw [hi_nat _ hs, lo_nat]; omega)
theorem sealed_of (l : List UInt8) (a b : UInt8) (h : sum 65535 l = a.toNat * 256 + b.toNat) : sealed_ l = l ++ [a, b] := by
  have hb := byte_lt b
  have ha := byte_lt a
  unfold sealed_
  rw [show hi (sum 65535 l) = a from UInt8.toNat_inj.1 (by rw [hi_nat _ (sum_lt l _ (by decide)), h]; omega), show lo (sum 65535 l) = b from UInt8.toNat_inj.1 (by rw [lo_nat, h]; omega)]
theorem sealed_length (l : List UInt8) : (sealed_ l).length = l.length + 2 := by unfold sealed_; simp

/-! ### a turned bit -/
theorem Lk_top (r : Nat) (h : r ≤ 15) : Lk r (2 ^ (15 - r)) = 32768 := by
  have : 2 ^ (15 - r) * 2 ^ r = 32768 := by rw [← Nat.pow_add, show 15 - r + r = 15 by omega]
  rw [Lk_small r _ (by omega), this]
theorem byt_turn (s c r : Nat) (hs : s < 65536) (hc : c < 256) (hr : r < 8) : byt s (c ^^^ 2 ^ (7 - r)) = byt s c ^^^ Lk (8 - r) 32768 := by
  have hp : 2 ^ (7 - r) < 256 := Nat.lt_of_lt_of_le (Nat.pow_lt_pow_right (by decide) (show 7 - r < 8 by omega)) (by decide)
  have e := byt_xor s 0 c (2 ^ (7 - r)) hs (by decide) hc hp
  rw [Nat.xor_zero] at e
  rw [e]
  unfold byt
  have t : 2 ^ (7 - r) * 256 = 2 ^ (15 - r) := by rw [show 15 - r = (7 - r) + 8 by omega, Nat.pow_add]
  have m : Lk 8 (2 ^ (15 - r)) = Lk (8 - r) 32768 := by
    have k : Lk 8 (2 ^ (15 - r)) = Lk (8 - r) (Lk r (2 ^ (15 - r))) := by rw [← Lk_add]; congr 1; omega
    rw [k, Lk_top r (by omega)]
  rw [Nat.zero_xor, t, m]
theorem sum_shift (l : List UInt8) : ∀ s x, s < 65536 → x < 65536 → sum (s ^^^ x) l = sum s l ^^^ Lk (8 * l.length) x := by
  induction l with
  | nil => intro s x _ _; rfl
  | cons c l ih =>
    intro s x hs hx
    have e := byt_xor s x c.toNat 0 hs hx (byte_lt c) (by decide)
    rw [Nat.xor_zero] at e
    rw [sum_cons, sum_cons, e, ih _ _ (byt_lt s _ hs (byte_lt c)) (byt_lt x 0 hx (by decide))]
    have k : Lk (8 * l.length) (byt x 0) = Lk (8 * (c :: l).length) x := by
      unfold byt
      rw [Nat.zero_mul, Nat.xor_zero, ← Lk_add]
      rfl
    rw [k]
/-- The p-th bit of a text turned (p = 8 q + r). -/
theorem sum_turn (l : List UInt8) (s q r : Nat) (c : UInt8) (hs : s < 65536) (hq : l[q]? = some c) (hr : r < 8) (d : UInt8) (hd : d.toNat = c.toNat ^^^ 2 ^ (7 - r)) :
    sum s (l.set q d) = sum s l ^^^ Lk (8 * l.length - (8 * q + r)) 32768 := by
  obtain ⟨hlt, rfl⟩ := List.getElem?_eq_some_iff.1 hq
  have e1 : l = l.take q ++ l[q] :: l.drop (q + 1) := by rw [List.getElem_cons_drop]; exact (List.take_append_drop q l).symm
  have e2 : l.set q d = l.take q ++ d :: l.drop (q + 1) := List.set_eq_take_append_cons_drop .. |>.trans (if_pos hlt)
  have h1 := sum_lt (l.take q) s hs
  have hl : (l.drop (q + 1)).length = l.length - (q + 1) := List.length_drop
  rw [e2, sum_append, sum_cons, hd, byt_turn _ _ r h1 (byte_lt _) hr, sum_shift _ _ _ (byt_lt _ _ h1 (byte_lt _)) (Lk_lt _ _ (by decide)), ← Lk_add, hl]
  conv => rhs; rw [e1]
  rw [sum_append, sum_cons, ← e1]
  congr 2
  omega
/-- What has been turned of a burst after k of its sixteen bits. -/
def part (burst k : Nat) : Nat := burst / 2 ^ (16 - k) * 2 ^ (16 - k)
theorem part_zero (burst : Nat) (h : burst < 65536) : part burst 0 = 0 := by unfold part; rw [Nat.div_eq_of_lt h, Nat.zero_mul]
theorem part_all (burst : Nat) : part burst 16 = burst := by unfold part; simp
theorem part_lt (burst k : Nat) (h : burst < 65536) : part burst k < 65536 := Nat.lt_of_le_of_lt (Nat.div_mul_le_self _ _) h
theorem part_step (burst k : Nat) (hk : k < 16) :
    part burst (k + 1) = if burst.testBit (15 - k) then part burst k ^^^ 2 ^ (15 - k) else part burst k := by
  have e : ∀ n m : Nat, part n m = n >>> (16 - m) <<< (16 - m) := fun n m => by unfold part; rw [Nat.shiftRight_eq_div_pow, Nat.shiftLeft_eq]
  apply Nat.eq_of_testBit_eq
  intro i
  have t : ∀ m, (part burst m).testBit i = (decide (16 - m ≤ i) && burst.testBit i) := by
    intro m
    rw [e, Nat.testBit_shiftLeft, Nat.testBit_shiftRight]
    by_cases h : 16 - m ≤ i
    · rw [show 16 - m + (i - (16 - m)) = i by omega]
    · simp [h]
  by_cases hb : burst.testBit (15 - k)
  · rw [if_pos hb, Nat.testBit_xor, t, t, Nat.testBit_two_pow]
    by_cases h1 : 15 - k = i
    · subst h1
      simp [hb, show ¬ 16 - k ≤ 15 - k by omega]
    · rw [show decide (16 - (k + 1) ≤ i) = decide (16 - k ≤ i) by rw [decide_eq_decide]; omega]; simp [h1]
  · rw [if_neg hb, t, t]
    by_cases h1 : 15 - k = i
    · subst h1; simp [hb]
    · rw [show decide (16 - (k + 1) ≤ i) = decide (16 - k ≤ i) by rw [decide_eq_decide]; omega]
/-- The k-th bit of the burst, turned at bit 'at + k' of a text of n bytes. -/
theorem burst_step (n p k burst : Nat) (hb : burst < 65536) (hk : k < 16) (hn : p + 16 ≤ 8 * n) (h : burst.testBit (15 - k) = true) :
    Lk (8 * n - p) (part burst k) ^^^ Lk (8 * n - (p + k)) 32768 = Lk (8 * n - p) (part burst (k + 1)) := by
  have e : Lk (8 * n - (p + k)) 32768 = Lk (8 * n - p) (2 ^ (15 - k)) := by
    rw [show 8 * n - p = (8 * n - (p + k)) + k by omega, Lk_add, Lk_top k (by omega)]
  have hp : 2 ^ (15 - k) < 65536 := Nat.lt_of_lt_of_le (Nat.pow_lt_pow_right (by decide) (show 15 - k < 16 by omega)) (by decide)
  rw [e, ← Lk_xor _ _ _ (part_lt _ _ hb) hp, part_step _ _ hk, if_pos h]
theorem split_two (l : List UInt8) (q : Nat) (a b : UInt8) (ha : l[q]? = some a) (hb : l[q + 1]? = some b) : l = l.take q ++ a :: b :: l.drop (q + 2) ∧ (l.take q).length = q := by
  obtain ⟨hlt, rfl⟩ := List.getElem?_eq_some_iff.1 ha
  obtain ⟨hlt2, rfl⟩ := List.getElem?_eq_some_iff.1 hb
  refine ⟨?_, List.length_take_of_le (by omega)⟩
  rw [show q + 2 = q + 1 + 1 from rfl, List.getElem_cons_drop, List.getElem_cons_drop]; exact (List.take_append_drop q l).symm
/-- Two unlike neighbours that changed places. -/
theorem swap_seen (l : List UInt8) (s q : Nat) (a b : UInt8) (hs : s < 65536) (ha : l[q]? = some a) (hb : l[q + 1]? = some b) (hne : a ≠ b) :
    sum s ((l.set q b).set (q + 1) a) ≠ sum s l := by
  obtain ⟨e1, hq⟩ := split_two l q a b ha hb
  generalize l.take q = p at e1 hq
  generalize l.drop (q + 2) = t at e1
  have e2 : (l.set q b).set (q + 1) a = p ++ b :: a :: t := by
    rw [e1, List.set_append_right _ _ (by omega), List.set_append_right _ _ (by omega), hq]
    simp
  intro h
  rw [e2, e1] at h
  have h1 := sum_lt p s hs
  have f : ∀ x y : UInt8, sum s (p ++ x :: y :: t) = sum (Lk 16 (sum s p ^^^ (x.toNat * 256 + y.toNat))) t := fun x y => by
    rw [sum_append, sum_cons, sum_cons, two_bytes _ _ _ h1 (byte_lt x) (byte_lt y)]
  rw [f, f] at h
  have x := byte_lt a
  have y := byte_lt b
  have h2 := sum_inj _ _ _ (Lk_lt _ _ (xor16 h1 (by omega))) (Lk_lt _ _ (xor16 h1 (by omega))) h
  have h3 := Lk_inj _ _ _ (xor16 h1 (by omega)) (xor16 h1 (by omega)) h2
  have h4 : b.toNat * 256 + a.toNat = a.toNat * 256 + b.toNat := by
    have := congrArg (sum s p ^^^ ·) h3
    simpa [← Nat.xor_assoc] using this
  exact hne (UInt8.toNat_inj.1 (by omega))
/-! ### the same, bit by bit of the text -/
theorem bit_step (x s c j : Nat) (hx : x < 65536) (hj : j < 8) (h : x ^^^ (c % 2 ^ (8 - j)) * 2 ^ (8 + j) = Lk j (s ^^^ c * 256)) :
    L (x ^^^ 32768 * (c / 2 ^ (7 - j) % 2)) ^^^ (c % 2 ^ (7 - j)) * 2 ^ (9 + j) = Lk (j + 1) (s ^^^ c * 256) := by
  have hm : c % 2 ^ (8 - j) = 2 ^ (7 - j) * (c / 2 ^ (7 - j) % 2) + c % 2 ^ (7 - j) := by
    rw [show 8 - j = (7 - j) + 1 by omega, Nat.pow_succ, Nat.mod_mul]; omega
  have hr : c % 2 ^ (7 - j) < 2 ^ (7 - j) := Nat.mod_lt _ (Nat.two_pow_pos _)
  have hp : 2 ^ (7 - j) * 2 ^ (8 + j) = 32768 := by rw [← Nat.pow_add, show 7 - j + (8 + j) = 15 by omega]
  have hlow : (c % 2 ^ (7 - j)) * 2 ^ (8 + j) < 32768 := by
    rw [← hp]; exact Nat.mul_lt_mul_of_pos_right hr (Nat.two_pow_pos _)
  have hb : c / 2 ^ (7 - j) % 2 < 2 := Nat.mod_lt _ (by decide)
  have hsplit : (c % 2 ^ (8 - j)) * 2 ^ (8 + j) = 32768 * (c / 2 ^ (7 - j) % 2) ^^^ (c % 2 ^ (7 - j)) * 2 ^ (8 + j) := by
    rw [hm, Nat.add_mul]
    have e : 2 ^ (7 - j) * (c / 2 ^ (7 - j) % 2) * 2 ^ (8 + j) = 32768 * (c / 2 ^ (7 - j) % 2) := by rw [← hp]; ac_rfl
    rw [e]
    generalize (c % 2 ^ (7 - j)) * 2 ^ (8 + j) = y at hlow ⊢
    generalize c / 2 ^ (7 - j) % 2 = b at hb ⊢
    have h2 : b = 0 ∨ b = 1 := by omega
    rcases h2 with rfl | rfl
    · simp
    · apply Nat.eq_of_testBit_eq
      intro i
      have h3 := Nat.two_pow_add_eq_or_of_lt (i := 15) (b := y) hlow 1
      have h4 : 32768 * 1 + y = 32768 * 1 ||| y := h3
      rw [h4, Nat.testBit_or, Nat.testBit_xor]
      have h5 : (32768 * 1 : Nat).testBit i = decide (15 = i) := Nat.testBit_two_pow (n := 15)
      rw [h5]
      by_cases hi : 15 = i
      · subst hi
        rw [Nat.testBit_lt_two_pow hlow]; simp
      · simp [hi]
  rw [hsplit] at h
  have e2 : (c % 2 ^ (7 - j)) * 2 ^ (9 + j) = L ((c % 2 ^ (7 - j)) * 2 ^ (8 + j)) := by
    rw [L_small _ hlow, show 9 + j = (8 + j) + 1 by omega, Nat.pow_succ, ← Nat.mul_assoc]; omega
  rw [e2, ← L_xor _ _ (xor16 hx (by omega)) (by omega), Nat.xor_assoc, h]
  rfl
end Go.Proofs.Ytdckhfgfmkggiaa.Crc
