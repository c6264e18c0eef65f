/-
  Plain mathematics of flash cells: bytes by their bits, what may become what, forced and torn writings, rows of bits. No program is named here.
-/
import Derived.Laws.BitsAllLaws
namespace Go.Proofs.Ytaombamfglljaaa.Cell

/-! ### bits of a byte -/
def bt (x : UInt8) (i : Nat) : Bool := x.toNat.testBit i
theorem byte_lt (x : UInt8) : x.toNat < 256 := x.toNat_lt
theorem bt_and (x y : UInt8) (i : Nat) : bt (x &&& y) i = (bt x i && bt y i) := by simp [bt, UInt8.toNat_and, Nat.testBit_and]
theorem bt_or (x y : UInt8) (i : Nat) : bt (x ||| y) i = (bt x i || bt y i) := by simp [bt, UInt8.toNat_or, Nat.testBit_or]
theorem not_nat (x : UInt8) : (~~~x).toNat = 255 - x.toNat := by rw [UInt8.toNat_not]; rfl
theorem bt_not (x : UInt8) (i : Nat) (h : i < 8) : bt (~~~x) i = !bt x i := by
  have e : 255 - x.toNat = 2 ^ 8 - (x.toNat + 1) := by have := byte_lt x; omega
  unfold bt
  rw [not_nat, e, Nat.testBit_two_pow_sub_succ (byte_lt x)]
  simp [h]
theorem bt_ge (x : UInt8) (i : Nat) (h : 8 ≤ i) : bt x i = false :=
  Nat.testBit_lt_two_pow (Nat.lt_of_lt_of_le (byte_lt x) (Nat.pow_le_pow_right (show 2 > 0 by decide) h))
theorem bt_ext {x y : UInt8} (h : ∀ i, i < 8 → bt x i = bt y i) : x = y := by
  apply UInt8.toNat_inj.1
  apply Nat.eq_of_testBit_eq
  intro i
  by_cases hi : i < 8
  · exact h i hi
  · exact (bt_ge x i (by omega)).trans (bt_ge y i (by omega)).symm
theorem bt_zero (i : Nat) : bt 0 i = false := by simp [bt]
theorem bt_all : ∀ i, i < 8 → bt 255 i = true := by decide

/-! ### what may become what -/
/-- A bit is 0 in x and 1 in y. -/
def ups (x y : UInt8) : Bool := (y &&& ~~~x) != 0
theorem ups_false (x y : UInt8) : ups x y = false ↔ ∀ i, i < 8 → bt y i = true → bt x i = true := by
  unfold ups
  rw [bne_eq_false_iff_eq]
  constructor
  · intro h i hi hy
    have := congrArg (bt · i) h
    simp only [bt_and, bt_not _ _ hi, hy, bt_zero] at this
    simpa using this
  · intro h
    apply bt_ext
    intro i hi
    rw [bt_and, bt_not _ _ hi, bt_zero]
    have := h i hi
    cases hy : bt y i <;> cases hx : bt x i <;> simp_all
def rises (a b : List UInt8) : Bool := (List.zipWith ups a b).any id
theorem rises_true {a b : List UInt8} : rises a b = true ↔ ∃ (j : Nat) (x y : UInt8), a[j]? = some x ∧ b[j]? = some y ∧ ups x y = true := by
  unfold rises
  rw [List.any_eq_true]
  constructor
  · rintro ⟨t, hm, ht⟩
    obtain ⟨j, hj⟩ := List.mem_iff_getElem?.1 hm
    rw [List.getElem?_zipWith] at hj
    cases hx : a[j]? with
    | none => simp [hx] at hj
    | some x =>
      cases hy : b[j]? with
      | none => simp [hx, hy] at hj
      | some y =>
        simp [hx, hy] at hj
        exact ⟨j, x, y, hx, hy, by rw [hj]; exact ht⟩
  · rintro ⟨j, x, y, hx, hy, h⟩
    exact ⟨ups x y, List.mem_iff_getElem?.2 ⟨j, by rw [List.getElem?_zipWith, hx, hy]⟩, h⟩
theorem rises_false {a b : List UInt8} : rises a b = false ↔ ∀ (j : Nat) x y, a[j]? = some x → b[j]? = some y → ups x y = false := by
  rw [← Bool.not_eq_true, rises_true]
  constructor
  · intro h j x y hx hy
    cases hu : ups x y with
    | false => rfl
    | true => exact absurd ⟨j, x, y, hx, hy, hu⟩ h
  · rintro h ⟨j, x, y, hx, hy, hu⟩
    rw [h j x y hx hy] at hu
    cases hu
def may (a b : List UInt8) : Bool := a.length == b.length && !rises a b
theorem may_iff {a b : List UInt8} : may a b = true ↔ a.length = b.length ∧ ∀ (j : Nat) x y, a[j]? = some x → b[j]? = some y → ups x y = false := by
  unfold may
  rw [Bool.and_eq_true, Bool.not_eq_true', rises_false, beq_iff_eq]
theorem may_of_len {a b : List UInt8} (h : a.length = b.length) : may a b = !rises a b := by simp [may, h]
theorem may_other {a b : List UInt8} (h : a.length ≠ b.length) : may a b = false := by simp [may, h]
theorem some_of_len {a b : List UInt8} (h : a.length = b.length) {j : Nat} {x : UInt8} (hx : a[j]? = some x) : ∃ y, b[j]? = some y := by
  have := (List.getElem?_eq_some_iff.1 hx).1
  exact ⟨_, List.getElem?_eq_getElem (by omega)⟩
theorem may_refl (a : List UInt8) : may a a = true :=
  may_iff.2 ⟨rfl, fun j x y hx hy => by
    rw [hx] at hy; injection hy with hy; subst hy
    exact (ups_false x x).2 fun _ _ h => h⟩
theorem may_trans {a b c : List UInt8} (h1 : may a b = true) (h2 : may b c = true) : may a c = true := by
  rw [may_iff] at *
  refine ⟨h1.1.trans h2.1, fun j x z hx hz => ?_⟩
  obtain ⟨y, hy⟩ := some_of_len h1.1 hx
  exact (ups_false x z).2 fun i hi h => (ups_false x y).1 (h1.2 j x y hx hy) i hi ((ups_false y z).1 (h2.2 j y z hy hz) i hi h)
theorem may_antisymm {a b : List UInt8} (h1 : may a b = true) (h2 : may b a = true) : a = b := by
  rw [may_iff] at *
  apply List.ext_getElem? 
  intro j
  cases hx : a[j]? with
  | none =>
    have := List.getElem?_eq_none_iff.1 hx
    exact (List.getElem?_eq_none (by omega)).symm
  | some x =>
    obtain ⟨y, hy⟩ := some_of_len h1.1 hx
    rw [hy]
    congr 1
    apply bt_ext
    intro i hi
    have p1 := (ups_false x y).1 (h1.2 j x y hx hy) i hi
    have p2 := (ups_false y x).1 (h2.2 j y x hy hx) i hi
    cases h : bt x i <;> cases h' : bt y i <;> simp_all
theorem may_blank (a : List UInt8) : may (List.replicate a.length 255) a = true :=
  may_iff.2 ⟨by simp, fun j x y hx _ => by
    have hx' : x = 255 := by
      have := List.mem_iff_getElem?.2 ⟨j, hx⟩
      exact (List.mem_replicate.1 this).2
    subst hx'
    exact (ups_false _ y).2 fun i hi _ => bt_all i hi⟩

/-! ### forced -/
def force (a b : List UInt8) : List UInt8 := List.zipWith (· &&& ·) a b
theorem force_length {a b : List UInt8} (h : a.length = b.length) : (force a b).length = a.length := by simp [force, h]
theorem force_get {a b : List UInt8} {j : Nat} {x y : UInt8} (hx : a[j]? = some x) (hy : b[j]? = some y) : (force a b)[j]? = some (x &&& y) := by
  unfold force; rw [List.getElem?_zipWith, hx, hy]
theorem and_comm8 (x y : UInt8) : x &&& y = y &&& x := bt_ext fun i _ => by rw [bt_and, bt_and, Bool.and_comm]
theorem and_assoc8 (x y z : UInt8) : x &&& y &&& z = x &&& (y &&& z) := bt_ext fun i _ => by simp only [bt_and, Bool.and_assoc]
theorem and_self8 (x : UInt8) : x &&& x = x := bt_ext fun i _ => by rw [bt_and, Bool.and_self]
theorem force_comm (a b : List UInt8) : force a b = force b a := List.zipWith_comm_of_comm and_comm8
theorem force_at {a b : List UInt8} {j : Nat} {z : UInt8} (h : (force a b)[j]? = some z) : ∃ x y, a[j]? = some x ∧ b[j]? = some y ∧ z = x &&& y := by
  unfold force at h
  rw [List.getElem?_zipWith] at h
  cases hx : a[j]? with
  | none => simp [hx] at h
  | some x =>
    cases hy : b[j]? with
    | none => simp [hx, hy] at h
    | some y => simp [hx, hy] at h; exact ⟨x, y, rfl, rfl, h.symm⟩
theorem force_ext {a b c : List UInt8} (h : a.length = b.length) (hc : c.length = a.length) (hp : ∀ (j : Nat) x y, a[j]? = some x → b[j]? = some y → c[j]? = some (x &&& y)) : force a b = c := by
  apply List.ext_getElem?
  intro j
  cases hx : a[j]? with
  | none =>
    have := List.getElem?_eq_none_iff.1 hx
    rw [List.getElem?_eq_none (by rw [force_length h]; omega), List.getElem?_eq_none (by omega)]
  | some x =>
    obtain ⟨y, hy⟩ := some_of_len h hx
    rw [force_get hx hy, hp j x y hx hy]
theorem force_idem {a b : List UInt8} (h : a.length = b.length) : force (force a b) b = force a b := by
  refine force_ext (by rw [force_length h, h]) rfl fun j x y hx hy => ?_
  obtain ⟨p, q, hp, hq, rfl⟩ := force_at hx
  rw [hq] at hy; injection hy with hy; subst hy
  rw [hx, and_assoc8, and_self8]
theorem may_force_left {a b : List UInt8} (h : a.length = b.length) : may a (force a b) = true :=
  may_iff.2 ⟨(force_length h).symm, fun j x z hx hz => by
    obtain ⟨p, q, hp, hq, rfl⟩ := force_at hz
    rw [hp] at hx; injection hx with hx; subst hx
    exact (ups_false _ _).2 fun i _ hb => by rw [bt_and, Bool.and_eq_true] at hb; exact hb.1⟩
theorem may_force_right {a b : List UInt8} (h : a.length = b.length) : may b (force a b) = true := by
  rw [force_comm]; exact may_force_left h.symm
theorem force_eq_iff {a b : List UInt8} (h : a.length = b.length) : force a b = b ↔ may a b = true := by
  rw [may_iff]
  constructor
  · intro hf
    refine ⟨h, fun j x y hx hy => ?_⟩
    have := force_get hx hy
    rw [hf, hy] at this
    injection this with this
    refine (ups_false _ _).2 fun i _ hb => ?_
    rw [this, bt_and, Bool.and_eq_true] at hb
    exact hb.1
  · rintro ⟨_, hm⟩
    refine force_ext h h.symm fun j x y hx hy => ?_
    rw [hy]
    congr 1
    apply bt_ext
    intro i hi
    rw [bt_and]
    have := (ups_false x y).1 (hm j x y hx hy) i hi
    cases h1 : bt x i <;> cases h2 : bt y i <;> simp_all
theorem may_of_both {a b c : List UInt8} (h1 : may a c = true) (h2 : may b c = true) : may (force a b) c = true := by
  rw [may_iff] at *
  have hl : a.length = b.length := by omega
  refine ⟨by rw [force_length hl]; exact h1.1, fun j z y hz hy => ?_⟩
  obtain ⟨p, q, hp, hq, rfl⟩ := force_at hz
  refine (ups_false _ _).2 fun i hi hb => ?_
  rw [bt_and, (ups_false _ _).1 (h1.2 j p y hp hy) i hi hb, (ups_false _ _).1 (h2.2 j q y hq hy) i hi hb]
  rfl
theorem force_right_comm (a b c : List UInt8) : force (force a b) c = force (force a c) b := by
  apply List.ext_getElem?
  intro j
  unfold force
  simp only [List.getElem?_zipWith]
  cases a[j]? with
  | none => simp
  | some x =>
    cases b[j]? with
    | none => cases c[j]? <;> simp
    | some y =>
      cases c[j]? with
      | none => simp
      | some z => simp only [Option.some.injEq]; rw [and_assoc8, and_assoc8, and_comm8 y z]
theorem fold_reverse (a : List UInt8) (l : List (List UInt8)) : l.reverse.foldl force a = l.foldl force a :=
  (List.reverse_perm l).foldl_eq' (fun x _ y _ z => force_right_comm z x y) a

/-! ### torn -/
/-- The bits of byte k that a row tells, the lowest n of them. -/
def maskOf (row : List Bool) (k : Nat) : Nat → UInt8
  | 0 => 0
  | n + 1 => if row.getD (8 * k + n) false then maskOf row k n ||| UInt8.ofNat (2 ^ n) else maskOf row k n
theorem bt_one (n i : Nat) (hn : n < 8) : bt (UInt8.ofNat (2 ^ n)) i = decide (n = i) := by
  have h : 2 ^ n < 2 ^ 8 := Nat.pow_lt_pow_right (by decide) hn
  unfold bt
  rw [UInt8.toNat_ofNat', Nat.mod_eq_of_lt h, Nat.testBit_two_pow]
theorem bt_mask (row : List Bool) (k : Nat) : ∀ n, n ≤ 8 → ∀ i, bt (maskOf row k n) i = (decide (i < n) && row.getD (8 * k + i) false)
  | 0, _, i => by simp [maskOf, bt_zero]
  | n + 1, hn, i => by
    have ih := bt_mask row k n (by omega) i
    unfold maskOf
    by_cases hr : row.getD (8 * k + n) false = true
    · rw [if_pos hr, bt_or, ih, bt_one n i (by omega)]
      by_cases hi : n = i
      · subst hi
        rw [hr]; simp
      · by_cases h2 : i < n
        · simp [h2, hi, Nat.lt_succ_of_lt h2]
        · have h3 : ¬ i < n + 1 := by omega
          simp [h2, hi, h3]
    · rw [if_neg hr, ih]
      by_cases hi : n = i
      · subst hi
        have : row.getD (8 * k + n) false = false := by simpa using hr
        rw [this]; simp
      · by_cases h2 : i < n
        · simp [h2, Nat.lt_succ_of_lt h2]
        · have h3 : ¬ i < n + 1 := by omega
          simp [h2, h3]
def mixed (x y m : UInt8) : UInt8 := (x &&& ~~~m) ||| (y &&& m)
theorem bt_mixed (x y m : UInt8) (i : Nat) (hi : i < 8) : bt (mixed x y m) i = if bt m i then bt y i else bt x i := by
  unfold mixed
  rw [bt_or, bt_and, bt_and, bt_not _ _ hi]
  cases bt m i <;> simp
def torn (a b : List UInt8) (row : List Bool) : List UInt8 := (List.zip a b).mapIdx fun k p => mixed p.1 p.2 (maskOf row k 8)
theorem torn_length {a b : List UInt8} (h : a.length = b.length) (row : List Bool) : (torn a b row).length = a.length := by simp [torn, h]
theorem torn_get {a b : List UInt8} {row : List Bool} {j : Nat} {x y : UInt8} (hx : a[j]? = some x) (hy : b[j]? = some y) : (torn a b row)[j]? = some (mixed x y (maskOf row j 8)) := by
  unfold torn
  have hz : (List.zip a b)[j]? = some (x, y) := List.getElem?_zip_eq_some.2 ⟨hx, hy⟩
  rw [List.getElem?_mapIdx, hz]
  rfl
theorem torn_at {a b : List UInt8} {row : List Bool} {j : Nat} {z : UInt8} (h : (torn a b row)[j]? = some z) : ∃ x y, a[j]? = some x ∧ b[j]? = some y ∧ z = mixed x y (maskOf row j 8) := by
  unfold torn at h
  rw [List.getElem?_mapIdx] at h
  cases hz : (List.zip a b)[j]? with
  | none => simp [hz] at h
  | some p =>
    obtain ⟨h1, h2⟩ := List.getElem?_zip_eq_some.1 hz
    simp [hz] at h
    exact ⟨p.1, p.2, h1, h2, h.symm⟩
theorem may_torn {a b : List UInt8} (h : may a b = true) (row : List Bool) : may a (torn a b row) = true := by
  rw [may_iff] at *
  refine ⟨(torn_length h.1 row).symm, fun j x z hx hz => ?_⟩
  obtain ⟨p, q, hp, hq, rfl⟩ := torn_at hz
  rw [hp] at hx; injection hx with hx; subst hx
  refine (ups_false _ _).2 fun i hi hb => ?_
  rw [bt_mixed _ _ _ _ hi] at hb
  have := (ups_false _ _).1 (h.2 j p q hp hq) i hi
  split at hb
  · exact this hb
  · exact hb
theorem torn_may {a b : List UInt8} (h : may a b = true) (row : List Bool) : may (torn a b row) b = true := by
  rw [may_iff] at *
  refine ⟨(torn_length h.1 row).trans h.1, fun j z y hz hy => ?_⟩
  obtain ⟨p, q, hp, hq, rfl⟩ := torn_at hz
  rw [hq] at hy; injection hy with hy; subst hy
  refine (ups_false _ _).2 fun i hi hb => ?_
  rw [bt_mixed _ _ _ _ hi]
  have := (ups_false _ _).1 (h.2 j p q hp hq) i hi hb
  split
  · exact hb
  · exact this
theorem torn_all {a b : List UInt8} (h : a.length = b.length) : torn a b (List.replicate (8 * b.length) true) = b := by
  apply List.ext_getElem?
  intro j
  cases hx : a[j]? with
  | none =>
    have := List.getElem?_eq_none_iff.1 hx
    rw [List.getElem?_eq_none (by rw [torn_length h]; omega), List.getElem?_eq_none (by omega)]
  | some x =>
    obtain ⟨y, hy⟩ := some_of_len h hx
    have hj := (List.getElem?_eq_some_iff.1 hy).1
    rw [torn_get hx hy, hy]
    congr 1
    apply bt_ext
    intro i hi
    rw [bt_mixed _ _ _ _ hi, bt_mask _ _ 8 (by omega)]
    have e : (List.replicate (8 * b.length) true).getD (8 * j + i) false = true := by
      rw [List.getD, List.getElem?_replicate, if_pos (by omega)]; rfl
    rw [e]
    simp [hi]

/-! ### rows of bits -/
def eight (x : UInt8) : List Bool := (List.range 8).map (bt x)
theorem eight_length (x : UInt8) : (eight x).length = 8 := by simp [eight]
theorem eight_get (x : UInt8) (i : Nat) (h : i < 8) : (eight x)[i]? = some (bt x i) := by simp [eight, h]
def bitsL (l : List UInt8) : List Bool := l.flatMap eight
theorem bitsL_nil : bitsL [] = [] := rfl
theorem bitsL_append (a b : List UInt8) : bitsL (a ++ b) = bitsL a ++ bitsL b := List.flatMap_append
theorem bitsL_cons (x : UInt8) (l : List UInt8) : bitsL (x :: l) = eight x ++ bitsL l := List.flatMap_cons
theorem bitsL_length : ∀ l : List UInt8, (bitsL l).length = 8 * l.length
  | [] => rfl
  | x :: l => by rw [bitsL_cons, List.length_append, eight_length, bitsL_length l, List.length_cons]; omega
theorem bitsL_at : ∀ (l : List UInt8) (k i : Nat), i < 8 → (bitsL l)[8 * k + i]? = l[k]?.map (bt · i)
  | [], k, i, _ => by simp [bitsL_nil]
  | x :: l, 0, i, h => by
    rw [bitsL_cons, List.getElem?_append_left (by rw [eight_length]; omega), Nat.mul_zero, Nat.zero_add, eight_get x i h]; rfl
  | x :: l, k + 1, i, h => by
    rw [bitsL_cons, List.getElem?_append_right (by rw [eight_length]; omega), eight_length, show 8 * (k + 1) + i - 8 = 8 * k + i by omega, bitsL_at l k i h]; simp
theorem bitsL_get (l : List UInt8) (j : Nat) : (bitsL l)[j]? = l[j / 8]?.map (bt · (j % 8)) := by
  have := bitsL_at l (j / 8) (j % 8) (Nat.mod_lt _ (by decide))
  rwa [show 8 * (j / 8) + j % 8 = j by omega] at this
/-- What the maker of the row has after k bytes and i bits of the next. -/
def bitsTo (l : List UInt8) (k i : Nat) : List Bool := (bitsL l).take (8 * k + i)
theorem bitsTo_step {l : List UInt8} {k i : Nat} {x : UInt8} (hx : l[k]? = some x) (hi : i < 8) : bitsTo l k i ++ [bt x i] = bitsTo l k (i + 1) := by
  unfold bitsTo
  have h := bitsL_at l k i hi
  rw [hx] at h
  rw [show 8 * k + (i + 1) = 8 * k + i + 1 by omega, List.take_add_one, h]
  rfl
theorem bitsTo_length {l : List UInt8} {k i : Nat} (h : 8 * k + i ≤ 8 * l.length) : (bitsTo l k i).length = 8 * k + i := by
  unfold bitsTo; rw [List.length_take, bitsL_length]; omega
theorem bitsTo_next (l : List UInt8) (k : Nat) : bitsTo l k 8 = bitsTo l (k + 1) 0 := by unfold bitsTo; congr 1
theorem bitsTo_all (l : List UInt8) : bitsTo l l.length 0 = bitsL l := by unfold bitsTo; rw [Nat.add_zero, ← bitsL_length]; exact List.take_length
theorem bt_div (x : UInt8) (i : Nat) : bt x i = decide (x.toNat / 2 ^ i % 2 = 1) := by unfold bt; rw [Nat.testBit_eq_decide_div_mod_eq]

/-! ### a row that is turned place by place -/
def upto (f : Nat → Bool → Bool) (A : List Bool) (k : Nat) : List Bool := A.mapIdx fun j p => if j < k then f j p else p
theorem upto_length (f : Nat → Bool → Bool) (A : List Bool) (k : Nat) : (upto f A k).length = A.length := by simp [upto]
theorem upto_get (f : Nat → Bool → Bool) (A : List Bool) (k j : Nat) : (upto f A k)[j]? = A[j]?.map fun p => if j < k then f j p else p := by simp [upto, List.getElem?_mapIdx]
theorem upto_zero (f : Nat → Bool → Bool) (A : List Bool) : upto f A 0 = A := by
  apply List.ext_getElem?; intro j; rw [upto_get]; simp
theorem upto_here {f : Nat → Bool → Bool} {A : List Bool} {k : Nat} {p : Bool} (h : A[k]? = some p) : (upto f A k)[k]? = some p := by rw [upto_get, h]; simp
theorem upto_set {f : Nat → Bool → Bool} {A : List Bool} {k : Nat} {p : Bool} (h : A[k]? = some p) : (upto f A k).set k (f k p) = upto f A (k + 1) := by
  apply List.ext_getElem?
  intro j
  rw [List.getElem?_set, upto_get, upto_get, upto_length]
  by_cases hj : k = j
  · subst hj
    have := (List.getElem?_eq_some_iff.1 h).1
    rw [if_pos rfl, if_pos this, h, Option.map_some, if_pos (Nat.lt_succ_self _)]
  · rw [if_neg hj]
    have e : (j < k + 1) = (j < k) := by simp; omega
    simp only [e]
theorem upto_skip {f : Nat → Bool → Bool} {A : List Bool} {k : Nat} {p : Bool} (h : A[k]? = some p) (hf : f k p = p) : upto f A k = upto f A (k + 1) := by
  rw [← upto_set h, hf]
  apply List.ext_getElem?
  intro j
  rw [List.getElem?_set]
  by_cases hj : k = j
  · subst hj
    have := (List.getElem?_eq_some_iff.1 (upto_here (f := f) h)).1
    rw [if_pos rfl, if_pos this, upto_here h]
  · rw [if_neg hj]
def tornF (row B : List Bool) (j : Nat) (p : Bool) : Bool := if row.getD j false then B.getD j false else p
def forceF (B : List Bool) (j : Nat) (p : Bool) : Bool := p && B.getD j false
theorem getD_bits {b : List UInt8} {j : Nat} {y : UInt8} (hy : b[j / 8]? = some y) : (bitsL b).getD j false = bt y (j % 8) := by
  rw [List.getD, bitsL_get, hy]; rfl
theorem upto_torn {a b : List UInt8} (h : a.length = b.length) (row : List Bool) : upto (tornF row (bitsL b)) (bitsL a) (min row.length (bitsL a).length) = bitsL (torn a b row) := by
  apply List.ext_getElem?
  intro j
  rw [upto_get, bitsL_get, bitsL_get]
  cases hx : a[j / 8]? with
  | none =>
    have := List.getElem?_eq_none_iff.1 hx
    rw [List.getElem?_eq_none (by rw [torn_length h]; omega)]; rfl
  | some x =>
    obtain ⟨y, hy⟩ := some_of_len h hx
    have hj := (List.getElem?_eq_some_iff.1 hx).1
    have h8 : j % 8 < 8 := Nat.mod_lt _ (by decide)
    rw [torn_get hx hy, Option.map_some, Option.map_some, Option.map_some, bt_mixed _ _ _ _ h8, bt_mask _ _ 8 (by omega), show 8 * (j / 8) + j % 8 = j by omega]
    congr 1
    unfold tornF
    rw [getD_bits hy, bitsL_length]
    by_cases hr : j < row.length
    · rw [if_pos (by omega)]; simp [h8]
    · have : row.getD j false = false := by rw [List.getD, List.getElem?_eq_none (by omega)]; rfl
      rw [if_neg (by omega), this]; simp
theorem upto_force {a b : List UInt8} (h : a.length = b.length) : upto (forceF (bitsL b)) (bitsL a) (bitsL a).length = bitsL (force a b) := by
  apply List.ext_getElem?
  intro j
  rw [upto_get, bitsL_get, bitsL_get]
  cases hx : a[j / 8]? with
  | none =>
    have := List.getElem?_eq_none_iff.1 hx
    rw [List.getElem?_eq_none (by rw [force_length h]; omega)]; rfl
  | some x =>
    obtain ⟨y, hy⟩ := some_of_len h hx
    have hj := (List.getElem?_eq_some_iff.1 hx).1
    rw [force_get hx hy, Option.map_some, Option.map_some, Option.map_some, bitsL_length, if_pos (by omega), bt_and]
    unfold forceF
    rw [getD_bits hy]
/-- What the loop over both rows of bits has told before place k. -/
def okTo (A B : List Bool) (k : Nat) : Bool := A.length == B.length && (List.range k).all fun j => A.getD j false || !B.getD j false
theorem okTo_zero (A B : List Bool) : okTo A B 0 = (A.length == B.length) := by simp [okTo]
theorem okTo_succ (A B : List Bool) (k : Nat) : okTo A B (k + 1) = (okTo A B k && (A.getD k false || !B.getD k false)) := by
  simp [okTo, List.range_succ, List.all_append, Bool.and_assoc]
theorem okTo_false {A B : List Bool} {k : Nat} (h : okTo A B k = false) : ∀ d, okTo A B (k + d) = false
  | 0 => h
  | d + 1 => by rw [← Nat.add_assoc, okTo_succ, okTo_false h d]; rfl
theorem okTo_iff {A B : List Bool} {k : Nat} : okTo A B k = true ↔ A.length = B.length ∧ ∀ j, j < k → B.getD j false = true → A.getD j false = true := by
  unfold okTo
  rw [Bool.and_eq_true, beq_iff_eq, List.all_eq_true]
  refine and_congr_right fun _ => ⟨fun h j hj hb => ?_, fun h j hj => ?_⟩
  · have := h j (List.mem_range.2 hj)
    rw [hb] at this
    simpa using this
  · have := h j (List.mem_range.1 hj)
    cases hb : B.getD j false
    · simp
    · rw [this hb]; rfl
theorem okTo_may (a b : List UInt8) : okTo (bitsL a) (bitsL b) (bitsL a).length = may a b := by
  rw [Bool.eq_iff_iff, okTo_iff, may_iff, bitsL_length, bitsL_length]
  constructor
  · rintro ⟨h1, h2⟩
    have hl : a.length = b.length := by omega
    refine ⟨hl, fun j x y hx hy => (ups_false x y).2 fun i hi hb => ?_⟩
    have hj := (List.getElem?_eq_some_iff.1 hx).1
    have e1 : (8 * j + i) / 8 = j := by omega
    have e2 : (8 * j + i) % 8 = i := by omega
    have := h2 (8 * j + i) (by omega)
    rw [getD_bits (y := y) (by rw [e1]; exact hy), getD_bits (y := x) (by rw [e1]; exact hx), e2] at this
    exact this hb
  · rintro ⟨h1, h2⟩
    refine ⟨by omega, fun j hj hb => ?_⟩
    have hx : a[j / 8]? = some a[j / 8] := List.getElem?_eq_getElem (by omega)
    obtain ⟨y, hy⟩ := some_of_len h1 hx
    rw [getD_bits hy] at hb
    rw [getD_bits hx]
    exact (ups_false _ _).1 (h2 _ _ _ hx hy) _ (Nat.mod_lt _ (by decide)) hb

/-! ### bits to bytes -/
/-- What the bytes are after k bits of them were laid. -/
def packed (l : List UInt8) (k : Nat) : List UInt8 := l.mapIdx fun j x => UInt8.ofNat (x.toNat % 2 ^ (min 8 (k - 8 * j)))
theorem packed_length (l : List UInt8) (k : Nat) : (packed l k).length = l.length := by simp [packed]
theorem packed_get (l : List UInt8) (k j : Nat) : (packed l k)[j]? = l[j]?.map fun x => UInt8.ofNat (x.toNat % 2 ^ (min 8 (k - 8 * j))) := by simp [packed, List.getElem?_mapIdx]
theorem packed_zero (l : List UInt8) : packed l 0 = List.replicate l.length 0 := by
  apply List.ext_getElem?
  intro j
  rw [packed_get, List.getElem?_replicate]
  by_cases h : j < l.length
  · rw [List.getElem?_eq_getElem h, if_pos h]; simp [Nat.mod_one]
  · rw [List.getElem?_eq_none (by omega), if_neg h]; rfl
theorem packed_all (l : List UInt8) : packed l (8 * l.length) = l := by
  apply List.ext_getElem?
  intro j
  rw [packed_get]
  by_cases h : j < l.length
  · rw [List.getElem?_eq_getElem h, Option.map_some]
    congr 1
    rw [show min 8 (8 * l.length - 8 * j) = 8 by omega, Nat.mod_eq_of_lt (byte_lt _)]
    simp
  · rw [List.getElem?_eq_none (by omega)]; rfl
theorem packed_here {l : List UInt8} {k : Nat} {x : UInt8} (hx : l[k / 8]? = some x) : (packed l k)[k / 8]? = some (UInt8.ofNat (x.toNat % 2 ^ (k % 8))) := by
  rw [packed_get, hx, show min 8 (k - 8 * (k / 8)) = k % 8 by omega]; rfl
theorem packed_one {l : List UInt8} {k : Nat} {x : UInt8} (hx : l[k / 8]? = some x) (hb : bt x (k % 8) = true) :
    (packed l k).set (k / 8) (UInt8.ofNat (x.toNat % 2 ^ (k % 8) + 2 ^ (k % 8))) = packed l (k + 1) := by
  apply List.ext_getElem?
  intro j
  rw [List.getElem?_set, packed_get, packed_get, packed_length]
  by_cases hj : k / 8 = j
  · subst hj
    have := (List.getElem?_eq_some_iff.1 hx).1
    rw [if_pos rfl, if_pos this, hx, Option.map_some, show min 8 (k + 1 - 8 * (k / 8)) = k % 8 + 1 by omega, Nat.mod_pow_succ]
    rw [bt_div] at hb
    have hb2 : x.toNat / 2 ^ (k % 8) % 2 = 1 := of_decide_eq_true hb
    rw [hb2, Nat.mul_one]
  · rw [if_neg hj]
    by_cases h2 : j < k / 8
    · rw [show min 8 (k - 8 * j) = min 8 (k + 1 - 8 * j) by omega]
    · rw [show k - 8 * j = 0 by omega, show k + 1 - 8 * j = 0 by omega]
theorem packed_skip {l : List UInt8} {k : Nat} {x : UInt8} (hx : l[k / 8]? = some x) (hb : bt x (k % 8) = false) : packed l k = packed l (k + 1) := by
  apply List.ext_getElem?
  intro j
  rw [packed_get, packed_get]
  by_cases hj : k / 8 = j
  · subst hj
    rw [hx, Option.map_some, Option.map_some, show min 8 (k + 1 - 8 * (k / 8)) = k % 8 + 1 by omega, show min 8 (k - 8 * (k / 8)) = k % 8 by omega, Nat.mod_pow_succ]
    rw [bt_div] at hb
    have hb2 : ¬ x.toNat / 2 ^ (k % 8) % 2 = 1 := of_decide_eq_false hb
    rw [show x.toNat / 2 ^ (k % 8) % 2 = 0 by omega, Nat.mul_zero, Nat.add_zero]
  · by_cases h2 : j < k / 8
    · rw [show min 8 (k - 8 * j) = min 8 (k + 1 - 8 * j) by omega]
    · rw [show k - 8 * j = 0 by omega, show k + 1 - 8 * j = 0 by omega]
theorem packed_sum (x : UInt8) (r : Nat) (hr : r < 8) : x.toNat % 2 ^ r + 2 ^ r < 256 := by
  have h1 : x.toNat % 2 ^ r < 2 ^ r := Nat.mod_lt _ (Nat.pow_pos (by decide))
  have h2 : 2 ^ r ≤ 128 := by
    have := Nat.pow_le_pow_right (show 2 > 0 by decide) (show r ≤ 7 by omega)
    simpa using this
  omega
end Go.Proofs.Ytaombamfglljaaa.Cell
