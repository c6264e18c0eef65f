/-
  Plain facts on natural numbers as bits: counting the 1 bits of a word by summing neighbouring fields gives their number; the exclusive or of the positions of the 1 bits is linear; the table of what is mended, by the difference of the check bits. No program is named here.
-/
import Derived.Lib.BitFns
import Derived.Laws.BitsAllLaws
namespace Go.Proofs.Ytdabkoconolclaa.Ecc
open Go

/-! ### the number of 1 bits -/
theorem popAux_add : ∀ (n m x : Nat), Lib.popAux (n + m) x = Lib.popAux n x + Lib.popAux m (x / 2 ^ n)
  | 0, m, x => by simp [Lib.popAux]
  | n + 1, m, x => by
    rw [show n + 1 + m = (n + m) + 1 by omega]
    simp only [Lib.popAux]
    rw [popAux_add n m (x / 2), Nat.div_div_eq_div_mul, Nat.pow_succ, Nat.mul_comm (2 ^ n) 2]
    omega
theorem popAux_mod : ∀ (n x : Nat), Lib.popAux n (x % 2 ^ n) = Lib.popAux n x
  | 0, x => by simp [Lib.popAux]
  | n + 1, x => by
    simp only [Lib.popAux]
    have e : x % 2 ^ (n + 1) / 2 = (x / 2) % 2 ^ n := by
      rw [Nat.pow_succ, Nat.mul_comm, Nat.mod_mul_right_div_self]
    have e2 : x % 2 ^ (n + 1) % 2 = x % 2 := Nat.mod_mod_of_dvd x ⟨2 ^ n, by rw [Nat.pow_succ, Nat.mul_comm]⟩
    rw [e, e2, popAux_mod n (x / 2)]
theorem popAux_le : ∀ (n x : Nat), Lib.popAux n x ≤ n
  | 0, x => by simp [Lib.popAux]
  | n + 1, x => by have := popAux_le n (x / 2); simp only [Lib.popAux]; omega
theorem xor_mod2 (a b : Nat) : (a ^^^ b) % 2 = (a % 2 + b % 2) % 2 := by
  have h := Nat.xor_mod_two_pow (a := a) (b := b) (n := 1)
  simp only [Nat.pow_one] at h
  rw [h]
  rcases Nat.mod_two_eq_zero_or_one a with ha | ha <;> rcases Nat.mod_two_eq_zero_or_one b with hb | hb <;> rw [ha, hb] <;> rfl
theorem xor_div2 (a b : Nat) : (a ^^^ b) / 2 = a / 2 ^^^ b / 2 := by
  have h := Nat.xor_div_two_pow (a := a) (b := b) (n := 1)
  simpa using h
theorem popAux_xor : ∀ (n a b : Nat), Lib.popAux n (a ^^^ b) % 2 = (Lib.popAux n a + Lib.popAux n b) % 2
  | 0, a, b => by simp [Lib.popAux]
  | n + 1, a, b => by
    have ih := popAux_xor n (a / 2) (b / 2)
    have h := xor_mod2 a b
    simp only [Lib.popAux, xor_div2]
    omega

/-! ### words as bytes -/
def mb (f : Nat → Nat) : Nat → Nat → Nat
  | 0, _ => 0
  | n + 1, x => f (x % 256) + 256 * mb f n (x / 256)
def mk (m : Nat) : Nat → Nat
  | 0 => 0
  | n + 1 => m + 256 * mk m n
theorem and_cons (a r m M : Nat) (ha : a < 256) (hm : m < 256) : (a + 256 * r) &&& (m + 256 * M) = (a &&& m) + 256 * (r &&& M) := by
  have h1 := Nat.and_mod_two_pow (a := a + 256 * r) (b := m + 256 * M) (n := 8)
  have h2 := Nat.and_div_two_pow (a := a + 256 * r) (b := m + 256 * M) (n := 8)
  rw [show (a + 256 * r) % 2 ^ 8 = a by omega, show (m + 256 * M) % 2 ^ 8 = m by omega] at h1
  rw [show (a + 256 * r) / 2 ^ 8 = r by omega, show (m + 256 * M) / 2 ^ 8 = M by omega] at h2
  omega
theorem and_map (g : Nat → Nat) (m : Nat) (hm : m < 256) (s : Nat) (hg : ∀ x, (x / s) % 256 &&& m = g (x % 256)) :
    ∀ n x, (x / s) &&& mk m n = mb g n x
  | 0, x => by simp [mk, mb]
  | n + 1, x => by
    have h := and_cons ((x / s) % 256) (x / s / 256) m (mk m n) (Nat.mod_lt _ (by decide)) hm
    rw [show x / s % 256 + 256 * (x / s / 256) = x / s by omega] at h
    rw [mk, h, hg, show x / s / 256 = x / 256 / s by rw [Nat.div_div_eq_div_mul, Nat.div_div_eq_div_mul, Nat.mul_comm], and_map g m hm s hg n (x / 256), mb]
theorem mb_add (f g : Nat → Nat) : ∀ n x, mb f n x + mb g n x = mb (fun y => f y + g y) n x
  | 0, x => rfl
  | n + 1, x => by have := mb_add f g n (x / 256); simp only [mb]; omega
theorem mb_lt (f : Nat → Nat) (hf : ∀ y, y < 256 → f y < 256) : ∀ n x, mb f n x < 256 ^ n
  | 0, x => by simp [mb]
  | n + 1, x => by
    have h1 := mb_lt f hf n (x / 256)
    have h2 := hf (x % 256) (Nat.mod_lt _ (by decide))
    rw [Nat.pow_succ]; simp only [mb]; omega
theorem mb_comp (f g : Nat → Nat) (hf : ∀ y, y < 256 → f y < 256) : ∀ n x, mb g n (mb f n x) = mb (fun y => g (f y)) n x
  | 0, x => rfl
  | n + 1, x => by
    have h := hf (x % 256) (Nat.mod_lt _ (by decide))
    have ih := mb_comp f g hf n (x / 256)
    simp only [mb]
    rw [show (f (x % 256) + 256 * mb f n (x / 256)) % 256 = f (x % 256) by omega, show (f (x % 256) + 256 * mb f n (x / 256)) / 256 = mb f n (x / 256) by omega, ih]
theorem mb_congr (f g : Nat → Nat) (h : ∀ y, y < 256 → f y = g y) : ∀ n x, mb f n x = mb g n x
  | 0, x => rfl
  | n + 1, x => by simp only [mb]; rw [h _ (Nat.mod_lt _ (by decide)), mb_congr f g h n (x / 256)]

def s1 (y : Nat) : Nat := (y / 2 &&& 85) + (y &&& 85)
def s2 (y : Nat) : Nat := (y / 4 &&& 51) + (y &&& 51)
def s3 (y : Nat) : Nat := (y / 16 + y) % 16
theorem s1_lt : ∀ y, y < 256 → s1 y < 256 := by decide +kernel
theorem s21_lt : ∀ y, y < 256 → s2 (s1 y) < 256 := by decide +kernel
theorem s21_low : ∀ y, y < 256 → s2 (s1 y) % 16 ≤ 4 ∧ s2 (s1 y) / 16 ≤ 4 := by decide +kernel
theorem s321 : ∀ y, y < 256 → s3 (s2 (s1 y)) = Lib.popAux 8 y := by decide +kernel
theorem m85 : mk 85 8 = 6148914691236517205 := by decide +kernel
theorem m51 : mk 51 8 = 3689348814741910323 := by decide +kernel
theorem m15 : mk 15 8 = 1085102592571150095 := by decide +kernel
theorem sh2 : ∀ y, y < 256 → ∀ e, e < 2 → (y / 2 + 128 * e) &&& 85 = y / 2 &&& 85 := by decide +kernel
theorem sh4 : ∀ y, y < 256 → ∀ e, e < 4 → (y / 4 + 64 * e) &&& 51 = y / 4 &&& 51 := by decide +kernel
theorem step1 (x : Nat) : (x / 2 &&& 6148914691236517205) + (x &&& 6148914691236517205) = mb s1 8 x := by
  have a := and_map (fun y => y / 2 &&& 85) 85 (by decide) 2 (fun x => by
    rw [show x / 2 % 256 = x % 256 / 2 + 128 * (x / 256 % 2) by omega]
    exact sh2 _ (Nat.mod_lt _ (by decide)) _ (Nat.mod_lt _ (by decide))) 8 x
  have b := and_map (fun y => y &&& 85) 85 (by decide) 1 (fun x => by rw [Nat.div_one]) 8 x
  rw [Nat.div_one] at b
  rw [m85] at a b
  rw [a, b, mb_add]; rfl
theorem step2 (x : Nat) : (x / 4 &&& 3689348814741910323) + (x &&& 3689348814741910323) = mb s2 8 x := by
  have a := and_map (fun y => y / 4 &&& 51) 51 (by decide) 4 (fun x => by
    rw [show x / 4 % 256 = x % 256 / 4 + 64 * (x / 256 % 4) by omega]
    exact sh4 _ (Nat.mod_lt _ (by decide)) _ (Nat.mod_lt _ (by decide))) 8 x
  have b := and_map (fun y => y &&& 51) 51 (by decide) 1 (fun x => by rw [Nat.div_one]) 8 x
  rw [Nat.div_one] at b
  rw [m51] at a b
  rw [a, b, mb_add]; rfl
theorem mb_le (f : Nat → Nat) (c : Nat) (hf : ∀ y, y < 256 → f y ≤ c) : ∀ n x, mb f n x ≤ mb (fun _ => c) n 0
  | 0, x => Nat.le_refl _
  | n + 1, x => by
    have h1 := mb_le f c hf n (x / 256)
    have h2 := hf (x % 256) (Nat.mod_lt _ (by decide))
    simp only [mb]
    rw [show 0 / 256 = 0 from rfl]
    omega
theorem s21_le : ∀ y, y < 256 → s2 (s1 y) ≤ 68 := by decide +kernel
theorem s21_all (x : Nat) : mb (fun y => s2 (s1 y)) 8 x < 8000000000000000000 :=
  Nat.lt_of_le_of_lt (mb_le (fun y => s2 (s1 y)) 68 s21_le 8 x) (by decide +kernel)
theorem mb_low (h : Nat → Nat) (hh : ∀ y, y < 256 → h y % 16 ≤ 4 ∧ h y / 16 ≤ 4) : ∀ n x, mb h n x % 16 ≤ 4
  | 0, x => by simp [mb]
  | n + 1, x => by have := (hh (x % 256) (Nat.mod_lt _ (by decide))).1; simp only [mb]; omega
theorem step3 (h : Nat → Nat) (hh : ∀ y, y < 256 → h y % 16 ≤ 4 ∧ h y / 16 ≤ 4) : ∀ n x, (mb h n x / 16 + mb h n x) &&& mk 15 n = mb (fun y => s3 (h y)) n x
  | 0, x => by simp [mk, mb]
  | n + 1, x => by
    have ih := step3 h hh n (x / 256)
    have h1 := hh (x % 256) (Nat.mod_lt _ (by decide))
    have h2 := mb_low h hh n (x / 256)
    simp only [mb, mk]
    generalize hu : mb h n (x / 256) = u at *
    generalize hv : h (x % 256) = v at *
    rw [show (v + 256 * u) / 16 + (v + 256 * u) = (v / 16 + v + 16 * (u % 16)) + 256 * (u / 16 + u) by omega,
      and_cons _ _ _ _ (by omega) (by decide), ih, nat_mask4, show (v / 16 + v + 16 * (u % 16)) % 16 = s3 v by unfold s3; omega]
theorem mb_pop : ∀ n x, mb (Lib.popAux 8) n x % 255 = Lib.popAux (8 * n) x % 255
  | 0, x => by simp [mb, Lib.popAux]
  | n + 1, x => by
    have ih := mb_pop n (x / 256)
    have e : Lib.popAux 8 (x % 256) = Lib.popAux 8 x := popAux_mod 8 x
    rw [show 8 * (n + 1) = 8 + 8 * n by omega, popAux_add, show (2 : Nat) ^ 8 = 256 by decide]
    simp only [mb]
    rw [e]
    omega
theorem mb_open (f : Nat → Nat) (x : Nat) (h8 : ∀ y, y < 256 → f y ≤ 8) : ∃ a b c d e g h i : Nat, a ≤ 8 ∧ b ≤ 8 ∧ c ≤ 8 ∧ d ≤ 8 ∧ e ≤ 8 ∧ g ≤ 8 ∧ h ≤ 8 ∧ i ≤ 8 ∧
    mb f 8 x = a + 256 * (b + 256 * (c + 256 * (d + 256 * (e + 256 * (g + 256 * (h + 256 * i)))))) := by
  refine ⟨_, _, _, _, _, _, _, _, h8 _ (Nat.mod_lt x (by decide)), h8 _ (Nat.mod_lt (x / 256) (by decide)), h8 _ (Nat.mod_lt (x / 256 / 256) (by decide)), h8 _ (Nat.mod_lt (x / 256 / 256 / 256) (by decide)),
    h8 _ (Nat.mod_lt (x / 256 / 256 / 256 / 256) (by decide)), h8 _ (Nat.mod_lt (x / 256 / 256 / 256 / 256 / 256) (by decide)), h8 _ (Nat.mod_lt (x / 256 / 256 / 256 / 256 / 256 / 256) (by decide)), h8 _ (Nat.mod_lt (x / 256 / 256 / 256 / 256 / 256 / 256 / 256) (by decide)), ?_⟩
  simp only [mb, Nat.mul_zero, Nat.add_zero]
def fold6 (v : Nat) : Nat := (v + v / 256) + (v + v / 256) / 65536 + ((v + v / 256) + (v + v / 256) / 65536) / 4294967296
theorem fold_a (a b c v v1 v2 v3 : Nat) (ha : a ≤ 8) (hb : b ≤ 8) (hc : c ≤ 8) (h0 : v = a + 256 * v1) (h1 : v1 = b + 256 * v2) (h2 : v2 = c + 256 * v3) :
    v / 256 = v1 ∧ (v + v1) / 65536 = v2 + v3 := by omega
theorem fold_b (A B C D v v1 v2 v3 v4 v5 v6 v7 : Nat) (hA : A ≤ 134744072) (hB : B ≤ 134744072) (hC : C ≤ 134744072) (hD : D ≤ 134744072)
    (h0 : v = A + 4294967296 * v4) (h1 : v1 = B + 4294967296 * v5) (h2 : v2 = C + 4294967296 * v6) (h3 : v3 = D + 4294967296 * v7) :
    (v + v1 + (v2 + v3)) / 4294967296 = v4 + v5 + v6 + v7 := by omega
theorem fold_c (a b c d v v1 v2 v3 v4 : Nat) (ha : a ≤ 8) (hb : b ≤ 8) (hc : c ≤ 8) (hd : d ≤ 8) (h0 : v = a + 256 * v1) (h1 : v1 = b + 256 * v2) (h2 : v2 = c + 256 * v3) (h3 : v3 = d + 256 * v4) :
    ∃ A, A ≤ 134744072 ∧ v = A + 4294967296 * v4 := ⟨a + 256 * b + 65536 * c + 16777216 * d, by omega, by omega⟩
theorem fold6_eq (x : Nat) : fold6 (mb (Lib.popAux 8) 8 x) % 128 = Lib.popAux 64 x ∧ mb (Lib.popAux 8) 8 x < 1000000000000000000 := by
  have hp := mb_pop 8 x
  have hl := popAux_le 64 x
  obtain ⟨a, b, c, d, e, g, h, i, ha, hb, hc, hd, he, hg, hh, hi, hv⟩ := mb_open (Lib.popAux 8) x (fun y _ => popAux_le 8 y)
  simp only [Nat.reduceMul] at hp
  generalize Lib.popAux 64 x = T at *
  generalize mb (Lib.popAux 8) 8 x = v at *
  clear x
  obtain ⟨v7, h7⟩ : ∃ v7, v7 = i + 256 * 0 := ⟨_, rfl⟩
  obtain ⟨v6, h6⟩ : ∃ v6, v6 = h + 256 * v7 := ⟨_, rfl⟩
  obtain ⟨v5, h5⟩ : ∃ v5, v5 = g + 256 * v6 := ⟨_, rfl⟩
  obtain ⟨v4, h4⟩ : ∃ v4, v4 = e + 256 * v5 := ⟨_, rfl⟩
  obtain ⟨v3, h3⟩ : ∃ v3, v3 = d + 256 * v4 := ⟨_, rfl⟩
  obtain ⟨v2, h2⟩ : ∃ v2, v2 = c + 256 * v3 := ⟨_, rfl⟩
  obtain ⟨v1, h1⟩ : ∃ v1, v1 = b + 256 * v2 := ⟨_, rfl⟩
  have h0 : v = a + 256 * v1 := by rw [hv, h1, h2, h3, h4, h5, h6, h7, Nat.mul_zero, Nat.add_zero]
  clear hv
  have f1 := fold_a a b c v v1 v2 v3 ha hb hc h0 h1 h2
  obtain ⟨A, hA, eA⟩ := fold_c a b c d v v1 v2 v3 v4 ha hb hc hd h0 h1 h2 h3
  obtain ⟨B, hB, eB⟩ := fold_c b c d e v1 v2 v3 v4 v5 hb hc hd he h1 h2 h3 h4
  obtain ⟨C, hC, eC⟩ := fold_c c d e g v2 v3 v4 v5 v6 hc hd he hg h2 h3 h4 h5
  obtain ⟨D, hD, eD⟩ := fold_c d e g h v3 v4 v5 v6 v7 hd he hg hh h3 h4 h5 h6
  have f2 := fold_b A B C D v v1 v2 v3 v4 v5 v6 v7 hA hB hC hD eA eB eC eD
  unfold fold6
  rw [f1.1, f1.2, f2]
  clear eB eC eD f1 f2 hB hC hD
  have hW : v = (a + b + c + d + e + g + h + i) + 255 * (v1 + v2 + v3 + v4 + v5 + v6 + v7) := by omega
  have hX : v + v1 + (v2 + v3) + (v4 + v5 + v6 + v7) = (a + b + c + d + e + g + h + i) + 256 * (v1 + v2 + v3 + v4 + v5 + v6 + v7) := by omega
  have b4 : v4 ≤ 134744072 := by omega
  clear h0 h1 h2 h3 h4 h5 h6 h7
  rw [hX]
  generalize v1 + v2 + v3 + v4 + v5 + v6 + v7 = W at *
  have hS : a + b + c + d + e + g + h + i ≤ 64 := by omega
  generalize a + b + c + d + e + g + h + i = S at *
  refine ⟨?_, by omega⟩
  clear eA hA b4 hX
  have hT : T = S := by omega
  omega
end Go.Proofs.Ytdabkoconolclaa.Ecc
