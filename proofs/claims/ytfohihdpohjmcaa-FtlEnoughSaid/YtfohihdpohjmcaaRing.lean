/-
  A ring of blocks: what is programmed goes round and round the flash, block by block. Plain facts: what each step keeps, that cleaning ends, how often each block was erased. No program.
-/
import Derived.Test.YtfohihdpohjmcaaNPlain
import Derived.Test.YtfohihdpohjmcaaPlain
namespace Go.Proofs.Ytfohihdpohjmcaa.Ftl
open Nand (Blk Nop okB okB_nums right_mk right_len right_get errOf err_of err_zero blkErr doB nextOf dataOf upd_of upd_length next_right within betw datum fresh fresh_right)
set_option linter.unusedVariables false

/-- Which block of the unrolled ring lies at i, when E were erased. -/
def sq (E i : Nat) : Nat := E + (i + 7 * E) % 8
def doneOf (T E i : Nat) : Nat := min 4 (T - 4 * sq E i)
def wearOf (E i : Nat) : Nat := (E + 7 - i) / 8
theorem sq_of {E s : Nat} (h1 : E ≤ s) (h2 : s < E + 8) : sq E (s % 8) = s := by unfold sq; omega
/-- Where each number lies in the unrolled ring. -/
abbrev Pos := Nat → Option Nat
def qset (q : Pos) (n : Nat) (v : Option Nat) : Pos := fun m => if m = n then v else q m
theorem qset_same (q : Pos) (n : Nat) (v : Option Nat) : qset q n v n = v := by unfold qset; rw [if_pos rfl]
theorem qset_other (q : Pos) {n m : Nat} (v : Option Nat) (h : m ≠ n) : qset q n v m = q m := by unfold qset; rw [if_neg h]
def spot : Option Nat → Int
  | none => -1
  | some t => ((t % 32 : Nat) : Int)
structure Ring (l : List Blk) (pl : List Int) (T E : Nat) (q : Pos) (s : Sto) : Prop where
  len : l.length = 8
  pln : pl.length = 16
  lo : 4 * E ≤ T
  hi : T ≤ 4 * E + 32
  big : E ≤ 8000
  blk : ∀ i b, l[i]? = some b → b.done = ((doneOf T E i : Nat) : Int) ∧ b.wear = ((wearOf E i : Nat) : Int) ∧ okB b = true
  at_ : ∀ n, n < 16 → pl[n]? = some (spot (q n))
  win : ∀ n t, n < 16 → q n = some t → 4 * E ≤ t ∧ t < T
  inj : ∀ n m t, n < 16 → m < 16 → q n = some t → q m = some t → n = m
  dat : ∀ n t, n < 16 → q n = some t → ∃ b, l[t / 4 % 8]? = some b ∧ s n = some (b.at (t % 4))
  non : ∀ n : Nat, n < 16 → q n = none → s n = none
section
variable {l : List Blk} {pl : List Int} {T E : Nat} {q : Pos} {s : Sto}
theorem Ring.right (h : Ring l pl T E q s) : Nand.right l = true := right_mk h.len fun i b hb => (h.blk i b hb).2.2
theorem Ring.get (h : Ring l pl T E q s) {i : Nat} (hi : i < 8) : ∃ b, l[i]? = some b := ⟨_, List.getElem?_eq_getElem (by rw [h.len]; exact hi)⟩
/-- What is done to the flash, without an error. -/
theorem kind_ok {k : Int} (h : k = 1 ∨ k = 2 ∨ k = 3) : Nand.kindOk k = true := by unfold Nand.kindOk; simp; omega
theorem in_ok {k b p d : Int} (h : 0 ≤ b ∧ b ≤ 7) (hp : 0 ≤ p ∧ p ≤ 3) : within ⟨k, b, p, d⟩ = true := by unfold within betw; simp; omega
theorem in_ok2 {b p d : Int} (h : 0 ≤ b ∧ b ≤ 7) : within ⟨2, b, p, d⟩ = true := by unfold within betw; simp; omega
theorem put_at (b : Blk) {p j : Nat} (hp : p < 4) (hj : j < 4) (x : Int) : (b.put p x).at j = if j = p then x else b.at j := by
  have h1 : p = 0 ∨ p = 1 ∨ p = 2 ∨ p = 3 := by omega
  have h2 : j = 0 ∨ j = 1 ∨ j = 2 ∨ j = 3 := by omega
  rcases h1 with rfl | rfl | rfl | rfl <;> rcases h2 with rfl | rfl | rfl | rfl <;> rfl
theorem put_more (b : Blk) (p : Nat) (x : Int) : (b.put p x).done = b.done ∧ (b.put p x).wear = b.wear := by
  unfold Blk.put; split <;> exact ⟨rfl, rfl⟩
theorem put_done_at (b : Blk) {p j : Nat} (hp : p < 4) (hj : j < 4) (x y : Int) : ({ b.put p x with done := y } : Blk).at j = if j = p then x else b.at j := put_at b hp hj x
/-- The operation that programs the head. -/
def opP (T : Nat) (v : Int) : Nop := ⟨1, (T / 4 % 8 : Nat), (T % 4 : Nat), v⟩
def opR (t : Nat) (v : Int) : Nop := ⟨3, (t / 4 % 8 : Nat), (t % 4 : Nat), v⟩
def opE (E : Nat) : Nop := ⟨2, (E % 8 : Nat), 0, 0⟩
theorem next_set {o : Nop} {i : Nat} {b : Blk} (he : errOf l o = 0) (hi : o.block = (i : Int)) (hb : l[i]? = some b) : nextOf l o = l.set i (doB b o) ∧ dataOf l o = datum b o := by
  obtain ⟨h1, h2⟩ := upd_of hi hb
  unfold nextOf dataOf
  rw [if_pos he, if_pos he]
  exact ⟨h1, h2⟩
theorem doB_P (b : Blk) (T : Nat) (v : Int) : doB b (opP T v) = { b.put (T % 4) v with done := b.done + 1 } := by
  unfold doB
  rw [if_pos (show (opP T v).kind = 1 from rfl)]
  rfl
theorem doB_E (b : Blk) (E : Nat) : doB b (opE E) = Nand.blank (b.wear + 1) := by
  unfold doB
  rw [if_neg (show ¬ (opE E).kind = 1 from by show ¬ (2 : Int) = 1; decide), if_pos (show (opE E).kind = 2 from rfl)]
theorem doB_R (b : Blk) (t : Nat) (v : Int) : doB b (opR t v) = b := by
  unfold doB
  rw [if_neg (show ¬ (opR t v).kind = 1 from by show ¬ (3 : Int) = 1; decide), if_neg (show ¬ (opR t v).kind = 2 from by show ¬ (3 : Int) = 2; decide)]
theorem datum_R (b : Blk) (t : Nat) (v : Int) : datum b (opR t v) = b.at (t % 4) := by
  unfold datum
  rw [if_pos (show (opR t v).kind = 3 from rfl)]
  rfl
theorem Ring.program_err (h : Ring l pl T E q s) (hT : T < 4 * E + 32) (v : Int) : errOf l (opP T v) = 0 := by
  obtain ⟨b, hb⟩ := h.get (i := T / 4 % 8) (by omega)
  rw [err_of h.right (kind_ok (.inl rfl)) (show within (opP T v) = true from in_ok (by omega) (by omega)) (i := T / 4 % 8) rfl hb]
  obtain ⟨h1, _, _⟩ := h.blk _ _ hb
  have := h.lo
  unfold doneOf at h1
  rw [sq_of (by omega) (by omega)] at h1
  have hd : b.done = ((T % 4 : Nat) : Int) := by rw [h1]; congr 1; omega
  unfold blkErr opP
  simp only
  rw [hd, if_neg (by omega), if_neg (by omega), if_neg (by omega), if_neg (by omega)]
theorem doneOf_other {i : Nat} (hT : 4 * E ≤ T) (hT2 : T < 4 * E + 32) (hi : i < 8) (hne : i ≠ T / 4 % 8) : doneOf (T + 1) E i = doneOf T E i := by
  unfold doneOf sq
  omega
theorem doneOf_same (hT : 4 * E ≤ T) (hT2 : T < 4 * E + 32) : doneOf (T + 1) E (T / 4 % 8) = doneOf T E (T / 4 % 8) + 1 := by
  unfold doneOf
  rw [sq_of (by omega) (by omega)]
  omega
theorem Ring.program (h : Ring l pl T E q s) (hT : T < 4 * E + 32) {n : Nat} (hn : n < 16) (v : Int) :
    Ring (nextOf l (opP T v)) (pl.set n ((T % 32 : Nat) : Int)) (T + 1) E (qset q n (some T)) (upd s n (some v)) := by
  obtain ⟨b, hb⟩ := h.get (i := T / 4 % 8) (by omega)
  have he := h.program_err hT v
  have hr := next_right he
  rw [(next_set he rfl hb).1, doB_P] at hr ⊢
  have hlo := h.lo
  refine ⟨by rw [List.length_set]; exact h.len, by rw [List.length_set]; exact h.pln, by omega, by omega, h.big, fun i c hc => ?_, fun m hm => ?_, fun m t hm ht => ?_, fun m k t hm hk h1 h2 => ?_, fun m t hm ht => ?_, fun m hm ht => ?_⟩
  · have hok := right_get hr hc
    rw [List.getElem?_set] at hc
    by_cases e : T / 4 % 8 = i
    · rw [if_pos e, if_pos (by rw [h.len]; omega)] at hc
      injection hc with hc
      subst hc e
      obtain ⟨h1, h2, _⟩ := h.blk _ _ hb
      refine ⟨?_, (put_more b _ v).2.trans h2, hok⟩
      rw [doneOf_same hlo hT]
      show b.done + 1 = _
      rw [h1]; omega
    · rw [if_neg e] at hc
      have hi : i < 8 := by have := (List.getElem?_eq_some_iff.1 hc).1; rw [h.len] at this; exact this
      obtain ⟨h1, h2, _⟩ := h.blk _ _ hc
      exact ⟨by rw [doneOf_other hlo hT hi (fun x => e x.symm)]; exact h1, h2, hok⟩
  · by_cases e : m = n
    · subst e
      rw [qset_same, List.getElem?_set, if_pos rfl, if_pos (by rw [h.pln]; exact hm)]
      rfl
    · rw [qset_other _ _ e, List.getElem?_set, if_neg (fun x => e x.symm)]
      exact h.at_ m hm
  · by_cases e : m = n
    · subst e
      rw [qset_same] at ht
      injection ht with ht
      omega
    · rw [qset_other _ _ e] at ht
      have := h.win m t hm ht
      omega
  · by_cases e : m = n
    · by_cases e2 : k = n
      · omega
      · rw [qset_other _ _ e2] at h2
        subst e
        rw [qset_same] at h1
        injection h1 with h1
        have := h.win k t hk h2
        omega
    · rw [qset_other _ _ e] at h1
      by_cases e2 : k = n
      · subst e2
        rw [qset_same] at h2
        injection h2 with h2
        have := h.win m t hm h1
        omega
      · rw [qset_other _ _ e2] at h2
        exact h.inj m k t hm hk h1 h2
  · by_cases e : m = n
    · subst e
      rw [qset_same] at ht
      injection ht with ht
      subst ht
      refine ⟨_, by rw [List.getElem?_set, if_pos rfl, if_pos (by rw [h.len]; omega)], ?_⟩
      rw [upd_same, put_done_at b (p := T % 4) (j := T % 4) (by omega) (by omega), if_pos rfl]
    · rw [qset_other _ _ e] at ht
      obtain ⟨c, hc, hs⟩ := h.dat m t hm ht
      have hw := h.win m t hm ht
      rw [upd_other _ _ (by omega)]
      by_cases e2 : T / 4 % 8 = t / 4 % 8
      · rw [← e2] at hc
        rw [hb] at hc
        injection hc with hc
        subst hc
        refine ⟨_, by rw [List.getElem?_set, if_pos e2, if_pos (by rw [h.len]; omega)], ?_⟩
        rw [hs, put_done_at b (p := T % 4) (j := t % 4) (by omega) (by omega), if_neg (by omega)]
      · exact ⟨c, by rw [List.getElem?_set, if_neg e2]; exact hc, hs⟩
  · by_cases e : m = n
    · subst e
      rw [qset_same] at ht
      cases ht
    · rw [qset_other _ _ e] at ht
      rw [upd_other _ _ (by omega)]
      exact h.non m hm ht
theorem Ring.read (h : Ring l pl T E q s) {n t : Nat} (hn : n < 16) (hq : q n = some t) (v : Int) : errOf l (opR t v) = 0 ∧ nextOf l (opR t v) = l ∧ s n = some (dataOf l (opR t v)) := by
  obtain ⟨b, hb, hs⟩ := h.dat n t hn hq
  obtain ⟨h1, _, _⟩ := h.blk _ _ hb
  have hw := h.win n t hn hq
  have := h.hi
  unfold doneOf at h1
  rw [sq_of (by omega) (by omega)] at h1
  have hd : ((t % 4 : Nat) : Int) < b.done := by rw [h1]; omega
  have he : errOf l (opR t v) = 0 := by
    rw [err_of h.right (kind_ok (.inr (.inr rfl))) (show within (opR t v) = true from in_ok (by omega) (by omega)) (i := t / 4 % 8) rfl hb]
    unfold blkErr opR
    simp only
    rw [if_neg (by omega), if_neg (by omega), if_neg (by omega), if_neg (by omega)]
  obtain ⟨e1, e2⟩ := next_set he rfl hb
  refine ⟨he, ?_, by rw [hs, e2, datum_R]⟩
  rw [e1, doB_R]
  obtain ⟨hlt, rfl⟩ := List.getElem?_eq_some_iff.1 hb
  exact List.set_getElem_self hlt
theorem Ring.erase_err (h : Ring l pl T E q s) (hb8 : E + 1 ≤ 8000) : errOf l (opE E) = 0 := by
  obtain ⟨b, hb⟩ := h.get (i := E % 8) (by omega)
  rw [err_of h.right (kind_ok (.inr (.inl rfl))) (show within (opE E) = true from in_ok2 (by omega)) (i := E % 8) rfl hb]
  obtain ⟨_, h2, _⟩ := h.blk _ _ hb
  unfold wearOf at h2
  unfold blkErr opE
  simp only
  rw [if_neg (by omega), if_neg (by omega), if_neg (by omega), if_neg (by omega)]
theorem Ring.erase (h : Ring l pl T E q s) (hT : 4 * E + 4 ≤ T) (hb8 : E + 1 ≤ 8000) (hl : ∀ n t, n < 16 → q n = some t → 4 * E + 4 ≤ t) : Ring (nextOf l (opE E)) pl T (E + 1) q s := by
  obtain ⟨b, hb⟩ := h.get (i := E % 8) (by omega)
  have he := h.erase_err hb8
  have hr := next_right he
  rw [(next_set he rfl hb).1, doB_E] at hr ⊢
  have hhi := h.hi
  refine ⟨by rw [List.length_set]; exact h.len, h.pln, by omega, by omega, hb8, fun i c hc => ?_, h.at_, fun m t hm ht => ⟨by have := hl m t hm ht; omega, (h.win m t hm ht).2⟩, h.inj, fun m t hm ht => ?_, h.non⟩
  · have hok := right_get hr hc
    rw [List.getElem?_set] at hc
    by_cases e : E % 8 = i
    · rw [if_pos e, if_pos (by rw [h.len]; omega)] at hc
      injection hc with hc
      subst hc e
      obtain ⟨_, h2, _⟩ := h.blk _ _ hb
      refine ⟨?_, ?_, hok⟩
      · show (0 : Int) = _
        unfold doneOf sq
        omega
      · show b.wear + 1 = _
        rw [h2]
        unfold wearOf
        omega
    · rw [if_neg e] at hc
      have hi : i < 8 := by have := (List.getElem?_eq_some_iff.1 hc).1; rw [h.len] at this; exact this
      obtain ⟨h1, h2, _⟩ := h.blk _ _ hc
      refine ⟨?_, ?_, hok⟩
      · rw [h1]
        unfold doneOf sq
        omega
      · rw [h2]
        unfold wearOf
        omega
  · obtain ⟨c, hc, hs⟩ := h.dat m t hm ht
    have h1 := hl m t hm ht
    have h2 := (h.win m t hm ht).2
    exact ⟨c, by rw [List.getElem?_set, if_neg (by omega)]; exact hc, hs⟩
theorem Ring.trim (h : Ring l pl T E q s) {n : Nat} (hn : n < 16) : Ring l (pl.set n (-1)) T E (qset q n none) (upd s n none) := by
  refine ⟨h.len, by rw [List.length_set]; exact h.pln, h.lo, h.hi, h.big, h.blk, fun m hm => ?_, fun m t hm ht => ?_, fun m k t hm hk h1 h2 => ?_, fun m t hm ht => ?_, fun m hm ht => ?_⟩
  · by_cases e : m = n
    · subst e
      rw [qset_same, List.getElem?_set, if_pos rfl, if_pos (by rw [h.pln]; exact hm)]
      rfl
    · rw [qset_other _ _ e, List.getElem?_set, if_neg (fun x => e x.symm)]
      exact h.at_ m hm
  · by_cases e : m = n
    · subst e; rw [qset_same] at ht; cases ht
    · rw [qset_other _ _ e] at ht; exact h.win m t hm ht
  · by_cases e : m = n
    · subst e; rw [qset_same] at h1; cases h1
    · by_cases e2 : k = n
      · subst e2; rw [qset_same] at h2; cases h2
      · rw [qset_other _ _ e] at h1; rw [qset_other _ _ e2] at h2; exact h.inj m k t hm hk h1 h2
  · by_cases e : m = n
    · subst e; rw [qset_same] at ht; cases ht
    · rw [qset_other _ _ e] at ht
      rw [upd_other _ _ (by omega)]
      exact h.dat m t hm ht
  · by_cases e : m = n
    · subst e; rw [upd_same]
    · rw [qset_other _ _ e] at ht
      rw [upd_other _ _ (by omega)]
      exact h.non m hm ht
theorem ring_new : Ring fresh (List.replicate 16 (-1)) 0 0 (fun _ => none) sto0 := by
  refine ⟨rfl, rfl, by omega, by omega, by omega, fun i b hb => ?_, fun n hn => ?_, fun n t _ h => by (cases h), fun n m t _ _ h => by (cases h), fun n t _ h => by (cases h), fun n _ _ => rfl⟩
  · have hok := right_get fresh_right hb
    obtain ⟨hi, rfl⟩ := List.getElem?_eq_some_iff.1 hb
    have hi8 : i < 8 := hi
    have e : fresh[i] = Nand.blank 0 := List.getElem_replicate _
    generalize fresh[i] = b at *
    subst e
    refine ⟨?_, ?_, hok⟩
    · show (0 : Int) = _
      unfold doneOf sq
      omega
    · show (0 : Int) = _
      unfold wearOf
      omega
  · rw [List.getElem?_replicate, if_pos hn]; rfl
/-! ### the block ahead -/
theorem Ring.ahead (h : Ring l pl T E q s) (hT : T ≤ 4 * (E + 7)) {b : Blk} (hb : l[(T / 4 + 1) % 8]? = some b) : (0 < b.done ↔ T = 4 * (E + 7)) := by
  obtain ⟨h1, _, _⟩ := h.blk _ _ hb
  have := h.lo
  rw [h1]
  unfold doneOf
  by_cases e : T = 4 * (E + 7)
  · have : (T / 4 + 1) % 8 = E % 8 := by omega
    rw [this, sq_of (Nat.le_refl _) (by omega)]
    omega
  · rw [sq_of (by omega) (by omega)]
    omega
/-! ### how many numbers lie between -/
def cw (q : Pos) (a b : Nat) : Nat → Nat
  | 0 => 0
  | k + 1 => cw q a b k + (match q k with | none => 0 | some t => if a ≤ t ∧ t < b then 1 else 0)
theorem cw_le (q : Pos) (a b k : Nat) : cw q a b k ≤ k := by
  induction k with
  | zero => exact Nat.le_refl _
  | succ k ih =>
    unfold cw
    cases q k with
    | none => simp only; omega
    | some t => simp only; split <;> omega
theorem cw_yes {q : Pos} {a b k t : Nat} (h : q k = some t) (h2 : a ≤ t ∧ t < b) : cw q a b (k + 1) = cw q a b k + 1 := by
  rw [cw, h]; simp only; rw [if_pos h2]
theorem cw_no {q : Pos} {a b k : Nat} (h : ∀ t, q k = some t → ¬ (a ≤ t ∧ t < b)) : cw q a b (k + 1) = cw q a b k := by
  rw [cw]
  cases e : q k with
  | none => rfl
  | some t => simp only; rw [if_neg (h t e)]; rfl
theorem cw_one {q : Pos} {t k : Nat} (hk : k ≤ 16) (hi : ∀ n m t, n < 16 → m < 16 → q n = some t → q m = some t → n = m) : cw q t (t + 1) k ≤ 1 ∧ (∀ n, k ≤ n → n < 16 → q n = some t → cw q t (t + 1) k = 0) := by
  induction k with
  | zero => exact ⟨Nat.zero_le _, fun _ _ _ _ => rfl⟩
  | succ k ih =>
    obtain ⟨h1, h2⟩ := ih (by omega)
    by_cases e : q k = some t
    · rw [cw_yes e ⟨Nat.le_refl _, Nat.lt_succ_self _⟩, h2 k (Nat.le_refl _) (by omega) e]
      refine ⟨Nat.le_refl _, fun n hn h16 hq => ?_⟩
      have := hi k n t (by omega) h16 e hq
      omega
    · rw [cw_no (fun t' ht hh => by
        have : t' = t := by omega
        subst this
        exact e ht)]
      exact ⟨h1, fun n hn h16 hq => h2 n (by omega) h16 hq⟩
theorem cw_split {q : Pos} {a b k : Nat} (h : a ≤ b) : cw q a (b + 1) k = cw q a b k + cw q b (b + 1) k := by
  induction k with
  | zero => rfl
  | succ k ih =>
    rw [cw, cw, cw, ih]
    cases q k with
    | none => simp only; omega
    | some t =>
      simp only
      by_cases h1 : t < b
      · by_cases h2 : a ≤ t
        · rw [if_pos (by omega), if_pos (by omega), if_neg (by omega)]; omega
        · rw [if_neg (by omega), if_neg (by omega), if_neg (by omega)]; omega
      · by_cases h2 : t = b
        · rw [if_pos (by omega), if_neg (by omega), if_pos (by omega)]; omega
        · rw [if_neg (by omega), if_neg (by omega), if_neg (by omega)]; omega
theorem cw_empty (q : Pos) (a k : Nat) : cw q a a k = 0 := by
  induction k with
  | zero => rfl
  | succ k ih => rw [cw_no (fun t _ h => by omega), ih]
theorem cw_four {q : Pos} {a k : Nat} (hk : k ≤ 16) (hi : ∀ n m t, n < 16 → m < 16 → q n = some t → q m = some t → n = m) : cw q a (a + 4) k ≤ 4 := by
  have h0 := cw_empty q a k
  have h1 := cw_split (q := q) (a := a) (b := a) (k := k) (Nat.le_refl _)
  have h2 := cw_split (q := q) (a := a) (b := a + 1) (k := k) (by omega)
  have h3 := cw_split (q := q) (a := a) (b := a + 2) (k := k) (by omega)
  have h4 := cw_split (q := q) (a := a) (b := a + 3) (k := k) (by omega)
  have g1 := (cw_one (q := q) (t := a) hk hi).1
  have g2 := (cw_one (q := q) (t := a + 1) hk hi).1
  have g3 := (cw_one (q := q) (t := a + 2) hk hi).1
  have g4 := (cw_one (q := q) (t := a + 3) hk hi).1
  show cw q a (a + 3 + 1) k ≤ 4
  have e1 : a + 1 + 1 = a + 2 := rfl
  have e2 : a + 2 + 1 = a + 3 := rfl
  rw [e1] at h2 g2
  rw [e2] at h3 g3
  omega
theorem cw_same {q q' : Pos} {a b k : Nat} (h : ∀ n, n < k → q' n = q n) : cw q' a b k = cw q a b k := by
  induction k with
  | zero => rfl
  | succ k ih => rw [cw, cw, ih (fun n hn => h n (by omega)), h k (by omega)]
theorem cw_set {q : Pos} {a b n t k : Nat} (hn : n < k) (hq : ∀ x, q n = some x → ¬ (a ≤ x ∧ x < b)) (ht : a ≤ t ∧ t < b) : cw (qset q n (some t)) a b k = cw q a b k + 1 := by
  induction k with
  | zero => omega
  | succ k ih =>
    by_cases e : n = k
    · subst e
      rw [cw_yes (qset_same _ _ _) ht, cw_no hq, cw_same (fun m hm => qset_other _ _ (by omega))]
    · rw [cw, cw, ih (by omega), qset_other _ _ (fun x => e x.symm)]
      omega
theorem cw_mono_pos {q : Pos} {a b n k t : Nat} (hn : n < k) (hq : q n = some t) (h : a ≤ t ∧ t < b) : 1 + cw q a b n ≤ cw q a b k := by
  induction k with
  | zero => omega
  | succ k ih =>
    by_cases e : n = k
    · subst e; rw [cw_yes hq h]; omega
    · have := ih (by omega)
      rw [cw]
      omega
theorem cw_none {q : Pos} {a b k : Nat} (h : ∀ n t, n < k → q n = some t → t < a) : cw q a b k = 0 := by
  induction k with
  | zero => rfl
  | succ k ih => rw [cw_no (fun t ht hh => by have := h k t (by omega) ht; omega), ih (fun n t hn => h n t (by omega))]
/-! ### cleaning -/
def far : Nat := 1000000
structure Cleaning (X E T0 : Nat) (q0 : Pos) (k T : Nat) (q : Pos) : Prop where
  tot : T = T0 + cw q0 (4 * E) (4 * E + 4) k
  rest : ∀ n, k ≤ n → n < 16 → q n = q0 n
  done : ∀ n t, n < k → q n = some t → 4 * E + 4 ≤ t
  cnt : X + cw q X far 16 = T
theorem clean_start {X E T0 : Nat} {q0 : Pos} (h : X + cw q0 X far 16 = T0) : Cleaning X E T0 q0 0 T0 q0 :=
  ⟨rfl, fun _ _ _ => rfl, fun n t hn => by omega, h⟩
/-- A number that lies in the block that is cleaned, by what the program compares. -/
theorem Ring.in_block (h : Ring l pl T E q s) {n : Nat} (hn : n < 16) {x : Int} (hx : pl[n]? = some x) : (∃ t, q n = some t ∧ 4 * E ≤ t ∧ t < 4 * E + 4 ∧ x = ((t % 32 : Nat) : Int)) ∨ ((x = -1 ∨ (∃ p : Nat, x = p ∧ p < 32 ∧ p / 4 ≠ E % 8)) ∧ ∀ t, q n = some t → 4 * E + 4 ≤ t) := by
  rw [h.at_ n hn] at hx
  injection hx with hx
  have hh := h.hi
  cases e : q n with
  | none => rw [e] at hx; exact .inr ⟨.inl hx.symm, fun t ht => by cases ht⟩
  | some t =>
    rw [e] at hx
    have hw := h.win n t hn e
    by_cases hc : t < 4 * E + 4
    · exact .inl ⟨t, rfl, hw.1, hc, hx.symm⟩
    · refine .inr ⟨.inr ⟨t % 32, hx.symm, by omega, by omega⟩, fun t' ht => ?_⟩
      injection ht with ht
      omega
theorem Cleaning.no {X T0 k : Nat} {q0 : Pos} (c : Cleaning X E T0 q0 k T q) (hk : k < 16) (h : ∀ t, q k = some t → 4 * E + 4 ≤ t) : Cleaning X E T0 q0 (k + 1) T q := by
  refine ⟨?_, fun n hn h16 => c.rest n (by omega) h16, fun n t hn ht => ?_, c.cnt⟩
  · rw [cw_no (fun t ht hh => by rw [← c.rest k (Nat.le_refl _) hk] at ht; have := h t ht; omega)]
    exact c.tot
  · by_cases e : n = k
    · subst e; exact h t ht
    · exact c.done n t (by omega) ht
theorem Cleaning.yes {X T0 k t : Nat} {q0 : Pos} (h : Ring l pl T E q s) (c : Cleaning X E T0 q0 k T q) (hk : k < 16) (hq : q k = some t) (h1 : 4 * E ≤ t) (h2 : t < 4 * E + 4) (hT : T0 = 4 * (E + 7)) (hX : 4 * E + 4 ≤ X) (hi : ∀ n m t, n < 16 → m < 16 → q0 n = some t → q0 m = some t → n = m) :
    T < 4 * E + 32 ∧ Cleaning X E T0 q0 (k + 1) (T + 1) (qset q k (some T)) := by
  have e0 : q0 k = some t := by rw [← c.rest k (Nat.le_refl _) hk]; exact hq
  have h4 := cw_four (q := q0) (a := 4 * E) (k := k + 1) (by omega) hi
  have hy := cw_yes (a := 4 * E) (b := 4 * E + 4) e0 ⟨h1, h2⟩
  have htot := c.tot
  have hlt : T < 4 * E + 32 := by omega
  have hXT : X ≤ T := by have := c.cnt; omega
  have hb := h.big
  refine ⟨hlt, ?_, fun n hn h16 => ?_, fun n t' hn ht => ?_, ?_⟩
  · rw [hy]; omega
  · rw [qset_other _ _ (by omega)]
    exact c.rest n (by omega) h16
  · by_cases e : n = k
    · subst e
      rw [qset_same] at ht
      injection ht with ht
      omega
    · rw [qset_other _ _ e] at ht
      exact c.done n t' (by omega) ht
  · rw [cw_set hk (fun x hx hh => by rw [hq] at hx; injection hx with hx; omega) ⟨hXT, by unfold far; omega⟩]
    have := c.cnt
    omega
theorem upd_self {s : Sto} {n : Int} {v : Option Int} (h : s n = v) : upd s n v = s := by
  funext m
  unfold upd
  split
  · rename_i e; rw [e, h]
  · rfl
/-! ### a write -/
/-- What is kept while a write makes room: X was the head at its start. -/
structure Room (X E0 T E : Nat) (q : Pos) : Prop where
  cnt : X + cw q X far 16 = T
  hi : T ≤ 4 * (E + 7)
  le : E0 ≤ E
  lim : E ≤ E0 + 5
  x : X ≤ 4 * (E0 + 7)
theorem room_start (h : Ring l pl T E q s) (hT : T ≤ 4 * (E + 7)) : Room T E T E q :=
  ⟨by rw [cw_none (fun n t hn ht => (h.win n t hn ht).2)]; rfl, hT, Nat.le_refl _, by omega, hT⟩
theorem Room.full {X E0 : Nat} (r : Room X E0 T E q) (hT : T = 4 * (E + 7)) : 4 * E + 4 ≤ X ∧ E ≤ E0 + 4 := by
  have h1 := cw_le q X far 16
  have h2 := r.cnt
  have h3 := r.x
  omega
theorem Room.next {X E0 T0 : Nat} {q0 : Pos} (r : Room X E0 T0 E q0) (hT : T0 = 4 * (E + 7)) (c : Cleaning X E T0 q0 16 T q) (hi : ∀ n m t, n < 16 → m < 16 → q0 n = some t → q0 m = some t → n = m) : Room X E0 T (E + 1) q := by
  have h4 := cw_four (q := q0) (a := 4 * E) (k := 16) (Nat.le_refl _) hi
  have h5 := c.tot
  have h6 := r.full hT
  have h7 := r.le
  exact ⟨c.cnt, by omega, by omega, by omega, r.x⟩
/-! ### erase counts -/
def wears (E : Nat) : List Int := (List.range 8).map fun i => ((wearOf E i : Nat) : Int)
theorem wears_lit (E : Nat) : wears E = [((wearOf E 0 : Nat) : Int), (wearOf E 1 : Nat), (wearOf E 2 : Nat), (wearOf E 3 : Nat), (wearOf E 4 : Nat), (wearOf E 5 : Nat), (wearOf E 6 : Nat), (wearOf E 7 : Nat)] := rfl
theorem wears_mem {E : Nat} {x : Int} (h : x ∈ wears E) : ∃ i : Nat, i < 8 ∧ x = ((wearOf E i : Nat) : Int) := by
  unfold wears at h
  obtain ⟨i, hi, rfl⟩ := List.mem_map.1 h
  exact ⟨i, List.mem_range.1 hi, rfl⟩
theorem wears_near {E : Nat} {x y : Int} (hx : x ∈ wears E) (hy : y ∈ wears E) : x - y ≤ 1 := by
  obtain ⟨i, hi, rfl⟩ := wears_mem hx
  obtain ⟨j, hj, rfl⟩ := wears_mem hy
  unfold wearOf
  omega
end
end Go.Proofs.Ytfohihdpohjmcaa.Ftl
