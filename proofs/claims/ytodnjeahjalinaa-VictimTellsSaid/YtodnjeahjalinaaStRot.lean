/-
  What the library's swapRange, rotate and insertion sort leave of a row of whole numbers.
-/
import Derived.Test.YtodnjeahjalinaaStOwn
namespace Go.Proofs.Ytodnjeahjalinaa.Stab
open Go.ChangeShapes Go.WideShapes Go.ChangeAt Go.RowKit Words Go.Sort
set_option linter.unusedVariables false

def SMALL : Nat := 1000000
theorem wrap_small {q : Nat} (h : q ≤ 4000000) : IntKind.i64.wrap (q : Int) = (q : Int) := by rw [IntKind.wrap_i64]; omega
set_option maxHeartbeats 1000000 in
theorem swapRange16 (base g n c : Nat) (d : List Int) (a b k : Nat) (fv : Value) (w : World) (h : OwnI w base (some ⟨g, 0, none⟩) n c d) (hn : n ≤ 1000000) (hab : a < b) (hbk : b + k ≤ n) :
    Calls Try.prog 43 #[.slice (some ⟨g, 0, none⟩) n c, .int .i64 a, .int .i64 b, .int .i64 k, fv] w fun e w' => e = .returned (.tuple #[]) ∧ St w base g n c (xr d a b k) w' := by
  have T0 := Lib.hid (St.refl h)
  clear h
  go_enter Try.func43, Try.ntmps43
  go_wp2_with fail
  go_loopw [10] (fun i wr => ∃ t : Nat, i = .int .i64 t ∧ t ≤ k ∧ St w base g n c (xr d a b t) wr) (fun i _ => (k - intOf i).toNat)
  case atStart => exact ⟨0, rfl, by omega, T0.out⟩
  case round =>
    obtain ⟨t, rfl, htk, ht⟩ := hrel
    by_cases hlt : t < k
    · obtain ⟨p, hp⟩ : ∃ p, p = a + t := ⟨_, rfl⟩
      obtain ⟨q, hq⟩ : ∃ q, q = b + t := ⟨_, rfl⟩
      have hpn : p < n := by omega
      have hqn : q < n := by omega
      have hpq : p ≠ q := by omega
      have e1 : (a : Int) + (t : Int) = (p : Int) := by omega
      have e2 : (b : Int) + (t : Int) = (q : Int) := by omega
      have r1 := wrap_small (q := p) (by omega)
      have r2 := wrap_small (q := q) (by omega)
      obtain ⟨s0, s1, s2, s3, s4⟩ := OwnI.swF ht.own hpn hqn hpq
      have ts : St w base g n c (xr d a b (t + 1)) _ := ht.swp (a + t) (b + t)
      rw [← hp, ← hq] at ts
      have TS := Lib.hid ts
      generalize nti (xr d a b t) p = x at *
      generalize nti (xr d a b t) q = y at *
      clear hp hq ht ts
      go_wp2_with fail
      go_region
      clear s0 s1 s2 s3 s4
      go_wp2_with fail
      go_roundw
      case rel => exact ⟨t + 1, by go_num, by omega, TS.out.drew⟩
      case measure => simp [intOf]; omega
    · obtain rfl : t = k := by omega
      have HT := Lib.hid ht
      clear ht
      go_wp2_with fail
      go_end0
      exact ⟨rfl, HT.out⟩
set_option maxHeartbeats 1000000 in
theorem rotate15 (base g n c : Nat) (d : List Int) (a m b : Nat) (fv : Value) (w : World) (h : OwnI w base (some ⟨g, 0, none⟩) n c d) (hn : n ≤ 1000000) (ham : a < m) (hmb : m < b) (hb : b ≤ n) :
    Calls Try.prog 42 #[.slice (some ⟨g, 0, none⟩) n c, .int .i64 a, .int .i64 m, .int .i64 b, fv] w fun e w' => e = .returned (.tuple #[]) ∧ St w base g n c (rotd d a m b) w' := by
  have T0 := Lib.hid (St.refl h)
  have R0 := Lib.hid (rot_start ham hmb (by rw [h.len]; exact hb))
  clear h
  go_enter Try.func42, Try.ntmps42
  go_wp2_with fail
  go_loopw [10, 11] (fun u v wr => ∃ (i j : Nat) (dk : List Int), u = .int .i64 i ∧ v = .int .i64 j ∧ Rot (put d a b (seg d m b ++ seg d a m)) dk m i j ∧ St w base g n c dk wr) (fun u v _ => (intOf u + intOf v).toNat)
  case atStart => exact ⟨m - a, b - m, d, i64_num (by omega), i64_num (by omega), R0.out, T0.out⟩
  case round =>
    obtain ⟨i, j, dk, rfl, rfl, hr, ht⟩ := hrel
    have HR := Lib.hid hr
    have HT := Lib.hid ht
    have hl := ht.own.len
    have h0 := hr.hi; have h1 := hr.hj; have h2 := hr.him
    clear hr ht
    obtain ⟨p, hp⟩ : ∃ p, p = m - i := ⟨_, rfl⟩
    have e1 : (m : Int) - (i : Int) = (p : Int) := by omega
    by_cases hij : i = j
    · subst hij
      have hb' : ((i : Int) != (i : Int)) = false := by simp
      have hE := rot_end HR.out
      rw [← hp] at hE
      have HX := Lib.hid hE.1
      have HS := Lib.hid (swapRange16 base g n c dk p m i fv wr HT.out.own hn (by omega) (by have := hE.2; omega))
      clear hE hp hl
      go_wp2_with fail
      refine (HS.out).mono ?_; rintro e w1 ⟨rfl, t1⟩
      have T1 := Lib.hid (HT.out.trans t1)
      clear t1
      go_wp2_with fail
      go_end0
      exact ⟨rfl, by unfold rotd; rw [← HX.out]; exact T1.out⟩
    · have hb' : ((i : Int) != (j : Int)) = true := by rw [bne_iff_ne]; omega
      by_cases hji : j < i
      · have hE := rot_left HR.out hji
        rw [← hp] at hE
        have HX := Lib.hid hE.1
        have HS := Lib.hid (swapRange16 base g n c dk p m j fv wr HT.out.own hn (by omega) (by have := hE.2; omega))
        have hgt : (j : Int) < (i : Int) := by omega
        clear hE hp hl hij
        go_wp2_with fail
        refine (HS.out).mono ?_; rintro e w1 ⟨rfl, t1⟩
        have T1 := Lib.hid (HT.out.trans t1)
        clear t1
        go_wp2_with fail
        go_roundw
        case rel => exact ⟨i - j, j, _, i64_num (by omega), rfl, HX.out, T1.out⟩
        case measure => simp [intOf]; omega
      · have hE := rot_right HR.out (by omega)
        rw [← hp] at hE
        obtain ⟨q, hq⟩ : ∃ q, q = m + j - i := ⟨_, rfl⟩
        rw [← hq] at hE
        have e2 : (m : Int) + (j : Int) - (i : Int) = (q : Int) := by omega
        have HX := Lib.hid hE.1
        have HS := Lib.hid (swapRange16 base g n c dk p q i fv wr HT.out.own hn (by omega) (by have := hE.2; omega))
        have hgt : ¬ (j : Int) < (i : Int) := by omega
        have hmj : m + j ≤ n := by have := hE.2; omega
        clear hE hp hq hl hij
        go_wp2_with fail
        refine (HS.out).mono ?_; rintro e w1 ⟨rfl, t1⟩
        have T1 := Lib.hid (HT.out.trans t1)
        clear t1
        go_wp2_with fail
        go_roundw
        case rel => exact ⟨i, j - i, _, rfl, i64_num (by omega), HX.out, T1.out⟩
        case measure => simp [intOf]; omega
end Go.Proofs.Ytodnjeahjalinaa.Stab
