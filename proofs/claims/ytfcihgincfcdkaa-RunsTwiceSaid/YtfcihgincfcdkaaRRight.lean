/-
  The document's own test of a list of runs.
-/
import Derived.Test.YtfcihgincfcdkaaRMem
namespace Go.Proofs.Ytfcihgincfcdkaa.Rns
open Go.ChangeShapes Go.WideShapes Go.ChangeAt Go.RowKit Words
set_option linter.unusedVariables false

theorem drop_next {α : Type} {l : List α} {k : Nat} {x : α} (h : l[k]? = some x) : l.drop k = x :: l.drop (k + 1) := by
  obtain ⟨hk, hkr⟩ := List.getElem?_eq_some_iff.1 h
  rw [← hkr, List.getElem_cons_drop]
theorem stp_yes {e d : Int} {r : Rn} : stp e d r = true ↔ (0 ≤ r.a ∧ 0 ≤ r.d ∧ 1 ≤ r.m ∧ r.a ≤ 1099511627776 ∧ r.d ≤ 1099511627776 ∧ r.m ≤ 1099511627776) ∧ e ≤ r.a ∧ ¬ (r.a = e ∧ r.d = d) := by
  unfold stp; rw [Bool.and_eq_true, Bool.and_eq_true, okR_yes]; simp [and_assoc]; intros; omega
theorem rt_no {l : List Rn} {k : Nat} {r : Rn} {e d : Int} (hr : l[k]? = some r) (h : rt l = rtF e d (l.drop k)) (hs : stp e d r = false) : rt l = false := by
  rw [h, drop_next hr]; unfold rtF; rw [hs]; rfl
theorem rt_go {l : List Rn} {k : Nat} {r : Rn} {e d : Int} (hr : l[k]? = some r) (h : rt l = rtF e d (l.drop k)) (hs : stp e d r = true) : rt l = rtF (r.a + r.m) (r.d + r.m) (l.drop (k + 1)) := by
  rw [h, drop_next hr]
  conv => lhs; unfold rtF
  rw [hs]; rfl
theorem max3_iff (a b c M : Int) : M < max (max a b) c ↔ M < a ∨ M < b ∨ M < c := by
  simp only [Int.max_def]; split <;> split <;> omega
theorem run_max3 (a b c : Int) (w : World) (ty : TypeId) : (Builtin.max_ #[3, 3, 3] ty #[.int .i64 a, .int .i64 b, .int .i64 c]).run Try.prog w = .ok (.int .i64 (max (max a b) c)) w := by
  simp [Builtin.max_, Builtin.max2, -Int.max_assoc]
  simp only [Int.max_def]
  (repeat' split) <;> omega
set_option maxHeartbeats 4000000 in
theorem mright12 (B : Nat) (A : Option Addr) (n c : Nat) (l : List Rn) (w : World) (h : Rns w B A n c l) (hB : B ≤ w.heap.size) :
    Calls Try.prog 12 #[.slice A n c] w fun e w' => e = .returned (.bool (rt l)) ∧ Below w.heap.size w w' := by
  have HN := h.small
  have HL := Lib.hid h.len
  have H := Lib.hid h
  have b0 : Below w.heap.size w w := Below.refl _ _
  have B0 := Lib.hid b0
  clear h b0
  go_enter Try.func12, Try.ntmps12
  go_wp2_with fail
  go_loopw [3, 4, 9] (fun ev dv i wr => ∃ (k : Nat) (e d : Int), ev = .int .i64 e ∧ dv = .int .i64 d ∧ i = .int .i64 k ∧ k ≤ n ∧ -1 ≤ e ∧ e ≤ 2199023255552 ∧ 0 ≤ d ∧ d ≤ 2199023255552 ∧ Below w.heap.size w wr ∧ rt l = rtF e d (l.drop k)) (fun _ _ i _ => (n - intOf i).toNat)
  case atStart => exact ⟨0, -1, 0, rfl, rfl, rfl, by omega, by omega, by omega, by omega, by omega, B0.out, rfl⟩
  case round =>
    obtain ⟨k, e, d, rfl, rfl, rfl, hk, e1, e2, d1, d2, hbel, hrt⟩ := hrel
    have BW := Lib.hid hbel
    have RT := Lib.hid hrt
    clear hbel hrt
    by_cases hlt : k < n
    · obtain ⟨g, o, rfl, _, _⟩ := Words.Rd.row H.out (by omega)
      obtain ⟨⟨ra, rd, rm⟩, hr⟩ : ∃ r, l[k]? = some r := ⟨_, List.getElem?_eq_getElem (by rw [HL.out]; exact hlt)⟩
      obtain ⟨c0, c1, c2⟩ := Rns.cells (Words.Rd.below H.out BW.out hB) rfl hr
      have HR := Lib.hid hr
      have BX := Lib.hid (BW.out.alloc BW.out.size (.cells #[.int .i64 ra, .int .i64 rd, .int .i64 rm] 34))
      clear hr
      have hmx := fun w ty => run_max3 ra rd rm w ty
      by_cases m1 : min ra rd < 0
      · have HF : Hid (rt l = false) := Lib.hid (rt_no HR.out RT.out (by rw [← Bool.not_eq_true, stp_yes]; simp only; omega))
        go_wp2_with fail
        go_ret
        exact ⟨ret_bool HF.out.symm, BX.out⟩
      · by_cases m2 : rm < 1
        · have HF : Hid (rt l = false) := Lib.hid (rt_no HR.out RT.out (by rw [← Bool.not_eq_true, stp_yes]; simp only; omega))
          go_wp2_with fail
          go_ret
          exact ⟨ret_bool HF.out.symm, BX.out⟩
        · have MX := Lib.hid (max3_iff ra rd rm 1099511627776)
          by_cases m3 : 1099511627776 < max (max ra rd) rm
          · have HF : Hid (rt l = false) := Lib.hid (rt_no HR.out RT.out (by rw [← Bool.not_eq_true, stp_yes]; simp only; have := MX.out.1 m3; omega))
            go_wp2_with fail
            go_ret
            exact ⟨ret_bool HF.out.symm, BX.out⟩
          · have m3' : ra ≤ 1099511627776 ∧ rd ≤ 1099511627776 ∧ rm ≤ 1099511627776 := by
              have hno := fun h => m3 (MX.out.2 h)
              omega
            have M3 := Lib.hid m3'
            clear m3'
            by_cases m4 : ra < e
            · have HF : Hid (rt l = false) := Lib.hid (rt_no HR.out RT.out (by rw [← Bool.not_eq_true, stp_yes]; simp only; have := M3.out; omega))
              go_wp2_with fail
              go_ret
              exact ⟨ret_bool HF.out.symm, BX.out⟩
            · by_cases m5 : ra = e ∧ rd = d
              · obtain ⟨rfl, rfl⟩ := m5
                have HF : Hid (rt l = false) := Lib.hid (rt_no HR.out RT.out (by rw [← Bool.not_eq_true, stp_yes]; simp))
                go_wp2_with fail
                go_ret
                exact ⟨ret_bool HF.out.symm, BX.out⟩
              · have RT2 := Lib.hid (rt_go HR.out RT.out (by rw [stp_yes]; simp only; have := M3.out; omega))
                have hb1 : 0 ≤ ra ∧ ra ≤ 1099511627776 ∧ 0 ≤ rd ∧ rd ≤ 1099511627776 ∧ 1 ≤ rm ∧ rm ≤ 1099511627776 := by have := M3.out; omega
                have hw1 : IntKind.i64.wrap (ra + rm) = ra + rm := by rw [IntKind.wrap_i64]; omega
                have hw2 : IntKind.i64.wrap (rd + rm) = rd + rm := by rw [IntKind.wrap_i64]; omega
                have hs1 : -1 ≤ ra + rm ∧ ra + rm ≤ 2199023255552 ∧ 0 ≤ rd + rm ∧ rd + rm ≤ 2199023255552 := by omega
                have HS := Lib.hid hs1
                clear hs1 hb1
                by_cases m6 : ra = e
                · have hne : (rd == d) = false := by rw [beq_eq_false_iff_ne]; exact fun h => m5 ⟨m6, h⟩
                  subst m6
                  clear m5
                  go_wp2_with fail
                  go_quiet (fail)
                  go_wp2_with fail
                  go_roundw
                  case rel => exact ⟨k + 1, _, _, rfl, rfl, by go_num, by omega, HS.out.1, HS.out.2.1, HS.out.2.2.1, HS.out.2.2.2, below_drewN BX.out _, RT2.out⟩
                  case measure => simp [intOf]; omega
                · have hne : (ra == e) = false := by rw [beq_eq_false_iff_ne]; exact m6
                  clear m5 m6
                  go_wp2_with fail
                  go_quiet (fail)
                  go_wp2_with fail
                  go_roundw
                  case rel => exact ⟨k + 1, _, _, rfl, rfl, by go_num, by omega, HS.out.1, HS.out.2.1, HS.out.2.2.1, HS.out.2.2.2, below_drewN BX.out _, RT2.out⟩
                  case measure => simp [intOf]; omega
    · obtain rfl : k = n := by omega
      have HM : Hid (rt l = true) := Lib.hid (by rw [RT.out, List.drop_eq_nil_of_le (by rw [HL.out]; exact Nat.le_refl _)]; rfl)
      go_wp2_with fail
      go_ret
      exact ⟨ret_bool HM.out.symm, BW.out⟩
end Go.Proofs.Ytfcihgincfcdkaa.Rns
