/-
  The document's own KRight, KNewer and KWrite; equality of two pairs of slots.
-/
import Derived.Test.YtpjhihmbgahagaaProg
import Derived.Test.YtpjhihmbgahagaaTPlain
import Derived.Deep.QuietTactic
import Derived.BigQuiet
import Derived.RegionTactic
import Derived.ChangeAlike
import Derived.Deep.RegionWith
import Derived.Deep.CutBlock
import Derived.Deep.DeepCutAuto
namespace Go.Proofs.Ytpjhihmbgahagaa.Twn
open Go.ChangeShapes Go.WideShapes Go.ChangeAt Go.RowKit Words
set_option linter.unusedVariables false

def slv (x : Slo) : Value := .agg #[.bool x.w, .int .i64 x.c, .int .i64 x.d]
def scs (s : St) : Array Value := #[.bool s.a.w, .int .i64 s.a.c, .int .i64 s.a.d, .bool s.b.w, .int .i64 s.b.c, .int .i64 s.b.d]
def sv (s : St) : Value := .agg (scs s)
def sbox (s : St) : Obj := .cells (scs s) 24
theorem eq_slot (x y : Slo) (h : x = y) (w : World) : (binOp .eql 23 (slv x) (slv y)).run Try.prog w = .ok (.bool true) w := by
  subst h
  unfold slv
  simp [go_sem, binOp, Op.equal, Op.maxDepth]
theorem neq_slot (x y : Slo) (h : x = y) (w : World) : (binOp .neq 23 (slv x) (slv y)).run Try.prog w = .ok (.bool false) w := by
  subst h
  unfold slv
  simp [go_sem, binOp, Op.equal, Op.maxDepth]
theorem info23 : (Try.prog.info? 23).map (fun i => (i.zero, i.size, i.bytes)) = some (some (.agg #[.bool false, .int .i64 0, .int .i64 0]), 3, 24) := by kernel_rfl
theorem eq_st (s t : St) (h : s = t) (w : World) : (binOp .eql 24 (sv s) (sv t)).run Try.prog w = .ok (.bool true) w := by
  subst h
  obtain ⟨i3, hi3, _, hz3, _⟩ := info_parts info23
  unfold sv scs
  simp only [binOp, Op.equal, Op.maxDepth, Sem.run_bind]
  show ((Op.equalIn (9999 + 1) 24 _ _).run Try.prog w).andThen _ = _
  unfold Op.equalIn
  simp only [Sem.run_bind, run_underlying Try.underlying24, Result.andThen_ok]
  simp [List.range', sizeOf, typeInfo, hi3, hz3, go_sem]
theorem newer10 (s : St) (w : World) : Calls Try.prog 10 #[sv s] w fun e w' => e = .returned (.int .i64 (newer s)) ∧ w' = w.alloc (sbox s) := by
  obtain ⟨⟨wa, ca, da⟩, ⟨wb, cb, db⟩⟩ := s
  unfold sv sbox scs
  cases wa <;> cases wb
  · go_enter Try.func10, Try.ntmps10
    go_wp2_with fail
    go_ret
    exact ⟨rfl, rfl⟩
  · go_enter Try.func10, Try.ntmps10
    go_wp2_with fail
    go_ret
    exact ⟨rfl, rfl⟩
  · go_enter Try.func10, Try.ntmps10
    go_wp2_with fail
    go_ret
    exact ⟨rfl, rfl⟩
  · by_cases hab : cb < ca
    · have HE : Hid (newer ⟨⟨true, ca, da⟩, ⟨true, cb, db⟩⟩ = 0) := Lib.hid (by simp [newer, hab])
      go_enter Try.func10, Try.ntmps10
      go_wp2_with fail
      go_ret
      exact ⟨ret_int HE.out.symm, rfl⟩
    · have HE : Hid (newer ⟨⟨true, ca, da⟩, ⟨true, cb, db⟩⟩ = 1) := Lib.hid (by simp [newer, hab])
      go_enter Try.func10, Try.ntmps10
      go_wp2_with fail
      go_ret
      exact ⟨ret_int HE.out.symm, rfl⟩
set_option maxHeartbeats 4000000 in
theorem right11 (s : St) (w : World) : Calls Try.prog 11 #[sv s] w fun e w' => e = .returned (.bool (right s)) ∧ Below w.heap.size w w' := by
  have HB1 : Hid (∀ a b c : Obj, Below w.heap.size w (((w.alloc a).alloc b).alloc c)) := Lib.hid fun a b c => (((Below.refl _ _).alloc (Nat.le_refl _) _).alloc (by simp) _).alloc (by simp; omega) _
  obtain ⟨⟨wa, ca, da⟩, ⟨wb, cb, db⟩⟩ := s
  by_cases h1 : 0 ≤ min ca cb
  · by_cases h2 : max ca cb ≤ 1099511627776
    · have HO : Hid (right ⟨⟨wa, ca, da⟩, ⟨wb, cb, db⟩⟩ = !(wa && wb && ca == cb)) := Lib.hid (by
        have h3 : okC ca = true := okC_iff.2 (by omega)
        have h4 : okC cb = true := okC_iff.2 (by omega)
        unfold right
        simp only [h3, h4, Bool.true_and])
      unfold sv scs
      cases wa with
      | false =>
        go_enter Try.func11, Try.ntmps11
        go_wp2_with fail
        go_region
        all_goals
          go_wp2_with fail
          go_ret
          exact ⟨ret_bool (by rw [HO.out]; try rfl), (HB1.out _ _ _).drew⟩
      | true =>
        cases wb with
        | false =>
          go_enter Try.func11, Try.ntmps11
          go_wp2_with fail
          go_region
          all_goals
            go_wp2_with fail
            go_ret
            exact ⟨ret_bool (by rw [HO.out]; try rfl), (HB1.out _ _ _).drew⟩
        | true =>
          by_cases h5 : ca = cb
          · subst h5
            go_enter Try.func11, Try.ntmps11
            go_wp2_with fail
            go_region
            all_goals
              go_wp2_with fail
              go_ret
              exact ⟨ret_bool (by rw [HO.out]; simp), (HB1.out _ _ _).drew⟩
          · have h6 : (ca == cb) = false := by rw [beq_eq_false_iff_ne]; exact h5
            clear h5
            go_enter Try.func11, Try.ntmps11
            go_wp2_with fail
            go_region
            all_goals
              go_wp2_with fail
              go_ret
              exact ⟨ret_bool (by rw [HO.out]; rw [h6]; rfl), (HB1.out _ _ _).drew⟩
    · have HO : Hid (right ⟨⟨wa, ca, da⟩, ⟨wb, cb, db⟩⟩ = false) := Lib.hid (by
        cases hr : right ⟨⟨wa, ca, da⟩, ⟨wb, cb, db⟩⟩ with
        | false => rfl
        | true => have := right_iff.1 hr; simp only at this; omega)
      have h3 : 1099511627776 < max ca cb := by omega
      clear h2
      unfold sv scs
      go_enter Try.func11, Try.ntmps11
      go_wp2_with fail
      go_region
      all_goals
        go_wp2_with fail
        go_ret
        exact ⟨ret_bool (by rw [HO.out]; try rfl), (HB1.out _ _ _).drew⟩
  · have HO : Hid (right ⟨⟨wa, ca, da⟩, ⟨wb, cb, db⟩⟩ = false) := Lib.hid (by
      cases hr : right ⟨⟨wa, ca, da⟩, ⟨wb, cb, db⟩⟩ with
      | false => rfl
      | true => have := right_iff.1 hr; simp only at this; omega)
    have h3 : min ca cb < 0 := by omega
    clear h1
    unfold sv scs
    go_enter Try.func11, Try.ntmps11
    go_wp2_with fail
    go_region
    all_goals
      go_wp2_with fail
      go_ret
      exact ⟨ret_bool (by rw [HO.out]; try rfl), (HB1.out _ _ _).drew⟩
end Go.Proofs.Ytpjhihmbgahagaa.Twn
