/-
  What the mounting of written pages comes to, for the laws.
-/
import Derived.Test.YtiiadclcfbghkaaEqs
import Derived.Test.YtiiadclcfbghkaaAlive
namespace Go.Proofs.Ytiiadclcfbghkaa.Mnt
open Go.ChangeShapes Go.WideShapes Go.ChangeAt Go.RowKit Words
set_option linter.unusedVariables false

theorem wrt_wf {l : List Pg} (h : l.length ≤ 9223372036854775807) : WfL (wrt l) := fun p hp => by
  obtain ⟨_, k, hk, e⟩ := wrt_form hp
  have := (List.getElem?_eq_some_iff.1 e).1
  rw [wrt_length] at this
  rw [hk]
  exact wf_of (by omega) (by omega)
theorem sq_self (l : List Pg) (k : Nat) (hk : k ≤ l.length) : sq (wrt l) k = (wrt l).drop k := sq_same (fun p h _ => h) (fun p h => h) k hk
theorem allN_take {l : List Pg} (h : allN l = true) (k : Nat) : allN (l.take k) = true := allN_iff.2 fun p hp => allN_iff.1 h p (List.mem_of_mem_take hp)
theorem allN_drop {l : List Pg} (h : allN l = true) (k : Nat) : allN (l.drop k) = true := allN_iff.2 fun p hp => allN_iff.1 h p (List.mem_of_mem_drop hp)
theorem okF_nat {k : Nat} (hk : k ≤ 1099511627776) : okF (k : Int) = true := okF_yes.2 ⟨by omega, by omega⟩
/-- From the state behind the first k on. -/
theorem mo_on {l : List Pg} {k : Nat} {s : List Int} (h : allN l = true) (hk : k ≤ l.length) (hm : k ≤ 1099511627776) :
    moS s (wrt l) k = run s ((wrt l).drop k) ∧ moN (wrt l) k = l.length ∧ moE (wrt l) k = 0 := by
  have hok : okM (wrt l) k = true := by unfold okM; rw [okF_nat hm, sq_self l k hk, allN_drop (by rw [wrt_all]; exact h)]; rfl
  refine ⟨by rw [moS_yes hok, sq_self l k hk], ?_, moE_yes hok⟩
  rw [moN_yes hok, sq_self l k hk, List.length_drop, wrt_length]
  omega
theorem run_two {s : List Int} (l : List Pg) (k : Nat) : run (run s (l.take k)) (l.drop k) = run s l := by rw [← run_app, List.take_append_drop]
theorem fo_take {l : List Pg} {s : List Int} (h : allN l = true) (k : Nat) : foS s ((wrt l).take k) = run s ((wrt l).take k) ∧ foE ((wrt l).take k) = 0 :=
  ⟨foS_yes (allN_take (by rw [wrt_all]; exact h) k), foE_yes (allN_take (by rw [wrt_all]; exact h) k)⟩
theorem Pgs.head {w : World} {B : Nat} {A : Option Addr} {n c k : Nat} {l : List Pg} (h : Pgs w B A n c l) (hk : k ≤ n) : Pgs w B A k c (l.take k) := by
  have := Words.Rd.head h hk
  rw [lc_take] at this
  exact this
theorem run_head23 (A : Option Addr) (n c k : Nat) (hk : k ≤ c) (w : World) : (Instr.slice 23 (.slice A n c) none (some (.int .i64 (k : Int))) none).run Try.prog w = .ok (.slice A k c) w := by
  obtain ⟨i0, hi0, _⟩ := info_parts info36
  exact Words.run_head w 23 36 i0 Try.underlying23 hi0 A n c k _ rfl hk
/-- The state of nothing, as the program builds it. -/
theorem zero_cells : icells zero16 = [.int .i64 0, .int .i64 0, .int .i64 0, .int .i64 0, .int .i64 0, .int .i64 0, .int .i64 0, .int .i64 0, .int .i64 0, .int .i64 0, .int .i64 0, .int .i64 0, .int .i64 0, .int .i64 0, .int .i64 0, .int .i64 0] := rfl
theorem zero_av : av zero16 = .agg #[.int .i64 0, .int .i64 0, .int .i64 0, .int .i64 0, .int .i64 0, .int .i64 0, .int .i64 0, .int .i64 0, .int .i64 0, .int .i64 0, .int .i64 0, .int .i64 0, .int .i64 0, .int .i64 0, .int .i64 0, .int .i64 0] := rfl
end Go.Proofs.Ytiiadclcfbghkaa.Mnt
