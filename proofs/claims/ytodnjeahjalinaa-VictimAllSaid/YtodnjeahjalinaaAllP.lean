/-
  A run over blocks that are all full and new, plainly.
-/
import Derived.Test.YtodnjeahjalinaaPlain
namespace Go.Proofs.Ytodnjeahjalinaa.Vic
set_option linter.unusedVariables false

def fresh (n : Nat) : List Fil := List.replicate n ⟨1, 4, 0⟩
/-- What the claim asks of the list that is left. -/
structure AllK (n : Nat) (s : Int) (t : Nat) (ch : List Int) (nx : List Fil) : Prop where
  chl : ch.length = t
  nxl : nx.length = n
  sum : sumW nx = t
  spr_ : spr nx ≤ s
  rt : right nx = true
  none_ : ¬ (t : Int) < (n : Int) * s → (nx.any fun x => x.wear == 0) = false
theorem fresh_err {n : Nat} {s : Int} {t : Nat} (hn : n ≤ 20) (hs1 : 1 ≤ s) (hs2 : s ≤ 5) (ht : t ≤ 400) : perr (fresh n) s t = 0 :=
  perr_ok (chk_ok (right_replicate (by omega)) (by omega)) (by omega)
theorem fresh_all {n : Nat} {s : Int} {t : Nat} (hn1 : 1 ≤ n) (hn : n ≤ 20) (hs1 : 1 ≤ s) (hs2 : s ≤ 5) (ht : t ≤ 400) : AllK n s t (pch (fresh n) s t) (pls (fresh n) s t) := by
  have he := fresh_err hn hs1 hs2 ht
  rw [pch_ok he, pls_ok he, Int.toNat_natCast]
  have hlen : (fresh n).length = n := List.length_replicate
  have hrun := full_run hs1 (N := 1048576) (by omega) t (fresh n) (full_replicate n) (by rw [hlen]; exact hn1) (fun x hx => by rw [List.eq_of_mem_replicate hx]; simp only; omega)
  have hsum : sumW (pl s t (fresh n)).2 = t := by rw [hrun.2]; unfold fresh; rw [sumW_replicate]; omega
  have hsp : spr (pl s t (fresh n)).2 ≤ s := pl_spread hs1 (Int.le_refl _) _ _ (by have := spr_replicate n; unfold fresh; omega)
  have hnl : (pl s t (fresh n)).2.length = n := by rw [pl_length, hlen]
  refine ⟨hrun.1, hnl, hsum, hsp, pl_right _ _ (right_replicate (by omega)), fun h => ?_⟩
  rw [List.any_eq_false]
  intro x hx hz
  have h0 : x.wear = 0 := by simpa using hz
  have := none_fresh hs1 hsp hx h0
  rw [hsum, hnl] at this
  exact h this
def sumK (l : List Fil) (k : Nat) : Int := sumW (l.take k)
theorem sumK_zero (l : List Fil) : sumK l 0 = 0 := rfl
theorem sumK_next {l : List Fil} {k : Nat} (h : k < l.length) : sumK l (k + 1) = sumK l k + (nth l k).wear := by
  unfold sumK sumW
  rw [take_succ_nth h, List.map_append, List.sum_append]
  simp
theorem sumK_all {l : List Fil} {k : Nat} (h : k = l.length) : sumK l k = sumW l := by
  subst h
  unfold sumK
  rw [List.take_of_length_le (Nat.le_refl _)]
theorem sumK_range {l : List Fil} (hr : right l = true) : ∀ {k : Nat}, k ≤ l.length → 0 ≤ sumK l k ∧ sumK l k ≤ 1048576 * k
  | 0, _ => by rw [sumK_zero]; omega
  | k + 1, h => by
    have ih := sumK_range hr (k := k) (by omega)
    have := right_nth hr (k := k) (by omega)
    rw [sumK_next (by omega)]
    omega
end Go.Proofs.Ytodnjeahjalinaa.Vic
