/-
  What the mounting of written pages comes to where one of them lacks, or where they were found in another order, others among them.
-/
import Derived.Test.YtiiadclcfbghkaaKeep
import Derived.Test.YtiiadclcfbghkaaDel
namespace Go.Proofs.Ytiiadclcfbghkaa.Mnt
open Go.ChangeShapes Go.WideShapes Go.ChangeAt Go.RowKit Words
set_option linter.unusedVariables false

theorem erase_wf {l : List Pg} (h : l.length ≤ 9223372036854775807) (m : Nat) : WfL ((wrt l).eraseIdx m) := fun p hp => wrt_wf h p (List.mem_of_mem_eraseIdx hp)
theorem mo_lost {l : List Pg} {m : Nat} {s : List Int} (h : allN l = true) (hm : m < l.length) :
    moS s ((wrt l).eraseIdx m) 0 = run s ((wrt l).take m) ∧ moN ((wrt l).eraseIdx m) 0 = m ∧ moE ((wrt l).eraseIdx m) 0 = 0 := by
  have hs := sq_lost hm
  have hok : okM ((wrt l).eraseIdx m) 0 = true := by unfold okM; rw [hs, allN_take (by rw [wrt_all]; exact h)]; rfl
  refine ⟨by rw [moS_yes hok, hs], ?_, moE_yes hok⟩
  rw [moN_yes hok, hs, List.length_take, wrt_length, Nat.min_eq_left (by omega)]
  omega
/-- Found in whatever order, pages that are not whole among them. -/
def Shuffled (l f : List Pg) : Prop := (∀ p, p ∈ f → p.w = true → p ∈ wrt l) ∧ ∀ p, p ∈ wrt l → p ∈ f
theorem mo_all {l f : List Pg} {s : List Int} (h : allN l = true) (hf : Shuffled l f) : moS s f 0 = run s (wrt l) ∧ moN f 0 = l.length ∧ moE f 0 = 0 := by
  have hs : sq f ((0 : Nat) : Int) = (wrt l).drop 0 := sq_same hf.1 hf.2 0 (Nat.zero_le _)
  rw [List.drop_zero] at hs
  have hs : sq f 0 = wrt l := hs
  have hok : okM f 0 = true := by unfold okM; rw [hs, wrt_all, h]; rfl
  refine ⟨by rw [moS_yes hok, hs], ?_, moE_yes hok⟩
  rw [moN_yes hok, hs, wrt_length]
  omega
theorem fo_all {l : List Pg} {s : List Int} (h : allN l = true) : foS s (wrt l) = run s (wrt l) ∧ foE (wrt l) = 0 := ⟨foS_yes (by rw [wrt_all]; exact h), foE_yes (by rw [wrt_all]; exact h)⟩
theorem OwnPg.addr {w : World} {base : Nat} {A : Option Addr} {n c : Nat} {l : List Pg} (h : OwnPg w base A n c l) (hn : 0 < n) : ∃ g, A = some ⟨g, 0, none⟩ ∧ base ≤ g ∧ g < w.heap.size := by
  obtain ⟨g, c', hv, h1, h2⟩ := own_form_pos h hn
  injection hv with hv _ _
  exact ⟨g, hv, h1, h2⟩
end Go.Proofs.Ytiiadclcfbghkaa.Mnt
