/-
  slices.Delete of one gap out of a row of the call's own.
-/
import Derived.Test.YtkhcaobmohppnaaDCells
namespace Go.Proofs.Ytkhcaobmohppnaa.Spc
open Go.ChangeShapes Go.WideShapes Go.ChangeAt Go.RowKit Words
set_option linter.unusedVariables false

set_option maxHeartbeats 4000000 in
set_option maxRecDepth 100000 in
theorem delete40 (base g i m c : Nat) (l : List Gp) (w : World) (h : OwnGp w base (some ⟨g, 0, none⟩) (i + 1 + m) c l) :
    Calls Try.prog 40 #[.slice (some ⟨g, 0, none⟩) (i + 1 + m) c, .int .i64 (i : Int), .int .i64 ((i : Int) + 1)] w fun e w' =>
      e = .returned (.slice (some ⟨g, 0, none⟩) (i + m) c) ∧ OwnGp w' base (some ⟨g, 0, none⟩) (i + m) c (l.eraseIdx i) ∧ w.grownBy w' (some g) := by
  obtain ⟨i0, hi0, hz0, hz1, hz2⟩ := info_parts info36
  have hl := h.len
  obtain ⟨hnc, hcm⟩ := own_cap h
  unfold maxLen at hcm
  obtain ⟨news, hnews⟩ : ∃ news, news = lcells (l.drop (i + 1)) := ⟨_, rfl⟩
  have hlen : news.length = m * 2 := by rw [hnews, lcells_length, List.length_drop]; omega
  have hown : w.drew.ownsRow base 36 2 (.slice (some ⟨g, 0, none⟩) (i + 1 + m) c) (i + 1 + m) (lcells l) := h
  obtain ⟨A, hA, hsrc⟩ : ∃ A : Addr, (if c = i + 1 then (some (⟨g, 0, none⟩ : Addr)) else some ⟨g, (i + 1) * 2, none⟩) = some A ∧ Hid (∀ t u, news[t]? = some u → w.drew.cell? (A.add t) = some u) := by
    by_cases hc : c = i + 1
    · refine ⟨⟨g, 0, none⟩, by simp [hc], fun t u hu => ?_⟩
      have h0 : news.length = 0 := by rw [hlen]; omega
      rw [List.length_eq_zero_iff.1 h0] at hu
      simp at hu
    · refine ⟨⟨g, (i + 1) * 2, none⟩, by simp [hc], fun t u hu => ?_⟩
      rw [hnews, ← lc_drop, List.getElem?_drop] at hu
      rw [Addr.add_lit]
      have := Words.Rd.cellAt (Words.Rd.of_own hown) rfl (by omega) ((i + 1) * 2 + t) u hu
      rwa [Nat.zero_add] at this
  have s1 := Lib.hid hlen
  have s2 : Hid (∀ u ∈ news, u.oneCell' = true) := by rw [hnews]; exact lcells_one _
  have s3 : Hid (∀ t, t < news.length → (w.drew.cell? ⟨g, 0 + i * 2 + t, none⟩).isSome = true ∧ w.drew.frozen? ⟨g, 0 + i * 2 + t, none⟩ = false) := by
    intro t ht
    rw [hlen] at ht
    rw [Nat.zero_add]
    exact own_there hown (by omega)
  obtain ⟨W1, hW1⟩ : ∃ W1, W1 = w.drew.setCells g (0 + i * 2) news := ⟨_, rfl⟩
  have HE := erased (w := w.drew) h
  rw [← hnews] at HE
  have h1 := own_setCells news (i * 2) hown
  have hW : Hid (W1 = w.drew.setCells g (0 + i * 2) news) := hW1
  rw [Nat.zero_add] at hW1
  rw [← hW1] at HE h1
  have HE := Lib.hid HE
  have HT : Hid (∀ j, j < 2 → (W1.cell? ⟨g, (i + m) * 2 + j, none⟩).isSome = true ∧ W1.frozen? ⟨g, (i + m) * 2 + j, none⟩ = false) := Lib.hid (fun j hj => own_there h1.1 (by omega))
  have HG : Hid (w.grownBy (W1.setCells g ((i + m) * 2) (gcells zeroG)) (some g)) := Lib.hid ((grown_drew w _).trans HE.out.2)
  have hic : i ≤ c := by omega
  have hjc : i + 1 ≤ c := by omega
  have hne : ¬ ((i : Int) = (i : Int) + 1) := by omega
  have e1 : i + 1 + m - (i + 1) = m := by omega
  have e2 : i + 1 + m - (i + m) = 1 := by omega
  have e3 : ¬ (c = i + m) := by omega
  have e4 : ((i : Int) + 1).toNat = i + 1 := by omega
  have e5 : (0 : Int) ≤ (i : Int) + 1 := by omega
  have e6 : (i : Int) + 1 ≤ (i : Int) + 1 + (m : Int) := by omega
  have mx : Try.prog.follows .mixedOrders = true := by kernel_rfl
  clear hW1 h1 hown h hnews hlen hl
  go_enter Try.func40, Try.ntmps40
  go_wp2_with fail
  go_region_law (refine step_append_room rfl (.tmp 22) (.tmp 25) 22 rfl 36 i0 2 Try.underlying22 hi0 hz1 g 0 i c (by simp [Act.eval, Act.put]) A m (c - (i + 1)) news (by simp [Act.eval, Act.put]) s1.out hsrc.out s2.out (by omega) s3.out ?_; rw [← hW.out])
  have hcl := fun ty C => run_clear1 W1 ty g ((i + m) * 2) C (fun j hj => (HT.out j hj).1) (fun j hj => (HT.out j hj).2)
  go_wp2_with fail
  go_ret
  exact ⟨rfl, HE.out.1, HG.out⟩
end Go.Proofs.Ytkhcaobmohppnaa.Spc
