/-
  One name exchanged in a list, then sorted; what the document's own answer says: the plain mathematics.
-/
import Derived.Test.YtiagbacmjiimpaaEFacts
import Derived.Test.YtiagbacmjiimpaaEAtName
import Derived.Test.YtiagbacmjiimpaaESort
namespace Go.Proofs.Ytiagbacmjiimpaa.Dir
open Go.ChangeShapes Go.WideShapes Go.ChangeAt Go.RowKit Words
set_option linter.unusedVariables false

theorem at_has {l : List En} {nm : List UInt8} {v : Int} (h : At l nm v) : (0 ≤ v ∧ has l nm = true ∧ ∃ k : Nat, v = k ∧ k < l.length ∧ (eth l k).n = nm) ∨ (v < 0 ∧ has l nm = false) := by
  rcases h with ⟨k, hv, hk, hn, _⟩ | ⟨hv, hn⟩
  · exact .inl ⟨by omega, has_iff.2 ⟨eth l k, List.mem_of_getElem? (eth_get hk), hn⟩, k, hv, hk, hn⟩
  · exact .inr ⟨by omega, hn⟩
theorem split_at {l : List En} {k : Nat} (h : k < l.length) : l = l.take k ++ eth l k :: l.drop (k + 1) := by
  rw [← drop_next (eth_get h), List.take_append_drop]
theorem set_at {l : List En} {k : Nat} (h : k < l.length) (z : En) : l.set k z = l.take k ++ z :: l.drop (k + 1) := by
  rw [List.set_eq_take_append_cons_drop, if_pos h]
/-- The others have other names. -/
theorem others {l : List En} (hs : SS l) {k : Nat} (h : k < l.length) : ∀ x, x ∈ l.take k ++ l.drop (k + 1) ↔ x ∈ l ∧ x.n ≠ (eth l k).n := by
  intro x
  have e := split_at h
  have hs' := hs
  unfold SS at hs'
  rw [e, List.pairwise_append] at hs'
  obtain ⟨_, h2, h3⟩ := hs'
  obtain ⟨h4, _⟩ := List.pairwise_cons.1 h2
  constructor
  · intro hx
    rcases List.mem_append.1 hx with hx | hx
    · exact ⟨by rw [e]; exact List.mem_append.2 (.inl hx), bl_ne (h3 x hx (eth l k) (by simp))⟩
    · exact ⟨by rw [e]; exact List.mem_append.2 (.inr (by simp [hx])), fun e2 => bl_ne (h4 x hx) e2.symm⟩
  · rintro ⟨hx, hn⟩
    rw [e] at hx
    rcases List.mem_append.1 hx with hx | hx
    · exact List.mem_append.2 (.inl hx)
    · rcases List.mem_cons.1 hx with rfl | hx
      · exact absurd rfl hn
      · exact List.mem_append.2 (.inr hx)
theorem mem_set_at {l : List En} {k : Nat} (h : k < l.length) (z x : En) : x ∈ l.set k z ↔ x = z ∨ x ∈ l.take k ++ l.drop (k + 1) := by
  rw [set_at h]
  simp only [List.mem_append, List.mem_cons]
  constructor
  · rintro (h | h | h)
    · exact .inr (.inl h)
    · exact .inl h
    · exact .inr (.inr h)
  · rintro (h | h | h)
    · exact .inr (.inl h)
    · exact .inl h
    · exact .inr (.inr h)
theorem dist_set {l : List En} (hs : SS l) {k : Nat} (h : k < l.length) {z : En} (hz : ∀ x ∈ l, x.n ≠ z.n) : Dist (l.set k z) := by
  have hd := hs.dist
  unfold Dist at hd ⊢
  have e := split_at h
  rw [e, List.pairwise_append] at hd
  obtain ⟨h1, h2, h3⟩ := hd
  obtain ⟨h4, h5⟩ := List.pairwise_cons.1 h2
  have hin : ∀ x, x ∈ l.take k ∨ x ∈ l.drop (k + 1) → x ∈ l := fun x hx => by
    rw [e]
    rcases hx with hx | hx
    · exact List.mem_append.2 (.inl hx)
    · exact List.mem_append.2 (.inr (by simp [hx]))
  rw [set_at h, List.pairwise_append]
  refine ⟨h1, List.pairwise_cons.2 ⟨fun x hx => (hz x (hin x (.inr hx))).symm, h5⟩, fun x hx y hy => ?_⟩
  rcases List.mem_cons.1 hy with rfl | hy
  · exact hz x (hin x (.inl hx))
  · exact h3 x hx y (by simp [hy])
/-- Renamed in place and sorted it is what Rename answers. -/
theorem ren_sorted {l : List En} {f t : List UInt8} (h : ne l f t = 0) (hft : f ≠ t) {k : Nat} (hk : k < l.length) (hn : (eth l k).n = f) :
    Dist (l.set k ⟨t, (eth l k).i⟩) ∧ srt (l.set k ⟨t, (eth l k).i⟩) = nl l f t := by
  obtain ⟨h1, h2, h3⟩ := ne_ok.1 h
  obtain ⟨h4, h5⟩ := h3.resolve_left hft
  have hs := (rt_iff.1 h1).2
  obtain ⟨x, hx, hxn, _, _, hr, hm⟩ := nl_mem h hft
  have hxe : x = eth l k := hs.one hx (List.mem_of_getElem? (eth_get hk)) (by rw [hxn, hn])
  have hd : Dist (l.set k ⟨t, (eth l k).i⟩) := dist_set hs hk (fun y hy => has_no h5 y hy)
  refine ⟨hd, srt_is hd (rt_iff.1 hr).2 fun y => ?_⟩
  rw [hm, mem_set_at hk, others hs hk, hxe, hn]
/-- One more at the end and sorted it is what Add answers. -/
theorem add_sorted {l : List En} {e : En} (h : ae l e = 0) : Dist (l ++ [e]) ∧ srt (l ++ [e]) = al l e := by
  obtain ⟨h1, h2, h3⟩ := ae_ok.1 h
  have hs := (rt_iff.1 h1).2
  have hd : Dist (l ++ [e]) := by
    unfold Dist
    rw [List.pairwise_append]
    refine ⟨hs.dist, by simp, fun x hx y hy => ?_⟩
    rw [List.mem_singleton] at hy
    subst hy
    exact has_no h3 x hx
  refine ⟨hd, srt_is hd ?_ fun y => ?_⟩
  · rw [al_yes h]; exact (rt_iff.1 (rt_ins h1 h2 h3)).2
  · rw [al_yes h, mem_insE, List.mem_append, List.mem_singleton]
    exact Or.comm
/-- The one at the place left out is what Remove answers. -/
theorem rem_at {l : List En} {nm : List UInt8} {k : Nat} (h : rt l = true) (hk : k < l.length) (hn : (eth l k).n = nm) : re l nm = 0 ∧ rl l nm = l.take k ++ l.drop (k + 1) := by
  have hs := (rt_iff.1 h).2
  have hh : has l nm = true := has_iff.2 ⟨eth l k, List.mem_of_getElem? (eth_get hk), hn⟩
  have hre := re_ok.2 ⟨h, hh⟩
  refine ⟨hre, ?_⟩
  rw [rl_yes hre]
  have hss : SS (l.take k ++ l.drop (k + 1)) := by
    refine List.Pairwise.sublist ?_ hs
    conv => rhs; rw [split_at hk]
    exact List.Sublist.append_left (List.sublist_cons_self ..) _
  refine (hs.del nm).eq_of hss fun x => ?_
  rw [mem_del hs, others hs hk, hn]
theorem fv_at {l : List En} {nm : List UInt8} {k : Nat} (h : rt l = true) (hk : k < l.length) (hn : (eth l k).n = nm) : fe l nm = 0 ∧ fv l nm = (eth l k).i := by
  have := each_found h (List.mem_of_getElem? (eth_get hk))
  rw [hn] at this
  exact this
/-- A name stored anew. -/
theorem OwnEn.name {w : World} {base g n c : Nat} {l : List En} (h : OwnEn w base (some ⟨g, 0, none⟩) n c l) {k : Nat} (hk : k < n) (t : List UInt8) :
    OwnEn (w.setCell ⟨g, k * 2, none⟩ (.string (str t))) base (some ⟨g, 0, none⟩) n c (l.set k ⟨t, (eth l k).i⟩) ∧ w.grownBy (w.setCell ⟨g, k * 2, none⟩ (.string (str t))) (some g) := by
  have := Go.World.ownsRow.stored h (k * 2) (.string (str t))
  rw [show k * 2 = k * 2 + 0 from rfl, lcells, flat_set (f := ecells) ecells_length (eth_get (by rw [h.len]; exact hk)) (j := 0) (by omega) (y := ⟨t, (eth l k).i⟩) rfl] at this
  exact this
end Go.Proofs.Ytiagbacmjiimpaa.Dir
