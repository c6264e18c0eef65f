/-
  slices.Delete of one number out of a row of the call's own.
-/
import Derived.Test.YtkhcaobmohppnaaSCon
import Derived.Deep.RegionLaw
namespace Go.Proofs.Ytkhcaobmohppnaa.Spc
open Go.ChangeShapes Go.WideShapes Go.ChangeAt Go.RowKit Words Go.Sort
set_option linter.unusedVariables false

theorem mixedOE : Try.prog.follows .mixedOrders = true := by kernel_rfl
theorem info3 : (Try.prog.info? 3).map (fun i => (i.zero, i.size, i.bytes)) = some (some (.int .i64 0), 1, 8) := by kernel_rfl
/-- A list of numbers of the call's own. -/
def OwnIn (w : World) (base : Nat) (A : Option Addr) (n c : Nat) (l : List Int) : Prop := w.ownsRow base 3 1 (.slice A n c) n (icells l)
theorem icells_length (l : List Int) : (icells l).length = l.length := List.length_map ..
theorem icells_one (l : List Int) : ∀ u ∈ icells l, u.oneCell' = true := by
  intro u hu
  obtain ⟨b, _, rfl⟩ := List.mem_map.1 hu
  rfl
section
variable {w w' : World} {base g : Nat} {A : Option Addr} {n c : Nat} {l : List Int}
theorem OwnIn.rd (h : OwnIn w base A n c l) : Words.Rd w w.heap.size 1 A n c (icells l) := Words.Rd.of_own h
theorem OwnIn.len (h : OwnIn w base A n c l) : l.length = n := by
  have := h.1
  rw [icells_length] at this
  omega
theorem OwnIn.below {D : Nat} (h : OwnIn w base A n c l) (hb : Below D w w') (hD : w.heap.size ≤ D) : OwnIn w' base A n c l := own_below h hb hD
theorem OwnIn.addr (h : OwnIn w base A n c l) (hn : 0 < n) : ∃ g, A = some ⟨g, 0, none⟩ ∧ base ≤ g ∧ g < w.heap.size := by
  obtain ⟨g, c', hv, h1, h2⟩ := own_form_pos h hn
  injection hv with hv _ _
  exact ⟨g, hv, h1, h2⟩
theorem OwnIn.at_ (h : OwnIn w base (some ⟨g, 0, none⟩) n c l) {i : Nat} {x : Int} (hi : l[i]? = some x) : w.cell? ⟨g, i, none⟩ = some (.int .i64 x) := by
  have hn := (List.getElem?_eq_some_iff.1 hi).1
  have hl := h.len
  have := Words.Rd.cellAt h.rd rfl (by omega) i (.int .i64 x) (by rw [icells_get, hi]; rfl)
  rwa [Nat.zero_add] at this
end
/-- Stored one after another from o on; what lies outside is left out. -/
def setAllE : List Value → Nat → List Value → List Value
  | xs, _, [] => xs
  | xs, o, v :: vs => setAllE (xs.set o v) (o + 1) vs
theorem setAll_pastE : ∀ (vs xs : List Value) (o : Nat), xs.length ≤ o → setAllE xs o vs = xs
  | [], _, _, _ => rfl
  | v :: vs, xs, o, h => by
    unfold setAllE
    rw [List.set_eq_of_length_le h]
    exact setAll_pastE vs xs (o + 1) (by omega)
theorem setAll_midE : ∀ (vs mid pre post : List Value), mid.length = vs.length → setAllE (pre ++ mid ++ post) pre.length vs = pre ++ vs ++ post
  | [], mid, pre, post, h => by
    have : mid = [] := List.eq_nil_of_length_eq_zero (by simpa using h)
    subst this; rfl
  | v :: vs, [], pre, post, h => by simp at h
  | v :: vs, m :: mid, pre, post, h => by
    have ih := setAll_midE vs mid (pre ++ [v]) post (by simpa using h)
    have e1 : (pre ++ m :: mid ++ post).set pre.length v = pre ++ [v] ++ mid ++ post := by
      rw [List.append_assoc, List.set_append_right _ _ (Nat.le_refl _), Nat.sub_self]
      simp
    unfold setAllE
    rw [e1]
    rw [List.length_append] at ih
    rw [show pre.length + 1 = pre.length + [v].length from rfl, ih]
    simp
section
variable {w : World} {base g n c sz : Nat} {e : TypeId} {xs : List Value}
theorem own_setCellsE : ∀ (vs : List Value) (o : Nat) {w : World} {xs : List Value}, w.ownsRow base e sz (.slice (some ⟨g, 0, none⟩) n c) n xs →
    (w.setCells g o vs).ownsRow base e sz (.slice (some ⟨g, 0, none⟩) n c) n (setAllE xs o vs) ∧ w.grownBy (w.setCells g o vs) (some g)
  | [], o, w, xs, h => ⟨h, World.grownBy.refl w _⟩
  | v :: vs, o, w, xs, h => by
    have h1 := World.ownsRow.stored h o v
    have h2 := own_setCellsE vs (o + 1) h1.1
    exact ⟨h2.1, h1.2.trans h2.2⟩
theorem own_headE (h : w.ownsRow base e sz (.slice (some ⟨g, 0, none⟩) n c) n xs) {k : Nat} (hk : k ≤ n) : w.ownsRow base e sz (.slice (some ⟨g, 0, none⟩) k c) k (xs.take (k * sz)) := by
  refine ⟨by rw [List.length_take, h.1, Nat.min_eq_left (Nat.mul_le_mul_right _ hk)], ?_⟩
  rcases h.2 with ⟨h', _⟩ | ⟨g', cap', cur, h', hb, hg, hnc, hcm, hcs, htake⟩
  · simp at h'
  · injection h' with h1 h2 h3
    subst h3
    injection h1 with h1
    injection h1 with h1
    subst h1
    refine .inr ⟨g, c, cur, rfl, hb, hg, by omega, hcm, hcs, ?_⟩
    rw [← htake, List.take_take, Nat.min_eq_left (Nat.mul_le_mul_right _ hk)]
/-- Every cell of the row, the spare ones too, is there. -/
theorem own_thereE (h : w.ownsRow base e sz (.slice (some ⟨g, 0, none⟩) n c) n xs) {j : Nat} (hj : j < c * sz) : (w.cell? ⟨g, j, none⟩).isSome = true ∧ w.frozen? ⟨g, j, none⟩ = false := by
  rcases h.2 with ⟨h', _⟩ | ⟨g', cap', cur, h', hb, hg, hnc, hcm, hcs, htake⟩
  · simp at h'
  · injection h' with h1 h2 h3
    subst h3
    injection h1 with h1
    injection h1 with h1
    subst h1
    exact ⟨by rw [Whole.cell hg, Array.getElem?_eq_getElem (by omega)]; rfl, Whole.frozen hg j⟩
theorem own_capE (h : w.ownsRow base e sz (.slice (some ⟨g, 0, none⟩) n c) n xs) : n ≤ c ∧ c ≤ maxLen := by
  rcases h.2 with ⟨h', _⟩ | ⟨g', cap', cur, h', hb, hg, hnc, hcm, hcs, htake⟩
  · simp at h'
  · injection h' with h1 h2 h3
    subst h3
    exact ⟨hnc, hcm⟩
end
theorem in_erase (l : List Int) (i : Nat) : icells (l.eraseIdx i) = icells (l.take i) ++ icells (l.drop (i + 1)) := by
  rw [List.eraseIdx_eq_take_drop_succ]; exact List.map_append
theorem erasedE {w : World} {base g i m c : Nat} {l : List Int} (h : OwnIn w base (some ⟨g, 0, none⟩) (i + 1 + m) c l) :
    OwnIn ((w.setCells g i (icells (l.drop (i + 1)))).setCells g (i + m) [.int .i64 0]) base (some ⟨g, 0, none⟩) (i + m) c (l.eraseIdx i) ∧
    w.grownBy ((w.setCells g i (icells (l.drop (i + 1)))).setCells g (i + m) [.int .i64 0]) (some g) := by
  have hl := h.len
  have h1 := own_setCellsE (icells (l.drop (i + 1))) i h
  have e0 : (icells (l.take i)).length = i := by rw [icells_length, List.length_take, Nat.min_eq_left (by omega)]
  have e2 : (icells (l.drop (i + 1))).length = m := by rw [icells_length, List.length_drop]; omega
  have e1 : setAllE (icells l) i (icells (l.drop (i + 1))) = icells (l.take i) ++ icells (l.drop (i + 1)) ++ (icells (l.drop i)).drop m := by
    have e3 : icells l = icells (l.take i) ++ (icells (l.drop i)).take m ++ (icells (l.drop i)).drop m := by
      rw [List.append_assoc, List.take_append_drop]
      show l.map _ = (l.take i).map _ ++ (l.drop i).map _
      rw [← List.map_append, List.take_append_drop]
    have := setAll_midE (icells (l.drop (i + 1))) ((icells (l.drop i)).take m) (icells (l.take i)) ((icells (l.drop i)).drop m) (by
      rw [List.length_take, e2, icells_length, List.length_drop]; omega)
    rw [← e3, e0] at this
    exact this
  rw [e1] at h1
  have h2 := own_headE h1.1 (k := i + m) (by omega)
  have e4 : (icells (l.take i) ++ icells (l.drop (i + 1)) ++ (icells (l.drop i)).drop m).take ((i + m) * 1) = icells (l.eraseIdx i) := by
    rw [in_erase]
    exact List.take_left' (by rw [List.length_append, e0, e2, Nat.mul_one])
  rw [e4] at h2
  have h3 := own_setCellsE [.int .i64 0] (i + m) h2
  rw [setAll_pastE _ _ _ (by rw [h2.1, Nat.mul_one]; exact Nat.le_refl _)] at h3
  exact ⟨h3.1, h1.2.trans h3.2⟩
theorem run_clear1E (w : World) (ty : TypeId) (b o c : Nat) (hc : (w.cell? ⟨b, o, none⟩).isSome = true) (hf : w.frozen? ⟨b, o, none⟩ = false) :
    (Builtin.clear_ #[50] ty #[.slice (some ⟨b, o, none⟩) 1 c]).run Try.prog w = .ok (.tuple #[]) (w.setCells b o [.int .i64 0]) := by
  have hst := run_storeCells_cells (P := Try.prog) b o [.int .i64 0] 0 w (fun j hj => by obtain rfl : j = 0 := (by simpa using hj); simpa using hc) (fun j hj => by obtain rfl : j = 0 := (by simpa using hj); simpa using hf) (by intro u hu; simp at hu; subst hu; rfl)
  have hzc : (Builtin.zeroCells (Value.int .i64 0).cells 1).toList = [Value.int .i64 0] := by kernel_rfl
  obtain ⟨i3, hi3, hz3, _, _⟩ := info_parts info3
  have hz : ∀ w, (zeroValue 3).run Try.prog w = .ok (.int .i64 0) w := fun w => by simp [zeroValue, typeInfo, hi3, hz3]
  simp only [Nat.add_zero] at hst
  simp [Builtin.clear_, run_underlying Try.underlying50, hz, hzc, hst]
theorem grown_drewE (w : World) (r : Option Nat) : w.grownBy w.drew r := ⟨rfl, rfl, rfl, Nat.le_refl _, fun _ _ _ => rfl⟩
set_option maxHeartbeats 4000000 in
set_option maxRecDepth 100000 in
theorem delete22 (base g i m c : Nat) (l : List Int) (w : World) (h : OwnIn w base (some ⟨g, 0, none⟩) (i + 1 + m) c l) :
    Calls Try.prog 22 #[.slice (some ⟨g, 0, none⟩) (i + 1 + m) c, .int .i64 (i : Int), .int .i64 ((i : Int) + 1)] w fun e w' =>
      e = .returned (.slice (some ⟨g, 0, none⟩) (i + m) c) ∧ OwnIn w' base (some ⟨g, 0, none⟩) (i + m) c (l.eraseIdx i) ∧ w.grownBy w' (some g) := by
  obtain ⟨i0, hi0, hz0, hz1, hz2⟩ := info_parts info3
  have hl := h.len
  obtain ⟨hnc, hcm⟩ := own_capE h
  unfold maxLen at hcm
  obtain ⟨news, hnews⟩ : ∃ news, news = icells (l.drop (i + 1)) := ⟨_, rfl⟩
  have hlen : news.length = m * 1 := by rw [hnews, icells_length, List.length_drop]; omega
  have hown : w.drew.ownsRow base 3 1 (.slice (some ⟨g, 0, none⟩) (i + 1 + m) c) (i + 1 + m) (icells l) := h
  obtain ⟨A, hA, hsrc⟩ : ∃ A : Addr, (if c = i + 1 then (some (⟨g, 0, none⟩ : Addr)) else some ⟨g, i + 1, none⟩) = some A ∧ Hid (∀ t u, news[t]? = some u → w.drew.cell? (A.add t) = some u) := by
    by_cases hc : c = i + 1
    · refine ⟨⟨g, 0, none⟩, by simp [hc], fun t u hu => ?_⟩
      have h0 : news.length = 0 := by rw [hlen]; omega
      rw [List.length_eq_zero_iff.1 h0] at hu
      simp at hu
    · refine ⟨⟨g, i + 1, none⟩, by simp [hc], fun t u hu => ?_⟩
      rw [hnews, icells, List.map_drop, List.getElem?_drop] at hu
      rw [Addr.add_lit]
      have := Words.Rd.cellAt (Words.Rd.of_own hown) rfl (by omega) (i + 1 + t) u hu
      rwa [Nat.zero_add] at this
  have s1 := Lib.hid hlen
  have s2 : Hid (∀ u ∈ news, u.oneCell' = true) := by rw [hnews]; exact icells_one _
  have s3 : Hid (∀ t, t < news.length → (w.drew.cell? ⟨g, 0 + i * 1 + t, none⟩).isSome = true ∧ w.drew.frozen? ⟨g, 0 + i * 1 + t, none⟩ = false) := by
    intro t ht
    rw [hlen] at ht
    rw [Nat.zero_add]
    exact own_thereE hown (by omega)
  obtain ⟨W1, hW1⟩ : ∃ W1, W1 = w.drew.setCells g (0 + i * 1) news := ⟨_, rfl⟩
  have HE := erasedE (w := w.drew) h
  rw [← hnews] at HE
  have h1 := own_setCellsE news i hown
  have hW : Hid (W1 = w.drew.setCells g (0 + i * 1) news) := hW1
  rw [Nat.zero_add, Nat.mul_one] at hW1
  rw [← hW1] at HE h1
  have HE := Lib.hid HE
  have HT : Hid ((W1.cell? ⟨g, i + m, none⟩).isSome = true ∧ W1.frozen? ⟨g, i + m, none⟩ = false) := Lib.hid (own_thereE h1.1 (by omega))
  have HG : Hid (w.grownBy (W1.setCells g (i + m) [.int .i64 0]) (some g)) := Lib.hid ((grown_drewE w _).trans HE.out.2)
  have hic : i ≤ c := by omega
  have hjc : i + 1 ≤ c := by omega
  have hne : ¬ ((i : Int) = (i : Int) + 1) := by omega
  have e1 : i + 1 + m - (i + 1) = m := by omega
  have e2 : i + 1 + m - (i + m) = 1 := by omega
  have e3 : ¬ (c = i + m) := by omega
  have e4 : ((i : Int) + 1).toNat = i + 1 := by omega
  have e5 : (0 : Int) ≤ (i : Int) + 1 := by omega
  have e6 : (i : Int) + 1 ≤ (i : Int) + 1 + (m : Int) := by omega
  have mx := mixedOE
  clear hW1 h1 hown h hnews hlen hl
  go_enter Try.func22, Try.ntmps22
  go_wp2_with fail
  go_region_law (refine step_append_room rfl (.tmp 22) (.tmp 25) 50 rfl 3 i0 1 Try.underlying50 hi0 hz1 g 0 i c (by simp [Act.eval, Act.put]) A m (c - (i + 1)) news (by simp [Act.eval, Act.put]) s1.out hsrc.out s2.out (by omega) s3.out ?_; rw [← hW.out])
  have hcl := fun ty C => run_clear1E W1 ty g (i + m) C HT.out.1 HT.out.2
  go_wp2_with fail
  go_ret
  exact ⟨rfl, HE.out.1, HG.out⟩
end Go.Proofs.Ytkhcaobmohppnaa.Spc
