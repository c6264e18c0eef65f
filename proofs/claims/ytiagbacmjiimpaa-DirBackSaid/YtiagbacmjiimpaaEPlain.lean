/-
  Folders: the plain mathematics: names in their order, valid lists, what adding, removing, renaming leave.
-/
import Derived.Test.YtiagbacmjiimpaaBase
namespace Go.Proofs.Ytiagbacmjiimpaa.Dir
set_option linter.unusedVariables false

/-! ### the order of names -/
def bl (a b : List UInt8) : Bool := Op.bytesLess a b
theorem bl_nil (a : List UInt8) : bl a [] = false := by unfold bl; cases a <;> rfl
theorem bl_cons (a b : UInt8) (x y : List UInt8) : bl (a :: x) (b :: y) = (decide (a < b) || (a == b && bl x y)) := rfl
theorem bl_irr : ∀ a : List UInt8, bl a a = false
  | [] => rfl
  | a :: x => by rw [bl_cons, bl_irr x]; simp
theorem bl_cons_iff {a b : UInt8} {x y : List UInt8} : bl (a :: x) (b :: y) = true ↔ a.toNat < b.toNat ∨ (a.toNat = b.toNat ∧ bl x y = true) := by
  rw [bl_cons]
  simp only [Bool.or_eq_true, decide_eq_true_iff, Bool.and_eq_true, beq_iff_eq, UInt8.lt_iff_toNat_lt, UInt8.toNat_inj]
theorem bl_trans : ∀ {a b c : List UInt8}, bl a b = true → bl b c = true → bl a c = true
  | _, _, [], _, h => by rw [bl_nil] at h; cases h
  | _, [], _ :: _, h, _ => by rw [bl_nil] at h; cases h
  | [], _ :: _, _ :: _, _, _ => rfl
  | a :: x, b :: y, c :: z, h1, h2 => by
    rw [bl_cons_iff] at h1 h2 ⊢
    rcases h1 with h1 | ⟨h1, h3⟩
    · rcases h2 with h2 | ⟨h2, h4⟩
      · exact .inl (by omega)
      · exact .inl (by omega)
    · rcases h2 with h2 | ⟨h2, h4⟩
      · exact .inl (by omega)
      · exact .inr ⟨by omega, bl_trans h3 h4⟩
theorem bl_tri : ∀ {a b : List UInt8}, bl a b = false → bl b a = false → a = b
  | [], [], _, _ => rfl
  | [], _ :: _, h, _ => by cases h
  | _ :: _, [], _, h => by cases h
  | a :: x, b :: y, h1, h2 => by
    rw [← Bool.not_eq_true, bl_cons_iff] at h1 h2
    have e : a.toNat = b.toNat := by omega
    have : x = y := bl_tri (by rw [← Bool.not_eq_true]; intro h; exact h1 (.inr ⟨e, h⟩)) (by rw [← Bool.not_eq_true]; intro h; exact h2 (.inr ⟨e.symm, h⟩))
    rw [this, UInt8.toNat_inj.1 e]
theorem bl_asymm {a b : List UInt8} (h : bl a b = true) : bl b a = false := by
  rw [← Bool.not_eq_true]
  intro h2
  have := bl_trans h h2
  rw [bl_irr] at this
  cases this
theorem bl_ne {a b : List UInt8} (h : bl a b = true) : a ≠ b := by rintro rfl; rw [bl_irr] at h; cases h
/-! ### entries -/
structure En where
  n : List UInt8
  i : Int
deriving DecidableEq
def okB (b : UInt8) : Bool := (b != 0) && (b != 47)
def good (n : List UInt8) : Bool := decide (1 ≤ n.length) && decide (n.length ≤ 12) && !(n == [46]) && !(n == [46, 46]) && n.all okB
theorem good_pos {n : List UInt8} (h : good n = true) : bl [] n = true := by
  cases n with
  | nil => simp [good] at h
  | cons => rfl
/-- One after another: each good, each behind the last. -/
def rtF (last : List UInt8) : List En → Bool
  | [] => true
  | e :: l => good e.n && bl last e.n && rtF e.n l
def rt (l : List En) : Bool := rtF [] l
def SS (l : List En) : Prop := l.Pairwise fun x y => bl x.n y.n = true
theorem rtF_iff : ∀ {l : List En} {last : List UInt8}, rtF last l = true ↔ (∀ e ∈ l, good e.n = true) ∧ SS l ∧ ∀ e ∈ l, bl last e.n = true
  | [], last => by simp [rtF, SS]
  | e :: l, last => by
    unfold rtF SS
    rw [Bool.and_eq_true, Bool.and_eq_true, rtF_iff, List.pairwise_cons]
    constructor
    · rintro ⟨⟨h1, h2⟩, h3, h4, h5⟩
      refine ⟨fun x hx => ?_, ⟨h5, h4⟩, fun x hx => ?_⟩
      · rcases List.mem_cons.1 hx with rfl | hx
        · exact h1
        · exact h3 x hx
      · rcases List.mem_cons.1 hx with rfl | hx
        · exact h2
        · exact bl_trans h2 (h5 x hx)
    · rintro ⟨h1, ⟨h2, h3⟩, h4⟩
      exact ⟨⟨h1 e (by simp), h4 e (by simp)⟩, fun x hx => h1 x (by simp [hx]), h3, h2⟩
theorem rt_iff {l : List En} : rt l = true ↔ (∀ e ∈ l, good e.n = true) ∧ SS l := by
  unfold rt
  rw [rtF_iff]
  exact ⟨fun h => ⟨h.1, h.2.1⟩, fun h => ⟨h.1, h.2, fun e he => good_pos (h.1 e he)⟩⟩
theorem SS.eq_of : ∀ {a b : List En}, SS a → SS b → (∀ x, x ∈ a ↔ x ∈ b) → a = b
  | [], [], _, _, _ => rfl
  | [], y :: b, _, _, h => by have := (h y).2 (by simp); cases this
  | x :: a, [], _, _, h => by have := (h x).1 (by simp); cases this
  | x :: a, y :: b, ha, hb, h => by
    obtain ⟨ha1, ha2⟩ := List.pairwise_cons.1 ha
    obtain ⟨hb1, hb2⟩ := List.pairwise_cons.1 hb
    have e : x = y := by
      rcases List.mem_cons.1 ((h x).1 (by simp)) with h1 | h1
      · exact h1
      · rcases List.mem_cons.1 ((h y).2 (by simp)) with h2 | h2
        · exact h2.symm
        · have := bl_asymm (ha1 y h2)
          rw [hb1 x h1] at this
          cases this
    subst e
    have hx : ∀ z, z ∈ a → z ≠ x := fun z hz e => by subst e; have := ha1 z hz; rw [bl_irr] at this; cases this
    have hx2 : ∀ z, z ∈ b → z ≠ x := fun z hz e => by subst e; have := hb1 z hz; rw [bl_irr] at this; cases this
    rw [SS.eq_of ha2 hb2 fun z => ?_]
    constructor
    · intro hz
      rcases List.mem_cons.1 ((h z).1 (by simp [hz])) with h1 | h1
      · exact absurd h1 (hx z hz)
      · exact h1
    · intro hz
      rcases List.mem_cons.1 ((h z).2 (by simp [hz])) with h1 | h1
      · exact absurd h1 (hx2 z hz)
      · exact h1
/-- Two of a valid list with one name are one. -/
theorem SS.one {l : List En} (h : SS l) {x y : En} (hx : x ∈ l) (hy : y ∈ l) (e : x.n = y.n) : x = y := by
  induction l with
  | nil => cases hx
  | cons z l ih =>
    obtain ⟨h1, h2⟩ := List.pairwise_cons.1 h
    rcases List.mem_cons.1 hx with rfl | kx
    · rcases List.mem_cons.1 hy with rfl | ky
      · rfl
      · exact absurd e (bl_ne (h1 y ky))
    · rcases List.mem_cons.1 hy with rfl | ky
      · exact absurd e.symm (bl_ne (h1 x kx))
      · exact ih h2 kx ky
/-! ### one more -/
def insE (e : En) : List En → List En
  | [] => [e]
  | x :: l => if bl e.n x.n = true then e :: x :: l else x :: insE e l
theorem mem_insE {e x : En} : ∀ {l : List En}, x ∈ insE e l ↔ x = e ∨ x ∈ l
  | [] => by simp [insE]
  | y :: l => by
    unfold insE
    split
    · simp
    · rw [List.mem_cons, mem_insE, List.mem_cons]
      constructor
      · rintro (h | h | h)
        · exact .inr (.inl h)
        · exact .inl h
        · exact .inr (.inr h)
      · rintro (h | h | h)
        · exact .inr (.inl h)
        · exact .inl h
        · exact .inr (.inr h)
theorem insE_length (e : En) : ∀ l : List En, (insE e l).length = l.length + 1
  | [] => rfl
  | y :: l => by
    unfold insE
    split
    · rfl
    · rw [List.length_cons, insE_length e l, List.length_cons]
theorem SS.ins {e : En} : ∀ {l : List En}, SS l → (∀ x ∈ l, x.n ≠ e.n) → SS (insE e l)
  | [], _, _ => by simp [insE, SS]
  | y :: l, h, hn => by
    obtain ⟨h1, h2⟩ := List.pairwise_cons.1 h
    unfold insE
    split
    · rename_i hlt
      refine List.pairwise_cons.2 ⟨fun x hx => ?_, h⟩
      rcases List.mem_cons.1 hx with rfl | hx
      · exact hlt
      · exact bl_trans hlt (h1 x hx)
    · rename_i hlt
      refine List.pairwise_cons.2 ⟨fun x hx => ?_, SS.ins h2 fun x hx => hn x (by simp [hx])⟩
      rcases mem_insE.1 hx with rfl | hx
      · have h3 : bl x.n y.n = false := by rw [← Bool.not_eq_true]; exact hlt
        cases h4 : bl y.n x.n with
        | true => rfl
        | false => exact absurd (bl_tri h4 h3) (hn y (by simp))
      · exact h1 x hx
/-- Sorting by names. -/
def srt (l : List En) : List En := l.foldl (fun acc e => insE e acc) []
def Dist (l : List En) : Prop := l.Pairwise fun x y => x.n ≠ y.n
theorem fold_mem {x : En} : ∀ {l acc : List En}, x ∈ l.foldl (fun acc e => insE e acc) acc ↔ x ∈ acc ∨ x ∈ l
  | [], acc => by simp
  | e :: l, acc => by
    rw [List.foldl_cons, fold_mem, mem_insE, List.mem_cons]
    constructor
    · rintro ((h | h) | h)
      · exact .inr (.inl h)
      · exact .inl h
      · exact .inr (.inr h)
    · rintro (h | h | h)
      · exact .inl (.inr h)
      · exact .inl (.inl h)
      · exact .inr h
theorem fold_ss : ∀ {l acc : List En}, SS acc → Dist l → (∀ x ∈ acc, ∀ y ∈ l, x.n ≠ y.n) → SS (l.foldl (fun acc e => insE e acc) acc)
  | [], acc, h, _, _ => h
  | e :: l, acc, h, hd, hn => by
    obtain ⟨d1, d2⟩ := List.pairwise_cons.1 hd
    rw [List.foldl_cons]
    refine fold_ss (h.ins fun x hx => hn x hx e (by simp)) d2 fun x hx y hy => ?_
    rcases mem_insE.1 hx with rfl | hx
    · exact d1 y hy
    · exact hn x hx y (by simp [hy])
theorem srt_mem {l : List En} {x : En} : x ∈ srt l ↔ x ∈ l := by unfold srt; rw [fold_mem]; simp
theorem srt_ss {l : List En} (h : Dist l) : SS (srt l) := fold_ss (by simp [SS]) h (fun x hx => by cases hx)
/-- What is sorted and has the same elements is it. -/
theorem srt_is {l r : List En} (h : Dist l) (hs : SS r) (hm : ∀ x, x ∈ r ↔ x ∈ l) : srt l = r := (srt_ss h).eq_of hs fun x => by rw [srt_mem, hm]
theorem SS.dist {l : List En} (h : SS l) : Dist l := h.imp fun h => bl_ne h
/-! ### finding -/
def isN (nm : List UInt8) (e : En) : Bool := e.n == nm
def fnd (l : List En) (nm : List UInt8) : Int := match l.find? (isN nm) with | some e => e.i | none => 0
def has (l : List En) (nm : List UInt8) : Bool := l.any (isN nm)
theorem has_iff {l : List En} {nm : List UInt8} : has l nm = true ↔ ∃ e ∈ l, e.n = nm := by unfold has isN; simp
theorem has_no {l : List En} {nm : List UInt8} (h : has l nm = false) : ∀ e ∈ l, e.n ≠ nm := fun e he hn => by
  have := has_iff.2 ⟨e, he, hn⟩
  rw [h] at this
  cases this
theorem fnd_none {l : List En} {nm : List UInt8} (h : has l nm = false) : fnd l nm = 0 := by
  unfold fnd
  rw [List.find?_eq_none.2 fun x hx => ?_]
  unfold isN
  simpa using has_no h x hx
theorem fnd_of {l : List En} (h : SS l) {e : En} (he : e ∈ l) : fnd l e.n = e.i := by
  unfold fnd
  cases hf : l.find? (isN e.n) with
  | none =>
    have := List.find?_eq_none.1 hf e he
    simp [isN] at this
  | some x =>
    have h1 := List.mem_of_find?_eq_some hf
    have h2 : x.n = e.n := by have := List.find?_some hf; simpa [isN] using this
    rw [h.one h1 he h2]
theorem has_ins {l : List En} {e : En} {nm : List UInt8} : has (insE e l) nm = (decide (e.n = nm) || has l nm) := by
  rw [Bool.eq_iff_iff, has_iff, Bool.or_eq_true, has_iff, decide_eq_true_iff]
  constructor
  · rintro ⟨x, hx, h⟩
    rcases mem_insE.1 hx with rfl | hx
    · exact .inl h
    · exact .inr ⟨x, hx, h⟩
  · rintro (h | ⟨x, hx, h⟩)
    · exact ⟨e, mem_insE.2 (.inl rfl), h⟩
    · exact ⟨x, mem_insE.2 (.inr hx), h⟩
theorem fnd_same {l k : List En} {nm : List UInt8} (hl : SS l) (hk : SS k) (h : ∀ x, x.n = nm → (x ∈ l ↔ x ∈ k)) : fnd l nm = fnd k nm ∧ has l nm = has k nm := by
  have hh : has l nm = has k nm := by
    rw [Bool.eq_iff_iff, has_iff, has_iff]
    exact ⟨fun ⟨e, he, hn⟩ => ⟨e, (h e hn).1 he, hn⟩, fun ⟨e, he, hn⟩ => ⟨e, (h e hn).2 he, hn⟩⟩
  refine ⟨?_, hh⟩
  cases hc : has l nm with
  | false => rw [fnd_none hc, fnd_none (by rw [← hh]; exact hc)]
  | true =>
    obtain ⟨e, he, rfl⟩ := has_iff.1 hc
    rw [fnd_of hl he, fnd_of hk ((h e rfl).1 he)]
/-! ### one less -/
def del (l : List En) (nm : List UInt8) : List En := l.eraseP (isN nm)
theorem SS.del {l : List En} (h : SS l) (nm : List UInt8) : SS (del l nm) := List.Pairwise.sublist (List.eraseP_sublist ..) h
theorem mem_del {l : List En} (h : SS l) {nm : List UInt8} {x : En} : x ∈ del l nm ↔ x ∈ l ∧ x.n ≠ nm := by
  induction l with
  | nil => simp [Dir.del]
  | cons y l ih =>
    obtain ⟨h1, h2⟩ := List.pairwise_cons.1 h
    unfold Dir.del
    rw [List.eraseP_cons]
    by_cases hy : y.n = nm
    · have e : isN nm y = true := by simpa [isN] using hy
      rw [e]
      simp only [cond_true, List.mem_cons]
      constructor
      · intro hx
        exact ⟨.inr hx, fun e2 => bl_ne (h1 x hx) (hy.trans e2.symm)⟩
      · rintro ⟨rfl | hx, hn⟩
        · exact absurd hy hn
        · exact hx
    · have e : isN nm y = false := by simpa [isN] using hy
      rw [e]
      simp only [cond_false, List.mem_cons]
      have := ih h2
      unfold Dir.del at this
      rw [this]
      constructor
      · rintro (rfl | ⟨hx, hn⟩)
        · exact ⟨.inl rfl, hy⟩
        · exact ⟨.inr hx, hn⟩
      · rintro ⟨rfl | hx, hn⟩
        · exact .inl rfl
        · exact .inr ⟨hx, hn⟩
theorem del_length {l : List En} {nm : List UInt8} (h : has l nm = true) : (del l nm).length + 1 = l.length := by
  unfold del
  obtain ⟨e, he, hn⟩ := has_iff.1 h
  have := List.length_eraseP_of_mem (p := isN nm) he (by simpa [isN] using hn)
  have h2 : 0 < l.length := List.length_pos_of_mem he
  omega
theorem has_del {l : List En} (h : SS l) (nm x : List UInt8) : has (del l nm) x = (has l x && !decide (x = nm)) := by
  rw [Bool.eq_iff_iff, has_iff, Bool.and_eq_true, has_iff]
  simp only [Bool.not_eq_true', decide_eq_false_iff_not]
  constructor
  · rintro ⟨e, he, rfl⟩
    obtain ⟨h1, h2⟩ := (mem_del h).1 he
    exact ⟨⟨e, h1, rfl⟩, h2⟩
  · rintro ⟨⟨e, he, rfl⟩, h2⟩
    exact ⟨e, (mem_del h).2 ⟨he, h2⟩, rfl⟩
end Go.Proofs.Ytiagbacmjiimpaa.Dir
