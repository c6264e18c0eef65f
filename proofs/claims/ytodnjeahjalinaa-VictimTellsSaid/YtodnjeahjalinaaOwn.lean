/-
  Lists of blocks in a row of the call's own; one of them stored anew; slices.Clone.
-/
import Derived.Test.YtodnjeahjalinaaChoose
import Derived.StillTailTactics
namespace Go.Proofs.Ytodnjeahjalinaa.Vic
open Go.ChangeShapes Go.WideShapes Go.ChangeAt Go.RowKit Words Go.Sort
open Go.Proofs.Ytodnjeahjalinaa.Stab (Laid below_grow mixedO)
set_option linter.unusedVariables false

theorem info28 : (Try.prog.info? 28).map (fun i => (i.zero, i.size, i.bytes)) = some (some (.agg #[.int .i64 0, .int .i64 0, .int .i64 0]), 3, 24) := by kernel_rfl
theorem info3 : (Try.prog.info? 3).map (fun i => (i.zero, i.size, i.bytes)) = some (some (.int .i64 0), 1, 8) := by kernel_rfl
/-- A list of the call's own. -/
def OwnFl (w : World) (base : Nat) (A : Option Addr) (n c : Nat) (l : List Fil) : Prop := w.ownsRow base 28 3 (.slice A n c) n (lcells l)
section
variable {w w' : World} {base g : Nat} {A : Option Addr} {n c : Nat} {l : List Fil}
theorem OwnFl.fl (h : OwnFl w base A n c l) : Fl w w.heap.size A n c l := Words.Rd.of_own h
theorem OwnFl.len (h : OwnFl w base A n c l) : l.length = n := h.fl.len
theorem OwnFl.addr (h : OwnFl w base A n c l) (hn : 0 < n) : ∃ g, A = some ⟨g, 0, none⟩ ∧ base ≤ g ∧ g < w.heap.size := by
  obtain ⟨g, c', hv, h1, h2⟩ := own_form_pos h hn
  injection hv with hv _ _
  exact ⟨g, hv, h1, h2⟩
theorem OwnFl.at_ (h : OwnFl w base (some ⟨g, 0, none⟩) n c l) : base ≤ g ∧ g < w.heap.size := by
  rcases h.2 with ⟨hv, _⟩ | ⟨g', cap, cur, hv, hb, hg, _⟩
  · cases hv
  · cases hv
    exact ⟨hb, (Array.getElem?_eq_some_iff.1 hg).1⟩
theorem OwnFl.cells (h : OwnFl w base (some ⟨g, 0, none⟩) n c l) {i : Nat} {b : Fil} (hb : l[i]? = some b) :
    w.cell? ⟨g, i * 3, none⟩ = some (.int .i64 b.need) ∧ w.cell? ⟨g, i * 3 + 1, none⟩ = some (.int .i64 b.fill) ∧ w.cell? ⟨g, i * 3 + 2, none⟩ = some (.int .i64 b.wear) := by
  have := Fl.cells h.fl rfl hb
  simpa only [Nat.zero_add] using this
theorem OwnFl.below {D : Nat} (h : OwnFl w base A n c l) (hb : Below D w w') (hD : w.heap.size ≤ D) : OwnFl w' base A n c l := own_below h hb hD
theorem OwnFl.frozen (h : OwnFl w base (some ⟨g, 0, none⟩) n c l) (j : Nat) : w.frozen? ⟨g, j, none⟩ = false := Go.World.ownsRow.frozenAt h j
theorem OwnFl.put0 (h : OwnFl w base (some ⟨g, 0, none⟩) n c l) {i : Nat} {b : Fil} (hb : l[i]? = some b) (x : Int) :
    OwnFl (w.setCell ⟨g, i * 3, none⟩ (.int .i64 x)) base (some ⟨g, 0, none⟩) n c (l.set i ⟨x, b.fill, b.wear⟩) ∧ w.grownBy (w.setCell ⟨g, i * 3, none⟩ (.int .i64 x)) (some g) := by
  have := Go.World.ownsRow.stored h (i * 3) (.int .i64 x)
  have e := flat_set (f := fcells) fcells_length hb (j := 0) (by omega) (y := ⟨x, b.fill, b.wear⟩) (u := .int .i64 x) rfl
  rw [Nat.add_zero] at e
  rw [lcells, e] at this
  exact this
theorem OwnFl.put1 (h : OwnFl w base (some ⟨g, 0, none⟩) n c l) {i : Nat} {b : Fil} (hb : l[i]? = some b) (x : Int) :
    OwnFl (w.setCell ⟨g, i * 3 + 1, none⟩ (.int .i64 x)) base (some ⟨g, 0, none⟩) n c (l.set i ⟨b.need, x, b.wear⟩) ∧ w.grownBy (w.setCell ⟨g, i * 3 + 1, none⟩ (.int .i64 x)) (some g) := by
  have := Go.World.ownsRow.stored h (i * 3 + 1) (.int .i64 x)
  rw [lcells, flat_set (f := fcells) fcells_length hb (j := 1) (by omega) (y := ⟨b.need, x, b.wear⟩) rfl] at this
  exact this
theorem OwnFl.put2 (h : OwnFl w base (some ⟨g, 0, none⟩) n c l) {i : Nat} {b : Fil} (hb : l[i]? = some b) (x : Int) :
    OwnFl (w.setCell ⟨g, i * 3 + 2, none⟩ (.int .i64 x)) base (some ⟨g, 0, none⟩) n c (l.set i ⟨b.need, b.fill, x⟩) ∧ w.grownBy (w.setCell ⟨g, i * 3 + 2, none⟩ (.int .i64 x)) (some g) := by
  have := Go.World.ownsRow.stored h (i * 3 + 2) (.int .i64 x)
  rw [lcells, flat_set (f := fcells) fcells_length hb (j := 2) (by omega) (y := ⟨b.need, b.fill, x⟩) rfl] at this
  exact this
theorem get_set_same {l : List Fil} {i : Nat} (hi : i < l.length) (b' : Fil) : (l.set i b')[i]? = some b' := by
  rw [List.getElem?_set, if_pos rfl, if_pos hi]
/-- Element i stored anew. -/
def putF (w : World) (g i : Nat) (x : Fil) : World := ((w.setCell ⟨g, i * 3, none⟩ (.int .i64 x.need)).setCell ⟨g, i * 3 + 1, none⟩ (.int .i64 x.fill)).setCell ⟨g, i * 3 + 2, none⟩ (.int .i64 x.wear)
theorem OwnFl.put (h : OwnFl w base (some ⟨g, 0, none⟩) n c l) {i : Nat} (hi : i < n) (x : Fil) :
    OwnFl (putF w g i x) base (some ⟨g, 0, none⟩) n c (l.set i x) ∧ w.grownBy (putF w g i x) (some g) := by
  have hl := h.len
  have h0 := h.put0 (nth_get (l := l) (k := i) (by omega)) x.need
  have h1 := h0.1.put1 (get_set_same (by omega) _) x.fill
  have h2 := h1.1.put2 (get_set_same (by rw [List.length_set]; omega) _) x.wear
  rw [List.set_set, List.set_set] at h2
  exact ⟨h2.1, (h0.2.trans h1.2).trans h2.2⟩
/-- What a store of a whole block finds. -/
structure PutAt (w : World) (g i : Nat) (y x : Fil) : Prop where
  c0 : w.cell? ⟨g, i * 3, none⟩ = some (.int .i64 y.need)
  c1 : w.cell? ⟨g, i * 3 + 1, none⟩ = some (.int .i64 y.fill)
  c2 : w.cell? ⟨g, i * 3 + 2, none⟩ = some (.int .i64 y.wear)
  f0 : w.frozen? ⟨g, i * 3, none⟩ = false
  f1 : w.frozen? ⟨g, i * 3 + 1, none⟩ = false
  f2 : w.frozen? ⟨g, i * 3 + 2, none⟩ = false
  n1 : (w.setCell ⟨g, i * 3, none⟩ (.int .i64 x.need)).cell? ⟨g, i * 3 + 1, none⟩ = some (.int .i64 y.fill)
  n2 : ((w.setCell ⟨g, i * 3, none⟩ (.int .i64 x.need)).setCell ⟨g, i * 3 + 1, none⟩ (.int .i64 x.fill)).cell? ⟨g, i * 3 + 2, none⟩ = some (.int .i64 y.wear)
  m2 : (w.setCell ⟨g, i * 3, none⟩ (.int .i64 x.need)).cell? ⟨g, i * 3 + 2, none⟩ = some (.int .i64 y.wear)
theorem OwnFl.putAt (h : OwnFl w base (some ⟨g, 0, none⟩) n c l) {i : Nat} (hi : i < n) (x : Fil) : PutAt w g i (nth l i) x := by
  have hl := h.len
  obtain ⟨c0, c1, c2⟩ := h.cells (nth_get (l := l) (k := i) (by omega))
  have o : ∀ (w : World) (a b : Nat) (u : Value), a ≠ b → (w.setCell ⟨g, a, none⟩ u).cell? ⟨g, b, none⟩ = w.cell? ⟨g, b, none⟩ := fun w a b u hab => World.cell?_setCell_other w _ _ u (fun e => hab (by injection e))
  refine ⟨c0, c1, c2, h.frozen _, h.frozen _, h.frozen _, ?_, ?_, ?_⟩
  · rw [o _ _ _ _ (by omega)]; exact c1
  · rw [o _ _ _ _ (by omega), o _ _ _ _ (by omega)]; exact c2
  · rw [o _ _ _ _ (by omega)]; exact c2
end
/-- A list of the call's own; nothing that was there has changed. -/
def MadeFl (w : World) (l : List Fil) (n : Nat) (e : Ending) (w' : World) : Prop :=
  ∃ A c, e = .returned (.slice A n c) ∧ OwnFl w' w.heap.size A n c l ∧ Below w.heap.size w w'
set_option maxHeartbeats 1000000 in
theorem clone22 (B : Nat) (A : Option Addr) (n c : Nat) (l : List Fil) (w : World) (h : Fl w B A n c l) (hB : B ≤ w.heap.size) (hn : n ≤ 5864062014805) :
    Calls Try.prog 22 #[.slice A n c] w (MadeFl w l n) := by
  obtain ⟨i0, hi0, hz0, hz1, hz2⟩ := info_parts info28
  cases A with
  | none =>
    have hc := Words.Rd.none_ h rfl
    have hn0 : n = 0 := by have := Words.Rd.le h; omega
    have hl := h.len
    subst hc hn0
    have hl0 : l = [] := List.eq_nil_of_length_eq_zero hl
    subst hl0
    clear h hl
    have hq := Lib.run_eql_slice_nil (P := Try.prog) w 22 28 none 0 0 0 0 Try.underlying22
    go_enter Try.func22, Try.ntmps22
    go_wp2_with fail
    go_ret
    exact ⟨none, 0, rfl, w.ownsRow_nil _ _ _, Below.refl _ _⟩
  | some a =>
    have H := Lib.hid h
    clear h
    have hq := Lib.run_eql_slice_nil (P := Try.prog) w 22 28 (some a) n c 0 0 Try.underlying22
    have hown1 : (w.alloc (.cells #[] 28)).ownsRow w.heap.size 28 3 (.slice (some ⟨w.heap.size, 0, none⟩) 0 0) 0 [] := w.ownsRow_lit #[] 0 (Nat.le_refl _) (by decide) rfl
    have hb1 : Below w.heap.size w (w.alloc (.cells #[] 28)) := (Below.refl _ _).alloc (Nat.le_refl _) _
    have hz1' : w.heap.size ≤ (w.alloc (.cells #[] 28)).heap.size := hb1.size
    have HR := Lib.hid (Words.Rd.alloc H.out hB (.cells #[] 28))
    go_enter Try.func22, Try.ntmps22
    go_wp2_with (first
      | (at_builtin; refine wpList_append_rd _ rfl (.tmp 5) (.tmp 6) 22 rfl w.heap.size 28 i0 _ 3 24 Try.underlying22 hi0 hz0 hz1 hz2 rfl (by decide) _ 0 [] rfl hown1 B (some a) n c (lcells l) rfl HR.out (lcells_one l) (by simp only [maxLen]; omega) (by omega) hz1' ?_
         intro A2 c2 w2 hown2 hg2
         have hb2 : Below w.heap.size w w2 := below_grown hb1 hown1 hg2 hz1' (Nat.le_refl _)
         simp only [Nat.zero_add, List.nil_append] at hown2))
    go_ret
    exact ⟨A2, c2, rfl, hown2, hb2⟩
/-- What a run of erasures keeps: the places that were chosen, the list as it is now; nothing that was there has changed. -/
structure PInv (w W : World) (ch : List Int) (nx : List Fil) (A1 : Option Addr) (i c1 : Nat) (A2 : Option Addr) (n c2 : Nat) : Prop where
  row : W.ownsRow w.heap.size 3 1 (.slice A1 i c1) i (icells ch)
  fl : OwnFl W w.heap.size A2 n c2 nx
  bel : Below w.heap.size w W
section
variable {w W x : World} {ch : List Int} {nx : List Fil} {A1 A2 : Option Addr} {i c1 n c2 : Nat}
theorem PInv.below (h : PInv w W ch nx A1 i c1 A2 n c2) (hb : Below W.heap.size W x) : PInv w x ch nx A1 i c1 A2 n c2 :=
  ⟨own_below h.row hb (Nat.le_refl _), h.fl.below hb (Nat.le_refl _), h.bel.trans (hb.mono h.bel.size)⟩
theorem PInv.alloc (h : PInv w W ch nx A1 i c1 A2 n c2) (o : Obj) : PInv w (W.alloc o) ch nx A1 i c1 A2 n c2 := h.below ((Below.refl _ _).alloc (Nat.le_refl _) _)
theorem PInv.had {A c} (h : PInv w W ch nx A1 i c1 A2 n c2) {e : Int} (ho : x.ownsRow w.heap.size 3 1 (.slice A (i + 1) c) (i + 1) (icells ch ++ icells [e])) (hg : W.grownBy x (Value.slice A1 i c1).ownBlock) :
    PInv w x (ch ++ [e]) nx A (i + 1) c A2 n c2 :=
  ⟨by rw [icells_append]; exact ho, Go.World.ownsRow.kept h.fl hg (own_apart h.fl h.row (by decide)), below_grown h.bel h.row hg h.bel.size (Nat.le_refl _)⟩
theorem PInv.put {g : Nat} (h : PInv w W ch nx A1 i c1 (some ⟨g, 0, none⟩) n c2) {k : Nat} (hk : k < n) (y : Fil) : PInv w (putF W g k y) ch (nx.set k y) A1 i c1 (some ⟨g, 0, none⟩) n c2 :=
  have hp := h.fl.put hk y
  ⟨Go.World.ownsRow.kept h.row hp.2 (own_apart h.row h.fl (by decide)), hp.1, below_grown (v := .slice (some ⟨g, 0, none⟩) n c2) h.bel h.fl hp.2 h.bel.size (Nat.le_refl _)⟩
theorem PInv.put0 {g : Nat} (h : PInv w W ch nx A1 i c1 (some ⟨g, 0, none⟩) n c2) {k : Nat} (hk : k < n) (y : Int) : PInv w (W.setCell ⟨g, k * 3, none⟩ (.int .i64 y)) ch (nx.set k ⟨y, (nth nx k).fill, (nth nx k).wear⟩) A1 i c1 (some ⟨g, 0, none⟩) n c2 :=
  have hp := h.fl.put0 (nth_get (by rw [h.fl.len]; exact hk)) y
  ⟨Go.World.ownsRow.kept h.row hp.2 (own_apart h.row h.fl (by decide)), hp.1, below_grown (v := .slice (some ⟨g, 0, none⟩) n c2) h.bel h.fl hp.2 h.bel.size (Nat.le_refl _)⟩
theorem PInv.put2 {g : Nat} (h : PInv w W ch nx A1 i c1 (some ⟨g, 0, none⟩) n c2) {k : Nat} (hk : k < n) (y : Int) : PInv w (W.setCell ⟨g, k * 3 + 2, none⟩ (.int .i64 y)) ch (nx.set k ⟨(nth nx k).need, (nth nx k).fill, y⟩) A1 i c1 (some ⟨g, 0, none⟩) n c2 :=
  have hp := h.fl.put2 (nth_get (by rw [h.fl.len]; exact hk)) y
  ⟨Go.World.ownsRow.kept h.row hp.2 (own_apart h.row h.fl (by decide)), hp.1, below_grown (v := .slice (some ⟨g, 0, none⟩) n c2) h.bel h.fl hp.2 h.bel.size (Nat.le_refl _)⟩
theorem PInv.as {ch' : List Int} {nx' : List Fil} (h : PInv w W ch nx A1 i c1 A2 n c2) (e1 : ch' = ch) (e2 : nx' = nx) : PInv w W ch' nx' A1 i c1 A2 n c2 := by subst e1 e2; exact h
end
/-- Three results: the places, the list, the error code. -/
def PlayedV (w : World) (l : List Fil) (s t : Int) (e : Ending) (x : World) : Prop :=
  ∃ (A1 : Option Addr) (i c1 : Nat) (A2 : Option Addr) (n c2 : Nat), e = .returned (.tuple #[.slice A1 i c1, .slice A2 n c2, .int .i64 (perr l s t)]) ∧ PInv w x (pch l s t) (pls l s t) A1 i c1 A2 n c2
theorem played_nil {w w' : World} {l : List Fil} {s t k : Int} (hk : perr l s t = k) (h0 : k ≠ 0) (hb : Below w.heap.size w w') : PlayedV w l s t (.returned (.tuple #[.slice none 0 0, .slice none 0 0, .int .i64 k])) w' := by
  subst hk
  refine ⟨none, 0, 0, none, 0, 0, rfl, ?_⟩
  rw [pch_no h0, pls_no h0]
  exact ⟨w'.ownsRow_nil _ _ _, w'.ownsRow_nil _ _ _, hb⟩
theorem played_ok {w w' : World} {l nx : List Fil} {ch : List Int} {s t : Int} {A1 A2 : Option Addr} {i c1 n c2 : Nat} (hk : perr l s t = 0) (hp : (ch, nx) = pl s t.toNat l) (h : PInv w w' ch nx A1 i c1 A2 n c2) : PlayedV w l s t (.returned (.tuple #[.slice A1 i c1, .slice A2 n c2, .int .i64 0])) w' := by
  refine ⟨A1, i, c1, A2, n, c2, by rw [hk], ?_⟩
  rw [pch_ok hk, pls_ok hk, ← hp]
  exact h
end Go.Proofs.Ytodnjeahjalinaa.Vic
