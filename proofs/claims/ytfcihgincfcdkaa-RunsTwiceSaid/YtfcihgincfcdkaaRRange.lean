/-
  Ranging over the edges.
-/
import Derived.Test.YtfcihgincfcdkaaREdge0
namespace Go.Proofs.Ytfcihgincfcdkaa.Rns
open Go.ChangeShapes Go.WideShapes Go.ChangeAt Go.RowKit Words
open Go.WideElems (rg rg_of rd_key)
set_option linter.unusedVariables false

noncomputable abbrev bR : Value → Option (DataW Unit × List MemPlace) := plainElem Try.prog 4
theorem bool_inv {v : Value} {y : DataW Unit × List MemPlace} (h : bR v = some y) : ∃ c, v = .bool c := by
  unfold bR plainElem at h
  rw [Try.underlying4] at h
  cases v <;> simp at h
  exact ⟨_, rfl⟩
section
variable {w w' : World} {b r n : Nat} {D : DataW Unit} {left : Lit → Bool} {cnt : Nat}
theorem ranges_has (h : w.ranges Try.prog 3 bR b r n D left cnt) {kl : Lit} (hk : left kl = true) : Maps.has D kl = true := by
  obtain ⟨es, clock, since, seen, c0, hb, F, hs, rfl, hr, hold, _, hl1, hl2, _⟩ := h
  obtain ⟨x, hx, rfl⟩ := hl2 kl hk
  obtain ⟨y, hy⟩ := F.reads x hx
  exact List.any_eq_true.2 ⟨rg Try.prog 3 bR x, mem_sorted.2 (List.mem_map.2 ⟨x, hx, rfl⟩), WideAt.sameKey_self (by rw [rg_of hy]; exact key3.key (rd_key hy))⟩
end
section
variable (w : World) {ops : Array Oper} {rest : List Oper} {o : Oper} {a : Act} {Q : Exit → Act → World → Prop}
theorem wpList_edge_range (hg : o.guard = none) (m : Operand) (hop : o.op = Op.range 48 m) (b n : Nat) (D : DataW Unit) (hm : a.eval m = .map (some b)) (hown : w.ownsMap Try.prog 3 bR b n D)
    (hK : ∀ w', w'.ranges Try.prog 3 bR b w.heap.size n D (Maps.has D) (Maps.size D) → w.grownBy w' none → w'.heap.size = w.heap.size + 1 → wpList Try.prog ops Q rest (a.put o.dst (.pointer (some ⟨w.heap.size, 0, none⟩))) w') :
    wpList Try.prog ops Q (o :: rest) a w := wpList_range_own w hg m 48 hop 3 4 key3 Try.underlying48 bR b n D hm hown hK
theorem wpList_edge_next (hg : o.guard = none) (it : Operand) (hop : o.op = Op.next it false) (b r n : Nat) (D : DataW Unit) (left : Lit → Bool) (cnt : Nat)
    (hit : a.eval it = .pointer (some ⟨r, 0, none⟩)) (h : w.ranges Try.prog 3 bR b r n D left cnt)
    (hDone : (∀ kl, left kl = false) → wpList Try.prog ops Q rest (a.put o.dst (.tuple #[.bool false])) w)
    (hMore : ∀ (x : Int) (c : Value) (w' : World) (cnt' : Nat), (Lit.int .i64 x).wf = true → left (.int .i64 x) = true → w'.ranges Try.prog 3 bR b r n D (fun z => left z && !z.sameKey (.int .i64 x)) cnt' → cnt' < cnt →
      w.grownBy w' (some r) → w'.heap.size = w.heap.size → (Instr.entry (.pointer (some ⟨r, 0, none⟩))).run Try.prog w' = .ok (.tuple #[.int .i64 x, c]) w' → wpList Try.prog ops Q rest (a.put o.dst (.tuple #[.bool true, .int .i64 x, c])) w') :
    wpList Try.prog ops Q (o :: rest) a w :=
  wpList_next_ranges w hg it hop 3 key3 bR (Value.int .i64) id (fun key kl hkey => by obtain ⟨x, rfl, _⟩ := Maps.keyOf_int_inv Try.underlying3 hkey; exact ⟨x, rfl⟩) (fun v y hv => ⟨v, rfl⟩)
    b r n D left cnt hit h (fun _ hl => hDone hl) (fun x c kl y w' cnt' hkey hlk hv hat hrg hlt hgr hsz hen => by
      obtain ⟨x', ex, rfl, hwx⟩ := Maps.keyOf_int_inv Try.underlying3 hkey
      cases ex
      exact hMore x c w' cnt' hwx hlk hrg hlt hgr hsz hen)
end
/-- Whether a number has come. -/
def Vis (L : List Int) (left : Lit → Bool) (q : Int) : Prop := q ∈ L ∧ left (.int .i64 q) = false
theorem vis_start {L : List Int} {D : DataW Unit} (h : ∀ q : Int, Maps.has D (.int .i64 q) = true ↔ q ∈ L) (q : Int) : ¬ Vis L (Maps.has D) q := fun hv => by
  have := (h q).2 hv.1
  rw [hv.2] at this; cases this
theorem vis_next {L : List Int} {left : Lit → Bool} {x : Int} (hx : x ∈ L) (q : Int) : Vis L (fun z => left z && !z.sameKey (.int .i64 x)) q ↔ (Vis L left q ∨ q = x) := by
  unfold Vis
  have hs : (Lit.int .i64 q).sameKey (.int .i64 x) = decide (q = x) := by
    by_cases hq : q = x
    · subst hq; rw [WideAt.sameKey_self (show WideAt.IsKeyLit (.int .i64 q) from trivial)]; simp
    · rw [Maps.sameKey_ne (fun e => hq (by injection e))]; simp [hq]
  show (q ∈ L ∧ (left (.int .i64 q) && !(Lit.int .i64 q).sameKey (.int .i64 x)) = false) ↔ _
  rw [hs]
  by_cases hq : q = x
  · subst hq; simp [hx]
  · simp [hq]
theorem vis_end {L : List Int} {left : Lit → Bool} (h : ∀ kl, left kl = false) (q : Int) : Vis L left q ↔ q ∈ L := ⟨fun h => h.1, fun hq => ⟨hq, h _⟩⟩
/-- The least edge behind x of those that have come. -/
def Tm (L : List Int) (x : Int) (left : Lit → Bool) (t : Int) : Prop :=
  (t = 1152921504606846976 ∧ ∀ q, Vis L left q → ¬ x < q) ∨ (t ∈ L ∧ x < t ∧ ∀ q, Vis L left q → x < q → t ≤ q)
theorem tm_start {L : List Int} {D : DataW Unit} (h : ∀ q : Int, Maps.has D (.int .i64 q) = true ↔ q ∈ L) (x : Int) : Tm L x (Maps.has D) 1152921504606846976 := .inl ⟨rfl, fun q hq => absurd hq (vis_start h q)⟩
theorem tm_next {L : List Int} {left : Lit → Bool} {x t y : Int} (h : Tm L x left t) (hy : y ∈ L) (hb : ∀ q ∈ L, q < 1152921504606846976) : Tm L x (fun z => left z && !z.sameKey (.int .i64 y)) (if x < y ∧ y < t then y else t) := by
  split
  · rename_i hc
    refine .inr ⟨hy, hc.1, fun q hq hxq => ?_⟩
    rcases (vis_next hy q).1 hq with h1 | h1
    · rcases h with ⟨h2, h3⟩ | ⟨h2, h3, h4⟩
      · exact absurd hxq (h3 q h1)
      · have := h4 q h1 hxq; omega
    · omega
  · rename_i hc
    rcases h with ⟨h2, h3⟩ | ⟨h2, h3, h4⟩
    · refine .inl ⟨h2, fun q hq => ?_⟩
      rcases (vis_next hy q).1 hq with h1 | h1
      · exact h3 q h1
      · have := hb y hy; omega
    · refine .inr ⟨h2, h3, fun q hq hxq => ?_⟩
      rcases (vis_next hy q).1 hq with h1 | h1
      · exact h4 q h1 hxq
      · omega
theorem tm_end {L : List Int} {left : Lit → Bool} {x t : Int} (h : Tm L x left t) (hl : ∀ kl, left kl = false) (hb : ∀ q ∈ L, q < 1152921504606846976) :
    (t = 1152921504606846976 ∧ ∀ s, ¬ Nx (· ∈ L) x s) ∨ (t ≠ 1152921504606846976 ∧ Nx (· ∈ L) x t) := by
  rcases h with ⟨h2, h3⟩ | ⟨h2, h3, h4⟩
  · exact .inl ⟨h2, fun s hs => h3 s ((vis_end hl s).2 hs.1) hs.2.1⟩
  · exact .inr ⟨by have := hb t h2; omega, h2, h3, fun e he hxe => h4 e ((vis_end hl e).2 he) hxe⟩
theorem Pc.congr {E V V' : Int → Prop} {l : List Rn} {r : Rn} {put : Bool} {ps : List Rn} (h : Pc E l r put V ps) (hv : ∀ q, V' q ↔ V q) : Pc E l r put V' ps :=
  ⟨fun p hp => by obtain ⟨h1, h2⟩ := h.piece p hp; exact ⟨(hv _).2 h1, h2⟩, fun u t hu => h.all u t ((hv u).1 hu), h.nd⟩
/-- What the ranging keeps. -/
structure PM (wr : World) (b n : Nat) (D : DataW Unit) (A : Option Addr) (k c : Nat) (ps : List Rn) (left : Lit → Bool) (cnt : Nat) (W : World) : Prop where
  rg : W.ranges Try.prog 3 bR b wr.heap.size n D left cnt
  bel : Below wr.heap.size wr W
  row : OwnRn W (wr.heap.size + 1) A k c ps
  sz : wr.heap.size + 1 ≤ W.heap.size
theorem Below.none_ {W W' : World} (h : Below W.heap.size W W') : W.grownBy W' none := ⟨h.os, h.tape, h.output, h.size, fun i hi _ => h.block i hi⟩
section
variable {wr W W' : World} {b n : Nat} {D : DataW Unit} {A : Option Addr} {k c : Nat} {ps : List Rn} {left left' : Lit → Bool} {cnt cnt' : Nat}
/-- Another block has changed, one that is new since. -/
theorem PM.kept {row : Option Nat} (h : PM wr b n D A k c ps left cnt W) (hg : W.grownBy W' row) (hr : ∀ j, row = some j → wr.heap.size + 1 ≤ j ∧ (Value.slice A k c).ownBlock ≠ some j) (hb : b < wr.heap.size) : PM wr b n D A k c ps left cnt W' :=
  ⟨h.rg.kept hg (fun e => by have := (hr b e.symm).1; omega) (fun e => by have := (hr _ e.symm).1; omega), h.bel.grown hg h.bel.size (fun j hj => by have := (hr j hj).1; omega), Go.World.ownsRow.kept h.row hg (by
    cases row with
    | none => exact (by
        cases hv : (Value.slice A k c).ownBlock with
        | none => exact .inl rfl
        | some g => exact .inr (by simp))
    | some j => exact .inr (hr j rfl).2), Nat.le_trans h.sz hg.size⟩
theorem PM.below (h : PM wr b n D A k c ps left cnt W) (hb : Below W.heap.size W W') (hlt : b < wr.heap.size) : PM wr b n D A k c ps left cnt W' := h.kept (Below.none_ hb) (fun j hj => by cases hj) hlt
theorem PM.alloc (h : PM wr b n D A k c ps left cnt W) (o : Obj) (hb : b < wr.heap.size) : PM wr b n D A k c ps left cnt (W.alloc o) := h.below (boxed W o) hb
/-- A number has come. -/
theorem PM.step (h : PM wr b n D A k c ps left cnt W) (hrg : W'.ranges Try.prog 3 bR b wr.heap.size n D left' cnt') (hg : W.grownBy W' (some wr.heap.size)) (hs : W'.heap.size = W.heap.size) : PM wr b n D A k c ps left' cnt' W' :=
  ⟨hrg, h.bel.grown hg h.bel.size (fun j hj => by cases hj; exact Nat.le_refl _), Go.World.ownsRow.kept h.row hg (by
    cases hv : (Value.slice A k c).ownBlock with
    | none => exact .inl rfl
    | some g => right; intro e; injection e with e; have := (h.row.lt g hv).1; omega), by rw [hs]; exact h.sz⟩
/-- A range within the range: its iterator is new. -/
theorem PM.inner {w2 : World} (h : PM wr b n D A k c ps left cnt W) (h2 : W.grownBy w2 none) (h3 : w2.grownBy W' (some W.heap.size)) (hb : b < wr.heap.size) : PM wr b n D A k c ps left cnt W' :=
  (h.kept h2 (fun j hj => by cases hj) hb).kept h3 (fun j hj => by
    cases hj
    refine ⟨h.sz, fun e => ?_⟩
    have := (h.row.lt _ e).2
    omega) hb
/-- A piece more. -/
theorem PM.had (h : PM wr b n D A k c ps left cnt W) {p : Rn} {A' : Option Addr} {c' : Nat} (ho : W'.ownsRow (wr.heap.size + 1) 34 3 (.slice A' (k + 1) c') (k + 1) (lcells ps ++ lcells [p])) (hg : W.grownBy W' (Value.slice A k c).ownBlock) (hb : b < wr.heap.size) :
    PM wr b n D A' (k + 1) c' (ps ++ [p]) left cnt W' :=
  ⟨h.rg.kept hg (fun e => by have := (h.row.lt b e.symm).1; omega) (fun e => by have := (h.row.lt _ e.symm).1; omega), below_grown h.bel h.row hg h.bel.size (Nat.le_succ _), by unfold OwnRn; rw [lcells_append]; exact ho, Nat.le_trans h.sz hg.size⟩
end
theorem ma_top : ∀ {l : List Rn}, Oks l → ∀ x, ma l x ≤ 4398046511104
  | [], _, x => by show (-1 : Int) ≤ _; omega
  | r :: l, h, x => by
    cases hi : inR r x with
    | true =>
      rw [ma_in hi]
      have h1 := inR_yes.1 hi
      obtain ⟨p1, p2, p3, p4, p5, p6⟩ := okR_yes.1 (h r (by simp))
      omega
    | false => rw [ma_out hi]; exact ma_top (fun y hy => h y (by simp [hy])) x
theorem one_run (w : World) (p : Rn) : Rns (w.alloc (.cells (rcells p).toArray 34)) (w.heap.size + 1) (some ⟨w.heap.size, 0, none⟩) 1 1 [p] :=
  Words.Rd.new w 34 _ (0, 0) _ 1 (by simp [lcells]) rfl (by unfold maxLen; omega)
end Go.Proofs.Ytfcihgincfcdkaa.Rns
