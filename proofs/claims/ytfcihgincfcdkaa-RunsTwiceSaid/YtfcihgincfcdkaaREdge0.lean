/-
  The edges of runs, in a map.
-/
import Derived.Test.YtfcihgincfcdkaaRRight
namespace Go.Proofs.Ytfcihgincfcdkaa.Rns
open Go.ChangeShapes Go.WideShapes Go.ChangeAt Go.RowKit Words
set_option linter.unusedVariables false

theorem key3 : Maps.Keyed Try.prog 3 := Maps.int_keyed Try.underlying3
theorem wf_of {q : Int} (h0 : -9223372036854775808 ≤ q) (h1 : q ≤ 9223372036854775807) : (Lit.int .i64 q).wf = true := WalkArith.wf_i64 (by omega)
/-- Block b is a map whose keys are the numbers of L. -/
def EMap (w : World) (b n : Nat) (L : List Int) : Prop := ∃ D : DataW Unit, w.ownsMap Try.prog 3 (plainElem Try.prog 4) b n D ∧ ∀ q : Int, Maps.has D (.int .i64 q) = true ↔ q ∈ L
section
variable {w w' : World} {b n : Nat} {L : List Int}
theorem EMap.new (w : World) : EMap (w.alloc (.map #[] 0)) w.heap.size 0 [] := ⟨_, World.ownsMap_made w Try.prog 3 _, fun q => by simp [Maps.has]⟩
theorem EMap.lt (h : EMap w b n L) : b < w.heap.size := by obtain ⟨D, h, _⟩ := h; exact h.lt
theorem EMap.kept {row : Option Nat} (h : EMap w b n L) (hg : w.grownBy w' row) (hne : some b ≠ row) : EMap w' b n L := by obtain ⟨D, h, h2⟩ := h; exact ⟨D, h.kept hg hne, h2⟩
theorem EMap.alloc (h : EMap w b n L) (o : Obj) : EMap (w.alloc o) b n L := by obtain ⟨D, h, h2⟩ := h; exact ⟨D, h.alloc o, h2⟩
theorem EMap.drew (h : EMap w b n L) : EMap w.drew b n L := by obtain ⟨D, h, h2⟩ := h; exact ⟨D, h.drew, h2⟩
theorem EMap.as {L' : List Int} (h : EMap w b n L) (e : ∀ q, q ∈ L ↔ q ∈ L') : EMap w b n L' := by obtain ⟨D, h, h2⟩ := h; exact ⟨D, h, fun q => (h2 q).trans (e q)⟩
theorem EMap.put (h : EMap w b n L) {q : Int} (hw : (Lit.int .i64 q).wf = true) (hn : n < maxLen) :
    ∃ w', (Instr.mapUpdate 48 (.map (some b)) (.int .i64 q) (.bool true)).run Try.prog w = .ok () w' ∧ EMap w' b (n + 1) (q :: L) ∧ w.grownBy w' (some b) := by
  obtain ⟨D, h, h2⟩ := h
  obtain ⟨w', hr, ho, hg⟩ := h.update (t := 48) (e := 4) key3 Try.underlying48 hn (Maps.keyOf_int_mk Try.underlying3 hw) (plainElem_bool Try.underlying4 true)
  refine ⟨w', hr, ⟨_, ho, fun y => ?_⟩, hg⟩
  by_cases hy : y = q
  · subst hy
    rw [Maps.has_put_same h.isMap (show WideAt.IsKeyLit (.int .i64 y) from trivial)]
    simp
  · rw [Maps.has_put_other (fun e => hy (by injection e)), h2 y, List.mem_cons]
    exact ⟨.inr, fun h => h.resolve_left hy⟩
end
/-- The edges of r and of the runs of l. -/
def Ed (l : List Rn) (r : Rn) : List Int := r.a :: (r.a + r.m) :: l.flatMap fun x => [x.a, x.a + x.m]
theorem ed_next {l : List Rn} {r x : Rn} {k : Nat} (hx : l[k]? = some x) : ∀ q, q ∈ (x.a + x.m) :: x.a :: Ed (l.take k) r ↔ q ∈ Ed (l.take (k + 1)) r := fun q => by
  rw [take_next hx]
  unfold Ed
  simp only [List.mem_cons, List.flatMap_append, List.mem_append, List.flatMap_cons, List.flatMap_nil, List.append_nil]
  constructor
  · rintro (h | h | h | h | h)
    · exact .inr (.inr (.inr (.inr (.inl h))))
    · exact .inr (.inr (.inr (.inl h)))
    · exact .inl h
    · exact .inr (.inl h)
    · exact .inr (.inr (.inl h))
  · rintro (h | h | h | h | h | h)
    · exact .inr (.inr (.inl h))
    · exact .inr (.inr (.inr (.inl h)))
    · exact .inr (.inr (.inr (.inr h)))
    · exact .inr (.inl h)
    · exact .inl h
    · cases h
structure MInv (w : World) (l : List Rn) (r : Rn) (k : Nat) (W : World) : Prop where
  bel : Below w.heap.size w W
  box : Whole W w.heap.size 34 (rcells r).toArray
  mp : EMap W (w.heap.size + 1) (2 + 2 * k) (Ed (l.take k) r)
theorem MInv.next {w W W' : World} {l : List Rn} {r x : Rn} {k : Nat} (h : MInv w l r k W) (hx : l[k]? = some x) (hm : EMap W' (w.heap.size + 1) (2 + 2 * k + 1 + 1) ((x.a + x.m) :: x.a :: Ed (l.take k) r)) (hg : W.grownBy W' (some (w.heap.size + 1))) : MInv w l r (k + 1) W' :=
  ⟨h.bel.grown hg h.bel.size (fun j hj => by cases hj; omega), by
    have := hg.block w.heap.size h.box.lt (fun e => by injection e with e; omega)
    exact this.trans h.box, hm.as (ed_next hx)⟩
/-- The head of the document's own answer: up to the map of the edges. -/
theorem MInv.alloc {w W : World} {l : List Rn} {r : Rn} {k : Nat} (h : MInv w l r k W) (o : Obj) : MInv w l r k (W.alloc o) := ⟨h.bel.alloc h.bel.size _, h.box.alloc o, h.mp.alloc o⟩
theorem MInv.drew {w W : World} {l : List Rn} {r : Rn} {k : Nat} (h : MInv w l r k W) : MInv w l r k W.drew := ⟨h.bel.drew, h.box, h.mp.drew⟩
theorem grown_drew' (w : World) (r : Option Nat) : w.grownBy w.drew r := ⟨rfl, rfl, rfl, Nat.le_refl _, fun _ _ _ => rfl⟩
end Go.Proofs.Ytfcihgincfcdkaa.Rns
