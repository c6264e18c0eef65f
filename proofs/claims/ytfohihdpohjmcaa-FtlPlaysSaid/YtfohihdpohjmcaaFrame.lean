/-
  What an argument reads as: a list of operations, an operation, a list of numbers; opened for a proof's frame, with its datum's size.
-/
import Derived.Test.YtfohihdpohjmcaaEqs
import Derived.OpenShut
import Derived.SizedLaws
import Derived.Deep.Slices
import Derived.Deep.CondSized
import Derived.Lib.SmallJoins
namespace Go.Proofs.Ytfohihdpohjmcaa.Ftl
open Go.ChangeShapes Go.WideShapes Go.ChangeAt Go.RowKit Words
set_option linter.unusedVariables false

abbrev Nop := Fop
instance : Inhabited Fop := ⟨⟨0, 0, 0⟩⟩
/-- .. whose numbers are numbers. -/
def OpsW (w : World) (B : Nat) (A : Option Addr) (n c : Nat) (l : List Fop) : Prop := Ops w B A n c l ∧ ∀ o ∈ l, Wf o
def IntsW (w : World) (B : Nat) (A : Option Addr) (n c : Nat) (l : List Int) : Prop := Ints w B A n c l ∧ ∀ x ∈ l, (Lit.int .i64 x).wf = true
section
variable {H : Type} {enc : TypeId × Value → H} {w : World} {base : Nat} {spare : Nat → Bool} {held : Bool} {fuel : Nat} {cs : List Value} {x : DataW H × List MemPlace}
theorem cells37 : Try.prog.cellsOf 37 = 3 := by kernel_rfl
theorem cells3 : Try.prog.cellsOf 3 = 1 := by kernel_rfl
theorem int_one {v : Value} (h : DataW.trod enc Try.prog w base spare held fuel 3 [v] = some x) : ∃ n, v = .int .i64 n ∧ (Lit.int .i64 n).wf = true := by
  obtain ⟨n, hc, _, hw⟩ := DataW.trod_int Try.underlying3 h
  injection hc with hc
  exact ⟨n, hc, hw⟩
theorem ints_one (h : DataW.trod enc Try.prog w base spare held fuel 3 cs = some x) : ∃ n, cs = [.int .i64 n] ∧ (Lit.int .i64 n).wf = true := by
  obtain ⟨n, hc, _, hw⟩ := DataW.trod_int Try.underlying3 h
  exact ⟨n, hc, hw⟩
theorem fop_of (h : DataW.trod enc Try.prog w base spare held fuel 37 cs = some x) : ∃ b : Fop, cs = ocells b ∧ Wf b := by
  obtain ⟨ys, n, _, _, hlen, hyl, hf⟩ := DataW.trod_struct Try.underlying37 h
  rw [cells37] at hlen
  match cs, hlen, ys, hyl with
  | [c0, c1, c2], _, [y0, y1, y2], _ =>
    have h0 : DataW.trod enc Try.prog w base spare held n 3 (([c0, c1, c2].drop 0).take (Try.prog.cellsOf 3)) = some y0 := hf 0 _ rfl
    have h1 : DataW.trod enc Try.prog w base spare held n 3 (([c0, c1, c2].drop 1).take (Try.prog.cellsOf 3)) = some y1 := hf 1 _ rfl
    have h2 : DataW.trod enc Try.prog w base spare held n 3 (([c0, c1, c2].drop 2).take (Try.prog.cellsOf 3)) = some y2 := hf 2 _ rfl
    rw [cells3] at h0 h1 h2
    obtain ⟨a, rfl, wa⟩ := int_one (show DataW.trod enc Try.prog w base spare held n 3 [c0] = some y0 from h0)
    obtain ⟨b, rfl, wb⟩ := int_one (show DataW.trod enc Try.prog w base spare held n 3 [c1] = some y1 from h1)
    obtain ⟨c, rfl, wc⟩ := int_one (show DataW.trod enc Try.prog w base spare held n 3 [c2] = some y2 from h2)
    exact ⟨⟨a, b, c⟩, rfl, wa, wb, wc⟩
end
theorem open_ops {H : Type} {enc : TypeId × Value → H} {W : World} {a : Option Addr} {len cap : Nat} {d : DataW H} {p : List MemPlace} (h : DataW.Trod enc Try.prog W 0 (fun _ => true) true 22 (.slice a len cap) d p) :
    (∃ l, OpsW W W.heap.size a len cap l) ∧ Datum d cap := by
  obtain ⟨fuel, hf⟩ := h
  rcases Go.Deep.open_slice Try.underlying22 hf with ⟨hcs, hx⟩ | ⟨x, l, c, m, n, D, Pl, hcs, _, hl, hm, hmm, hx, hi⟩
  · simp [Value.cells] at hcs
    obtain ⟨rfl, rfl, rfl⟩ := hcs
    injection hx with hx _
    exact ⟨⟨[], Words.Rd.nil_ _ _ _, fun x h => by simp at h⟩, .inl ⟨hx, rfl⟩⟩
  · simp [Value.cells] at hcs
    obtain ⟨rfl, rfl, rfl⟩ := hcs
    injection hx with hx _
    simp only [if_true] at hmm
    subst hmm
    rw [cells37] at hi
    have each : ∀ i, i < len → ∃ b : Fop, (∀ r, r < 3 → W.cell? (x.add (i * 3 + r)) = (ocells b)[r]?) ∧ Wf b := fun i hil => by
      obtain ⟨cs', hc, ht⟩ := hi i (by omega)
      obtain ⟨b, rfl, hwb⟩ := fop_of ht
      obtain ⟨_, _, hat⟩ := World.cells?_some hc
      exact ⟨b, fun r hr => by rw [← Go.Deep.add_add]; exact hat r hr, hwb⟩
    obtain ⟨g, hg⟩ := Go.Deep.choose_lt each
    refine ⟨⟨(List.range len).map g, ?_, fun o ho => ?_⟩, .inr ⟨_, _, hx, by simp; omega⟩⟩
    · unfold Ops pcells
      rw [flat_range]
      exact rd_of (by omega) _ hl hm (fun i => ocells_length _) fun i hi' r hr => (hg i hi').1 r hr
    · obtain ⟨i, hi', rfl⟩ := List.mem_map.1 ho
      exact (hg i (List.mem_range.1 hi')).2
theorem icells_flat (l : List Int) : icells l = l.flatMap fun b => [Value.int .i64 b] := by
  induction l with
  | nil => rfl
  | cons a l ih => rw [List.flatMap_cons, ← ih]; rfl
theorem open_ints {H : Type} {enc : TypeId × Value → H} {W : World} {a : Option Addr} {len cap : Nat} {d : DataW H} {p : List MemPlace} (h : DataW.Trod enc Try.prog W 0 (fun _ => true) true 24 (.slice a len cap) d p) :
    (∃ l, IntsW W W.heap.size a len cap l) ∧ Datum d cap := by
  obtain ⟨fuel, hf⟩ := h
  rcases Go.Deep.open_slice Try.underlying24 hf with ⟨hcs, hx⟩ | ⟨x, l, c, m, n, D, Pl, hcs, _, hl, hm, hmm, hx, hi⟩
  · simp [Value.cells] at hcs
    obtain ⟨rfl, rfl, rfl⟩ := hcs
    injection hx with hx _
    exact ⟨⟨[], Words.Rd.nil_ _ _ _, fun x h => by simp at h⟩, .inl ⟨hx, rfl⟩⟩
  · simp [Value.cells] at hcs
    obtain ⟨rfl, rfl, rfl⟩ := hcs
    injection hx with hx _
    simp only [if_true] at hmm
    subst hmm
    rw [cells3] at hi
    have each : ∀ i, i < len → ∃ b : Int, (∀ r, r < 1 → W.cell? (x.add (i * 1 + r)) = ([Value.int .i64 b])[r]?) ∧ (Lit.int .i64 b).wf = true := fun i hil => by
      obtain ⟨cs', hc, ht⟩ := hi i (by omega)
      obtain ⟨b, rfl, hwb⟩ := ints_one ht
      obtain ⟨_, _, hat⟩ := World.cells?_some hc
      exact ⟨b, fun r hr => by rw [← Go.Deep.add_add]; exact hat r hr, hwb⟩
    obtain ⟨g, hg⟩ := Go.Deep.choose_lt each
    refine ⟨⟨(List.range len).map g, ?_, fun o ho => ?_⟩, .inr ⟨_, _, hx, by simp; omega⟩⟩
    · unfold Ints
      rw [icells_flat, flat_range]
      exact rd_of (by omega) _ hl hm (fun i => rfl) fun i hi' r hr => (hg i hi').1 r hr
    · obtain ⟨i, hi', rfl⟩ := List.mem_map.1 ho
      exact (hg i (List.mem_range.1 hi')).2
theorem bytes37 : Try.prog.bytesOf 37 = 24 := by kernel_rfl
theorem reach_ops {H : Type} {ts : List TypeId} {ds : List (DataW H)} (h : (DataW.weightsEach Try.prog ts ds).all (· ≤ reachBytes) = true) {j : Nat} {cap : Nat} {d : DataW H} (ht : ts[j]? = some 22) (hd : ds[j]? = some d) (hc : Datum d cap) : cap * 24 ≤ 140737488351232 := by
  have := reach_of h ht hd Try.underlying22 hc
  rw [bytes37] at this
  simpa only [reachBytes] using this
end Go.Proofs.Ytfohihdpohjmcaa.Ftl
