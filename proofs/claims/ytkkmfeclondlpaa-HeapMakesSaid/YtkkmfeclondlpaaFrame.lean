/-
  What an argument reads as: a list of blocks, a block; opened for a proof's frame, with its datum's size.
-/
import Derived.Test.YtkkmfeclondlpaaHas
import Derived.OpenShut
import Derived.SizedLaws
import Derived.Deep.Slices
import Derived.Lib.SmallJoins
namespace Go.Proofs.Ytkkmfeclondlpaa.Heap
open Go.ChangeShapes Go.WideShapes Go.ChangeAt Go.RowKit Words
set_option linter.unusedVariables false

section
variable {H : Type} {enc : TypeId × Value → H} {w : World} {base : Nat} {spare : Nat → Bool} {held : Bool} {fuel : Nat} {cs : List Value} {x : DataW H × List MemPlace}
theorem cells24 : Try.prog.cellsOf 24 = 2 := by kernel_rfl
theorem cells3 : Try.prog.cellsOf 3 = 1 := by kernel_rfl
theorem int_one {v : Value} (h : DataW.trod enc Try.prog w base spare held fuel 3 [v] = some x) : ∃ n, v = .int .i64 n := by
  obtain ⟨n, hc, _⟩ := DataW.trod_int Try.underlying3 h
  injection hc with hc
  exact ⟨n, hc⟩
theorem wn_of (h : DataW.trod enc Try.prog w base spare held fuel 24 cs = some x) : ∃ b : Wn, cs = wcells b := by
  obtain ⟨ys, n, _, _, hlen, hyl, hf⟩ := DataW.trod_struct Try.underlying24 h
  rw [cells24] at hlen
  match cs, hlen, ys, hyl with
  | [c0, c1], _, [y0, y1], _ =>
    have h0 : DataW.trod enc Try.prog w base spare held n 3 (([c0, c1].drop 0).take (Try.prog.cellsOf 3)) = some y0 := hf 0 _ rfl
    have h1 : DataW.trod enc Try.prog w base spare held n 3 (([c0, c1].drop 1).take (Try.prog.cellsOf 3)) = some y1 := hf 1 _ rfl
    rw [cells3] at h0 h1
    obtain ⟨a, rfl⟩ := int_one (show DataW.trod enc Try.prog w base spare held n 3 [c0] = some y0 from h0)
    obtain ⟨b, rfl⟩ := int_one (show DataW.trod enc Try.prog w base spare held n 3 [c1] = some y1 from h1)
    exact ⟨⟨a, b⟩, rfl⟩
end
theorem open_hp {H : Type} {enc : TypeId × Value → H} {W : World} {a : Option Addr} {len cap : Nat} {d : DataW H} {p : List MemPlace} (h : DataW.Trod enc Try.prog W 0 (fun _ => true) true 22 (.slice a len cap) d p) :
    (∃ l, Hp W W.heap.size a len cap l) ∧ Datum d cap := by
  obtain ⟨fuel, hf⟩ := h
  rcases Go.Deep.open_slice Try.underlying22 hf with ⟨hcs, hx⟩ | ⟨x, l, c, m, n, D, Pl, hcs, _, hl, hm, hmm, hx, hi⟩
  · simp [Value.cells] at hcs
    obtain ⟨rfl, rfl, rfl⟩ := hcs
    injection hx with hx _
    exact ⟨⟨[], Words.Rd.nil_ _ _ _⟩, .inl ⟨hx, rfl⟩⟩
  · simp [Value.cells] at hcs
    obtain ⟨rfl, rfl, rfl⟩ := hcs
    injection hx with hx _
    simp only [if_true] at hmm
    subst hmm
    rw [cells24] at hi
    have each : ∀ i, i < len → ∃ b : Wn, ∀ r, r < 2 → W.cell? (x.add (i * 2 + r)) = (wcells b)[r]? := fun i hil => by
      obtain ⟨cs', hc, ht⟩ := hi i (by omega)
      obtain ⟨b, rfl⟩ := wn_of ht
      obtain ⟨_, _, hat⟩ := World.cells?_some hc
      exact ⟨b, fun r hr => by rw [← Go.Deep.add_add]; exact hat r hr⟩
    obtain ⟨g, hg⟩ := Go.Deep.choose_lt each
    refine ⟨⟨(List.range len).map g, ?_⟩, .inr ⟨_, _, hx, by simp; omega⟩⟩
    unfold Hp hcells
    rw [flat_range]
    exact rd_of (by omega) _ hl hm (fun i => wcells_length _) fun i hi' r hr => hg i hi' r hr
theorem open_wn {H : Type} {enc : TypeId × Value → H} {W : World} {v : Value} {d : DataW H} {p : List MemPlace} {r : Reach} {b0 : Nat} (hv : Value.okWide Try.prog W r b0 24 v) (h : DataW.Trod enc Try.prog W 0 (fun _ => true) true 24 v d p) : ∃ o : Wn, v = wval o := by
  obtain ⟨cs, rfl, hsz⟩ := okWide_struct Try.underlying24 hv
  obtain ⟨fuel, hf⟩ := h
  obtain ⟨o, ho⟩ := wn_of hf
  refine ⟨o, ?_⟩
  obtain ⟨l⟩ := cs
  simp only [Value.cells] at ho
  rw [ho]
  rfl
theorem bytes24 : Try.prog.bytesOf 24 = 16 := by kernel_rfl
theorem reach_hp {H : Type} {ts : List TypeId} {ds : List (DataW H)} (h : (DataW.weightsEach Try.prog ts ds).all (· ≤ reachBytes) = true) {j : Nat} {cap : Nat} {d : DataW H} (ht : ts[j]? = some 22) (hd : ds[j]? = some d) (hc : Datum d cap) : cap * 16 ≤ 140737488351232 := by
  have := reach_of h ht hd Try.underlying22 hc
  rw [bytes24] at this
  simpa only [reachBytes] using this
theorem small_of {w : World} {B n c : Nat} {A : Option Addr} {l : List Wn} (h : Hp w B A n c l) (r : c * 16 ≤ 140737488351232) : Small n := by
  have := Words.Rd.le h
  unfold Small
  omega
end Go.Proofs.Ytkkmfeclondlpaa.Heap
