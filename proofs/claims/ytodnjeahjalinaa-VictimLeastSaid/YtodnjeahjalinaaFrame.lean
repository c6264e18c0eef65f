/-
  What an argument reads as: a list of blocks; opened for a proof's frame, with its datum's size.
-/
import Derived.Test.YtodnjeahjalinaaWalks
import Derived.OpenShut
import Derived.SizedLaws
import Derived.Deep.Slices
import Derived.Lib.SmallJoins
namespace Go.Proofs.Ytodnjeahjalinaa.Vic
open Go.ChangeShapes Go.WideShapes Go.ChangeAt Go.RowKit Words
set_option linter.unusedVariables false

section
variable {H : Type} {enc : TypeId × Value → H} {w : World} {base : Nat} {spare : Nat → Bool} {held : Bool} {fuel : Nat} {cs : List Value} {x : DataW H × List MemPlace}
theorem cells28 : Try.prog.cellsOf 28 = 3 := by kernel_rfl
theorem cells3 : Try.prog.cellsOf 3 = 1 := by kernel_rfl
theorem int_one {v : Value} (h : DataW.trod enc Try.prog w base spare held fuel 3 [v] = some x) : ∃ n, v = .int .i64 n := by
  obtain ⟨n, hc, _⟩ := DataW.trod_int Try.underlying3 h
  injection hc with hc
  exact ⟨n, hc⟩
theorem fil_of (h : DataW.trod enc Try.prog w base spare held fuel 28 cs = some x) : ∃ b : Fil, cs = fcells b := by
  obtain ⟨ys, n, _, _, hlen, hyl, hf⟩ := DataW.trod_struct Try.underlying28 h
  rw [cells28] at hlen
  match cs, hlen, ys, hyl with
  | [c0, c1, c2], _, [y0, y1, y2], _ =>
    have h0 : DataW.trod enc Try.prog w base spare held n 3 (([c0, c1, c2].drop 0).take (Try.prog.cellsOf 3)) = some y0 := hf 0 _ rfl
    have h1 : DataW.trod enc Try.prog w base spare held n 3 (([c0, c1, c2].drop 1).take (Try.prog.cellsOf 3)) = some y1 := hf 1 _ rfl
    have h2 : DataW.trod enc Try.prog w base spare held n 3 (([c0, c1, c2].drop 2).take (Try.prog.cellsOf 3)) = some y2 := hf 2 _ rfl
    rw [cells3] at h0 h1 h2
    obtain ⟨a, rfl⟩ := int_one (show DataW.trod enc Try.prog w base spare held n 3 [c0] = some y0 from h0)
    obtain ⟨b, rfl⟩ := int_one (show DataW.trod enc Try.prog w base spare held n 3 [c1] = some y1 from h1)
    obtain ⟨c, rfl⟩ := int_one (show DataW.trod enc Try.prog w base spare held n 3 [c2] = some y2 from h2)
    exact ⟨⟨a, b, c⟩, rfl⟩
end
theorem open_fl {H : Type} {enc : TypeId × Value → H} {W : World} {a : Option Addr} {len cap : Nat} {d : DataW H} {p : List MemPlace} (h : DataW.Trod enc Try.prog W 0 (fun _ => true) true 22 (.slice a len cap) d p) :
    (∃ l, Fl W W.heap.size a len cap l) ∧ Datum d cap := by
  obtain ⟨fuel, hf⟩ := h
  rcases Go.Deep.open_slice Try.underlying22 hf with ⟨hcs, hx⟩ | ⟨x, l, c, m, n, D, Pl, hcs, _, hl, hm, hmm, hx, hi⟩
  · simp [Value.cells] at hcs
    obtain ⟨rfl, rfl, rfl⟩ := hcs
    injection hx with hx _
    exact ⟨⟨[], Words.Rd.nil_ _ _ _⟩, .inl ⟨hx, rfl⟩⟩
  · simp [Value.cells] at hcs
    obtain ⟨rfl, rfl, rfl⟩ := hcs
    injection hx with hx _
    simp only [if_true] at hmm
    subst hmm
    rw [cells28] at hi
    have each : ∀ i, i < len → ∃ b : Fil, ∀ r, r < 3 → W.cell? (x.add (i * 3 + r)) = (fcells b)[r]? := fun i hil => by
      obtain ⟨cs', hc, ht⟩ := hi i (by omega)
      obtain ⟨b, rfl⟩ := fil_of ht
      obtain ⟨_, _, hat⟩ := World.cells?_some hc
      exact ⟨b, fun r hr => by rw [← Go.Deep.add_add]; exact hat r hr⟩
    obtain ⟨g, hg⟩ := Go.Deep.choose_lt each
    refine ⟨⟨(List.range len).map g, ?_⟩, .inr ⟨_, _, hx, by simp; omega⟩⟩
    unfold Fl lcells
    rw [flat_range]
    exact rd_of (by omega) _ hl hm (fun i => fcells_length _) fun i hi' r hr => hg i hi' r hr
theorem bytes28 : Try.prog.bytesOf 28 = 24 := by kernel_rfl
theorem reach_fl {H : Type} {ts : List TypeId} {ds : List (DataW H)} (h : (DataW.weightsEach Try.prog ts ds).all (· ≤ reachBytes) = true) {j : Nat} {cap : Nat} {d : DataW H} (ht : ts[j]? = some 22) (hd : ds[j]? = some d) (hc : Datum d cap) : cap * 24 ≤ 140737488351232 := by
  have := reach_of h ht hd Try.underlying22 hc
  rw [bytes28] at this
  simpa only [reachBytes] using this
end Go.Proofs.Ytodnjeahjalinaa.Vic
