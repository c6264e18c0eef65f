/-
  What an argument reads as: a list of entries, an entry by value, a name; opened for a proof's frame, with its datum's size.
-/
import Derived.Test.YtiagbacmjiimpaaRows
import Derived.Test.YtiagbacmjiimpaaECon
import Derived.OpenShut
import Derived.SizedLaws
import Derived.Deep.Slices
import Derived.Deep.CondSized
import Derived.Lib.SmallJoins
namespace Go.Proofs.Ytiagbacmjiimpaa.Dir
open Go.ChangeShapes Go.WideShapes Go.ChangeAt Go.RowKit Words
set_option linter.unusedVariables false

/-- A list of entries that came in. -/
structure Fl (w : World) (B : Nat) (A : Option Addr) (n c : Nat) (l : List En) : Prop where
  rd : Ens w B A n c l
  wf : WfE l
section
variable {H : Type} {enc : TypeId × Value → H} {w : World} {base : Nat} {spare : Nat → Bool} {held : Bool} {fuel : Nat} {cs : List Value} {x : DataW H × List MemPlace}
theorem cells24 : Try.prog.cellsOf 24 = 2 := by kernel_rfl
theorem cells3 : Try.prog.cellsOf 3 = 1 := by kernel_rfl
theorem cells9 : Try.prog.cellsOf 9 = 1 := by kernel_rfl
theorem int_one {v : Value} (h : DataW.trod enc Try.prog w base spare held fuel 3 [v] = some x) : ∃ n, v = .int .i64 n := by
  obtain ⟨n, hc, _⟩ := DataW.trod_int Try.underlying3 h
  injection hc with hc
  exact ⟨n, hc⟩
theorem is_str (s : ByteArray) : s = str s.data.toList := by cases s; rfl
theorem str_one {v : Value} (h : DataW.trod enc Try.prog w base spare held fuel 9 [v] = some x) : ∃ n : List UInt8, v = .string (str n) ∧ n.length ≤ maxLen := by
  obtain ⟨s, hc, _, hs⟩ := DataW.trod_string Try.underlying9 h
  injection hc with hc
  refine ⟨s.data.toList, by rw [hc, ← is_str], ?_⟩
  have : s.data.toList.length = s.size := by cases s; rfl
  omega
theorem en_of (h : DataW.trod enc Try.prog w base spare held fuel 24 cs = some x) : ∃ b : En, cs = ecells b ∧ b.n.length ≤ maxLen := by
  obtain ⟨ys, n, _, _, hlen, hyl, hf⟩ := DataW.trod_struct Try.underlying24 h
  rw [cells24] at hlen
  match cs, hlen, ys, hyl with
  | [c0, c1], _, [y0, y1], _ =>
    have h0 : DataW.trod enc Try.prog w base spare held n 9 (([c0, c1].drop 0).take (Try.prog.cellsOf 9)) = some y0 := hf 0 _ rfl
    have h1 : DataW.trod enc Try.prog w base spare held n 3 (([c0, c1].drop 1).take (Try.prog.cellsOf 3)) = some y1 := hf 1 _ rfl
    rw [cells9] at h0
    rw [cells3] at h1
    obtain ⟨a, rfl, hw⟩ := str_one (show DataW.trod enc Try.prog w base spare held n 9 [c0] = some y0 from h0)
    obtain ⟨b, rfl⟩ := int_one (show DataW.trod enc Try.prog w base spare held n 3 [c1] = some y1 from h1)
    exact ⟨⟨a, b⟩, rfl, hw⟩
end
theorem open_fl {H : Type} {enc : TypeId × Value → H} {W : World} {a : Option Addr} {len cap : Nat} {d : DataW H} {p : List MemPlace} (h : DataW.Trod enc Try.prog W 0 (fun _ => true) true 22 (.slice a len cap) d p) :
    (∃ l, Fl W W.heap.size a len cap l) ∧ Datum d cap := by
  obtain ⟨fuel, hf⟩ := h
  rcases Go.Deep.open_slice Try.underlying22 hf with ⟨hcs, hx⟩ | ⟨x, l, c, m, n, D, Pl, hcs, _, hl, hm, hmm, hx, hi⟩
  · simp [Value.cells] at hcs
    obtain ⟨rfl, rfl, rfl⟩ := hcs
    injection hx with hx _
    exact ⟨⟨[], Words.Rd.nil_ _ _ _, wf_nil⟩, .inl ⟨hx, rfl⟩⟩
  · simp [Value.cells] at hcs
    obtain ⟨rfl, rfl, rfl⟩ := hcs
    injection hx with hx _
    simp only [if_true] at hmm
    subst hmm
    rw [cells24] at hi
    have each : ∀ i, i < len → ∃ b : En, (∀ r, r < 2 → W.cell? (x.add (i * 2 + r)) = (ecells b)[r]?) ∧ b.n.length ≤ maxLen := fun i hil => by
      obtain ⟨cs', hc, ht⟩ := hi i (by omega)
      obtain ⟨b, rfl, hb⟩ := en_of ht
      obtain ⟨_, _, hat⟩ := World.cells?_some hc
      exact ⟨b, fun r hr => by rw [← Go.Deep.add_add]; exact hat r hr, hb⟩
    haveI : Inhabited En := ⟨⟨[], 0⟩⟩
    obtain ⟨g, hg⟩ := Go.Deep.choose_lt each
    refine ⟨⟨(List.range len).map g, ?_, fun y hy => ?_⟩, .inr ⟨_, _, hx, by simp; omega⟩⟩
    · unfold Ens lcells
      rw [flat_range]
      exact rd_of (by omega) _ hl hm (fun i => ecells_length _) fun i hi' r hr => (hg i hi').1 r hr
    · obtain ⟨i, hi1, rfl⟩ := List.mem_map.1 hy
      exact (hg i (List.mem_range.1 hi1)).2
theorem open_en {H : Type} {enc : TypeId × Value → H} {W : World} {v : Value} {d : DataW H} {p : List MemPlace} {r : Reach} {b0 : Nat} (hv : Value.okWide Try.prog W r b0 24 v) (h : DataW.Trod enc Try.prog W 0 (fun _ => true) true 24 v d p) : ∃ o : En, o.n.length ≤ maxLen ∧ v = eval_ o := by
  obtain ⟨cs, rfl, hsz⟩ : ∃ cs : Array Value, v = .agg cs ∧ cs.size = Try.prog.cellsOf 24 := by
    simp only [Value.okWide, Try.underlying24] at hv
    obtain ⟨cs, h1, h2, _⟩ := hv
    exact ⟨cs, h1, h2⟩
  obtain ⟨fuel, hf⟩ := h
  obtain ⟨o, he, hw⟩ := en_of hf
  refine ⟨o, hw, ?_⟩
  obtain ⟨c⟩ := cs
  simp only [Value.cells] at he
  unfold eval_
  rw [he]; rfl
theorem open_str {H : Type} {enc : TypeId × Value → H} {W : World} {v : Value} {d : DataW H} {p : List MemPlace} {r : Reach} {b0 : Nat} (hv : Value.okWide Try.prog W r b0 9 v) (h : DataW.Trod enc Try.prog W 0 (fun _ => true) true 9 v d p) : ∃ t : List UInt8, t.length ≤ maxLen ∧ v = .string (str t) := by
  obtain ⟨s, rfl, _, _, hs⟩ := Go.ChangeMaps.open_string Try.underlying9 hv h
  refine ⟨s.data.toList, ?_, by rw [← is_str]⟩
  have : s.data.toList.length = s.size := by cases s; rfl
  omega
theorem bytes24 : Try.prog.bytesOf 24 = 24 := by kernel_rfl
theorem reach_fl {H : Type} {ts : List TypeId} {ds : List (DataW H)} (h : (DataW.weightsEach Try.prog ts ds).all (· ≤ reachBytes) = true) {j : Nat} {cap : Nat} {d : DataW H} (ht : ts[j]? = some 22) (hd : ds[j]? = some d) (hc : Datum d cap) : cap * 24 ≤ 140737488351232 := by
  have := reach_of h ht hd Try.underlying22 hc
  rw [bytes24] at this
  simpa only [reachBytes] using this
end Go.Proofs.Ytiagbacmjiimpaa.Dir
