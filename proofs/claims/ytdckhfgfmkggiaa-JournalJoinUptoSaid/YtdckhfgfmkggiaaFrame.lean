/-
  What an argument reads as: a text, a list of texts; opened for a proof's frame, with its datum's size.
-/
import Derived.Test.YtdckhfgfmkggiaaRows
import Derived.Test.YtdckhfgfmkggiaaLawG
import Derived.OpenShut
import Derived.SizedLaws
import Derived.Deep.Grids
import Derived.Deep.Matrix
namespace Go.Proofs.Ytdckhfgfmkggiaa.Jrn
open Go.ChangeShapes Go.WideShapes Go.ChangeAt Go.RowKit Words
set_option linter.unusedVariables false

theorem bytes5 : Try.prog.bytesOf 5 = 1 := by kernel_rfl
theorem open_txt {H : Type} {enc : TypeId × Value → H} {W : World} {a : Option Addr} {len cap : Nat} {d : DataW H} {p : List MemPlace} (h : DataW.Trod enc Try.prog W 0 (fun _ => true) true 22 (.slice a len cap) d p) :
    (∃ l, Txt W W.heap.size a len cap l) ∧ Datum d cap := by
  obtain ⟨fuel, hf⟩ := h
  rcases open_ints Try.underlying22 Try.underlying5 (by kernel_rfl) hf with ⟨hcs, hx⟩ | ⟨x, l, c, zs, hcs, _, hl, hm, hz, hx, hcell, hwz⟩
  · simp [Value.cells] at hcs
    obtain ⟨rfl, rfl, rfl⟩ := hcs
    injection hx with hx _
    exact ⟨⟨[], Rd.nil_ _ _ _⟩, .inl ⟨hx, rfl⟩⟩
  · simp [Value.cells] at hcs
    obtain ⟨rfl, rfl, rfl⟩ := hcs
    simp only [if_true] at hz
    simp only [Prod.mk.injEq] at hx
    obtain ⟨rfl, _⟩ := hx
    refine ⟨IsRow.txt (.inr ⟨_, rfl, hl, hm, hz, hcell, hwz⟩), .inr ⟨_, _, rfl, ?_⟩⟩
    simp only [lits, List.length_map, List.length_take, List.length_drop]
    omega
theorem txt_of {w : World} {A : Option Addr} {L C : Nat} {zs : List Int} (h1 : L ≤ C) (h2 : C ≤ maxLen) (h3 : zs.length = C) (h4 : ∀ n ∈ zs, (Lit.int .u8 n).wf = true) (h5 : A = none → C = 0) (h6 : ∀ a', A = some a' → ∀ c, c < C → w.cell? (a'.add c) = some (.int .u8 (zs.getD c 0))) :
    ∃ l, Txt w w.heap.size A L C l := by
  cases A with
  | none =>
    have := h5 rfl
    exact ⟨[], ⟨by rw [bcells_length]; simp; omega, h1, h2, fun _ => this, fun h => absurd h (by omega)⟩⟩
  | some a' => exact IsRow.txt (.inr ⟨a', rfl, h1, h2, h3, fun i hi => h6 a' rfl i (by omega), h4⟩)
theorem open_rows {H : Type} {enc : TypeId × Value → H} {W : World} {a : Option Addr} {len cap : Nat} {d : DataW H} {p : List MemPlace} (h : DataW.Trod enc Try.prog W 0 (fun _ => true) true 26 (.slice a len cap) d p) :
    (∃ vs ls, Grid W W.heap.size a len cap vs ls) ∧ Datum d cap := by
  obtain ⟨fuel, hf⟩ := h
  rcases Go.Deep.open_int_rows Try.underlying26 Try.underlying22 Try.underlying5 (by kernel_rfl) (by kernel_rfl) hf with ⟨hcs, hx⟩ | ⟨x, l, c, A, L, C, Z, hcs, _, hl, hm, hx, hcell⟩
  · simp [Value.cells] at hcs
    obtain ⟨rfl, rfl, rfl⟩ := hcs
    injection hx with hx _
    exact ⟨⟨[], [], ⟨Rd.nil_ _ _ _, rfl, fun j v l h => by simp at h⟩⟩, .inl ⟨hx, rfl⟩⟩
  · simp [Value.cells] at hcs
    obtain ⟨rfl, rfl, rfl⟩ := hcs
    injection hx with hx _
    have each : ∀ r, r < len → ∃ t, Txt W W.heap.size (A r) (L r) (C r) t := fun r hr => by
      obtain ⟨_, h1, h2, h3, h4, h5, h6⟩ := hcell r (by omega)
      exact txt_of h1 h2 h3 h4 h5 fun a' e => (h6 a' e).2
    obtain ⟨T, hT⟩ := Go.Deep.choose_lt each
    refine ⟨⟨(List.range len).map fun r => (A r, L r, C r), (List.range len).map T, ⟨⟨by simp [svals], hl, hm, (fun h => by cases h), fun hn => ?_⟩, by simp, fun j v t hv ht => ?_⟩⟩, .inr ⟨_, _, hx, by simp; omega⟩⟩
    · obtain ⟨b, o, spot⟩ := x
      have hspot : spot = none := by simpa [Addr.add] using World.cell?_spot (hcell 0 (by omega)).1
      subst hspot
      have hc' : ∀ i, i < cap → W.cell? ⟨b, o + i, none⟩ = some (.slice (A i) (L i) (C i)) := fun i hi => by rw [← Go.WideShapes.add_plain]; exact (hcell i hi).1
      refine ⟨b, o, rfl, World.block_lt_of_cell? W _ (hc' 0 (by omega)), fun j u hu => ?_⟩
      have hj := (List.getElem?_eq_some_iff.1 hu).1
      simp [svals] at hj
      rw [hc' j (by omega), ← hu]
      simp [svals, sval, hj]
    · have hj := (List.getElem?_eq_some_iff.1 hv).1
      simp at hj
      simp [hj] at hv ht
      subst hv ht
      exact hT j hj
theorem bytes22 : Try.prog.bytesOf 22 = 24 := by kernel_rfl
theorem reach_txt {H : Type} {ts : List TypeId} {ds : List (DataW H)} (h : (DataW.weightsEach Try.prog ts ds).all (· ≤ reachBytes) = true) {j : Nat} {cap : Nat} {d : DataW H} (ht : ts[j]? = some 22) (hd : ds[j]? = some d) (hc : Datum d cap) : cap ≤ 140737488351232 := by
  have := reach_of h ht hd Try.underlying22 hc
  rw [bytes5 ] at this
  simp only [reachBytes] at this
  omega
theorem reach_rows {H : Type} {ts : List TypeId} {ds : List (DataW H)} (h : (DataW.weightsEach Try.prog ts ds).all (· ≤ reachBytes) = true) {j : Nat} {cap : Nat} {d : DataW H} (ht : ts[j]? = some 26) (hd : ds[j]? = some d) (hc : Datum d cap) : cap * 24 ≤ 140737488351232 := by
  have := reach_of h ht hd Try.underlying26 hc
  rw [bytes22] at this
  simpa only [reachBytes] using this
/-! ### what the second form's bound gives -/
theorem one_bulk {H : Type} (d : DataW H) : 1 ≤ Rows.uptoBulk d := by
  cases d with
  | lit l => cases l <;> simp [Rows.uptoBulk]
  | _ => simp [Rows.uptoBulk]
theorem bulk_mem {H : Type} {d : DataW H} : ∀ {l : List (DataW H)}, d ∈ l → Rows.uptoBulk d ≤ Rows.uptoBulkAll l
  | x :: r, h => by
    simp only [Rows.uptoBulkAll]
    rcases List.mem_cons.1 h with rfl | h
    · omega
    · have := bulk_mem h; omega
theorem bulk_length {H : Type} : ∀ l : List (DataW H), l.length ≤ Rows.uptoBulkAll l
  | [] => by simp [Rows.uptoBulkAll]
  | x :: r => by have h1 := one_bulk x; have h2 := bulk_length r; simp only [Rows.uptoBulkAll, List.length_cons]; omega
theorem bulk_cap {H : Type} {l : List (DataW H)} (hk : Rows.uptoSmall H l = true) {d : DataW H} (hd : d ∈ l) {cap : Nat} (hc : Datum d cap) : cap ≤ 1048576 := by
  have h : Rows.uptoBulkAll l ≤ 1048576 := of_decide_eq_true hk
  have h1 := bulk_mem hd
  rcases hc with ⟨_, rfl⟩ | ⟨el, sp, rfl, rfl⟩
  · omega
  · have h2 := bulk_length el
    have h3 := bulk_length sp
    simp only [Rows.uptoBulk] at h1
    omega
end Go.Proofs.Ytdckhfgfmkggiaa.Jrn
