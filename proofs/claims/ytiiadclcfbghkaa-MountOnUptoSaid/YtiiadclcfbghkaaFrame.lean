/-
  What an argument reads as: a list of pages, a list of numbers, sixteen numbers by value; opened for a proof's frame, with its datum's size.
-/
import Derived.Test.YtiiadclcfbghkaaRows
import Derived.Test.YtiiadclcfbghkaaCuts
import Derived.OpenShut
import Derived.SizedLaws
import Derived.Deep.Slices
import Derived.Deep.CondSized
import Derived.Lib.SmallJoins
namespace Go.Proofs.Ytiiadclcfbghkaa.Mnt
open Go.ChangeShapes Go.WideShapes Go.ChangeAt Go.RowKit Words
set_option linter.unusedVariables false

abbrev Nop := Pg
/-- A list of pages that came in. -/
structure PgsW (w : World) (B : Nat) (A : Option Addr) (n c : Nat) (l : List Pg) : Prop where
  rd : Pgs w B A n c l
  wf : WfL l
section
variable {H : Type} {enc : TypeId × Value → H} {w : World} {base : Nat} {spare : Nat → Bool} {held : Bool} {fuel : Nat} {cs : List Value} {x : DataW H × List MemPlace}
theorem cells36 : Try.prog.cellsOf 36 = 4 := by kernel_rfl
theorem cells22 : Try.prog.cellsOf 22 = 16 := by kernel_rfl
theorem cells3 : Try.prog.cellsOf 3 = 1 := by kernel_rfl
theorem cells4 : Try.prog.cellsOf 4 = 1 := by kernel_rfl
theorem ints_one (h : DataW.trod enc Try.prog w base spare held fuel 3 cs = some x) : ∃ n, cs = [.int .i64 n] ∧ (Lit.int .i64 n).wf = true := by
  obtain ⟨n, hc, h1⟩ := DataW.trod_int Try.underlying3 h
  subst hc
  cases fuel with
  | zero => simp [DataW.trod] at h
  | succ m =>
    simp [DataW.trod, Try.underlying3] at h
    exact ⟨n, rfl, h.1⟩
theorem int_one {v : Value} (h : DataW.trod enc Try.prog w base spare held fuel 3 [v] = some x) : ∃ n, v = .int .i64 n ∧ (Lit.int .i64 n).wf = true := by
  obtain ⟨n, hc, hw⟩ := ints_one h
  injection hc with hc
  exact ⟨n, hc, hw⟩
theorem bool_one {v : Value} (h : DataW.trod enc Try.prog w base spare held fuel 4 [v] = some x) : ∃ b, v = .bool b := by
  cases fuel with
  | zero => simp [DataW.trod] at h
  | succ m =>
    unfold DataW.trod at h
    rw [Try.underlying4] at h
    cases v <;> simp at h
    exact ⟨_, rfl⟩
theorem pg_of (h : DataW.trod enc Try.prog w base spare held fuel 36 cs = some x) : ∃ b : Pg, cs = pcells b ∧ (Lit.int .i64 b.q).wf = true := by
  obtain ⟨ys, n, _, _, hlen, hyl, hf⟩ := DataW.trod_struct Try.underlying36 h
  rw [cells36] at hlen
  match cs, hlen, ys, hyl with
  | [c0, c1, c2, c3], _, [y0, y1, y2, y3], _ =>
    have h0 : DataW.trod enc Try.prog w base spare held n 3 (([c0, c1, c2, c3].drop 0).take (Try.prog.cellsOf 3)) = some y0 := hf 0 _ rfl
    have h1 : DataW.trod enc Try.prog w base spare held n 3 (([c0, c1, c2, c3].drop 1).take (Try.prog.cellsOf 3)) = some y1 := hf 1 _ rfl
    have h2 : DataW.trod enc Try.prog w base spare held n 3 (([c0, c1, c2, c3].drop 2).take (Try.prog.cellsOf 3)) = some y2 := hf 2 _ rfl
    have h3 : DataW.trod enc Try.prog w base spare held n 4 (([c0, c1, c2, c3].drop 3).take (Try.prog.cellsOf 4)) = some y3 := hf 3 _ rfl
    rw [cells3] at h0 h1 h2
    rw [cells4] at h3
    obtain ⟨a, rfl, hw⟩ := int_one (show DataW.trod enc Try.prog w base spare held n 3 [c0] = some y0 from h0)
    obtain ⟨b, rfl, _⟩ := int_one (show DataW.trod enc Try.prog w base spare held n 3 [c1] = some y1 from h1)
    obtain ⟨c, rfl, _⟩ := int_one (show DataW.trod enc Try.prog w base spare held n 3 [c2] = some y2 from h2)
    obtain ⟨d, rfl⟩ := bool_one (show DataW.trod enc Try.prog w base spare held n 4 [c3] = some y3 from h3)
    exact ⟨⟨a, b, c, d⟩, rfl, hw⟩
theorem mapM_each {α β : Type} {f : α → Option β} : ∀ {l : List α} {ys : List β}, l.mapM f = some ys → ∀ x ∈ l, ∃ y, f x = some y
  | [], _, _, x, hx => by cases hx
  | a :: l, ys, h, x, hx => by
    rw [List.mapM_cons] at h
    cases ha : f a with
    | none => rw [ha] at h; cases h
    | some y =>
      rcases List.mem_cons.1 hx with rfl | hx
      · exact ⟨y, ha⟩
      · cases hl : l.mapM f with
        | none => rw [ha, hl] at h; cases h
        | some zs => exact mapM_each hl x hx
theorem arr_of (h : DataW.trod enc Try.prog w base spare held fuel 22 cs = some x) : ∃ l : List Int, l.length = 16 ∧ cs = icells l := by
  cases fuel with
  | zero => simp [DataW.trod] at h
  | succ m =>
    unfold DataW.trod at h
    rw [Try.underlying22] at h
    simp only [cells22, cells3] at h
    split at h
    · rename_i hlen
      cases hm : (List.range 16).mapM fun i => DataW.trod enc Try.prog w base spare held m 3 ((cs.drop (i * 1)).take 1) with
      | none => rw [hm] at h; cases h
      | some ys =>
        have hall := mapM_each hm
        have each : ∀ i, i < 16 → ∃ n : Int, cs[i]? = some (.int .i64 n) := fun i hi => by
          obtain ⟨y, hy⟩ := hall i (List.mem_range.2 hi)
          obtain ⟨n, hn, _⟩ := ints_one hy
          refine ⟨n, ?_⟩
          have := congrArg (fun z => z[0]?) hn
          simpa [List.getElem?_take, List.getElem?_drop] using this
        obtain ⟨g, hg⟩ := Go.Deep.choose_lt each
        refine ⟨(List.range 16).map g, by simp, ?_⟩
        apply List.ext_getElem?
        intro j
        rw [icells_get, List.getElem?_map]
        by_cases hj : j < 16
        · rw [hg j hj, List.getElem?_range hj]; rfl
        · rw [List.getElem?_eq_none (by omega), List.getElem?_eq_none (by rw [List.length_range]; omega)]; rfl
    · cases h
end
theorem open_ops {H : Type} {enc : TypeId × Value → H} {W : World} {a : Option Addr} {len cap : Nat} {d : DataW H} {p : List MemPlace} (h : DataW.Trod enc Try.prog W 0 (fun _ => true) true 23 (.slice a len cap) d p) :
    (∃ l, PgsW W W.heap.size a len cap l) ∧ Datum d cap := by
  obtain ⟨fuel, hf⟩ := h
  rcases Go.Deep.open_slice Try.underlying23 hf with ⟨hcs, hx⟩ | ⟨x, l, c, m, n, D, Pl, hcs, _, hl, hm, hmm, hx, hi⟩
  · simp [Value.cells] at hcs
    obtain ⟨rfl, rfl, rfl⟩ := hcs
    injection hx with hx _
    exact ⟨⟨[], Words.Rd.nil_ _ _ _, fun p hp => by cases hp⟩, .inl ⟨hx, rfl⟩⟩
  · simp [Value.cells] at hcs
    obtain ⟨rfl, rfl, rfl⟩ := hcs
    injection hx with hx _
    simp only [if_true] at hmm
    subst hmm
    rw [cells36] at hi
    have each : ∀ i, i < len → ∃ b : Pg, (∀ r, r < 4 → W.cell? (x.add (i * 4 + r)) = (pcells b)[r]?) ∧ (Lit.int .i64 b.q).wf = true := fun i hil => by
      obtain ⟨cs', hc, ht⟩ := hi i (by omega)
      obtain ⟨b, rfl, hw⟩ := pg_of ht
      obtain ⟨_, _, hat⟩ := World.cells?_some hc
      exact ⟨b, fun r hr => by rw [← Go.Deep.add_add]; exact hat r hr, hw⟩
    obtain ⟨g, hg⟩ := Go.Deep.choose_lt each
    refine ⟨⟨(List.range len).map g, ?_, fun p hp => ?_⟩, .inr ⟨_, _, hx, by simp; omega⟩⟩
    · unfold Pgs lcells
      rw [flat_range]
      exact rd_of (by omega) _ hl hm (fun i => pcells_length _) fun i hi' r hr => (hg i hi').1 r hr
    · obtain ⟨i, hi2, rfl⟩ := List.mem_map.1 hp
      exact (hg i (List.mem_range.1 hi2)).2
theorem open_a16 {H : Type} {enc : TypeId × Value → H} {W : World} {v : Value} {d : DataW H} {p : List MemPlace} {r : Reach} {b0 : Nat} (hv : Value.okWide Try.prog W r b0 22 v) (h : DataW.Trod enc Try.prog W 0 (fun _ => true) true 22 v d p) : ∃ l : List Int, l.length = 16 ∧ v = av l := by
  obtain ⟨cs, rfl, hsz⟩ : ∃ cs : Array Value, v = .agg cs ∧ cs.size = Try.prog.cellsOf 22 := by
    simp only [Value.okWide, Try.underlying22] at hv
    obtain ⟨cs, h1, h2, _⟩ := hv
    exact ⟨cs, h1, h2⟩
  obtain ⟨fuel, hf⟩ := h
  obtain ⟨l, hl, he⟩ := arr_of hf
  refine ⟨l, hl, ?_⟩
  obtain ⟨c⟩ := cs
  simp only [Value.cells] at he
  unfold av
  rw [← he]
theorem icells_flat (l : List Int) : icells l = l.flatMap fun b => [Value.int .i64 b] := by
  induction l with
  | nil => rfl
  | cons a l ih => rw [List.flatMap_cons, ← ih]; rfl
theorem open_ints {H : Type} {enc : TypeId × Value → H} {W : World} {a : Option Addr} {len cap : Nat} {d : DataW H} {p : List MemPlace} (h : DataW.Trod enc Try.prog W 0 (fun _ => true) true 30 (.slice a len cap) d p) :
    (∃ l, Ints W W.heap.size a len cap l) ∧ Datum d cap := by
  obtain ⟨fuel, hf⟩ := h
  rcases Go.Deep.open_slice Try.underlying30 hf with ⟨hcs, hx⟩ | ⟨x, l, c, m, n, D, Pl, hcs, _, hl, hm, hmm, hx, hi⟩
  · simp [Value.cells] at hcs
    obtain ⟨rfl, rfl, rfl⟩ := hcs
    injection hx with hx _
    exact ⟨⟨[], Words.Rd.nil_ _ _ _⟩, .inl ⟨hx, rfl⟩⟩
  · simp [Value.cells] at hcs
    obtain ⟨rfl, rfl, rfl⟩ := hcs
    injection hx with hx _
    simp only [if_true] at hmm
    subst hmm
    rw [cells3] at hi
    have each : ∀ i, i < len → ∃ b : Int, ∀ r, r < 1 → W.cell? (x.add (i * 1 + r)) = ([Value.int .i64 b])[r]? := fun i hil => by
      obtain ⟨cs', hc, ht⟩ := hi i (by omega)
      obtain ⟨b, rfl, _⟩ := ints_one ht
      obtain ⟨_, _, hat⟩ := World.cells?_some hc
      exact ⟨b, fun r hr => by rw [← Go.Deep.add_add]; exact hat r hr⟩
    obtain ⟨g, hg⟩ := Go.Deep.choose_lt each
    refine ⟨⟨(List.range len).map g, ?_⟩, .inr ⟨_, _, hx, by simp; omega⟩⟩
    unfold Ints
    rw [icells_flat, flat_range]
    exact rd_of (by omega) _ hl hm (fun i => rfl) fun i hi' r hr => hg i hi' r hr
theorem bytes36 : Try.prog.bytesOf 36 = 32 := by kernel_rfl
theorem reach_ops {H : Type} {ts : List TypeId} {ds : List (DataW H)} (h : (DataW.weightsEach Try.prog ts ds).all (· ≤ reachBytes) = true) {j : Nat} {cap : Nat} {d : DataW H} (ht : ts[j]? = some 23) (hd : ds[j]? = some d) (hc : Datum d cap) : cap * 32 ≤ 140737488351232 := by
  have := reach_of h ht hd Try.underlying23 hc
  rw [bytes36] at this
  simpa only [reachBytes] using this
theorem one_bulk {H : Type} (d : DataW H) : 1 ≤ Rows.uptoBulk d := by
  cases d with
  | lit l => cases l <;> simp [Rows.uptoBulk]
  | _ => simp [Rows.uptoBulk]
theorem bulk_mem {H : Type} {d : DataW H} : ∀ {l : List (DataW H)}, d ∈ l → Rows.uptoBulk d ≤ Rows.uptoBulkAll l
  | x :: r, h => by
    simp only [Rows.uptoBulkAll]
    rcases List.mem_cons.1 h with rfl | h
    · omega
    · have := bulk_mem h; omega
theorem bulk_length {H : Type} : ∀ l : List (DataW H), l.length ≤ Rows.uptoBulkAll l
  | [] => by simp [Rows.uptoBulkAll]
  | x :: r => by have h1 := one_bulk x; have h2 := bulk_length r; simp only [Rows.uptoBulkAll, List.length_cons]; omega
theorem bulk_cap {H : Type} {l : List (DataW H)} (hk : Rows.uptoSmall H l = true) {d : DataW H} (hd : d ∈ l) {cap : Nat} (hc : Datum d cap) : cap ≤ 1048576 := by
  have h : Rows.uptoBulkAll l ≤ 1048576 := of_decide_eq_true hk
  have h1 := bulk_mem hd
  rcases hc with ⟨_, rfl⟩ | ⟨el, sp, rfl, rfl⟩
  · omega
  · have h2 := bulk_length el
    have h3 := bulk_length sp
    simp only [Rows.uptoBulk] at h1
    omega
end Go.Proofs.Ytiiadclcfbghkaa.Mnt
