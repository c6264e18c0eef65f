/-
  What an argument reads as: a flash, a list of operations, an operation, four numbers; opened for a proof's frame, with its datum's size.
-/
import Derived.Test.YtellfblfalpdiaaAlive
import Derived.OpenShut
import Derived.SizedLaws
import Derived.Deep.Slices
import Derived.Lib.SmallJoins
namespace Go.Proofs.Ytellfblfalpdiaa.Nand
open Go.ChangeShapes Go.WideShapes Go.ChangeAt Go.RowKit Words

/-- The datum of a slice: nil, or as many elements as its capacity. -/
def Datum {H : Type} (d : DataW H) (cap : Nat) : Prop := (d = .nil ∧ cap = 0) ∨ ∃ el sp, d = .slice el sp ∧ el.length + sp.length = cap
instance : Inhabited Blk := ⟨blank 0⟩
instance : Inhabited Nop := ⟨⟨0, 0, 0, 0⟩⟩
theorem rd_of {w : World} {x : Addr} {len cap sz : Nat} (hsz : 0 < sz) (F : Nat → List Value) (hl : len ≤ cap) (hm : cap ≤ maxLen) (hF : ∀ i, (F i).length = sz) (hc : ∀ i, i < len → ∀ r, r < sz → w.cell? (x.add (i * sz + r)) = (F i)[r]?) :
    Words.Rd w w.heap.size sz (some x) len cap ((List.range len).flatMap F) := by
  refine ⟨by rw [flat_length hF, List.length_range], hl, hm, (fun h => by cases h), fun hn => ?_⟩
  obtain ⟨b, o, spot⟩ := x
  have h0 := hc 0 hn 0 hsz
  rw [Nat.zero_mul, Nat.zero_add, List.getElem?_eq_getElem (by rw [hF]; exact hsz)] at h0
  have hspot : spot = none := by simpa [Addr.add] using World.cell?_spot h0
  subst hspot
  refine ⟨b, o, rfl, World.block_lt_of_cell? w ⟨b, o + 0, none⟩ (u := (F 0)[0]'(by rw [hF]; exact hsz)) (by rw [← Go.WideShapes.add_plain]; exact h0), fun j u hu => ?_⟩
  have hj : j < len * sz := by
    have := (List.getElem?_eq_some_iff.1 hu).1
    rwa [flat_length hF, List.length_range] at this
  have hi : j / sz < len := Nat.div_lt_of_lt_mul (by rw [Nat.mul_comm]; exact hj)
  have hr : j % sz < sz := Nat.mod_lt _ hsz
  have hjj : j / sz * sz + j % sz = j := by rw [Nat.mul_comm]; exact Nat.div_add_mod j sz
  rw [← hjj, flat_get hF (x := j / sz) (by simp [hi]) hr] at hu
  rw [← Go.WideShapes.add_plain, ← hjj, hc _ hi _ hr, hu]
section
variable {H : Type} {enc : TypeId × Value → H} {w : World} {base : Nat} {spare : Nat → Bool} {held : Bool} {fuel : Nat} {cs : List Value} {x : DataW H × List MemPlace}
theorem cells31 : Try.prog.cellsOf 31 = 6 := by kernel_rfl
theorem cells29 : Try.prog.cellsOf 29 = 4 := by kernel_rfl
theorem cells24 : Try.prog.cellsOf 24 = 4 := by kernel_rfl
theorem cells3 : Try.prog.cellsOf 3 = 1 := by kernel_rfl
theorem int_one {v : Value} (h : DataW.trod enc Try.prog w base spare held fuel 3 [v] = some x) : ∃ n, v = .int .i64 n := by
  obtain ⟨n, hc, _⟩ := DataW.trod_int Try.underlying3 h
  injection hc with hc
  exact ⟨n, hc⟩
theorem arr_of {c0 c1 c2 c3 : Value} (h : DataW.trod enc Try.prog w base spare held fuel 29 [c0, c1, c2, c3] = some x) : ∃ a b c d : Int, c0 = .int .i64 a ∧ c1 = .int .i64 b ∧ c2 = .int .i64 c ∧ c3 = .int .i64 d := by
  obtain ⟨xs, m, _, _, _, hl, hi⟩ := DataW.trod_array Try.underlying29 h
  rw [cells3] at hi
  match xs, hl with
  | [y0, y1, y2, y3], _ =>
    obtain ⟨a, ha⟩ := int_one (show DataW.trod enc Try.prog w base spare held m 3 [c0] = some y0 from hi 0 (by omega))
    obtain ⟨b, hb⟩ := int_one (show DataW.trod enc Try.prog w base spare held m 3 [c1] = some y1 from hi 1 (by omega))
    obtain ⟨c, hc⟩ := int_one (show DataW.trod enc Try.prog w base spare held m 3 [c2] = some y2 from hi 2 (by omega))
    obtain ⟨d, hd⟩ := int_one (show DataW.trod enc Try.prog w base spare held m 3 [c3] = some y3 from hi 3 (by omega))
    exact ⟨a, b, c, d, ha, hb, hc, hd⟩
theorem blk_of (h : DataW.trod enc Try.prog w base spare held fuel 31 cs = some x) : ∃ b : Blk, cs = bcells b := by
  obtain ⟨ys, n, _, _, hlen, hyl, hf⟩ := DataW.trod_struct Try.underlying31 h
  rw [cells31] at hlen
  match cs, hlen, ys, hyl with
  | [c0, c1, c2, c3, c4, c5], _, [y0, y1, y2], _ =>
    have h0 : DataW.trod enc Try.prog w base spare held n 29 (([c0, c1, c2, c3, c4, c5].drop 0).take (Try.prog.cellsOf 29)) = some y0 := hf 0 _ rfl
    have h1 : DataW.trod enc Try.prog w base spare held n 3 (([c0, c1, c2, c3, c4, c5].drop 4).take (Try.prog.cellsOf 3)) = some y1 := hf 1 _ rfl
    have h2 : DataW.trod enc Try.prog w base spare held n 3 (([c0, c1, c2, c3, c4, c5].drop 5).take (Try.prog.cellsOf 3)) = some y2 := hf 2 _ rfl
    rw [cells29] at h0
    rw [cells3] at h1 h2
    obtain ⟨a, b, c, d, rfl, rfl, rfl, rfl⟩ := arr_of (show DataW.trod enc Try.prog w base spare held n 29 [c0, c1, c2, c3] = some y0 from h0)
    obtain ⟨e, rfl⟩ := int_one (show DataW.trod enc Try.prog w base spare held n 3 [c4] = some y1 from h1)
    obtain ⟨f, rfl⟩ := int_one (show DataW.trod enc Try.prog w base spare held n 3 [c5] = some y2 from h2)
    exact ⟨⟨a, b, c, d, e, f⟩, rfl⟩
theorem nop_of (h : DataW.trod enc Try.prog w base spare held fuel 24 cs = some x) : ∃ b : Nop, cs = ocells b := by
  obtain ⟨ys, n, _, _, hlen, hyl, hf⟩ := DataW.trod_struct Try.underlying24 h
  rw [cells24] at hlen
  match cs, hlen, ys, hyl with
  | [c0, c1, c2, c3], _, [y0, y1, y2, y3], _ =>
    have h0 : DataW.trod enc Try.prog w base spare held n 3 (([c0, c1, c2, c3].drop 0).take (Try.prog.cellsOf 3)) = some y0 := hf 0 _ rfl
    have h1 : DataW.trod enc Try.prog w base spare held n 3 (([c0, c1, c2, c3].drop 1).take (Try.prog.cellsOf 3)) = some y1 := hf 1 _ rfl
    have h2 : DataW.trod enc Try.prog w base spare held n 3 (([c0, c1, c2, c3].drop 2).take (Try.prog.cellsOf 3)) = some y2 := hf 2 _ rfl
    have h3 : DataW.trod enc Try.prog w base spare held n 3 (([c0, c1, c2, c3].drop 3).take (Try.prog.cellsOf 3)) = some y3 := hf 3 _ rfl
    rw [cells3] at h0 h1 h2 h3
    obtain ⟨a, rfl⟩ := int_one (show DataW.trod enc Try.prog w base spare held n 3 [c0] = some y0 from h0)
    obtain ⟨b, rfl⟩ := int_one (show DataW.trod enc Try.prog w base spare held n 3 [c1] = some y1 from h1)
    obtain ⟨c, rfl⟩ := int_one (show DataW.trod enc Try.prog w base spare held n 3 [c2] = some y2 from h2)
    obtain ⟨d, rfl⟩ := int_one (show DataW.trod enc Try.prog w base spare held n 3 [c3] = some y3 from h3)
    exact ⟨⟨a, b, c, d⟩, rfl⟩
end
theorem flat_range {α : Type} (f : α → List Value) (g : Nat → α) (n : Nat) : ((List.range n).map g).flatMap f = (List.range n).flatMap fun i => f (g i) := by rw [List.flatMap_map]
theorem open_fl {H : Type} {enc : TypeId × Value → H} {W : World} {a : Option Addr} {len cap : Nat} {d : DataW H} {p : List MemPlace} (h : DataW.Trod enc Try.prog W 0 (fun _ => true) true 22 (.slice a len cap) d p) :
    (∃ l, Fl W W.heap.size a len cap l) ∧ Datum d cap := by
  obtain ⟨fuel, hf⟩ := h
  rcases Go.Deep.open_slice Try.underlying22 hf with ⟨hcs, hx⟩ | ⟨x, l, c, m, n, D, Pl, hcs, _, hl, hm, hmm, hx, hi⟩
  · simp [Value.cells] at hcs
    obtain ⟨rfl, rfl, rfl⟩ := hcs
    injection hx with hx _
    exact ⟨⟨[], Words.Rd.nil_ _ _ _⟩, .inl ⟨hx, rfl⟩⟩
  · simp [Value.cells] at hcs
    obtain ⟨rfl, rfl, rfl⟩ := hcs
    injection hx with hx _
    simp only [if_true] at hmm
    subst hmm
    rw [cells31] at hi
    have each : ∀ i, i < len → ∃ b : Blk, ∀ r, r < 6 → W.cell? (x.add (i * 6 + r)) = (bcells b)[r]? := fun i hil => by
      obtain ⟨cs', hc, ht⟩ := hi i (by omega)
      obtain ⟨b, rfl⟩ := blk_of ht
      obtain ⟨_, _, hat⟩ := World.cells?_some hc
      exact ⟨b, fun r hr => by rw [← Go.Deep.add_add]; exact hat r hr⟩
    obtain ⟨g, hg⟩ := Go.Deep.choose_lt each
    refine ⟨⟨(List.range len).map g, ?_⟩, .inr ⟨_, _, hx, by simp; omega⟩⟩
    unfold Fl fcells
    rw [flat_range]
    exact rd_of (by omega) _ hl hm (fun i => bcells_length _) fun i hi' r hr => hg i hi' r hr
theorem open_ops {H : Type} {enc : TypeId × Value → H} {W : World} {a : Option Addr} {len cap : Nat} {d : DataW H} {p : List MemPlace} (h : DataW.Trod enc Try.prog W 0 (fun _ => true) true 35 (.slice a len cap) d p) :
    (∃ l, Ops W W.heap.size a len cap l) ∧ Datum d cap := by
  obtain ⟨fuel, hf⟩ := h
  rcases Go.Deep.open_slice Try.underlying35 hf with ⟨hcs, hx⟩ | ⟨x, l, c, m, n, D, Pl, hcs, _, hl, hm, hmm, hx, hi⟩
  · simp [Value.cells] at hcs
    obtain ⟨rfl, rfl, rfl⟩ := hcs
    injection hx with hx _
    exact ⟨⟨[], Words.Rd.nil_ _ _ _⟩, .inl ⟨hx, rfl⟩⟩
  · simp [Value.cells] at hcs
    obtain ⟨rfl, rfl, rfl⟩ := hcs
    injection hx with hx _
    simp only [if_true] at hmm
    subst hmm
    rw [cells24] at hi
    have each : ∀ i, i < len → ∃ b : Nop, ∀ r, r < 4 → W.cell? (x.add (i * 4 + r)) = (ocells b)[r]? := fun i hil => by
      obtain ⟨cs', hc, ht⟩ := hi i (by omega)
      obtain ⟨b, rfl⟩ := nop_of ht
      obtain ⟨_, _, hat⟩ := World.cells?_some hc
      exact ⟨b, fun r hr => by rw [← Go.Deep.add_add]; exact hat r hr⟩
    obtain ⟨g, hg⟩ := Go.Deep.choose_lt each
    refine ⟨⟨(List.range len).map g, ?_⟩, .inr ⟨_, _, hx, by simp; omega⟩⟩
    unfold Ops pcells
    rw [flat_range]
    exact rd_of (by omega) _ hl hm (fun i => ocells_length _) fun i hi' r hr => hg i hi' r hr
theorem open_op {H : Type} {enc : TypeId × Value → H} {W : World} {v : Value} {d : DataW H} {p : List MemPlace} {r : Reach} {b0 : Nat} (hv : Value.okWide Try.prog W r b0 24 v) (h : DataW.Trod enc Try.prog W 0 (fun _ => true) true 24 v d p) : ∃ o : Nop, v = oval o := by
  obtain ⟨cs, rfl, hsz⟩ := okWide_struct Try.underlying24 hv
  obtain ⟨fuel, hf⟩ := h
  obtain ⟨o, ho⟩ := nop_of hf
  refine ⟨o, ?_⟩
  obtain ⟨l⟩ := cs
  simp only [Value.cells] at ho
  rw [ho]
  rfl
def aval (a b c d : Int) : Value := .agg #[.int .i64 a, .int .i64 b, .int .i64 c, .int .i64 d]
theorem open_arr {H : Type} {enc : TypeId × Value → H} {W : World} {v : Value} {d : DataW H} {p : List MemPlace} {r : Reach} {b0 : Nat} (hv : Value.okWide Try.prog W r b0 29 v) (h : DataW.Trod enc Try.prog W 0 (fun _ => true) true 29 v d p) : ∃ a b c d : Int, v = aval a b c d := by
  obtain ⟨cs, rfl, hsz⟩ : ∃ cs : Array Value, v = .agg cs ∧ cs.size = Try.prog.cellsOf 29 := by
    simp only [Value.okWide, Try.underlying29] at hv
    obtain ⟨cs, h1, h2, _⟩ := hv
    exact ⟨cs, h1, h2⟩
  rw [cells29] at hsz
  obtain ⟨l⟩ := cs
  obtain ⟨fuel, hf⟩ := h
  match l, hsz with
  | [c0, c1, c2, c3], _ =>
    obtain ⟨a, b, c, d, rfl, rfl, rfl, rfl⟩ := arr_of (show DataW.trod enc Try.prog W 0 (fun _ => true) true fuel 29 [c0, c1, c2, c3] = _ from hf)
    exact ⟨a, b, c, d, rfl⟩
/-- What the form's reach gives of a slice. -/
theorem reach_of {H : Type} {ts : List TypeId} {ds : List (DataW H)} (h : (DataW.weightsEach Try.prog ts ds).all (· ≤ reachBytes) = true) {j : Nat} {t e cap : Nat} {d : DataW H} (ht : ts[j]? = some t) (hd : ds[j]? = some d) (hu : Try.prog.underlying t = some (.slice e)) (hc : Datum d cap) :
    cap * Try.prog.bytesOf e ≤ reachBytes := by
  rcases hc with ⟨rfl, rfl⟩ | ⟨el, sp, rfl, rfl⟩
  · omega
  · exact sized_slice h ht hd hu
theorem bytes24 : Try.prog.bytesOf 24 = 32 := by kernel_rfl
theorem reach_ops {H : Type} {ts : List TypeId} {ds : List (DataW H)} (h : (DataW.weightsEach Try.prog ts ds).all (· ≤ reachBytes) = true) {j : Nat} {cap : Nat} {d : DataW H} (ht : ts[j]? = some 35) (hd : ds[j]? = some d) (hc : Datum d cap) : cap * 32 ≤ 140737488351232 := by
  have := reach_of h ht hd Try.underlying35 hc
  rw [bytes24] at this
  simpa only [reachBytes] using this
end Go.Proofs.Ytellfblfalpdiaa.Nand
