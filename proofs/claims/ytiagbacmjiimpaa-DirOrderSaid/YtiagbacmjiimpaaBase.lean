/-
  Words over any program: rows of records, rows of the call's own that lie apart, a block known whole, rows of numbers, what a returned bool says of two lists.
-/
import Derived.Test.YtiagbacmjiimpaaWords
import Derived.Deep.QuietTactic
import Derived.Deep.Slices
import Derived.SizedLaws
namespace Go.Proofs.Ytiagbacmjiimpaa.Words
open Go.RowKit Go.ChangeShapes Go.WideShapes

theorem ret_int {k : IntKind} {a b : Int} (h : a = b) : Ending.returned (.int k a) = .returned (.int k b) := by rw [h]
theorem ret_bool {a b : Bool} (h : a = b) : Ending.returned (.bool a) = .returned (.bool b) := by rw [h]
theorem i64_num {a b : Int} (h : a = b) : Value.int .i64 a = Value.int .i64 b := by rw [h]
theorem bool_val {a b : Bool} (h : a = b) : Value.bool a = Value.bool b := by rw [h]
/-! ### records -/
section
variable {α β : Type} {f : α → List β} {sz : Nat}
theorem flat_length (hf : ∀ x, (f x).length = sz) (l : List α) : (l.flatMap f).length = l.length * sz := by
  induction l with
  | nil => simp
  | cons x l ih => rw [List.flatMap_cons, List.length_append, hf, ih, List.length_cons, Nat.succ_mul]; omega
theorem flat_get (hf : ∀ x, (f x).length = sz) {l : List α} {i : Nat} {x : α} (hx : l[i]? = some x) {j : Nat} (hj : j < sz) : (l.flatMap f)[i * sz + j]? = (f x)[j]? := by
  induction l generalizing i with
  | nil => simp at hx
  | cons y l ih =>
    rw [List.flatMap_cons]
    cases i with
    | zero =>
      simp at hx
      subst hx
      rw [Nat.zero_mul, Nat.zero_add, List.getElem?_append_left (by rw [hf]; exact hj)]
    | succ i =>
      rw [List.getElem?_append_right (by rw [hf, Nat.succ_mul]; omega), hf]
      have e : (i + 1) * sz + j - sz = i * sz + j := by rw [Nat.succ_mul]; omega
      rw [e]
      exact ih (by simpa using hx)
theorem flat_set (hf : ∀ x, (f x).length = sz) {l : List α} {i : Nat} {x y : α} (hx : l[i]? = some x) {j : Nat} (hj : j < sz) {u : β} (hy : f y = (f x).set j u) : (l.flatMap f).set (i * sz + j) u = (l.set i y).flatMap f := by
  induction l generalizing i with
  | nil => simp at hx
  | cons z l ih =>
    cases i with
    | zero =>
      simp at hx
      subst hx
      rw [List.set_cons_zero, List.flatMap_cons, List.flatMap_cons, Nat.zero_mul, Nat.zero_add, List.set_append_left _ _ (by rw [hf]; exact hj), hy]
    | succ i =>
      have e : (i + 1) * sz + j = sz + (i * sz + j) := by rw [Nat.succ_mul]; omega
      rw [List.set_cons_succ, List.flatMap_cons, List.flatMap_cons, List.set_append_right _ _ (by rw [hf, e]; omega), hf]
      have e2 : (i + 1) * sz + j - sz = i * sz + j := by omega
      rw [e2, ih (by simpa using hx)]
theorem flat_take (hf : ∀ x, (f x).length = sz) (l : List α) (k : Nat) : (l.flatMap f).take (k * sz) = (l.take k).flatMap f := by
  induction l generalizing k with
  | nil => simp
  | cons x l ih =>
    cases k with
    | zero => simp
    | succ k =>
      rw [List.flatMap_cons, List.take_succ_cons, List.flatMap_cons, Nat.succ_mul, Nat.add_comm, List.take_append, hf, ← ih]
      rw [List.take_of_length_le (by rw [hf]; omega)]
      have : sz + k * sz - sz = k * sz := by omega
      rw [this]
end
theorem rd_of {w : World} {x : Addr} {len cap sz : Nat} (hsz : 0 < sz) (F : Nat → List Value) (hl : len ≤ cap) (hm : cap ≤ maxLen) (hF : ∀ i, (F i).length = sz) (hc : ∀ i, i < len → ∀ r, r < sz → w.cell? (x.add (i * sz + r)) = (F i)[r]?) :
    Rd w w.heap.size sz (some x) len cap ((List.range len).flatMap F) := by
  refine ⟨by rw [flat_length hF, List.length_range], hl, hm, (fun h => by cases h), fun hn => ?_⟩
  obtain ⟨b, o, spot⟩ := x
  have h0 := hc 0 hn 0 hsz
  rw [Nat.zero_mul, Nat.zero_add, List.getElem?_eq_getElem (by rw [hF]; exact hsz)] at h0
  have hspot : spot = none := by simpa [Addr.add] using World.cell?_spot h0
  subst hspot
  refine ⟨b, o, rfl, World.block_lt_of_cell? w ⟨b, o + 0, none⟩ (u := (F 0)[0]'(by rw [hF]; exact hsz)) (by rw [← Go.WideShapes.add_plain]; exact h0), fun j u hu => ?_⟩
  have hj : j < len * sz := by
    have := (List.getElem?_eq_some_iff.1 hu).1
    rwa [flat_length hF, List.length_range] at this
  have hi : j / sz < len := Nat.div_lt_of_lt_mul (by rw [Nat.mul_comm]; exact hj)
  have hr : j % sz < sz := Nat.mod_lt _ hsz
  have hjj : j / sz * sz + j % sz = j := by rw [Nat.mul_comm]; exact Nat.div_add_mod j sz
  rw [← hjj, flat_get hF (x := j / sz) (by simp [hi]) hr] at hu
  rw [← Go.WideShapes.add_plain, ← hjj, hc _ hi _ hr, hu]
theorem flat_range {α : Type} (f : α → List Value) (g : Nat → α) (n : Nat) : ((List.range n).map g).flatMap f = (List.range n).flatMap fun i => f (g i) := by rw [List.flatMap_map]
/-! ### rows apart -/
/-- Rows of elements of different types share no block. -/
theorem own_apart {w : World} {base base' : Nat} {e e' : TypeId} {sz sz' : Nat} {v v' : Value} {n n' : Nat} {xs xs' : List Value} (h : w.ownsRow base e sz v n xs) (h' : w.ownsRow base' e' sz' v' n' xs') (hne : e ≠ e') : v.ownBlock = none ∨ v.ownBlock ≠ v'.ownBlock := by
  rcases h.2 with ⟨rfl, _⟩ | ⟨g, cap, cur, rfl, _, hg, _⟩
  · exact .inl rfl
  · refine .inr ?_
    rcases h'.2 with ⟨rfl, _⟩ | ⟨g', cap', cur', rfl, _, hg', _⟩
    · simp [Value.ownBlock]
    · intro he
      have : g = g' := by simpa [Value.ownBlock] using he
      subst this
      rw [hg] at hg'
      injection hg' with hg'
      injection hg' with _ ht
      exact hne ht
theorem grown_cell {a b : World} {v : Value} (hg : a.grownBy b v.ownBlock) {p : Addr} (hp : p.block < a.heap.size) (hne : ∀ k, v.ownBlock = some k → k < p.block) : b.cell? p = a.cell? p :=
  World.cell?_of_block (hg.block p.block hp (fun e => Nat.lt_irrefl _ (hne _ e.symm)))
theorem two_blocks (w : World) (a b : Obj) : Below w.heap.size w ((w.alloc a).alloc b) := ((Below.refl _ _).alloc (Nat.le_refl _) _).alloc (by simp) _
/-! ### a block that is known whole -/
def Whole (w : World) (g : Nat) (t : TypeId) (cs : Array Value) : Prop := w.heap[g]? = some (.cells cs t (0, 0))
section
variable {w w' : World} {g : Nat} {t : TypeId} {cs : Array Value}
theorem Whole.lt (h : Whole w g t cs) : g < w.heap.size := by
  rcases Nat.lt_or_ge g w.heap.size with hlt | hge
  · exact hlt
  · unfold Whole at h; rw [Array.getElem?_eq_none hge] at h; cases h
theorem Whole.cell (h : Whole w g t cs) (i : Nat) : w.cell? ⟨g, i, none⟩ = cs[i]? := cell_of_row w g i cs t (0, 0) h
theorem Whole.frozen (h : Whole w g t cs) (i : Nat) : w.frozen? ⟨g, i, none⟩ = false := by
  unfold Whole at h
  simp [World.frozen?, h]
theorem Whole.new (w : World) (t : TypeId) (cs : Array Value) : Whole (w.alloc (.cells cs t)) w.heap.size t cs := heap_alloc_new w _
theorem Whole.drewN (h : Whole w g t cs) (n : Nat) : Whole (w.drewN n) g t cs := h
theorem Whole.alloc (h : Whole w g t cs) (o : Obj) : Whole (w.alloc o) g t cs := (Below.heap_alloc w o g h.lt).trans h
theorem Whole.set_ (h : Whole w g t cs) (i : Nat) (u : Value) : Whole (w.setCell ⟨g, i, none⟩ u) g t (cs.setIfInBounds i u) := by
  unfold Whole at h ⊢
  simp [World.setCell, Array.getElem?_modify, h]
end
/-! ### numbers -/
def icells (l : List Int) : List Value := l.map (Value.int .i64)
theorem icells_get (l : List Int) (j : Nat) : (icells l)[j]? = l[j]?.map (Value.int .i64) := List.getElem?_map
theorem icells_length (l : List Int) : (icells l).length = l.length := List.length_map _
theorem Rd.small {w : World} {B sz n c : Nat} {A : Option Addr} {xs : List Value} (h : Rd w B sz A n c xs) : n ≤ 9223372036854775807 := by
  have := Rd.le h; have := Rd.max h; unfold maxLen at this; omega
theorem icells_append (a b : List Int) : icells (a ++ b) = icells a ++ icells b := List.map_append
theorem icells_one (l : List Int) : ∀ u ∈ icells l, u.oneCell' = true := by
  intro u hu
  obtain ⟨_, _, rfl⟩ := List.mem_map.1 hu
  rfl
/-- The []int value (or []api.Errno value) reads as the numbers. -/
def Ints (w : World) (B : Nat) (A : Option Addr) (n c : Nat) (l : List Int) : Prop := Rd w B 1 A n c (icells l)
theorem Ints.len {w : World} {B : Nat} {A : Option Addr} {n c : Nat} {l : List Int} (h : Ints w B A n c l) : l.length = n := by
  have := Rd.len h
  rw [icells_length] at this
  omega
theorem Ints.cellAt {w : World} {B : Nat} {A : Option Addr} {n c : Nat} {l : List Int} (h : Ints w B A n c l) {b o : Nat} (e : A = some ⟨b, o, none⟩) {j : Nat} {x : Int} (hx : l[j]? = some x) : w.cell? ⟨b, o + j, none⟩ = some (.int .i64 x) := by
  have hj := (List.getElem?_eq_some_iff.1 hx).1
  have hl := Ints.len h
  exact Rd.cellAt h e (by omega) j _ (by rw [icells_get, hx]; rfl)
theorem same_lists {α : Type} {a b : List α} {n k : Nat} (ha : a.length = n) (hb : b.length = n) (hk : k = n) (h : ∀ j, j < k → a[j]? = b[j]?) : a = b := by
  subst hk
  apply List.ext_getElem?
  intro j
  by_cases hj : j < k
  · exact h j hj
  · rw [List.getElem?_eq_none (by omega), List.getElem?_eq_none (by omega)]
def EqB (b : Prop) (w : World) (e : Ending) (w' : World) : Prop := ∃ (t : Bool) (n : Nat), e = .returned (.bool t) ∧ (t = true ↔ b) ∧ w' = w.drewN n
theorem EqB.yes {b : Prop} {w w' : World} {e : Ending} (h : EqB b w e w') (hb : b) : e = .returned (.bool true) ∧ ∃ n, w' = w.drewN n := by
  obtain ⟨t, n, rfl, ht, rfl⟩ := h
  rw [ht.2 hb]
  exact ⟨rfl, n, rfl⟩
theorem ints_lit (w : World) (t : TypeId) (xs : List Int) (cs : Array Value) (n : Nat) (hc : cs.toList = icells xs) (hn : xs.length = n) (hm : n ≤ 100) : Ints (w.alloc (.cells cs t)) (w.heap.size + 1) (some ⟨w.heap.size, 0, none⟩) n n xs :=
  Rd.new w t cs (0, 0) (icells xs) n hc (by rw [icells_length, Nat.mul_one]; exact hn) (by simp only [maxLen]; omega)
theorem one_cell (w : World) (t : TypeId) (x : Int) : Rd (w.alloc (.cells #[.int .i64 x] t)) (w.heap.size + 1) 1 (some ⟨w.heap.size, 0, none⟩) 1 1 (icells [x]) := Rd.new w t _ (0, 0) _ 1 rfl rfl (by unfold maxLen; omega)
/-! ### arguments -/
/-- The datum of a slice: nil, or as many elements as its capacity. -/
def Datum {H : Type} (d : DataW H) (cap : Nat) : Prop := (d = .nil ∧ cap = 0) ∨ ∃ el sp, d = .slice el sp ∧ el.length + sp.length = cap
/-- What the form's reach gives of a slice. -/
theorem reach_of {P : Program} {H : Type} {ts : List TypeId} {ds : List (DataW H)} (h : (DataW.weightsEach P ts ds).all (· ≤ reachBytes) = true) {j : Nat} {t e cap : Nat} {d : DataW H} (ht : ts[j]? = some t) (hd : ds[j]? = some d) (hu : P.underlying t = some (.slice e)) (hc : Datum d cap) :
    cap * P.bytesOf e ≤ reachBytes := by
  rcases hc with ⟨rfl, rfl⟩ | ⟨el, sp, rfl, rfl⟩
  · omega
  · exact sized_slice h ht hd hu
/-! ### == in a region that draws -/
theorem eql_same {P : Program} (t : TypeId) (k : Int) (x : World) : (binOp .eql t (.int .i64 k) (.int .i64 k)).run P x = .ok (.bool true) x := by
  simp [binOp, Op.intCmp]
theorem guard_int {P : Program} (t : TypeId) (a b : Operand) (k : Int) (x : World) : (eqGuard .eql t a b (.int .i64 k) (.int .i64 k)).run P x = .ok () x := by
  simp [eqGuard]
theorem guard_bool {P : Program} (t : TypeId) (a b : Operand) (k : Bool) (x : World) : (eqGuard .eql t a b (.bool k) (.bool k)).run P x = .ok () x := by
  simp [eqGuard]
end Go.Proofs.Ytiagbacmjiimpaa.Words
