/-
  The document's own reading of a journal.
-/
import Derived.Test.YtdckhfgfmkggiaaSame
namespace Go.Proofs.Ytdckhfgfmkggiaa.Jrn
open Go.ChangeShapes Go.WideShapes Go.ChangeAt Go.RowKit Words Crc
set_option linter.unusedVariables false

/-! ### a piece of a text -/
def cutA (A : Option Addr) (c i : Nat) : Option Addr := if c = i then A else A.map (·.add i)
theorem run_cut (w : World) (A : Option Addr) (n c i j : Nat) (I J : Int) (hI : I = (i : Int)) (hJ : J = (j : Int)) (hij : i ≤ j) (hj : j ≤ c) :
    (Instr.slice 22 (.slice A n c) (some (.int .i64 I)) (some (.int .i64 J)) none).run Try.prog w = .ok (.slice (cutA A c i) (j - i) (c - i)) w := by
  subst hI hJ
  obtain ⟨i0, hi0, _, hz1, _⟩ := info_parts info5
  have he : Try.prog.elem 22 = 5 := by simp [Program.elem, Try.underlying22]
  have h := run_slice_lh (P := Try.prog) w 22 A n c (by rw [he]; exact Try.underlying22) .i64 .i64 (i : Int) (j : Int) (by omega) (by omega) (by omega)
  rw [h, he]
  simp [sizeOf, typeInfo, hi0, sliced, hz1, cutA]
theorem run_front (w : World) (A : Option Addr) (n c j : Nat) (J : Int) (hJ : J = (j : Int)) (hj : j ≤ c) :
    (Instr.slice 22 (.slice A n c) none (some (.int .i64 J)) none).run Try.prog w = .ok (.slice A j c) w := by
  obtain ⟨i0, hi0, _⟩ := info_parts info5
  exact run_head w 22 5 i0 Try.underlying22 hi0 A n c j J hJ hj
theorem run_back (w : World) (A : Option Addr) (n c k : Nat) (K : Int) (hK : K = (k : Int)) (hk : k ≤ n) :
    (Instr.slice 22 (.slice A n c) (some (.int .i64 K)) none none).run Try.prog w = .ok (.slice (cutA A c k) (n - k) (c - k)) w := by
  subst hK
  obtain ⟨i0, hi0, _, hz1, _⟩ := info_parts info5
  have he : Try.prog.elem 22 = 5 := by simp [Program.elem, Try.underlying22]
  have h := run_slice_l (P := Try.prog) w 22 A n c (by rw [he]; exact Try.underlying22) .i64 (k : Int) (by omega) (by omega)
  rw [h, he]
  simp [sizeOf, typeInfo, hi0, sliced, hz1, cutA]
theorem rd_tail1 {w : World} {B n c k : Nat} {A : Option Addr} {xs : List Value} (h : Rd w B 1 A n c xs) (hk : k ≤ n) : Rd w B 1 (cutA A c k) (n - k) (c - k) (xs.drop k) := by
  have hl := h.len
  have hle := h.le
  have hmax := h.max
  unfold cutA
  refine ⟨by rw [List.length_drop, hl]; omega, by omega, by omega, fun he => ?_, fun hn => ?_⟩
  · split at he
    · omega
    · have : A = none := by cases A with
        | none => rfl
        | some a => cases he
      have := h.none_ this
      omega
  · obtain ⟨b, o, e, hb, hc⟩ := h.row (by omega)
    rw [if_neg (by omega), e]
    refine ⟨b, o + k, by simp [Addr.add], hb, fun j u hu => ?_⟩
    rw [List.getElem?_drop] at hu
    have := hc _ u hu
    rw [← Nat.add_assoc] at this
    exact this
theorem Txt.back {w : World} {B n c k : Nat} {A : Option Addr} {l : Bytes} (h : Txt w B A n c l) (hk : k ≤ n) : Txt w B (cutA A c k) (n - k) (c - k) (l.drop k) := by
  have := rd_tail1 h hk
  have e : (bcells l).drop k = bcells (l.drop k) := List.map_drop.symm
  rw [e] at this
  exact this
theorem Txt.cut {w : World} {B n c i j : Nat} {A : Option Addr} {l : Bytes} (h : Txt w B A n c l) (hij : i ≤ j) (hj : j ≤ n) : Txt w B (cutA A c i) (j - i) (c - i) ((l.take j).drop i) := Txt.back (h.head hj) hij
/-! ### a list of texts that grows -/
/-- A text in a block of bytes. -/
structure TT (w : World) (v : Sl) (l : Bytes) : Prop where
  txt : Txt w w.heap.size v.1 v.2.1 v.2.2 l
  blk : ∀ a, v.1 = some a → a.block < w.heap.size ∧ ∃ cs fr, w.heap[a.block]? = some (.cells cs 5 fr)
theorem rd_heap {w w' : World} {B B' sz n c : Nat} {A : Option Addr} {xs : List Value} (h : Rd w B sz A n c xs) (hk : ∀ a, A = some a → w'.heap[a.block]? = w.heap[a.block]?) (hB : ∀ a, A = some a → a.block < B') : Rd w' B' sz A n c xs := by
  refine ⟨h.len, h.le, h.max, h.none_, fun hn => ?_⟩
  obtain ⟨b, o, e, hb, hc⟩ := h.row hn
  exact ⟨b, o, e, hB _ e, fun j u hu => (World.cell?_of_block (a := ⟨b, o + j, none⟩) (hk ⟨b, o, none⟩ e)).trans (hc j u hu)⟩
theorem TT.keep {w w' : World} {v : Sl} {l : Bytes} (h : TT w v l) (hs : w.heap.size ≤ w'.heap.size) (hk : ∀ a, v.1 = some a → w'.heap[a.block]? = w.heap[a.block]?) : TT w' v l :=
  ⟨rd_heap h.txt hk (fun a e => Nat.lt_of_lt_of_le (h.blk a e).1 hs), fun a e => ⟨Nat.lt_of_lt_of_le (h.blk a e).1 hs, by rw [hk a e]; exact (h.blk a e).2⟩⟩
theorem TT.below {w w' : World} {v : Sl} {l : Bytes} (h : TT w v l) (hb : Below w.heap.size w w') : TT w' v l := h.keep hb.size fun a e => hb.block _ (h.blk a e).1
/-- The row of slices grows: the texts stay. -/
theorem TT.grown {w w' : World} {v : Sl} {l : Bytes} {base n : Nat} {u : Value} {xs : List Value} (h : TT w v l) (ho : w.ownsRow base 22 1 u n xs) (hg : w.grownBy w' u.ownBlock) : TT w' v l := by
  refine h.keep hg.size fun a e => hg.block _ (h.blk a e).1 fun he => ?_
  obtain ⟨_, cs, fr, hc⟩ := h.blk a e
  rcases ho.2 with ⟨rfl, _⟩ | ⟨g, cap, cur, rfl, _, hgg, _⟩
  · simp [Value.ownBlock] at he
  · have : a.block = g := by simpa [Value.ownBlock] using he
    rw [this, hgg] at hc
    injection hc with hc
    injection hc with _ ht
    exact absurd ht (by decide)
theorem TT.own {w : World} {base n c : Nat} {A : Option Addr} {l : Bytes} (h : w.ownsRow base 5 1 (.slice A n c) n (bcells l)) : TT w (A, n, c) l := by
  refine ⟨Rd.of_own h, fun a e => ?_⟩
  rcases h.2 with ⟨hv, _⟩ | ⟨g, cap, cur, hv, _, hgg, _⟩
  · injection hv with hv _ _
    have e : A = some a := e
    rw [hv] at e
    cases e
  · injection hv with hv _ _
    have e : A = some a := e
    rw [hv] at e
    injection e with e
    subst e
    exact ⟨(Array.getElem?_eq_some_iff.1 hgg).1, _, _, hgg⟩
/-- A row of texts of the call's own. -/
structure OwnG (w : World) (base : Nat) (A : Option Addr) (k c : Nat) (vs : List Sl) (ls : List Bytes) : Prop where
  own : w.ownsRow base 22 1 (.slice A k c) k (svals vs)
  lens : ls.length = vs.length
  each : ∀ (j : Nat) (v : Sl) (l : Bytes), vs[j]? = some v → ls[j]? = some l → TT w v l
theorem OwnG.grid {w : World} {base k c : Nat} {A : Option Addr} {vs : List Sl} {ls : List Bytes} (h : OwnG w base A k c vs ls) : Grid w w.heap.size A k c vs ls := ⟨Rd.of_own h.own, h.lens, fun j v l hv hl => (h.each j v l hv hl).txt⟩
theorem OwnG.below {w w' : World} {base k c : Nat} {A : Option Addr} {vs : List Sl} {ls : List Bytes} (h : OwnG w base A k c vs ls) (hb : Below w.heap.size w w') : OwnG w' base A k c vs ls :=
  ⟨own_below h.own hb (Nat.le_refl _), h.lens, fun j v l hv hl => (h.each j v l hv hl).below hb⟩
theorem OwnG.nil (w : World) (base : Nat) : OwnG w base none 0 0 [] [] := ⟨w.ownsRow_nil _ _ _, rfl, fun j v l hv => by simp at hv⟩
/-- One more text. -/
theorem OwnG.push {w w' : World} {base k c c' : Nat} {A A' : Option Addr} {vs : List Sl} {ls : List Bytes} {v : Sl} {l : Bytes} (h : OwnG w base A k c vs ls) (hv : TT w v l)
    (ho : w'.ownsRow base 22 1 (.slice A' (k + 1) c') (k + 1) (svals vs ++ [sval v])) (hg : w.grownBy w' (Value.slice A k c).ownBlock) : OwnG w' base A' (k + 1) c' (vs ++ [v]) (ls ++ [l]) := by
  refine ⟨by rw [svals_append]; exact ho, by rw [List.length_append, List.length_append, h.lens]; rfl, fun j u x hu hx => ?_⟩
  rw [List.getElem?_append] at hu hx
  rw [h.lens] at hx
  split at hu
  · rename_i hj
    rw [if_pos hj] at hx
    exact (h.each j u x hu hx).grown h.own hg
  · rename_i hj
    rw [if_neg hj] at hx
    have hj0 : j - vs.length = 0 := by
      have := (List.getElem?_eq_some_iff.1 hu).1
      simp at this
      omega
    rw [hj0] at hu hx
    simp at hu hx
    subst hu hx
    exact hv.grown h.own hg
/-! ### the first record behind p -/
theorem drop_at {b : Bytes} {p : Nat} {x : UInt8} (hx : b[p]? = some x) : b.drop p = x :: b.drop (p + 1) := by
  obtain ⟨hlt, rfl⟩ := List.getElem?_eq_some_iff.1 hx
  exact List.drop_eq_getElem_cons hlt
theorem one_short {b : Bytes} {p n : Nat} {x : UInt8} (hn : b.length = n) (hx : b[p]? = some x) (h : n < p + 3 + x.toNat) : one (b.drop p) = none := by
  rw [drop_at hx]
  unfold one
  simp only
  rw [if_neg]
  rintro ⟨h1, _⟩
  rw [List.length_drop] at h1
  omega
theorem one_at {b : Bytes} {p n : Nat} {x : UInt8} (hn : b.length = n) (hx : b[p]? = some x) (h : p + 3 + x.toNat ≤ n) :
    ((b.take (p + 1 + x.toNat)).drop (p + 1)).length = x.toNat ∧
      one (b.drop p) = if enc ((b.take (p + 1 + x.toNat)).drop (p + 1)) = (b.take (p + (x.toNat + 3))).drop p then some ((b.take (p + 1 + x.toNat)).drop (p + 1)) else none := by
  have e1 : (b.take (p + 1 + x.toNat)).drop (p + 1) = (b.drop (p + 1)).take x.toNat := by
    rw [List.drop_take]; congr 1; omega
  have e2 : (b.take (p + (x.toNat + 3))).drop p = (b.drop p).take (x.toNat + 3) := by
    rw [List.drop_take]; congr 1; omega
  refine ⟨by rw [e1, List.length_take, List.length_drop]; omega, ?_⟩
  rw [e1, e2, drop_at hx]
  unfold one
  simp only
  by_cases hc : enc ((b.drop (p + 1)).take x.toNat) = (x :: b.drop (p + 1)).take (x.toNat + 3)
  · rw [if_pos ⟨by rw [List.length_drop]; omega, hc⟩, if_pos hc]
  · rw [if_neg (fun h => hc h.2), if_neg hc]
theorem one_out {b : Bytes} {p n : Nat} (hn : b.length = n) (h : n ≤ p) : one (b.drop p) = none := by
  rw [List.drop_eq_nil_of_le (by omega)]; rfl
/-- What is kept while a journal is read. -/
structure JI (w : World) (b : Bytes) (k p : Nat) (A : Option Addr) (c : Nat) (vs : List Sl) (ls : List Bytes) (wr : World) : Prop where
  bel : Below w.heap.size w wr
  own : OwnG wr w.heap.size A k c vs ls
  cnt : ls.length = k
  ok : ls.all okR = true
  pos : p = tot ls
  eq : b = flat ls ++ b.drop p
theorem ji_start (w : World) (b : Bytes) : JI w b 0 0 none 0 [] [] w := ⟨Below.refl _ _, OwnG.nil _ _, rfl, rfl, rfl, rfl⟩
theorem JI.below {w wr x : World} {b : Bytes} {k p c : Nat} {A : Option Addr} {vs : List Sl} {ls : List Bytes} (h : JI w b k p A c vs ls wr) (hb : Below wr.heap.size wr x) : JI w b k p A c vs ls x :=
  ⟨h.bel.trans (hb.mono h.bel.size), h.own.below hb, h.cnt, h.ok, h.pos, h.eq⟩
theorem JI.done {w wr : World} {b : Bytes} {k p c : Nat} {A : Option Addr} {vs : List Sl} {ls : List Bytes} (h : JI w b k p A c vs ls wr) (ho : one (b.drop p) = none) : jr b = ls := jr_unique h.ok h.eq ho
theorem JI.next {w wr x : World} {b : Bytes} {k p c c' : Nat} {A A' : Option Addr} {vs vs' : List Sl} {ls : List Bytes} {r : Bytes} (h : JI w b k p A c vs ls wr) (ho : one (b.drop p) = some r) (hb : Below w.heap.size w x) (hg : OwnG x w.heap.size A' (k + 1) c' vs' (ls ++ [r])) :
    JI w b (k + 1) (p + (r.length + 3)) A' c' vs' (ls ++ [r]) x := by
  obtain ⟨hr, he⟩ := one_some ho
  refine ⟨hb, hg, by rw [List.length_append, h.cnt]; rfl, ?_, ?_, ?_⟩
  · rw [List.all_append, h.ok]; simp [okR_iff.2 hr]
  · rw [tot_append, h.pos]; rfl
  · have hq := h.eq
    rw [he, List.drop_drop] at hq
    rw [flat_append, List.append_assoc]
    show b = flat ls ++ ((enc r ++ []) ++ _)
    rw [List.append_nil]
    exact hq
/-- What is read of a journal. -/
def ReadTo (w : World) (b : Bytes) (e : Ending) (w' : World) : Prop :=
  ∃ A c vs, e = .returned (.tuple #[.slice A (jr b).length c, .int .i64 ((tot (jr b) : Nat) : Int)]) ∧ Grid w' w'.heap.size A (jr b).length c vs (jr b) ∧ Below w.heap.size w w'
theorem JI.end_ {w wr : World} {b : Bytes} {k p c : Nat} {A : Option Addr} {vs : List Sl} {ls : List Bytes} (h : JI w b k p A c vs ls wr) (ho : one (b.drop p) = none) : ReadTo w b (.returned (.tuple #[.slice A k c, .int .i64 (p : Int)])) wr := by
  have e := h.done ho
  refine ⟨A, c, vs, ?_, ?_, h.bel⟩
  · rw [e, h.cnt, ← h.pos]
  · rw [e, h.cnt]; exact h.own.grid
theorem jr_few (b : Bytes) {ls : List Bytes} {p : Nat} (h : b = flat ls ++ b.drop p) : 3 * ls.length ≤ b.length := by
  have := congrArg List.length h
  rw [List.length_append, flat_length] at this
  have := count_tot ls
  omega
end Go.Proofs.Ytdckhfgfmkggiaa.Jrn
