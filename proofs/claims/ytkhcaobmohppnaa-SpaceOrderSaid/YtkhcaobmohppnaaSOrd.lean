/-
  Blocks taken one by one and given back in any order: the plain mathematics; two rows of the call's own that grow and shrink.
-/
import Derived.Test.YtkhcaobmohppnaaSDel
import Derived.Test.YtkhcaobmohppnaaSSum
import Derived.Test.YtkhcaobmohppnaaSHas
namespace Go.Proofs.Ytkhcaobmohppnaa.Spc
open Go.ChangeShapes Go.WideShapes Go.ChangeAt Go.RowKit Words Go.Sort
set_option linter.unusedVariables false

def takes (k : Nat) : List Sp := List.replicate k ⟨1, 0, 1⟩
theorem takes_next (k : Nat) : takes (k + 1) = takes k ++ [⟨1, 0, 1⟩] := List.replicate_succ'
def rng (k : Nat) : List Int := (List.range k).map fun i : Nat => (i : Int)
theorem rng_next (k : Nat) : rng (k + 1) = rng k ++ [(k : Int)] := by unfold rng; rw [List.range_succ, List.map_append]; rfl
def tl (s k : Nat) : List Gp := if k < s then [⟨k, (s : Int) - k⟩] else []
theorem tl_mem (s k x : Nat) : mem (tl s k) x = (decide (k ≤ x) && decide (x < s)) := by
  unfold tl
  split
  · rw [mem_cons, mem_nil, Bool.or_false, Bool.eq_iff_iff, inG_yes]; simp; omega
  · rw [mem_nil]; symm; rw [← Bool.not_eq_true]; simp; omega
theorem tl_ch {s k : Nat} : Ch s (-1) (tl s k) := by
  unfold tl
  split
  · exact ⟨⟨by show (-1 : Int) < k; omega, by show (1 : Int) ≤ s - k; omega, by show (k : Int) + (s - k) ≤ s; omega⟩, trivial⟩
  · trivial
theorem tl_ok {s k : Nat} (hs : s ≤ 4096) : okRow s (tl s k) = true := ok_of_ch (by omega) (by omega) tl_ch
theorem tl_next {s k : Nat} (hs : s ≤ 4096) (hk : k < s) : ser s (tl s k) ⟨1, 0, 1⟩ = 0 ∧ sgl s (tl s k) ⟨1, 0, 1⟩ = tl s (k + 1) := by
  have hp : (pk ⟨1, 0, 1⟩ (tl s k)).1 = k := by
    have e : tl s k = [⟨k, (s : Int) - k⟩] := if_pos hk
    rw [e]
    show (pkS ⟨1, 0, 1⟩ (-1, 0) ⟨k, (s : Int) - k⟩).1 = k
    rw [pkS_yes (by show (1 : Int) ≤ s - k; omega) (.inl (by show (-1 : Int) < 0; omega))]
  have h0 := ser_take (s := s) (l := tl s k) (o := ⟨1, 0, 1⟩) (tl_ok hs) (by simp) (by simp only; omega) (by simp) (by rw [hp]; omega)
  refine ⟨h0, ?_⟩
  rw [(sgl_yes h0).1]
  have ha : ats ⟨1, 0, 1⟩ (tl s k) = k := by
    show (if (1 : Int) = 3 then (0 : Int) else (pk ⟨1, 0, 1⟩ (tl s k)).1) = k
    rw [if_neg (by omega), hp]
  have e : ((s : Int)).toNat = s := by omega
  rw [ha, e]
  refine gk_of tl_ch fun x hx => ?_
  rw [at_setR hx, tl_mem, tl_mem]
  show (if (k : Int) ≤ x ∧ (x : Int) < k + 1 then false else (decide (k ≤ x) && decide (x < s))) = _
  by_cases hc : x = k
  · subst hc
    rw [if_pos (by omega)]; symm; rw [← Bool.not_eq_true]; simp; omega
  · rw [if_neg (by omega), Bool.eq_iff_iff]; simp; omega
theorem played_snoc (s : Int) (ops : List Sp) (o : Sp) : played s (ops ++ [o]) = fold1 s (played s ops) o := by unfold played; rw [List.foldl_append]; rfl
theorem takes_st {s : Nat} (h0 : 1 ≤ s) (hs : s ≤ 4096) : ∀ k, k ≤ s → (played s (takes k)).1 = tl s k ∧ ∀ a ∈ (played s (takes k)).2, a.e = 0
  | 0, _ => by
    have ho := start_ok (s := s) (by unfold szOk; simp; omega)
    refine ⟨?_, fun a ha => by cases ha⟩
    show start s = tl s 0
    unfold start
    have e : ((s : Int)).toNat = s := by omega
    rw [e]
    exact gk_of tl_ch fun x hx => by rw [at_replicate, tl_mem]; simp
  | k + 1, hk => by
    obtain ⟨h1, h2⟩ := takes_st h0 hs k (by omega)
    obtain ⟨h3, h4⟩ := tl_next hs (show k < s by omega)
    rw [← h1] at h3 h4
    rw [takes_next, played_snoc, fold1_ok h3]
    refine ⟨h4, fun a ha => ?_⟩
    rcases List.mem_append.1 ha with ha | ha
    · exact h2 a ha
    · rw [List.mem_singleton] at ha; subst ha; rfl
/-- What the law keeps: so many are given back, the others are left. -/
structure OI (s : Nat) (ops : List Sp) (left : List Int) : Prop where
  len : ops.length + left.length = 2 * s
  ok : okRow s (played s ops).1 = true
  is : ∀ x : Nat, x < s → mem (played s ops).1 x = decide ((x : Int) ∉ left)
  good : ∀ a ∈ (played s ops).2, a.e = 0
  nd : left.Pairwise (· ≠ ·)
  rng : ∀ x ∈ left, 0 ≤ x ∧ x < s
theorem oi_start {s : Nat} (h0 : 1 ≤ s) (hs : s ≤ 4096) : OI s (takes s) (rng s) := by
  obtain ⟨h1, h2⟩ := takes_st h0 hs s (Nat.le_refl _)
  refine ⟨by unfold takes rng; simp; omega, by rw [h1]; exact tl_ok hs, fun x hx => ?_, h2, ?_, fun x hx => ?_⟩
  · rw [h1, tl_mem, decide_eq_false (show ¬ s ≤ x by omega), Bool.false_and]
    symm
    rw [decide_eq_false_iff_not]
    intro hc
    exact hc (List.mem_map.2 ⟨x, List.mem_range.2 hx, rfl⟩)
  · unfold rng
    rw [List.pairwise_map]
    exact (List.nodup_range (n := s)).imp fun h e => h (by omega)
  · obtain ⟨i, hi, rfl⟩ := List.mem_map.1 hx
    have := List.mem_range.1 hi
    omega
theorem mem_erase {l : List Int} {i : Nat} {x : Int} (hn : l.Pairwise (· ≠ ·)) (hx : l[i]? = some x) (y : Int) : y ∈ l.eraseIdx i ↔ y ∈ l ∧ y ≠ x := by
  have e : l = l.take i ++ x :: l.drop (i + 1) := by rw [← drop_next hx, List.take_append_drop]
  rw [List.eraseIdx_eq_take_drop_succ]
  have hp := hn
  rw [e] at hp
  obtain ⟨p1, p2, p3⟩ := List.pairwise_append.1 hp
  obtain ⟨p4, p5⟩ := List.pairwise_cons.1 p2
  constructor
  · intro h
    rcases List.mem_append.1 h with h | h
    · exact ⟨List.mem_of_mem_take h, fun e2 => p3 y h x (by simp) e2⟩
    · exact ⟨List.mem_of_mem_drop h, fun e2 => p4 y h e2.symm⟩
  · rintro ⟨h, hne⟩
    rw [e] at h
    rcases List.mem_append.1 h with h | h
    · exact List.mem_append_left _ h
    · rcases List.mem_cons.1 h with h | h
      · exact absurd h hne
      · exact List.mem_append_right _ h
theorem OI.next {s : Nat} {ops : List Sp} {left : List Int} {i : Nat} {x : Int} (h : OI s ops left) (hx : left[i]? = some x) : OI s (ops ++ [⟨3, x, 1⟩]) (left.eraseIdx i) := by
  have hr := h.rng x (List.mem_of_getElem? hx)
  have hi := (List.getElem?_eq_some_iff.1 hx).1
  obtain ⟨y, rfl⟩ : ∃ y : Nat, x = y := ⟨x.toNat, by omega⟩
  have hm : mem (played s ops).1 y = false := by rw [h.is y (by omega), decide_eq_false_iff_not]; exact fun hc => hc (List.mem_of_getElem? hx)
  have hh : heldF (played s ops).1 y ((1 : Int)).toNat = false := by
    unfold heldF
    rw [← Bool.not_eq_true, List.any_eq_true]
    rintro ⟨j, hj, h2⟩
    obtain rfl : j = 0 := by have := List.mem_range.1 hj; simp at this; omega
    have e : (y : Int) + ((0 : Nat) : Int) = y := by omega
    rw [e, hm] at h2; cases h2
  have h0 := ser_give (s := s) (l := (played s ops).1) (o := ⟨3, y, 1⟩) h.ok (by simp only; omega) rfl hh
  obtain ⟨c1, c2⟩ := setR_ok (a := y) (m := 1) (b := true) h.ok
  have hL : sgl s (played s ops).1 ⟨3, y, 1⟩ = gk (setR ((s : Int)).toNat (played s ops).1 y 1 true) ((s : Int)).toNat := (sgl_yes h0).1
  rw [← hL] at c1 c2
  have hp : played s (ops ++ [⟨3, y, 1⟩]) = (sgl s (played s ops).1 ⟨3, y, 1⟩, (played s ops).2 ++ [⟨0, sat s (played s ops).1 ⟨3, y, 1⟩⟩]) := by rw [played_snoc, fold1_ok h0]
  refine ⟨?_, by rw [hp]; exact c1, fun z hz => ?_, fun a ha => ?_, h.nd.sublist (List.eraseIdx_sublist _ _), fun z hz => h.rng z ((mem_erase h.nd hx z).1 hz).1⟩
  · rw [List.length_append, List.length_eraseIdx, if_pos hi]; have := h.len; simp; omega
  · rw [hp]
    simp only
    rw [c2 z (by omega)]
    by_cases hc : z = y
    · subst hc
      rw [if_pos (by omega)]
      symm
      rw [decide_eq_true_iff, mem_erase h.nd hx]
      exact fun h2 => h2.2 rfl
    · rw [if_neg (by omega), h.is z hz, Bool.eq_iff_iff, decide_eq_true_iff, decide_eq_true_iff, mem_erase h.nd hx]
      constructor
      · exact fun h1 h2 => h1 h2.1
      · exact fun h1 h2 => h1 ⟨h2, fun e => hc (by omega)⟩
  · rw [hp] at ha
    rcases List.mem_append.1 ha with ha | ha
    · exact h.good a ha
    · rw [List.mem_singleton] at ha; subst ha; rfl
theorem OI.done {s : Nat} {ops : List Sp} (h0 : 1 ≤ s) (h : OI s ops []) : (played s ops).1 = [⟨0, s⟩] ∧ (played s ops).2.length = 2 * s ∧ ((played s ops).2.any fun a => a.e != 0) = false := by
  obtain ⟨c1, c2, c3⟩ := ok_ch h.ok
  refine ⟨?_, by rw [played_length]; have := h.len; simpa using this, ?_⟩
  · have hc : Ch s (-1) [(⟨0, s⟩ : Gp)] := ⟨⟨by show (-1 : Int) < 0; omega, by show (1 : Int) ≤ s; omega, by show (0 : Int) + s ≤ s; omega⟩, trivial⟩
    refine ch_unique c3 hc fun x => ?_
    by_cases hx : x < 0
    · rw [c3.low (by omega), hc.low (by omega)]
    · obtain ⟨k, rfl⟩ : ∃ k : Nat, x = k := ⟨x.toNat, by omega⟩
      by_cases hk : k < s
      · rw [h.is k hk, mem_cons, inG_yes.2 ⟨by show (0 : Int) ≤ k; omega, by show (k : Int) < 0 + s; omega⟩]; simp
      · rw [c3.high (by omega), hc.high (by omega)]
  · rw [← Bool.not_eq_true, List.any_eq_true]
    rintro ⟨a, ha, hb⟩
    rw [h.good a ha] at hb
    simp at hb
def spot (v : Int) (n : Nat) : Int := (v.tmod n + n).tmod n
theorem spot_lt (v : Int) {n : Nat} (hn : 0 < n) : 0 ≤ spot v n ∧ spot v n < n := by
  unfold spot
  have h1 : -(n : Int) < v.tmod n := by
    have := Int.lt_tmod_of_pos v (b := (n : Int)) (by omega)
    omega
  exact ⟨Int.tmod_nonneg _ (by omega), Int.tmod_lt_of_pos _ (by omega)⟩
theorem wrap_spot (v : Int) {n : Nat} (hn : 0 < n) (hm : n ≤ 4398046511104) : (wrap64 (v.tmod n + n)).tmod n = spot v n := by
  have h1 : -(n : Int) < v.tmod n := by
    have := Int.lt_tmod_of_pos v (b := (n : Int)) (by omega)
    omega
  have h2 : v.tmod n < n := Int.tmod_lt_of_pos _ (by omega)
  have h3 : wrap64 (v.tmod n + n) = v.tmod n + n := by unfold wrap64; omega
  rw [h3]; rfl
/-! ### the two rows -/
def slen : Value → Nat
  | .slice _ n _ => n
  | _ => 0
theorem pcells_append (a b : List Sp) : pcells (a ++ b) = pcells a ++ pcells b := List.flatMap_append
theorem pcells_one (l : List Sp) : ∀ u ∈ pcells l, u.oneCell' = true := by
  intro u hu
  obtain ⟨b, _, hb⟩ := List.mem_flatMap.1 hu
  simp [scells] at hb
  rcases hb with rfl | rfl | rfl <;> rfl
theorem info24 : (Try.prog.info? 24).map (fun i => (i.zero, i.size, i.bytes)) = some (some (.agg #[.int .i64 0, .int .i64 0, .int .i64 0]), 3, 24) := by kernel_rfl
def OwnSp (w : World) (base : Nat) (A : Option Addr) (n c : Nat) (l : List Sp) : Prop := w.ownsRow base 24 3 (.slice A n c) n (pcells l)
theorem OwnSp.ops {w : World} {base : Nat} {A : Option Addr} {n c : Nat} {l : List Sp} (h : OwnSp w base A n c l) : Ops w w.heap.size A n c l := Words.Rd.of_own h
theorem one_op (w : World) (p : Sp) : Ops (w.alloc (.cells (scells p).toArray 24)) (w.heap.size + 1) (some ⟨w.heap.size, 0, none⟩) 1 1 [p] :=
  Words.Rd.new w 24 _ (0, 0) _ 1 (by simp [pcells]) rfl (by unfold maxLen; omega)
theorem one_int (w : World) (x : Int) : Words.Rd (w.alloc (.cells #[.int .i64 x] 3)) (w.heap.size + 1) 1 (some ⟨w.heap.size, 0, none⟩) 1 1 (icells [x]) :=
  Words.Rd.new w 3 _ (0, 0) _ 1 rfl rfl (by unfold maxLen; omega)
structure QI (w : World) (A1 : Option Addr) (n1 c1 : Nat) (ops : List Sp) (A2 : Option Addr) (n2 c2 : Nat) (left : List Int) (W : World) : Prop where
  bel : Below w.heap.size w W
  ops : OwnSp W w.heap.size A1 n1 c1 ops
  left : OwnIn W w.heap.size A2 n2 c2 left
section
variable {w W W' : World} {A1 A2 A' : Option Addr} {n1 c1 n2 c2 c' : Nat} {ops : List Sp} {left left' : List Int}
theorem QI.next (h : QI w A1 n1 c1 ops A2 n2 c2 left W) (hb : Below W.heap.size W W') : QI w A1 n1 c1 ops A2 n2 c2 left W' :=
  ⟨h.bel.trans (hb.mono h.bel.size), own_below h.ops hb (Nat.le_refl _), h.left.below hb (Nat.le_refl _)⟩
theorem QI.had1 (h : QI w A1 n1 c1 ops A2 n2 c2 left W) {p : Sp} (ho : W'.ownsRow w.heap.size 24 3 (.slice A' (n1 + 1) c') (n1 + 1) (pcells ops ++ pcells [p])) (hg : W.grownBy W' (Value.slice A1 n1 c1).ownBlock) : QI w A' (n1 + 1) c' (ops ++ [p]) A2 n2 c2 left W' :=
  ⟨below_grown h.bel h.ops hg h.bel.size (Nat.le_refl _), by unfold OwnSp; rw [pcells_append]; exact ho, Go.World.ownsRow.kept h.left hg (own_apart h.left h.ops (by decide))⟩
theorem QI.had2 (h : QI w A1 n1 c1 ops A2 n2 c2 left W) {p : Int} (ho : W'.ownsRow w.heap.size 3 1 (.slice A' (n2 + 1) c') (n2 + 1) (icells left ++ icells [p])) (hg : W.grownBy W' (Value.slice A2 n2 c2).ownBlock) : QI w A1 n1 c1 ops A' (n2 + 1) c' (left ++ [p]) W' :=
  ⟨below_grown h.bel h.left hg h.bel.size (Nat.le_refl _), Go.World.ownsRow.kept h.ops hg (own_apart h.ops h.left (by decide)), by unfold OwnIn icells; rw [List.map_append]; exact ho⟩
theorem QI.del {g i m : Nat} (h : QI w A1 n1 c1 ops (some ⟨g, 0, none⟩) (i + 1 + m) c2 left W) (ho : OwnIn W' w.heap.size (some ⟨g, 0, none⟩) (i + m) c2 left') (hg : W.grownBy W' (some g)) : QI w A1 n1 c1 ops (some ⟨g, 0, none⟩) (i + m) c2 left' W' :=
  ⟨below_grown h.bel h.left hg h.bel.size (Nat.le_refl _), Go.World.ownsRow.kept h.ops hg (own_apart h.ops h.left (by decide)), ho⟩
end
end Go.Proofs.Ytkhcaobmohppnaa.Spc
