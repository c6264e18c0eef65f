/-
  What Play returns.
-/
import Derived.Test.YtfohihdpohjmcaaNew16
namespace Go.Proofs.Ytfohihdpohjmcaa.Ftl
open Go.ChangeShapes Go.WideShapes Go.ChangeAt Go.RowKit Words
set_option linter.unusedVariables false

/-- The answers so far, and zeros. -/
def aws (l : List Fop) (n k : Nat) : List Fan := A l k ++ List.replicate (n - k) ⟨0, 0⟩
theorem aws_get {l : List Fop} {n k : Nat} (hl : l.length = n) (hk : k < n) : (aws l n k)[k]? = some ⟨0, 0⟩ := by
  unfold aws
  rw [List.getElem?_append_right (by rw [A_length (by omega)]; exact Nat.le_refl _), A_length (by omega), Nat.sub_self, List.getElem?_replicate, if_pos (by omega)]
theorem aws_set {l : List Fop} {n k : Nat} {o : Fop} (hl : l.length = n) (ho : l[k]? = some o) : (aws l n k).set k (fans (S l k) o) = aws l n (k + 1) := by
  have hk := (List.getElem?_eq_some_iff.1 ho).1
  unfold aws
  rw [List.set_append_right _ _ (by rw [A_length (by omega)]; exact Nat.le_refl _), A_length (by omega), Nat.sub_self, A_next ho, List.append_assoc]
  congr 1
  rw [show n - k = (n - (k + 1)) + 1 by omega, List.replicate_succ, List.set_cons_zero]; rfl
theorem aws_zero (l : List Fop) (n : Nat) : aws l n 0 = List.replicate n ⟨0, 0⟩ := by unfold aws; rw [A_zero]; rfl
theorem aws_all {l : List Fop} {n : Nat} (hl : l.length = n) : aws l n n = anss sto0 l := by unfold aws; rw [A_all (by omega), Nat.sub_self]; simp
/-- The answers' row, known whole. -/
def WA (w : World) (x : Nat) (l : List Fan) : Prop := Whole w x 32 (acells l).toArray
section
variable {w : World} {x : Nat} {l : List Fan}
theorem WA.cells (h : WA w x l) {k : Nat} {a : Fan} (ha : l[k]? = some a) : w.cell? ⟨x, k * 2, none⟩ = some (.int .i64 a.err) ∧ w.cell? ⟨x, k * 2 + 1, none⟩ = some (.int .i64 a.data) := by
  have h0 := flat_get fcells_length ha (j := 0) (by omega)
  have h1 := flat_get fcells_length ha (j := 1) (by omega)
  constructor
  · rw [Whole.cell h (k * 2), List.getElem?_toArray]; exact h0
  · rw [Whole.cell h (k * 2 + 1), List.getElem?_toArray]; exact h1
theorem WA.put (h : WA w x l) {k : Nat} {a : Fan} (ha : l[k]? = some a) (b : Fan) : WA ((w.setCell ⟨x, k * 2, none⟩ (.int .i64 b.err)).setCell ⟨x, k * 2 + 1, none⟩ (.int .i64 b.data)) x (l.set k b) := by
  have s0 : (acells l).set (k * 2 + 0) (.int .i64 b.err) = acells (l.set k ⟨b.err, a.data⟩) := flat_set fcells_length ha (by omega) rfl
  have hk := (List.getElem?_eq_some_iff.1 ha).1
  have ha2 : (l.set k ⟨b.err, a.data⟩)[k]? = some ⟨b.err, a.data⟩ := by rw [List.getElem?_set, if_pos rfl, if_pos hk]
  have s1 : (acells (l.set k ⟨b.err, a.data⟩)).set (k * 2 + 1) (.int .i64 b.data) = acells ((l.set k ⟨b.err, a.data⟩).set k b) := flat_set fcells_length ha2 (by omega) rfl
  have h1 := Whole.set_ h (k * 2) (.int .i64 b.err)
  rw [toArray_setI, show k * 2 = k * 2 + 0 from rfl, s0] at h1
  have h2 := Whole.set_ h1 (k * 2 + 1) (.int .i64 b.data)
  rw [toArray_setI, s1, List.set_set] at h2
  exact h2
theorem WA.fans (h : WA w x l) {n : Nat} (hn : l.length = n) (hm : n ≤ maxLen) : Fans w w.heap.size (some ⟨x, 0, none⟩) n n l :=
  ⟨by rw [acells_length, hn], Nat.le_refl _, hm, (fun h => by cases h), fun _ => ⟨x, 0, rfl, Whole.lt h, fun j u hu => by
    rw [Nat.zero_add, Whole.cell h j, List.getElem?_toArray, hu]⟩⟩
end
/-- What the walk keeps. -/
structure PInv (w : World) (g x n : Nat) (l : List Fop) (k T E : Nat) (wx : World) : Prop where
  bel : Below w.heap.size w wx
  dev : Dev w.heap.size g (S l k) wx T E
  ans : WA wx x (aws l n k)
  tot : nw l k ≤ T
  few : E ≤ 5 * k
section
variable {w wx wy : World} {g x n k T E : Nat} {l : List Fop}
theorem PInv.box (h : PInv w g x n l k T E wx) (o : Obj) : PInv w g x n l k T E (wx.alloc o) :=
  ⟨h.bel.alloc h.bel.size o, h.dev.below ((Below.refl _ _).alloc (Nat.le_refl _) _), Whole.alloc h.ans o, h.tot, h.few⟩
theorem PInv.next {T' E' : Nat} {o : Fop} (h : PInv w g x n l k T E wx) (hl : l.length = n) (ho : l[k]? = some o) (hx : w.heap.size ≤ x) (hne : x ≠ g)
    (d : Dev w.heap.size g (fnx (S l k) o) wy T' E') (h1 : T ≤ T') (h2 : E' ≤ E + 5) (h3 : isFw o = true → T + 1 ≤ T') (f : Fr w.heap.size g wx wy) :
    PInv w g x n l (k + 1) T' E' ((wy.setCell ⟨x, k * 2, none⟩ (.int .i64 (fans (S l k) o).err)).setCell ⟨x, k * 2 + 1, none⟩ (.int .i64 (fans (S l k) o).data)) := by
  have ha : WA wy x (aws l n k) := f.whole h.ans hne
  have hk := (List.getElem?_eq_some_iff.1 ho).1
  have hp := ha.put (aws_get hl (by omega)) (fans (S l k) o)
  rw [aws_set hl ho] at hp
  have d2 : Dev w.heap.size g (S l (k + 1)) wy T' E' := by rw [S_next ho]; exact d
  refine ⟨((h.bel.trans f.bel).setCell hx _).setCell hx _, (d2.setRow ha (by decide) (by decide) _ _).setRow (ha.set_ _ _) (by decide) (by decide) _ _, hp, ?_, by have := h.few; omega⟩
  have ht := h.tot
  cases hf : isFw o with
  | true => rw [nw_yes ho hf]; have := h3 hf; omega
  | false => rw [nw_no ho hf]; omega
end
theorem wearOf_at {a r i : Nat} (hr : r < 8) (hi : i < 8) : wearOf (8 * a + r) i = a + (if i < r then 1 else 0) := by
  unfold wearOf
  split <;> omega
theorem wsum_lit (x0 x1 x2 x3 x4 x5 x6 x7 : Int) : wsum [x0, x1, x2, x3, x4, x5, x6, x7] 8 = x0 + x1 + x2 + x3 + x4 + x5 + x6 + x7 := by
  simp [wsum]
theorem wears_sum (E : Nat) : wsum (wears E) 8 = (E : Int) := by
  obtain ⟨a, r, hr, rfl⟩ : ∃ a r, r < 8 ∧ E = 8 * a + r := ⟨E / 8, E % 8, by omega, by omega⟩
  rw [wears_lit, wsum_lit, wearOf_at hr (by omega), wearOf_at hr (by omega), wearOf_at hr (by omega), wearOf_at hr (by omega), wearOf_at hr (by omega), wearOf_at hr (by omega), wearOf_at hr (by omega), wearOf_at hr (by omega)]
  have : r = 0 ∨ r = 1 ∨ r = 2 ∨ r = 3 ∨ r = 4 ∨ r = 5 ∨ r = 6 ∨ r = 7 := by omega
  rcases this with rfl | rfl | rfl | rfl | rfl | rfl | rfl | rfl <;> simp <;> omega
theorem wear_ok {l : List Fop} {T E : Nat} (h1 : nw l l.length ≤ T) (h2 : T ≤ 4 * (E + 7)) (h3 : E ≤ 8000) : WearOk l (wears E) := by
  refine ⟨rfl, fun x hx => ?_, fun x hx y hy => by have := wears_near hx hy; omega, ?_⟩
  · obtain ⟨i, hi, rfl⟩ := wears_mem hx
    unfold wearOf
    omega
  · rw [wears_sum]; omega
theorem fplayed_nil {w w' : World} {l : List Fop} (h : ¬ l.length ≤ 400) (b : Below w.heap.size w w') : FPlayed w l (.returned (.tuple #[.slice none 0 0, .slice none 0 0, .int .i64 2])) w' := by
  have e1 : iAns l = [] := by unfold iAns; rw [if_neg h]
  have e2 : iErr l = 2 := by unfold iErr; rw [if_neg h]
  unfold FPlayed
  rw [e1, e2]
  exact ⟨none, 0, none, [], 0, rfl, Words.Rd.nil_ _ _ _, Words.Rd.nil_ _ _ _, by rw [if_neg h], b⟩
theorem fplayed_mk {w w' : World} {l : List Fop} {n x c2 E : Nat} {A2 : Option Addr} (h : l.length ≤ 400) (hn : l.length = n) (h1 : Fans w' w'.heap.size (some ⟨x, 0, none⟩) n n (anss sto0 l)) (h2 : Ints w' w'.heap.size A2 8 c2 (wears E)) (h3 : WearOk l (wears E)) (b : Below w.heap.size w w') :
    FPlayed w l (.returned (.tuple #[.slice (some ⟨x, 0, none⟩) n n, .slice A2 8 c2, .int .i64 0])) w' := by
  have e1 : iAns l = anss sto0 l := by unfold iAns; rw [if_pos h]
  have e2 : iErr l = 0 := by unfold iErr; rw [if_pos h]
  unfold FPlayed
  rw [e1, e2, anss_length, hn]
  exact ⟨_, n, A2, wears E, c2, rfl, h1, h2, by rw [if_pos (by omega)]; exact h3, b⟩
set_option maxHeartbeats 8000000 in
theorem play9 : PlayC := by
  intro B A n c l w h hB hwf
  have hl := h.len
  by_cases hn : n ≤ 400
  · have H := Lib.hid h
    have L := Lib.hid hl
    have HN := Lib.hid (newDevice16 w)
    obtain ⟨i32, hi32, hz0, hz1, hz2⟩ := info_parts info32
    clear h hl hwf
    go_enter Try.func9, Try.ntmps9
    go_wp2_with fail
    refine (HN.out).mono ?_; rintro e w1 ⟨g, rfl, hg, d1, b1⟩
    have hmk : (Instr.makeSlice 23 (.int .i64 (n : Int)) (.int .i64 (n : Int))).run Try.prog w1 = .ok (.slice (some ⟨w1.heap.size, 0, none⟩) n n) (w1.alloc (.cells (madeCells #[.int .i64 0, .int .i64 0] (n * 2)) 32)) := by
      have h := run_make (P := Try.prog) w1 23 32 i32 _ Try.underlying23 hi32 hz0 .i64 .i64 (n : Int) (n : Int) (by omega) (Int.le_refl _) (by rw [hz2]; omega) (by omega)
      simpa [hz1, Value.cells] using h
    rw [made_fans] at hmk
    have hs1 := b1.size
    have hne : w1.heap.size ≠ g := fun e => by have := d1.lt; omega
    have I0 : Hid (PInv w g w1.heap.size n l 0 0 0 (w1.alloc (.cells (acells (List.replicate n ⟨0, 0⟩)).toArray 32))) := Lib.hid
      ⟨b1.alloc hs1 _, by rw [S_zero]; exact d1.below ((Below.refl _ _).alloc (Nat.le_refl _) _), by rw [aws_zero]; exact Whole.new w1 32 _, by rw [nw_zero]; exact Nat.le_refl _, by omega⟩
    generalize (acells (List.replicate n ⟨0, 0⟩)).toArray = z8 at *
    clear d1 b1 hz0 hz1 hz2 hi32
    go_wp2_with fail
    go_loopw [18] (fun i wr => ∃ (k T E : Nat), i = .int .i64 k ∧ k ≤ n ∧ PInv w g w1.heap.size n l k T E wr) (fun i _ => (n - intOf i).toNat)
    case atStart => exact ⟨0, 0, 0, rfl, by omega, I0.out⟩
    case round =>
      obtain ⟨k, T, E, rfl, hk, hinv⟩ := hrel
      have I := Lib.hid hinv
      clear hinv I0 hmk
      by_cases hlt : k < n
      · obtain ⟨gl, ol, rfl, _, _⟩ := Words.Rd.row H.out (by omega)
        obtain ⟨o, ho⟩ : ∃ o, l[k]? = some o := ⟨_, List.getElem?_eq_getElem (by rw [L.out]; exact hlt)⟩
        obtain ⟨c0, c1, c2⟩ := Ops.cells (Words.Rd.below H.out I.out.bel hB) rfl ho
        have HO := Lib.hid ho
        have I1 := Lib.hid (I.out.box (obox o))
        have HC := Lib.hid (perform17 w.heap.size g (S l k) T E o _ I1.out.dev I1.out.bel.size (by have := I.out.few; omega))
        clear ho
        obtain ⟨kd, nn, dt⟩ := o
        unfold obox at I1 HC
        unfold oval at HC
        go_wp2_with fail
        refine (HC.out).mono ?_; rintro e wy ⟨rfl, T', E', d2, t1, t2, t3, f2⟩
        have ha : WA wy w1.heap.size (aws l n k) := f2.whole I1.out.ans hne
        obtain ⟨q0, q1⟩ := ha.cells (aws_get L.out hlt)
        have q2 := Whole.frozen ha (k * 2)
        have q3 := Whole.frozen ha (k * 2 + 1)
        have I2 := Lib.hid (I1.out.next L.out HO.out hs1 hne d2 t1 t2 t3 f2)
        clear d2 t1 t2 t3 f2 ha
        unfold fvalA
        generalize fans (S l k) ⟨kd, nn, dt⟩ = fa at *
        obtain ⟨ea, da⟩ := fa
        go_wp2_with fail
        go_roundw
        case rel => exact ⟨k + 1, T', E', by go_num, by omega, I2.out⟩
        case measure => simp [intOf]; omega
      · obtain rfl : k = n := by omega
        have HE := Lib.hid (erasures18 _ g T E (S l k) wr I.out.dev)
        go_wp2_with fail
        refine (HE.out).mono ?_; rintro e wy ⟨A2, c2, rfl, hi, hb⟩
        have HI := Lib.hid hi
        have HA : Hid (Fans wy wy.heap.size (some ⟨w1.heap.size, 0, none⟩) k k (anss sto0 l)) := Lib.hid (by
          have := (WA.fans (show WA wy w1.heap.size (aws l k k) from whole_below I.out.ans hb I.out.ans.lt) (n := k) (by rw [aws_all L.out, anss_length]; exact L.out) (by unfold maxLen; omega))
          rw [aws_all L.out] at this
          exact this)
        have HB := Lib.hid (I.out.bel.trans (hb.mono I.out.bel.size))
        have HW : Hid (WearOk l (wears E)) := Lib.hid (by
          obtain ⟨_, _, _, d⟩ := I.out.dev
          exact wear_ok (T := T) (by rw [L.out]; exact I.out.tot) d.hi (by have := I.out.few; omega))
        clear hi hb
        go_wp2_with fail
        go_ret3
        exact fplayed_mk (by rw [L.out]; exact hn) L.out HA.out HI.out HW.out HB.out
  · have HL := Lib.hid (show ¬ l.length ≤ 400 by rw [hl]; exact hn)
    have hgt : 400 < n := by omega
    have hsm := Words.Rd.small h
    clear h hl hwf hn
    go_enter Try.func9, Try.ntmps9
    go_wp2_with fail
    go_ret3
    exact fplayed_nil HL.out (Below.refl _ _)
end Go.Proofs.Ytfohihdpohjmcaa.Ftl
