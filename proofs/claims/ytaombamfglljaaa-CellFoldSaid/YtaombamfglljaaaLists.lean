/-
  What slices.Clone and slices.Reverse return here, and Force with its new row.
-/
import Derived.Test.YtaombamfglljaaaAgain
namespace Go.Proofs.Ytaombamfglljaaa.Cell
open Go.ChangeShapes Go.WideShapes Go.ChangeAt Go.RowKit Words

theorem info22 : (Try.prog.info? 22).map (fun i => (i.zero, i.size, i.bytes)) = some (some (.slice none 0 0), 1, 24) := by kernel_rfl
set_option maxHeartbeats 1000000 in
theorem clone22 (B : Nat) (A : Option Addr) (n c : Nat) (l : List UInt8) (w : World) (h : Txt w B A n c l) (hB : B ≤ w.heap.size) (hn : n ≤ 140737488355328) :
    Calls Try.prog 22 #[.slice A n c] w (MadeOne w l) := by
  obtain ⟨i0, hi0, hz0, hz1, hz2⟩ := info_parts info5
  cases A with
  | none =>
    have hc := Rd.none_ h rfl
    have hn0 : n = 0 := by have := Rd.le h; omega
    have hl := h.len
    subst hc hn0
    have hl0 : l = [] := List.eq_nil_of_length_eq_zero hl
    subst hl0
    clear h hl
    have hq := Lib.run_eql_slice_nil (P := Try.prog) w 22 5 none 0 0 0 0 Try.underlying22
    go_enter Try.func22, Try.ntmps22
    go_wp2_with fail
    go_ret
    exact ⟨none, 0, rfl, own_nil w, Below.refl _ _⟩
  | some a =>
    have H := Lib.hid h
    have HN := Lib.hid h.len
    clear h
    have hq := Lib.run_eql_slice_nil (P := Try.prog) w 22 5 (some a) n c 0 0 Try.underlying22
    have hown1 : (w.alloc (.cells #[] 5)).ownsRow w.heap.size 5 1 (.slice (some ⟨w.heap.size, 0, none⟩) 0 0) 0 [] := w.ownsRow_lit #[] 0 (Nat.le_refl _) (by decide) rfl
    have hb1 : Below w.heap.size w (w.alloc (.cells #[] 5)) := (Below.refl _ _).alloc (Nat.le_refl _) _
    have hz1' : w.heap.size ≤ (w.alloc (.cells #[] 5)).heap.size := hb1.size
    have HR := Lib.hid (Rd.alloc H.out hB (.cells #[] 5))
    go_enter Try.func22, Try.ntmps22
    go_wp2_with (first
      | (at_builtin; refine wpList_append_rd _ rfl (.tmp 5) (.tmp 6) 22 rfl w.heap.size 5 i0 (.int .u8 0) 1 1 Try.underlying22 hi0 hz0 hz1 hz2 rfl (by decide) _ 0 [] rfl hown1 B (some a) n c (bcells l) rfl HR.out (bcells_one l) (by simp only [maxLen]; omega) (by omega) hz1' ?_
         intro A2 c2 w2 hown2 hg2
         have hb2 : Below w.heap.size w w2 := below_grown hb1 hown1 hg2 hz1' (Nat.le_refl _)
         simp only [Nat.zero_add, List.nil_append] at hown2))
    go_ret
    have hn' := HN.out
    subst hn'
    exact ⟨A2, c2, rfl, hown2, hb2⟩
set_option maxHeartbeats 1000000 in
theorem forceOwn (B1 B2 : Nat) (A1 A2 : Option Addr) (n1 c1 c2 : Nat) (a b : List UInt8) (w : World) (h1 : Txt w B1 A1 n1 c1 a) (h2 : Txt w B2 A2 n1 c2 b) (hB1 : B1 ≤ w.heap.size) (hB2 : B2 ≤ w.heap.size) (hn : n1 ≤ 140737488355328) :
    Calls Try.prog 14 #[.slice A1 n1 c1, .slice A2 n1 c2] w fun e w' => ∃ A c, e = two (.slice A n1 c) 0 ∧ w'.ownsRow w.heap.size 5 1 (.slice A n1 c) n1 (bcells (force a b)) ∧ Below w.heap.size w w' := by
  obtain ⟨i0, hi0, hz0, hz1, hz2⟩ := info_parts info5
  have l1 := h1.len
  have l2 := h2.len
  · skip
    have T1 := Lib.hid h1
    have T2 := Lib.hid h2
    have L1 := Lib.hid l1
    have L2 := Lib.hid l2
    obtain ⟨Z, hZ⟩ : ∃ Z, Z = force a b := ⟨_, rfl⟩
    have LZ : Hid (Z.length = n1) := Lib.hid (by rw [hZ, force_length (l1.trans l2.symm), l1])
    have HZ := Lib.hid hZ
    rw [← hZ]
    clear hZ h1 h2 l1 l2
    go_enter Try.func14, Try.ntmps14
    go_wp2_with (at_make; refine wpList_make_full _ rfl _ _ 22 rfl w.heap.size 5 i0 (.int .u8 0) 1 Try.underlying22 hi0 hz0 hz1 .i64 .i64 _ _ n1 rfl rfl (by omega) (by omega) (by rw [hz2]; omega) (by simp only [maxLen]; omega) (Nat.le_refl _) ?_
                 intro w2 hown2 hg2)
    have hb2 : Below w.heap.size w w2 := (Below.refl _ _).grown hg2 (Nat.le_refl _) (fun k hk => by cases hk)
    rw [made_zeros] at hown2
    have O3 := Lib.hid hown2
    have B3 := Lib.hid hb2
    clear hown2 hb2 hg2
    go_loopw [19] (fun i wr => ∃ (k : Nat) (M : List UInt8), k ≤ n1 ∧ i = .int .i64 k ∧ M.length = n1 ∧ M.take k = Z.take k ∧ wr.ownsRow w.heap.size 5 1 (.slice (some ⟨w.heap.size, 0, none⟩) n1 n1) n1 (bcells M) ∧ Below w.heap.size w wr) (fun i _ => (n1 - intOf i).toNat)
    case atStart => exact ⟨0, _, by omega, rfl, List.length_replicate, rfl, O3.out, B3.out⟩
    case round =>
      obtain ⟨k, M, hk, rfl, hml, hmt, hown, hbel⟩ := hrel
      have O := Lib.hid hown
      have HML := Lib.hid hml
      have HMT := Lib.hid hmt
      have BW := Lib.hid hbel
      clear hown hml hmt
      by_cases hlt : k < n1
      · obtain ⟨b1, o1, rfl, _, _⟩ := Rd.row T1.out (by omega)
        obtain ⟨b2, o2, rfl, _, _⟩ := Rd.row T2.out (by omega)
        obtain ⟨p, hp0⟩ : ∃ p, a[k]? = some p := ⟨_, List.getElem?_eq_getElem (by rw [L1.out]; exact hlt)⟩
        obtain ⟨q, hq0⟩ : ∃ q, b[k]? = some q := ⟨_, List.getElem?_eq_getElem (by rw [L2.out]; exact hlt)⟩
        have d1 := Txt.cellAt (Rd.below T1.out hbel hB1) rfl hp0
        have d2 := Txt.cellAt (Rd.below T2.out hbel hB2) rfl hq0
        have f1 := O.out.frozenAt k
        obtain ⟨m0, hm0⟩ : ∃ m0, wr.cell? ⟨w.heap.size, k, none⟩ = some m0 := ⟨_, by rw [O.out.cellAt k (by omega), bcells_get, List.getElem?_eq_getElem (by rw [HML.out]; exact hlt)]; rfl⟩
        have HF : Hid (Z[k]? = some (p &&& q)) := Lib.hid (by rw [HZ.out]; exact force_get hp0 hq0)
        have ha := and8 p q
        clear hbel hp0 hq0
        go_wp2_with fail
        obtain ⟨O4, b4⟩ := stored_byte O.out k (p &&& q) (Nat.le_refl _)
        have HO4 := Lib.hid O4
        have HB4 := Lib.hid b4
        have HM4 : Hid ((M.set k (p &&& q)).take (k + 1) = Z.take (k + 1)) := Lib.hid (take_set_next (by rw [HML.out]; exact hlt) HMT.out HF.out)
        clear O4 b4 d1 d2 f1 hm0 ha
        go_roundw
        case rel => exact ⟨k + 1, M.set k (p &&& q), by omega, by go_num, by rw [List.length_set, HML.out], HM4.out, HO4.out, BW.out.trans HB4.out⟩
        case measure => simp [intOf]; omega
      · obtain rfl : k = n1 := by omega
        have hM : M = Z := by
          have h := HMT.out
          rwa [List.take_of_length_le (by rw [HML.out]; omega), List.take_of_length_le (by rw [LZ.out]; omega)] at h
        subst hM
        clear hbel
        go_wp2_with fail
        go_ret2
        exact ⟨_, _, rfl, O.out, BW.out⟩

set_option maxHeartbeats 1000000 in
theorem clone20 (B : Nat) (A : Option Addr) (n c : Nat) (xs : List Value) (w : World) (h : Rd w B 1 A n c xs) (h1 : ∀ u ∈ xs, u.oneCell' = true) (hB : B ≤ w.heap.size) (hn : n * 24 ≤ 140737488355328) :
    Calls Try.prog 20 #[.slice A n c] w (MadeRow w 22 n xs) := by
  obtain ⟨i0, hi0, hz0, hz1, hz2⟩ := info_parts info22
  cases A with
  | none =>
    have hc := Rd.none_ h rfl
    have hn0 : n = 0 := by have := Rd.le h; omega
    have hl := Rd.len h
    subst hc hn0
    have hl0 : xs = [] := List.eq_nil_of_length_eq_zero (by omega)
    subst hl0
    clear h hl
    have hq := Lib.run_eql_slice_nil (P := Try.prog) w 36 22 none 0 0 0 0 Try.underlying36
    go_enter Try.func20, Try.ntmps20
    go_wp2_with fail
    go_ret
    exact ⟨none, 0, rfl, w.ownsRow_nil _ _ _, Below.refl _ _⟩
  | some a =>
    have H := Lib.hid h
    have H1 := Lib.hid h1
    clear h h1
    have hq := Lib.run_eql_slice_nil (P := Try.prog) w 36 22 (some a) n c 0 0 Try.underlying36
    have hown1 : (w.alloc (.cells #[] 22)).ownsRow w.heap.size 22 1 (.slice (some ⟨w.heap.size, 0, none⟩) 0 0) 0 [] := w.ownsRow_lit #[] 0 (Nat.le_refl _) (by decide) rfl
    have hb1 : Below w.heap.size w (w.alloc (.cells #[] 22)) := (Below.refl _ _).alloc (Nat.le_refl _) _
    have hz1' : w.heap.size ≤ (w.alloc (.cells #[] 22)).heap.size := hb1.size
    have HR := Lib.hid (Rd.alloc H.out hB (.cells #[] 22))
    go_enter Try.func20, Try.ntmps20
    go_wp2_with (first
      | (at_builtin; refine wpList_append_rd _ rfl (.tmp 5) (.tmp 6) 36 rfl w.heap.size 22 i0 (.slice none 0 0) 1 24 Try.underlying36 hi0 hz0 hz1 hz2 rfl (by decide) _ 0 [] rfl hown1 B (some a) n c xs rfl HR.out H1.out (by simp only [maxLen]; omega) (by omega) hz1' ?_
         intro A2 c2 w2 hown2 hg2
         have hb2 : Below w.heap.size w w2 := below_grown hb1 hown1 hg2 hz1' (Nat.le_refl _)
         simp only [Nat.zero_add, List.nil_append] at hown2))
    go_ret
    exact ⟨A2, c2, rfl, hown2, hb2⟩
/-- The first k and the last k in one another's place. -/
def revTo (xs : List Value) (k : Nat) : List Value := xs.mapIdx fun p v => if p < k ∨ xs.length - k ≤ p then xs.getD (xs.length - 1 - p) v else v
theorem revTo_length (xs : List Value) (k : Nat) : (revTo xs k).length = xs.length := by simp [revTo]
theorem revTo_get (xs : List Value) (k p : Nat) : (revTo xs k)[p]? = xs[p]?.map fun v => if p < k ∨ xs.length - k ≤ p then xs.getD (xs.length - 1 - p) v else v := by simp [revTo, List.getElem?_mapIdx]
theorem revTo_zero (xs : List Value) : revTo xs 0 = xs := by
  apply List.ext_getElem?
  intro p
  rw [revTo_get]
  cases h : xs[p]? with
  | none => rfl
  | some v =>
    have := (List.getElem?_eq_some_iff.1 h).1
    rw [Option.map_some, if_neg (by omega)]
theorem revTo_here {xs : List Value} {k p : Nat} {v : Value} (h : xs[p]? = some v) (h1 : k ≤ p) (h2 : p < xs.length - k) : (revTo xs k)[p]? = some v := by
  rw [revTo_get, h, Option.map_some, if_neg (by omega)]
theorem revTo_step {xs : List Value} {k : Nat} {u v : Value} (hk : k < xs.length - 1 - k) (hu : xs[k]? = some u) (hv : xs[xs.length - 1 - k]? = some v) :
    ((revTo xs k).set k v).set (xs.length - 1 - k) u = revTo xs (k + 1) := by
  apply List.ext_getElem?
  intro p
  rw [List.getElem?_set, List.length_set, List.getElem?_set, revTo_length, revTo_get, revTo_get]
  by_cases h1 : xs.length - 1 - k = p
  · subst h1
    rw [if_pos rfl, if_pos (by omega), hv, Option.map_some, if_pos (by omega), show xs.length - 1 - (xs.length - 1 - k) = k by omega, List.getD, hu]
    rfl
  · rw [if_neg h1]
    by_cases h2 : k = p
    · subst h2
      rw [if_pos rfl, if_pos (by omega), hu, Option.map_some, if_pos (by omega), List.getD, hv]
      rfl
    · rw [if_neg h2]
      have e : (p < k ∨ xs.length - k ≤ p) = (p < k + 1 ∨ xs.length - (k + 1) ≤ p) := propext (by omega)
      simp only [e]
theorem revTo_all {xs : List Value} {k : Nat} (h : xs.length - 1 - k ≤ k) : revTo xs k = xs.reverse := by
  apply List.ext_getElem?
  intro p
  rw [revTo_get]
  by_cases hp : p < xs.length
  · rw [List.getElem?_reverse hp, List.getElem?_eq_getElem hp, Option.map_some, List.getElem?_eq_getElem (show xs.length - 1 - p < xs.length by omega)]
    split
    · rw [List.getD, List.getElem?_eq_getElem (show xs.length - 1 - p < xs.length by omega)]; rfl
    · have e : xs.length - 1 - p = p := by omega
      simp only [e]
  · rw [List.getElem?_eq_none (by omega), List.getElem?_eq_none (by simp; omega)]; rfl
set_option maxHeartbeats 1000000 in
theorem reverse21 (base : Nat) (A : Option Addr) (n c : Nat) (xs : List Value) (w : World) (h : w.ownsRow base 22 1 (.slice A n c) n xs) (hm : n ≤ 140737488355328) (h1 : ∀ u ∈ xs, ∃ p a b, u = Value.slice p a b) :
    Calls Try.prog 21 #[.slice A n c] w fun e w' => e = .returned (.tuple #[]) ∧ w'.ownsRow base 22 1 (.slice A n c) n xs.reverse ∧ Below base w w' := by
  have hl : xs.length = n := by have := h.1; omega
  have HL := Lib.hid hl
  have H1 := Lib.hid h1
  have H0 : Hid (w.ownsRow base 22 1 (.slice A n c) n (revTo xs 0)) := Lib.hid (by rw [revTo_zero]; exact h)
  clear h hl h1
  go_enter Try.func21, Try.ntmps21
  go_wp2_with fail
  go_loopw [2, 3] (fun i j wr => ∃ k : Nat, i = .int .i64 k ∧ j = .int .i64 ((n : Int) - 1 - (k : Int)) ∧ 2 * k ≤ n ∧ wr.ownsRow base 22 1 (.slice A n c) n (revTo xs k) ∧ Below base w wr) (fun i _ _ => (n - intOf i).toNat)
  case atStart => exact ⟨0, rfl, by go_num, by omega, H0.out, Below.refl _ _⟩
  case round =>
    obtain ⟨k, rfl, rfl, hk, hown, hbel⟩ := hrel
    have O := Lib.hid hown
    have BW := Lib.hid hbel
    clear hown hbel
    by_cases hlt : (k : Int) < (n : Int) - 1 - (k : Int)
    · obtain ⟨g, c', hv, hg, _⟩ := own_form_pos O.out (by omega)
      injection hv with hv _ hv'
      subst hv hv'
      obtain ⟨u, hu⟩ : ∃ u, xs[k]? = some u := ⟨_, List.getElem?_eq_getElem (by rw [HL.out]; omega)⟩
      obtain ⟨v, hv⟩ : ∃ v, xs[xs.length - 1 - k]? = some v := ⟨_, List.getElem?_eq_getElem (by rw [HL.out]; omega)⟩
      have R := Rd.of_own O.out
      have d1 := Rd.cellAt R rfl (by omega) k u (revTo_here hu (Nat.le_refl _) (by rw [HL.out]; omega))
      have d2 := Rd.cellAt R rfl (by omega) (xs.length - 1 - k) v (revTo_here hv (by rw [HL.out]; omega) (by rw [HL.out]; omega))
      have HS := Lib.hid (revTo_step (by rw [HL.out]; omega) hu hv)
      rw [HL.out] at d2
      rw [Nat.zero_add] at d1 d2
      have f1 := O.out.frozenAt k
      have f2 := O.out.frozenAt (n - 1 - k)
      obtain ⟨pu, au, bu, rfl⟩ := H1.out u (List.mem_iff_getElem?.2 ⟨_, hu⟩)
      obtain ⟨pv, av, bv, rfl⟩ := H1.out v (List.mem_iff_getElem?.2 ⟨_, hv⟩)
      have hj : ((n : Int) - 1 - (k : Int)).toNat = n - 1 - k := by omega
      have d3 : (wr.setCell ⟨g, k, none⟩ (.slice pv av bv)).cell? ⟨g, n - 1 - k, none⟩ = some (.slice pv av bv) := by
        rw [World.cell?_setCell_other _ _ _ _ (by intro e; injection e with _ e _; omega)]; exact d2
      have hS1 := (O.out.stored k (.slice pv av bv)).1
      have f3 := hS1.frozenAt (n - 1 - k)
      have hS2 := (hS1.stored (n - 1 - k) (.slice pu au bu)).1
      rw [HL.out] at HS
      rw [HS.out] at hS2
      have O2 := Lib.hid hS2
      have BB : Hid (Below base w ((wr.setCell ⟨g, k, none⟩ (.slice pv av bv)).setCell ⟨g, n - 1 - k, none⟩ (.slice pu au bu))) := Lib.hid ((BW.out.setCell hg _).setCell hg _)
      clear R hu hv hS1 hS2
      go_wp2_with fail
      go_region
      go_wp2_with fail
      go_roundw
      case rel => exact ⟨k + 1, by go_num, by exact i64_num (by omega), by omega, O2.out, BB.out.drew⟩
      case measure => simp [intOf]; omega
    · have HE : Hid (revTo xs k = xs.reverse) := Lib.hid (revTo_all (by rw [HL.out]; omega))
      go_wp2_with fail
      go_end0
      exact ⟨rfl, by rw [← HE.out]; exact O.out, BW.out⟩
/-- A store elsewhere. -/
theorem rd_off {w : World} {B sz n c : Nat} {A : Option Addr} {xs : List Value} (h : Rd w B sz A n c xs) {q : Addr} (hq : ∀ p, A = some p → p.block ≠ q.block) (u : Value) : Rd (w.setCell q u) B sz A n c xs :=
  ⟨h.len, h.le, h.max, h.none_, fun hn => by
    obtain ⟨b, o, e, hb, hc⟩ := h.row hn
    refine ⟨b, o, e, hb, fun j v hv => ?_⟩
    rw [World.cell?_setCell_other w q _ u (fun e' => hq _ e (by rw [e']))]
    exact hc j v hv⟩
theorem off_new {w : World} {base n G : Nat} {A : Option Addr} {c : Nat} {xs : List Value} (h : w.ownsRow base 5 1 (.slice A n c) n xs) (hG : 0 < n → G < base) : 0 < n → ∀ p, A = some p → p.block ≠ G := fun hn p hp => by
  obtain ⟨g, c', hv, hg, _⟩ := own_form_pos h hn
  injection hv with hv _ _
  rw [hv] at hp
  injection hp with hp
  subst hp
  have := hG hn
  show g ≠ G
  omega
theorem own_lt {w : World} {base n G : Nat} {A : Option Addr} {c : Nat} {xs : List Value} (h : w.ownsRow base 5 1 (.slice A n c) n xs) (hA : 0 < n → A = some ⟨G, 0, none⟩) : 0 < n → G < w.heap.size := fun hn => by
  obtain ⟨g, c', hv, _, hg⟩ := own_form_pos h hn
  injection hv with hv _ _
  rw [hA hn] at hv
  injection hv with hv
  injection hv with hv _ _
  rw [hv]
  exact hg
def foldTo (a : List UInt8) (l : List (List UInt8)) (k : Nat) : List UInt8 := (l.take k).foldl force a
theorem foldTo_zero (a : List UInt8) (l : List (List UInt8)) : foldTo a l 0 = a := rfl
theorem foldTo_succ {a : List UInt8} {l : List (List UInt8)} {k : Nat} {x : List UInt8} (h : l[k]? = some x) : force (foldTo a l k) x = foldTo a l (k + 1) := by
  unfold foldTo
  rw [List.take_add_one, h, List.foldl_append]; rfl
theorem foldTo_all (a : List UInt8) (l : List (List UInt8)) : foldTo a l l.length = l.foldl force a := by unfold foldTo; rw [List.take_length]
theorem foldTo_back (a : List UInt8) (l : List (List UInt8)) : foldTo a l.reverse l.length = foldTo a l l.length := by
  rw [foldTo_all, ← List.length_reverse, foldTo_all, fold_reverse]
theorem drop_set {α : Type} {M F : List α} {i : Nat} {z : α} (h : M.drop i = F.drop i) : (M.set i z).drop (i + 1) = F.drop (i + 1) := by
  rw [List.drop_set_of_lt (by omega), ← List.drop_drop (i := 1) (j := i), h, List.drop_drop]
theorem drop_head {α : Type} {M F : List α} {i : Nat} {x : α} (h : M.drop i = F.drop i) (hx : F[i]? = some x) : M[i]? = some x := by
  have := congrArg (fun l => l[0]?) h
  simp only [List.getElem?_drop, Nat.add_zero] at this
  rw [this, hx]
theorem filled {α : Type} {M Z : List α} {n : Nat} (hm : M.length = n) (hz : Z.length = n) (h : M.take n = Z.take n) : M = Z := by
  rwa [List.take_of_length_le (by omega), List.take_of_length_le (by omega)] at h
end Go.Proofs.Ytaombamfglljaaa.Cell
