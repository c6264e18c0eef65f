/-
  What Again returns, and what the document's own Again returns.
-/
import Derived.Test.YtegllglfnngijaaPlay
import Derived.Deep.RegionHeld3
namespace Go.Proofs.Ytegllglfnngijaa.Rem
open Go.ChangeShapes Go.WideShapes Go.ChangeAt Go.RowKit Words
set_option linter.unusedVariables false

theorem results_ac {P : Program} {fn : Func} {p q : Tmp} {ty : TypeId} (h : fn.results = #[.cell p ty, .tmp q]) (tmps : Array Value) (w : World) (g : Nat) (t : TypeId) (cs : Array Value) (d : TypeDesc)
    (hp : tmps.getD p undef = .pointer (some ⟨g, 0, none⟩)) (hg : Whole w g t cs)
    (hu : P.underlying ty = some d) (hd : (match d with | .struct _ | .array _ _ => true | _ => false) = true) (hi : (P.info? ty).map (·.size) = some cs.size) :
    (results fn tmps).run P w = .ok (.tuple #[.agg cs, tmps.getD q undef]) w := by
  have hp' : tmps[p]?.getD undef = .pointer (some ⟨g, 0, none⟩) := by simpa using hp
  simp [results, h, hp', asAddr, run_loadVar_row w g t ty cs (0, 0) d hg hu hd hi]
/-- All of the first k are numbers. -/
def okTo (l : List Int) (k : Nat) : Prop := ∀ (j : Nat) (x : Int), j < k → l[j]? = some x → isN x = true
theorem okTo_zero (l : List Int) : okTo l 0 := fun j x hj => by omega
theorem okTo_next {l : List Int} {k : Nat} {x : Int} (h : okTo l k) (hx : l[k]? = some x) (hn : isN x = true) : okTo l (k + 1) := fun j y hj hy => by
  by_cases e : j = k
  · subst e
    rw [hx] at hy
    injection hy with hy
    subst hy
    exact hn
  · exact h j y (by omega) hy
theorem okTo_all {l : List Int} {k : Nat} (h : okTo l k) (hk : l.length ≤ k) : allN l = true := by
  rw [allN_iff]
  intro x hx
  obtain ⟨j, hj⟩ := List.mem_iff_getElem?.1 hx
  have := (List.getElem?_eq_some_iff.1 hj).1
  exact isN_yes.1 (h j x (by omega) hj)
theorem not_all {l : List Int} {k : Nat} {x : Int} (hx : l[k]? = some x) (hn : isN x = false) : allN l = false := by
  rw [← Bool.not_eq_true, allN_iff]
  intro h
  exact (isN_no.1 hn) (h x (List.mem_iff_getElem?.2 ⟨k, hx⟩))
theorem a_bad {l : List Int} (h : allN l = false) : aAt l = zero16 ∧ aErr l = 1 := by unfold aAt aErr; rw [h]; exact ⟨rfl, rfl⟩
theorem a_ok {l : List Int} (h : allN l = true) : aAt l = lasts l l.length ∧ aErr l = 0 := by unfold aAt aErr; rw [h]; exact ⟨rfl, rfl⟩
theorem lasts_next {l : List Int} {k : Nat} {x : Nat} (hx : l[k]? = some (x : Int)) : lasts l (k + 1) = (lasts l k).set x k := by
  have hd : l.getD k 0 = x := by simp [List.getD, hx]
  rw [lasts, hd]; rfl
structure AInv (w : World) (g : Nat) (l : List Int) (k : Nat) (wx : World) : Prop where
  bel : Below w.heap.size w wx
  res : WI wx w.heap.size 25 zero16
  cur : WI wx g 25 (lasts l k)
  ok : okTo l k
theorem AInv.put {w wx : World} {g k : Nat} {l : List Int} {x : Nat} (h : AInv w g l k wx) (hg : w.heap.size < g) (hx : l[k]? = some (x : Int)) (hn : x < 16) : AInv w g l (k + 1) (wx.setCell ⟨g, x, none⟩ (.int .i64 k)) :=
  ⟨h.bel.setCell (Nat.le_of_lt hg) _, h.res.other (by show g ≠ w.heap.size; omega) _, (h.cur.set_ x k).as (lasts_next hx), okTo_next h.ok hx (isN_yes.2 ⟨by omega, by omega⟩)⟩
/-- What the two return. -/
def Found (w : World) (l : List Int) (e : Ending) (w' : World) : Prop := e = .returned (.tuple #[av (aAt l), .int .i64 (aErr l)]) ∧ Below w.heap.size w w'
theorem found_bad {w w' : World} {l : List Int} (h : allN l = false) (b : Below w.heap.size w w') : Found w l (.returned (.tuple #[av zero16, .int .i64 1])) w' := by
  unfold Found
  rw [(a_bad h).1, (a_bad h).2]
  exact ⟨rfl, b⟩
theorem found_ok {w w' : World} {l : List Int} {k : Nat} (h : allN l = true) (hk : l.length = k) (b : Below w.heap.size w w') : Found w l (.returned (.tuple #[av (lasts l k), .int .i64 0])) w' := by
  unfold Found
  rw [(a_ok h).1, (a_ok h).2, hk]
  exact ⟨rfl, b⟩
set_option maxHeartbeats 4000000 in
theorem again10 (B : Nat) (A : Option Addr) (n c : Nat) (l : List Int) (w : World) (h : Ints w B A n c l) (hB : B ≤ w.heap.size) :
    Calls Try.prog 10 #[.slice A n c] w (Found w l) := by
  have HS := size25_of (l := zero16) rfl
  have HA := arr_all zero16
  have W0 : Hid (WI (w.alloc (.cells (icells zero16).toArray 25)) w.heap.size 25 zero16) := Lib.hid (WI.new w 25 zero16)
  have B0 : Hid (Below w.heap.size w (w.alloc (.cells (icells zero16).toArray 25))) := Lib.hid ((Below.refl _ _).alloc (Nat.le_refl _) _)
  have L := Lib.hid h.len
  have hm := Words.Rd.small h
  have H := Lib.hid h
  have H19 := Lib.hid (fun x => unmapped19 x)
  have H20 := Lib.hid (fun n x => number20 n x)
  clear h
  go_enter Try.func10, Try.ntmps10
  go_wp2_with fail
  refine (H19.out _).mono ?_; rintro e w1 ⟨rfl, b1⟩
  have W1 := Lib.hid (WI.below W0.out b1)
  have B1 := Lib.hid (B0.out.trans (b1.mono B0.out.size))
  have hs1 : w.heap.size < w1.heap.size := W1.out.lt
  have hz : Whole (w1.alloc (.cells (icells zero16).toArray 25)) w1.heap.size 25 (icells zero16).toArray := Whole.new w1 25 _
  have I0 : Hid (AInv w w1.heap.size l 0 ((w1.alloc (.cells (icells zero16).toArray 25)).setRow w1.heap.size (icells none16).toArray)) := Lib.hid
    ⟨below_setRow (B1.out.alloc B1.out.size _) (Nat.le_of_lt hs1) _, WI.row (WI.alloc W1.out _) _ _ (by omega), wi_setRow hz none16, okTo_zero l⟩
  have HA1 := arr_all none16
  have HS1 := size25_of (l := none16) rfl
  clear b1
  go_wp2_with (refine wpList_store_row rfl 25 (.tmp 4) (.tmp 7) rfl w1.heap.size (icells none16).toArray rfl rfl 25 (icells zero16).toArray hz HS1 rfl HA1 ?_)
  go_loopw [10] (fun i wr => ∃ (k : Nat), i = .int .i64 k ∧ k ≤ n ∧ AInv w w1.heap.size l k wr) (fun i _ => (n - intOf i).toNat)
  case atStart => exact ⟨0, rfl, by omega, I0.out⟩
  case round =>
    obtain ⟨k, rfl, hk, hinv⟩ := hrel
    have I := Lib.hid hinv
    clear hinv I0 hz
    by_cases hlt : k < n
    · obtain ⟨gl, ol, rfl, _, _⟩ := Words.Rd.row H.out (by omega)
      obtain ⟨x, hx⟩ : ∃ x, l[k]? = some x := ⟨_, List.getElem?_eq_getElem (by rw [L.out]; exact hlt)⟩
      have c0 := Ints.cellAt (Words.Rd.below H.out I.out.bel hB) rfl hx
      have HX := Lib.hid hx
      clear hx
      cases hn : isN x with
      | false =>
        have HC := H20.out x wr
        rw [hn] at HC
        have HC := Lib.hid HC
        have HD := Lib.hid (not_all HX.out hn)
        have h0 := I.out.res
        have HW := Lib.hid (wi_setRow h0 zero16)
        have HB := Lib.hid (below_setRow I.out.bel (Nat.le_refl _) (icells zero16).toArray)
        clear hn
        go_wp2_with fail
        refine (HC.out).mono ?_; rintro e w2 ⟨rfl, rfl⟩
        go_wp2_with (refine wpList_store_row rfl 25 (.tmp 2) (.tmp 18) rfl w.heap.size (icells zero16).toArray rfl rfl 25 (icells zero16).toArray h0 HS rfl HA ?_)
        refine bodyPost_ret (results_ac rfl _ _ w.heap.size 25 (icells zero16).toArray _ rfl HW.out Try.underlying25 rfl HS) rfl ?_
        exact found_bad HD.out HB.out
      | true =>
        have HC := H20.out x wr
        rw [hn] at HC
        have hr := isN_yes.1 hn
        obtain ⟨y, rfl⟩ : ∃ y : Nat, x = y := ⟨x.toNat, by omega⟩
        have hy : y < 16 := by omega
        have HC := Lib.hid HC
        have I1 := Lib.hid (I.out.put hs1 HX.out hy)
        obtain ⟨v, hv⟩ : ∃ v, (lasts l k)[y]? = some v := ⟨_, List.getElem?_eq_getElem (by rw [lasts_length]; exact hy)⟩
        have q0 := I.out.cur.cell hv
        have q1 := I.out.cur.frozen y
        clear hn hr hv
        go_wp2_with fail
        refine (HC.out).mono ?_; rintro e w2 ⟨rfl, rfl⟩
        go_wp2_with fail
        go_roundw
        case rel => exact ⟨k + 1, by go_num, by omega, I1.out⟩
        case measure => simp [intOf]; omega
    · obtain rfl : k = n := by omega
      have h0 := I.out.res
      have h1 := I.out.cur
      have hal := lasts_length l k
      have HSL := size25_of hal
      have HAL := arr_all (lasts l k)
      have HW := Lib.hid (wi_setRow h0 (lasts l k))
      have HB := Lib.hid (below_setRow I.out.bel (Nat.le_refl _) (icells (lasts l k)).toArray)
      have HOK := Lib.hid (okTo_all I.out.ok (by rw [L.out]; exact Nat.le_refl _))
      have hzs : (icells zero16).toArray.size = (icells (lasts l k)).toArray.size := by simp [icells_length, hal]; rfl
      go_wp2_with (first
        | (refine wpList_load_row rfl 25 (.tmp 4) rfl w1.heap.size rfl 25 (icells (lasts l k)).toArray (0, 0) _ h1 Try.underlying25 rfl HSL ?_)
        | (refine wpList_store_row rfl 25 (.tmp 2) (.tmp 23) rfl w.heap.size (icells (lasts l k)).toArray rfl rfl 25 (icells zero16).toArray h0 HSL hzs HAL ?_))
      refine bodyPost_ret (results_ac rfl _ _ w.heap.size 25 (icells (lasts l k)).toArray _ rfl HW.out Try.underlying25 rfl HSL) rfl ?_
      exact found_ok HOK.out L.out HB.out
end Go.Proofs.Ytegllglfnngijaa.Rem
