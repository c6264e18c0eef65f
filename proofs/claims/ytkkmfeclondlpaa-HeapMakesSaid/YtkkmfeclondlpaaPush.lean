/-
  What Push returns.
-/
import Derived.Test.YtkkmfeclondlpaaUp
import Derived.Test.YtkkmfeclondlpaaJoins
import Derived.Test.YtkkmfeclondlpaaRights2
namespace Go.Proofs.Ytkkmfeclondlpaa.Heap
open Go.ChangeShapes Go.WideShapes Go.ChangeAt Go.RowKit Words Go.Sort
set_option linter.unusedVariables false

/-- The error code of Push, and the list that it returns. -/
def perr (l : List Wn) : Int := if right l = false then 1 else if 4096 ≤ l.length then 4 else 0
def pval (l : List Wn) (x : Wn) : List Wn := if perr l = 0 then pushed l x else []
theorem perr_form {l : List Wn} (h : right l = false) : perr l = 1 := by unfold perr; rw [if_pos h]
theorem perr_full {l : List Wn} (h : right l = true) (hn : 4096 ≤ l.length) : perr l = 4 := by unfold perr; rw [if_neg (by rw [h]; simp), if_pos hn]
theorem perr_ok {l : List Wn} (h : right l = true) (hn : ¬ 4096 ≤ l.length) : perr l = 0 := by unfold perr; rw [if_neg (by rw [h]; simp), if_neg hn]
theorem perr_zero {l : List Wn} (h : perr l = 0) : right l = true ∧ l.length < 4096 := by
  unfold perr at h
  cases hr : right l with
  | false => rw [hr, if_pos rfl] at h; omega
  | true =>
    rw [hr, if_neg (by simp)] at h
    refine ⟨rfl, ?_⟩
    by_cases h2 : 4096 ≤ l.length
    · rw [if_pos h2] at h; omega
    · omega
theorem pval_ok {l : List Wn} {x : Wn} (h : perr l = 0) : pval l x = pushed l x := by unfold pval; rw [if_pos h]
theorem pval_no {l : List Wn} {x : Wn} (h : perr l ≠ 0) : pval l x = [] := by unfold pval; rw [if_neg h]
/-- A list of the call's own and an error code; nothing that was there has changed. -/
def MadeT (w : World) (l : List Wn) (k : Int) (e : Ending) (w' : World) : Prop :=
  ∃ A c m, e = .returned (.tuple #[.slice A m c, .int .i64 k]) ∧ OwnHp w' w.heap.size A m c l ∧ Below w.heap.size w w'
theorem madeT_nil {w w' : World} {l : List Wn} {x : Wn} {k : Int} (hk : perr l = k) (h0 : k ≠ 0) (hb : Below w.heap.size w w') : MadeT w (pval l x) (perr l) (.returned (.tuple #[.slice none 0 0, .int .i64 k])) w' := by
  subst hk
  rw [pval_no h0]
  exact ⟨none, 0, 0, rfl, w'.ownsRow_nil _ _ _, hb⟩
def wb (x : Wn) : Obj := .cells #[.int .i64 x.id, .int .i64 x.wear] 24
/-- The box of an argument, read later on. -/
theorem box_kept {w x1 : World} {x : Wn} (hb : Below (w.alloc (wb x)).heap.size (w.alloc (wb x)) x1) :
    x1.cell? ⟨w.heap.size, 0, none⟩ = some (.int .i64 x.id) ∧ x1.cell? ⟨w.heap.size, 1, none⟩ = some (.int .i64 x.wear) := by
  have h1 : ∀ j, x1.cell? ⟨w.heap.size, j, none⟩ = #[Value.int .i64 x.id, .int .i64 x.wear][j]? := fun j => by
    rw [hb.cell (p := ⟨w.heap.size, j, none⟩) (by simp)]
    exact cell_of_row _ _ _ _ 24 (0, 0) (heap_alloc_new w _)
  exact ⟨h1 0, h1 1⟩
theorem lit_one (w : World) (x : Wn) : Hp (w.alloc (wb x)) (w.heap.size + 1) (some ⟨w.heap.size, 0, none⟩) 1 1 [x] := Words.Rd.new w 24 _ (0, 0) _ 1 rfl rfl (by unfold maxLen; omega)
set_option maxRecDepth 100000 in
set_option maxHeartbeats 2000000 in
theorem push9 (B : Nat) (A : Option Addr) (n c : Nat) (l : List Wn) (x : Wn) (w : World) (h : Hp w B A n c l) (hB : B ≤ w.heap.size) (hs : Small n) :
    Calls Try.prog 9 #[.slice A n c, wval x] w (MadeT w (pval l x) (perr l)) := by
  have B0 := Lib.hid ((Below.refl w.heap.size w).alloc (Nat.le_refl _) (wb x))
  have HR := right13 B A n c l (w.alloc (wb x)) (Words.Rd.below h B0.out hB) (Nat.le_trans hB B0.out.size) hs
  have hl := h.len
  have H := Lib.hid h
  clear h
  unfold wval
  cases hr : right l with
  | false =>
    have HE := Lib.hid (perr_form hr)
    rw [hr] at HR
    have HR := Lib.hid HR
    clear hr hs
    unfold wb at HR
    go_enter Try.func9, Try.ntmps9
    go_wp2_with fail
    refine (HR.out).mono ?_; rintro e w1 ⟨rfl, hb⟩
    have B1 := Lib.hid (B0.out.trans (hb.mono B0.out.size))
    clear hb
    go_wp2_with fail
    go_ret2
    exact madeT_nil HE.out (by omega) B1.out
  | true =>
    rw [hr] at HR
    by_cases h4 : 4096 ≤ n
    · have HE := Lib.hid (perr_full hr (by omega))
      have HR := Lib.hid HR
      have h4' : (4096 : Int) ≤ (n : Int) := by omega
      clear hr hs
      unfold wb at HR
      go_enter Try.func9, Try.ntmps9
      go_wp2_with fail
      refine (HR.out).mono ?_; rintro e w1 ⟨rfl, hb⟩
      have B1 := Lib.hid (B0.out.trans (hb.mono B0.out.size))
      clear hb
      go_wp2_with fail
      go_ret2
      exact madeT_nil HE.out (by omega) B1.out
    · have HE := Lib.hid (perr_ok hr (by omega))
      have HR := Lib.hid HR
      have h4' : ¬ (4096 : Int) ≤ (n : Int) := by omega
      clear hr hs
      unfold wb at HR
      go_enter Try.func9, Try.ntmps9
      go_wp2_with fail
      refine (HR.out).mono ?_; rintro e w1 ⟨rfl, hb⟩
      obtain ⟨e0, e1⟩ := box_kept hb
      have B1 := Lib.hid (B0.out.trans (hb.mono B0.out.size))
      clear hb
      have B2 := Lib.hid (((Below.refl w1.heap.size w1).alloc (Nat.le_refl _) (wb x)).alloc (by simp) (.cells #[.slice A n c, .slice (some ⟨w1.heap.size, 0, none⟩) 1 1] 22))
      have HC := Lib.hid (concat25 (w1.heap.size + 1) A (some ⟨w1.heap.size, 0, none⟩) n c 1 1 l [x] (w1.heap.size + 1) ((w1.alloc (wb x)).alloc (.cells #[.slice A n c, .slice (some ⟨w1.heap.size, 0, none⟩) 1 1] 22))
        ((Words.Rd.below (Words.Rd.below H.out B1.out hB) B2.out (Nat.le_trans hB B1.out.size)).more (by have := B1.out.size; omega)) (Words.Rd.alloc (lit_one w1 x) (by simp) _) (by simp) (by simp)
        (by rw [show w1.heap.size + 1 = (w1.alloc (wb x)).heap.size by simp]; exact cell_of_row _ _ 0 _ 22 (0, 0) (heap_alloc_new (w1.alloc (wb x)) _))
        (by rw [show w1.heap.size + 1 = (w1.alloc (wb x)).heap.size by simp]; exact cell_of_row _ _ 1 _ 22 (0, 0) (heap_alloc_new (w1.alloc (wb x)) _)) (by omega) (by omega))
      unfold wb at HC
      go_wp2_with fail
      refine (HC.out).mono ?_; rintro e w2 ⟨A2, c2, rfl, o2, b2⟩
      have B3 := Lib.hid (B1.out.trans ((B2.out.trans (b2.mono B2.out.size)).mono B1.out.size))
      have hz := B1.out.size
      have hz2 := B2.out.size
      have O2 : Hid (OwnHp w2 w.heap.size A2 (n + 1) c2 (l ++ [x])) := Lib.hid (own_base o2 (by simp; omega))
      clear o2 b2
      obtain ⟨g, rfl, hg1, hg2⟩ := O2.out.addr (by omega)
      have HU := Lib.hid (moveUp29 w.heap.size g (n + 1) c2 (l ++ [x]) n w2 O2.out (by omega) (by omega))
      have HV : Hid (pval l x = up (l ++ [x]) n) := Lib.hid (by rw [pval_ok HE.out, ← hl]; rfl)
      go_wp2_with fail
      refine (HU.out).mono ?_; rintro e w3 ⟨rfl, t⟩
      have T := Lib.hid t.own
      have B4 := Lib.hid (below_grown B3.out O2.out t.grown (by have := B3.out.size; omega) (Nat.le_refl _))
      clear t
      go_wp2_with fail
      go_ret2
      rw [HV.out, HE.out]
      exact ⟨_, c2, n + 1, rfl, T.out, B4.out⟩
end Go.Proofs.Ytkkmfeclondlpaa.Heap
