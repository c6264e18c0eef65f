/-
  What Play returns.
-/
import Derived.Test.YtegllglfnngijaaTab
import Derived.Test.YtegllglfnngijaaAgain
namespace Go.Proofs.Ytegllglfnngijaa.Rem
open Go.ChangeShapes Go.WideShapes Go.ChangeAt Go.RowKit Words
set_option linter.unusedVariables false

def tval (r P : Nat) : Value := .agg (tcells none16 r P 0).toArray
theorem av_none16 : av none16 = .agg #[.int .i64 (-1), .int .i64 (-1), .int .i64 (-1), .int .i64 (-1), .int .i64 (-1), .int .i64 (-1), .int .i64 (-1), .int .i64 (-1), .int .i64 (-1), .int .i64 (-1), .int .i64 (-1), .int .i64 (-1), .int .i64 (-1), .int .i64 (-1), .int .i64 (-1), .int .i64 (-1)] := rfl
def zero42 : Array Value := #[.int .i64 0, .int .i64 0, .int .i64 0, .int .i64 0, .int .i64 0, .int .i64 0, .int .i64 0, .int .i64 0, .int .i64 0, .int .i64 0, .int .i64 0, .int .i64 0, .int .i64 0, .int .i64 0, .int .i64 0, .int .i64 0, .slice none 0 0, .int .i64 0]
theorem size42 : (Try.prog.info? 42).map (·.size) = some 18 := by kernel_rfl
theorem tcells_size {l : List Int} {r P : Nat} {u : Int} (hl : l.length = 16) : (tcells l r P u).toArray.size = 18 := by
  rw [List.size_toArray]; unfold tcells; rw [List.length_append, icells_length, hl]; rfl
theorem tcells_one (l : List Int) (r P : Nat) (u : Int) : (tcells l r P u).toArray.all (·.oneCell') = true := by
  refine all_oneCell_toArray fun v hv => ?_
  unfold tcells at hv
  rw [List.mem_append] at hv
  rcases hv with hv | hv
  · exact icells_one l v hv
  · simp at hv
    rcases hv with rfl | rfl <;> rfl
set_option maxHeartbeats 1000000 in
theorem blank16 (P : Nat) (w : World) (hP : P ≤ 4096) :
    Calls Try.prog 16 #[.int .i64 P] w fun e w' => ∃ r, e = .returned (tval r P) ∧ WI w' r 3 (List.replicate P (-1)) ∧ w.heap.size ≤ r ∧ Below w.heap.size w w' := by
  have H19 := Lib.hid (fun x => unmapped19 x)
  rw [av_none16] at H19
  have HR := Lib.hid (fun B A cx x h hB => repeat21 (-1) B A cx P x h hB hP)
  have W0 : Hid (Whole (w.alloc (.cells zero42 42)) w.heap.size 42 zero42) := Lib.hid (Whole.new w 42 zero42)
  have B0 : Hid (Below w.heap.size w (w.alloc (.cells zero42 42))) := Lib.hid ((Below.refl _ _).alloc (Nat.le_refl _) _)
  unfold zero42 at W0 B0
  go_enter Try.func16, Try.ntmps16
  go_wp2_with fail
  refine (H19.out _).mono ?_; rintro e w1 ⟨rfl, b1⟩
  have W1 := Lib.hid (whole_below W0.out b1 W0.out.lt)
  have B1 := Lib.hid (B0.out.trans (b1.mono B0.out.size))
  have hx1 := W1.out.lt
  have HI := Lib.hid (one_cell w1 3 (-1))
  clear b1
  go_wp2_with fail
  refine (HR.out _ _ _ _ HI.out (by rw [World.size_alloc]; exact Nat.le_refl _)).mono ?_; rintro e w2 ⟨rfl, r2, b2⟩
  have hb2 := (Below.refl _ _).alloc (Nat.le_refl w1.heap.size) (.cells #[.int .i64 (-1)] 3)
  have hb3 := hb2.trans (b2.mono hb2.size)
  have W2 := whole_below W1.out hb3 hx1
  have hsz := size42
  have hne : w.heap.size ≠ (w1.alloc (.cells #[.int .i64 (-1)] 3)).heap.size := by rw [World.size_alloc]; omega
  have HW := Lib.hid (wi_setRow_other r2 (tcells none16 (w1.alloc (.cells #[.int .i64 (-1)] 3)).heap.size P 0).toArray hne)
  have B2 := Lib.hid (below_setRow (B1.out.trans (hb3.mono B1.out.size)) (Nat.le_refl _) (tcells none16 (w1.alloc (.cells #[.int .i64 (-1)] 3)).heap.size P 0).toArray)
  have W3 := Lib.hid (whole_setRow (cs' := (tcells none16 (w1.alloc (.cells #[.int .i64 (-1)] 3)).heap.size P 0).toArray) W2)
  clear r2 b2 hb2 hb3
  rw [World.size_alloc] at *
  go_wp2_with (refine wpList_store_row rfl 42 (.tmp 2) (.tmp 7) rfl w.heap.size (tcells none16 (w1.heap.size + 1) P 0).toArray rfl rfl 42 _ W2 (by rw [hsz, tcells_size rfl]) (by rw [tcells_size rfl]; rfl) (tcells_one _ _ _ _) ?_)
  refine bodyPost_ret (results_cell_row rfl _ _ w.heap.size 42 _ (0, 0) _ rfl W3.out Try.underlying42 rfl (by rw [hsz, tcells_size rfl])) rfl ?_
  exact ⟨_, rfl, HW.out, by omega, B2.out⟩
theorem results_play {P : Program} {fn : Func} {p q r s : Tmp} {ty : TypeId} (h : fn.results = #[.tmp p, .cell q ty, .tmp r, .tmp s]) (tmps : Array Value) (w : World) (g : Nat) (t : TypeId) (cs : Array Value) (d : TypeDesc)
    (hp : tmps.getD q undef = .pointer (some ⟨g, 0, none⟩)) (hg : Whole w g t cs)
    (hu : P.underlying ty = some d) (hd : (match d with | .struct _ | .array _ _ => true | _ => false) = true) (hi : (P.info? ty).map (·.size) = some cs.size) :
    (results fn tmps).run P w = .ok (.tuple #[tmps.getD p undef, .agg cs, tmps.getD r undef, tmps.getD s undef]) w := by
  have hp' : tmps[q]?.getD undef = .pointer (some ⟨g, 0, none⟩) := by simpa using hp
  simp [results, h, hp', asAddr, run_loadVar_row w g t ty cs (0, 0) d hg hu hd hi]
/-! ### operations in a list -/
def ocells (o : Mop) : List Value := [.int .i64 o.kind, .int .i64 o.n]
theorem ocells_length (o : Mop) : (ocells o).length = 2 := rfl
def lcells (l : List Mop) : List Value := l.flatMap ocells
theorem lcells_length (l : List Mop) : (lcells l).length = l.length * 2 := flat_length ocells_length l
theorem lcells_append (a b : List Mop) : lcells (a ++ b) = lcells a ++ lcells b := List.flatMap_append
theorem lcells_one (l : List Mop) : ∀ u ∈ lcells l, u.oneCell' = true := by
  intro u hu
  obtain ⟨o, _, ho⟩ := List.mem_flatMap.1 hu
  simp [ocells] at ho
  rcases ho with rfl | rfl <;> rfl
/-- The []MapOp value reads as the operations. -/
def Ops (w : World) (B : Nat) (A : Option Addr) (n c : Nat) (l : List Mop) : Prop := Words.Rd w B 2 A n c (lcells l)
theorem Ops.len {w : World} {B : Nat} {A : Option Addr} {n c : Nat} {l : List Mop} (h : Ops w B A n c l) : l.length = n := by
  have := Words.Rd.len h
  rw [lcells_length] at this
  omega
theorem Ops.cells {w : World} {B : Nat} {A : Option Addr} {n c : Nat} {l : List Mop} (h : Ops w B A n c l) {b o : Nat} (e : A = some ⟨b, o, none⟩) {k : Nat} {x : Mop} (hx : l[k]? = some x) :
    w.cell? ⟨b, o + k * 2, none⟩ = some (.int .i64 x.kind) ∧ w.cell? ⟨b, o + k * 2 + 1, none⟩ = some (.int .i64 x.n) := by
  have hk := (List.getElem?_eq_some_iff.1 hx).1
  have hl := h.len
  have c0 := Words.Rd.cellAt h e (by omega) (k * 2 + 0) _ (flat_get ocells_length hx (j := 0) (by omega))
  have c1 := Words.Rd.cellAt h e (by omega) (k * 2 + 1) _ (flat_get ocells_length hx (j := 1) (by omega))
  exact ⟨c0, c1⟩
/-- What Play returns; nothing that was there has changed. -/
def Played (w : World) (pages : Int) (l : List Mop) (e : Ending) (w' : World) : Prop :=
  ∃ A1 c1 A2 c2, e = .returned (.tuple #[.slice A1 (pErrs pages l).length c1, av (pAt pages l), .slice A2 (pNo pages l).length c2, .int .i64 (perr pages)]) ∧
    Ints w' w'.heap.size A1 (pErrs pages l).length c1 (pErrs pages l) ∧ Ints w' w'.heap.size A2 (pNo pages l).length c2 (pNo pages l) ∧ Below w.heap.size w w'
theorem played_bad {w w' : World} {pages : Int} {l : List Mop} (h : pok pages = false) (b : Below w.heap.size w w') : Played w pages l (.returned (.tuple #[.slice none 0 0, av zero16, .slice none 0 0, .int .i64 2])) w' := by
  have e1 : pErrs pages l = [] := by unfold pErrs; rw [h]; rfl
  have e2 : pAt pages l = zero16 := by unfold pAt; rw [h]; rfl
  have e3 : pNo pages l = [] := by unfold pNo; rw [h]; rfl
  have e4 : perr pages = 2 := by unfold perr; rw [h]; rfl
  unfold Played
  rw [e1, e2, e3, e4]
  exact ⟨none, 0, none, 0, rfl, Words.Rd.nil_ _ _ _, Words.Rd.nil_ _ _ _, b⟩
theorem WI.ints {w : World} {g : Nat} {t : TypeId} {l : List Int} {n : Nat} (h : WI w g t l) (hn : l.length = n) (hm : n ≤ maxLen) : Ints w w.heap.size (some ⟨g, 0, none⟩) n n l :=
  ⟨by rw [icells_length, hn, Nat.mul_one], Nat.le_refl _, hm, (fun h => by cases h), fun _ => ⟨g, 0, rfl, h.lt, fun j u hu => by
    rw [Nat.zero_add, Whole.cell h j, List.getElem?_toArray, hu]⟩⟩
theorem played_ok {w w' : World} {P : Nat} {l : List Mop} {n : Nat} {A1 A2 : Option Addr} {c1 c2 m : Nat} {ev : Int} (hP : P ≤ 4096) (hn : l.length = n) (hm : m = P) (h1 : Ints w' w'.heap.size A1 n c1 (errs P [] l)) (h2 : Ints w' w'.heap.size A2 m c2 (nos P (runW P [] l))) (he : ev = 0) (b : Below w.heap.size w w') :
    Played w P l (.returned (.tuple #[.slice A1 n c1, av (ats (runW P [] l)), .slice A2 m c2, .int .i64 ev])) w' := by
  subst hm he
  have h : pok (m : Int) = true := pok_iff.2 ⟨by omega, by omega⟩
  have e1 : pErrs m l = errs m [] l := by unfold pErrs; rw [h]; rfl
  have e2 : pAt m l = ats (runW m [] l) := by unfold pAt; rw [h]; rfl
  have e3 : pNo m l = nos m (runW m [] l) := by unfold pNo; rw [h]; rfl
  have e4 : perr m = 0 := by unfold perr; rw [h]; rfl
  have l1 : (errs m [] l).length = n := h1.len
  have l2 : (nos m (runW m [] l)).length = m := h2.len
  unfold Played
  rw [e1, e2, e3, e4, l1, l2]
  exact ⟨A1, c1, A2, c2, rfl, h1, h2, b⟩
/-- What the walk keeps. -/
structure PInv (w : World) (g r x P n : Nat) (l : List Mop) (k : Nat) (wx : World) : Prop where
  bel : Below (w.heap.size + 1) (w.alloc (.cells (icells zero16).toArray 25)) wx
  tab : Tab wx g r P (W P l k)
  err : WI wx x 26 (E P l k ++ List.replicate (n - k) 0)
theorem PInv.size {w wx : World} {g r x P n k : Nat} {l : List Mop} (h : PInv w g r x P n l k wx) : w.heap.size + 1 ≤ wx.heap.size := by have := h.bel.size; simpa using this
theorem PInv.below {w wx : World} {g r x P n k : Nat} {l : List Mop} (h : PInv w g r x P n l k wx) : Below w.heap.size w wx := ((Below.refl w.heap.size w).alloc (Nat.le_refl _) (.cells (icells zero16).toArray 25)).trans (h.bel.mono (Nat.le_succ _))
theorem PInv.res {w wx : World} {g r x P n k : Nat} {l : List Mop} (h : PInv w g r x P n l k wx) : WI wx w.heap.size 25 zero16 := whole_below (WI.new w 25 zero16) h.bel (Nat.lt_succ_self _)
theorem PInv.err_at {w wx : World} {g r x P n k : Nat} {l : List Mop} (h : PInv w g r x P n l k wx) (hl : l.length = n) (hk : k < n) : wx.cell? ⟨x, k, none⟩ = some (.int .i64 0) := by
  refine h.err.cell ?_
  rw [List.getElem?_append_right (by rw [E_length (by omega)]; exact Nat.le_refl _), E_length (by omega), Nat.sub_self, List.getElem?_replicate, if_pos (by omega)]
theorem err_get {P n k : Nat} {l : List Mop} (hl : l.length = n) (hk : k < n) : (E P l k ++ List.replicate (n - k) 0)[k]? = some 0 := by
  rw [List.getElem?_append_right (by rw [E_length (by omega)]; exact Nat.le_refl _), E_length (by omega), Nat.sub_self, List.getElem?_replicate, if_pos (by omega)]
theorem err_set {P n k : Nat} {l : List Mop} {o : Mop} (hl : l.length = n) (ho : l[k]? = some o) : (E P l k ++ List.replicate (n - k) 0).set k (merr P (W P l k) o) = E P l (k + 1) ++ List.replicate (n - (k + 1)) 0 := by
  have hk := (List.getElem?_eq_some_iff.1 ho).1
  rw [List.set_append_right _ _ (by rw [E_length (by omega)]; exact Nat.le_refl _), E_length (by omega), Nat.sub_self, E_next ho, List.append_assoc]
  congr 1
  rw [show n - k = (n - (k + 1)) + 1 by omega, List.replicate_succ, List.set_cons_zero]; rfl
/-- The world behind a round: an operation boxed, carried out, its code stored. -/
theorem PInv.box {w wx : World} {g r x P n k : Nat} {l : List Mop} (h : PInv w g r x P n l k wx) (o : Obj) : PInv w g r x P n l k (wx.alloc o) :=
  ⟨h.bel.alloc h.size o, h.tab.below ((Below.refl _ _).alloc (Nat.le_refl _) _), WI.alloc h.err o⟩
theorem PInv.next {w wx wy : World} {g r x P n k : Nat} {l : List Mop} {o : Mop} (h : PInv w g r x P n l k wx) (hl : l.length = n) (ho : l[k]? = some o) (hx : w.heap.size + 1 ≤ x ∧ x ≠ g ∧ x ≠ r)
    (t : Tab wy g r P (mnx P (W P l k) o)) (f : Fr (w.heap.size + 1) g r wx wy) : PInv w g r x P n l (k + 1) (wy.setCell ⟨x, k, none⟩ (.int .i64 (merr P (W P l k) o))) := by
  have he : WI wy x 26 (E P l k ++ List.replicate (n - k) 0) := f.whole h.err hx.2.1 hx.2.2
  refine ⟨(h.bel.trans f.bel).setCell hx.1 _, ?_, (he.set_ k _).as (err_set hl ho).symm⟩
  rw [W_next ho]
  refine ⟨⟨whole_other t.raw.tab hx.2.1 _, t.raw.row.other hx.2.2 _, t.raw.ne, t.raw.len⟩, t.ok, t.le⟩
end Go.Proofs.Ytegllglfnngijaa.Rem
