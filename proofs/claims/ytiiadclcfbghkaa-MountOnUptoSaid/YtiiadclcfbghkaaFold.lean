/-
  What the two replays return.
-/
import Derived.Test.YtiiadclcfbghkaaPages
import Derived.Deep.RegionHeld3
import Derived.Deep.WholeRow
namespace Go.Proofs.Ytiiadclcfbghkaa.Mnt
open Go.ChangeShapes Go.WideShapes Go.ChangeAt Go.RowKit Words
set_option linter.unusedVariables false

theorem wpList_store_new {P : Program} {ops : Array Oper} {rest : List Oper} {o : Oper} {a : Act} {Q : Exit → Act → World → Prop} (hgd : o.guard = none) (ty : TypeId) (x y : Operand) (ho : o.op = .store ty x y)
    (w : World) (cells : Array Value) (hx : a.eval x = .pointer (some ⟨w.heap.size, 0, none⟩)) (hy : a.eval y = .agg cells) (t : TypeId) (old : Array Value)
    (hi : (P.info? ty).map (·.size) = some cells.size) (hold : old.size = cells.size) (h1 : cells.all (·.oneCell') = true)
    (h : wpList P ops Q rest (a.put o.dst undef) (w.alloc (.cells cells t))) : wpList P ops Q (o :: rest) a (w.alloc (.cells old t)) := by
  refine wpList_store_row hgd ty x y ho w.heap.size cells hx hy t old (heap_alloc_new w _) hi hold h1 ?_
  rw [World.setRow_alloc_new]
  exact h
theorem results_ac {P : Program} {fn : Func} {p q : Tmp} {ty : TypeId} (h : fn.results = #[.cell p ty, .tmp q]) (tmps : Array Value) (w : World) (g : Nat) (t : TypeId) (cs : Array Value) (d : TypeDesc)
    (hp : tmps.getD p undef = .pointer (some ⟨g, 0, none⟩)) (hg : Whole w g t cs)
    (hu : P.underlying ty = some d) (hd : (match d with | .struct _ | .array _ _ => true | _ => false) = true) (hi : (P.info? ty).map (·.size) = some cs.size) :
    (results fn tmps).run P w = .ok (.tuple #[.agg cs, tmps.getD q undef]) w := by
  have hp' : tmps[p]?.getD undef = .pointer (some ⟨g, 0, none⟩) := by simpa using hp
  simp [results, h, hp', asAddr, run_loadVar_row w g t ty cs (0, 0) d hg hu hd hi]
theorem size22 : (Try.prog.info? 22).map (·.size) = some 16 := by kernel_rfl
theorem size22_of {l : List Int} (h : l.length = 16) : (Try.prog.info? 22).map (·.size) = some (icells l).toArray.size := by rw [size22, List.size_toArray, icells_length, h]
theorem size22_len {l : List Int} (h : l.length = 16) : (Try.prog.info? 22).map (·.size) = some (icells l).length := by rw [size22, icells_length, h]
theorem z16_size {l : List Int} (h : l.length = 16) : (icells zero16).toArray.size = (icells l).toArray.size := by simp [icells_length, h]; rfl
/-- What a replay keeps: the state in block g. -/
structure FoInv (w : World) (g : Nat) (s : List Int) (l : List Pg) (k : Nat) (W : World) : Prop where
  bel : Below w.heap.size w W
  cur : WI W g 22 (run s (l.take k))
  res : WI W (w.heap.size + 1) 22 zero16
  ok : allN (l.take k) = true
theorem FoInv.alloc {w : World} {g : Nat} {s : List Int} {l : List Pg} {k : Nat} {W : World} (h : FoInv w g s l k W) (o : Obj) : FoInv w g s l k (W.alloc o) := ⟨h.bel.alloc h.bel.size _, h.cur.alloc o, h.res.alloc o, h.ok⟩
theorem FoInv.put {w : World} {g : Nat} {s : List Int} {l : List Pg} {k : Nat} {W : World} {x : Pg} (h : FoInv w g s l k W) (hg : w.heap.size ≤ g) (hg1 : g ≠ w.heap.size + 1) (hx : l[k]? = some x) (hn : inN x = true) :
    FoInv w g s l (k + 1) (W.setCell ⟨g, x.n.toNat, none⟩ (.int .i64 x.d)) :=
  ⟨h.bel.setCell hg _, (h.cur.set_ _ _).as (by rw [take_next hx, run_app, run_one]; rfl), h.res.other hg1 _, by rw [take_next hx, allN_app, allN_one, h.ok, hn]; rfl⟩
def Folded (w : World) (s : List Int) (l : List Pg) (e : Ending) (w' : World) : Prop := e = .returned (.tuple #[av (foS s l), .int .i64 (foE l)]) ∧ Below w.heap.size w w'
theorem folded_bad {w w' : World} {s : List Int} {l : List Pg} (h : allN l = false) (b : Below w.heap.size w w') : Folded w s l (.returned (.tuple #[av zero16, .int .i64 2])) w' := by
  unfold Folded; rw [foS_no h, foE_no h]; exact ⟨rfl, b⟩
theorem folded_ok {w w' : World} {s : List Int} {l : List Pg} {k : Nat} (h : allN (l.take k) = true) (hk : l.length = k) (b : Below w.heap.size w w') : Folded w s l (.returned (.tuple #[av (run s (l.take k)), .int .i64 0])) w' := by
  rw [List.take_of_length_le (by omega)] at h ⊢
  unfold Folded; rw [foS_yes h, foE_yes h]; exact ⟨rfl, b⟩
set_option maxHeartbeats 4000000 in
theorem fold7 (s : List Int) (hs : s.length = 16) (B : Nat) (A : Option Addr) (n c : Nat) (l : List Pg) (w : World) (h : Pgs w B A n c l) (hB : B ≤ w.heap.size) :
    Calls Try.prog 7 #[av s, .slice A n c] w (Folded w s l) := by
  have HS := size22_of (l := zero16) rfl
  have HA := arr_all zero16
  have HSs := size22_of hs
  have HAs := arr_all s
  have W0 : Hid (WI ((w.alloc (.cells (icells s).toArray 22)).alloc (.cells (icells zero16).toArray 22)) w.heap.size 22 s) := Lib.hid ((WI.new w 22 s).alloc _)
  have W1 : Hid (WI ((w.alloc (.cells (icells s).toArray 22)).alloc (.cells (icells zero16).toArray 22)) (w.heap.size + 1) 22 zero16) := Lib.hid (by
    have := WI.new (w.alloc (.cells (icells s).toArray 22)) 22 zero16; rw [World.size_alloc] at this; exact this)
  have B0 : Hid (Below w.heap.size w ((w.alloc (.cells (icells s).toArray 22)).alloc (.cells (icells zero16).toArray 22))) := Lib.hid (two_blocks w _ _)
  have L := Lib.hid h.len
  have hm := Words.Rd.small h
  have H := Lib.hid h
  clear h
  have I0 : Hid (FoInv w w.heap.size s l 0 ((w.alloc (.cells (icells s).toArray 22)).alloc (.cells (icells zero16).toArray 22))) := Lib.hid ⟨B0.out, W0.out, W1.out, rfl⟩
  unfold av
  go_enter Try.func7, Try.ntmps7
  go_wp2_with fail
  go_loopw [10] (fun i wr => ∃ (k : Nat), i = .int .i64 k ∧ k ≤ n ∧ FoInv w w.heap.size s l k wr) (fun i _ => (n - intOf i).toNat)
  case atStart => exact ⟨0, rfl, by omega, I0.out⟩
  case round =>
    obtain ⟨k, rfl, hk, hinv⟩ := hrel
    have I := Lib.hid hinv
    clear hinv I0
    by_cases hlt : k < n
    · obtain ⟨gl, ol, rfl, _, _⟩ := Words.Rd.row H.out (by omega)
      obtain ⟨⟨xq, xn, xd, xw⟩, hx⟩ : ∃ x, l[k]? = some x := ⟨_, List.getElem?_eq_getElem (by rw [L.out]; exact hlt)⟩
      obtain ⟨c0, c1, c2, c3⟩ := Pgs.cells (Words.Rd.below H.out I.out.bel hB) rfl hx
      have HX := Lib.hid hx
      clear hx
      by_cases hn : 0 ≤ xn ∧ xn < 16
      · have HY := Lib.hid (inN_yes (p := ⟨xq, xn, xd, xw⟩) |>.2 hn)
        obtain ⟨y, rfl⟩ : ∃ y : Nat, xn = y := ⟨xn.toNat, by omega⟩
        have hy : y < 16 := by omega
        have I1 := Lib.hid ((I.out.alloc (.cells #[.int .i64 xq, .int .i64 y, .int .i64 xd, .bool xw] 36)).put (by omega) (by omega) HX.out HY.out)
        obtain ⟨v, hv⟩ : ∃ v, (run s (l.take k))[y]? = some v := ⟨_, List.getElem?_eq_getElem (by rw [run_length, hs]; exact hy)⟩
        have q0 := (I.out.alloc (.cells #[.int .i64 xq, .int .i64 y, .int .i64 xd, .bool xw] 36)).cur.cell hv
        have q1 := (I.out.alloc (.cells #[.int .i64 xq, .int .i64 y, .int .i64 xd, .bool xw] 36)).cur.frozen y
        clear hv
        go_wp2_with fail
        go_roundw
        case rel => exact ⟨k + 1, by go_num, by omega, I1.out⟩
        case measure => simp [intOf]; omega
      · have HD := Lib.hid (allN_bad HX.out (inN_no.2 hn))
        have h0 := (I.out.alloc (.cells #[.int .i64 xq, .int .i64 xn, .int .i64 xd, .bool xw] 36)).res
        have HW := Lib.hid (wi_setRow h0 zero16)
        have HB := Lib.hid (below_setRow (I.out.alloc (.cells #[.int .i64 xq, .int .i64 xn, .int .i64 xd, .bool xw] 36)).bel (show w.heap.size ≤ w.heap.size + 1 by omega) (icells zero16).toArray)
        by_cases hn1 : xn < 0
        · clear hn
          go_wp2_with (refine wpList_store_row rfl 22 (.tmp 4) (.tmp 22) rfl (w.heap.size + 1) (icells zero16).toArray rfl rfl 22 (icells zero16).toArray h0 HS rfl HA ?_)
          refine bodyPost_ret (results_ac rfl _ _ (w.heap.size + 1) 22 (icells zero16).toArray _ rfl HW.out Try.underlying22 rfl HS) rfl ?_
          exact folded_bad HD.out HB.out
        · have hn2 : 16 ≤ xn := by omega
          clear hn
          go_wp2_with (refine wpList_store_row rfl 22 (.tmp 4) (.tmp 22) rfl (w.heap.size + 1) (icells zero16).toArray rfl rfl 22 (icells zero16).toArray h0 HS rfl HA ?_)
          refine bodyPost_ret (results_ac rfl _ _ (w.heap.size + 1) 22 (icells zero16).toArray _ rfl HW.out Try.underlying22 rfl HS) rfl ?_
          exact folded_bad HD.out HB.out
    · obtain rfl : k = n := by omega
      have hr := I.out.res
      have h1 := I.out.cur
      have hal : (run s (l.take k)).length = 16 := by rw [run_length, hs]
      have HSL := size22_of hal
      have HAL := arr_all (run s (l.take k))
      have HW := Lib.hid (wi_setRow hr (run s (l.take k)))
      have HB := Lib.hid (below_setRow I.out.bel (show w.heap.size ≤ w.heap.size + 1 by omega) (icells (run s (l.take k))).toArray)
      have hzs := z16_size hal
      go_wp2_with (first
        | (refine wpList_load_row rfl 22 (.tmp 2) rfl w.heap.size rfl 22 (icells (run s (l.take k))).toArray (0, 0) _ h1 Try.underlying22 rfl HSL ?_)
        | (refine wpList_store_row rfl 22 (.tmp 4) (.tmp 29) rfl (w.heap.size + 1) (icells (run s (l.take k))).toArray rfl rfl 22 (icells zero16).toArray hr HSL hzs HAL ?_))
      refine bodyPost_ret (results_ac rfl _ _ (w.heap.size + 1) 22 (icells (run s (l.take k))).toArray _ rfl HW.out Try.underlying22 rfl HSL) rfl ?_
      exact folded_ok I.out.ok L.out HB.out
set_option maxHeartbeats 4000000 in
theorem lfold8 (s : List Int) (hs : s.length = 16) (B : Nat) (A : Option Addr) (n c : Nat) (l : List Pg) (w : World) (h : Pgs w B A n c l) (hB : B ≤ w.heap.size) :
    Calls Try.prog 8 #[av s, .slice A n c] w (Folded w s l) := by
  have HS := size22_of (l := zero16) rfl
  have HA := arr_all zero16
  have HSs := size22_of hs
  have HAs := arr_all s
  have W0 : Hid (WI ((w.alloc (.cells (icells s).toArray 22)).alloc (.cells (icells zero16).toArray 22)) w.heap.size 22 s) := Lib.hid ((WI.new w 22 s).alloc _)
  have W1 : Hid (WI ((w.alloc (.cells (icells s).toArray 22)).alloc (.cells (icells zero16).toArray 22)) (w.heap.size + 1) 22 zero16) := Lib.hid (by
    have := WI.new (w.alloc (.cells (icells s).toArray 22)) 22 zero16; rw [World.size_alloc] at this; exact this)
  have B0 : Hid (Below w.heap.size w ((w.alloc (.cells (icells s).toArray 22)).alloc (.cells (icells zero16).toArray 22))) := Lib.hid (two_blocks w _ _)
  have L := Lib.hid h.len
  have hm := Words.Rd.small h
  have H := Lib.hid h
  clear h
  have h0 := W0.out
  have hzz := z16_size hs
  have hsz : ((w.alloc (.cells (icells s).toArray 22)).alloc (.cells (icells zero16).toArray 22)).heap.size = w.heap.size + 2 := by rw [World.size_alloc, World.size_alloc]
  have hz : Whole (((w.alloc (.cells (icells s).toArray 22)).alloc (.cells (icells zero16).toArray 22)).alloc (.cells (icells zero16).toArray 22)) (w.heap.size + 2) 22 (icells zero16).toArray := by
    have := Whole.new ((w.alloc (.cells (icells s).toArray 22)).alloc (.cells (icells zero16).toArray 22)) 22 (icells zero16).toArray
    rw [hsz] at this
    exact this
  have I0 : Hid (FoInv w (w.heap.size + 2) s l 0 ((((w.alloc (.cells (icells s).toArray 22)).alloc (.cells (icells zero16).toArray 22)).alloc (.cells (icells zero16).toArray 22)).setRow (w.heap.size + 2) (icells s).toArray)) := Lib.hid
    ⟨below_setRow (B0.out.alloc B0.out.size _) (by omega) _, wi_setRow hz s, WI.row (WI.alloc W1.out _) _ _ (by omega), rfl⟩
  clear hsz
  unfold av
  go_enter Try.func8, Try.ntmps8
  go_wp2_with (first
    | (refine wpList_load_row rfl 22 (.tmp 2) rfl w.heap.size rfl 22 (icells s).toArray (0, 0) _ h0 Try.underlying22 rfl HSs ?_)
    | (refine wpList_store_row rfl 22 (.tmp 6) (.tmp 9) rfl (w.heap.size + 2) (icells s).toArray rfl rfl 22 (icells zero16).toArray hz HSs hzz HAs ?_))
  go_loopw [12] (fun i wr => ∃ (k : Nat), i = .int .i64 k ∧ k ≤ n ∧ FoInv w (w.heap.size + 2) s l k wr) (fun i _ => (n - intOf i).toNat)
  case atStart => exact ⟨0, rfl, by omega, I0.out⟩
  case round =>
    obtain ⟨k, rfl, hk, hinv⟩ := hrel
    have I := Lib.hid hinv
    clear hinv I0 h0 hzz hz
    by_cases hlt : k < n
    · obtain ⟨gl, ol, rfl, _, _⟩ := Words.Rd.row H.out (by omega)
      obtain ⟨⟨xq, xn, xd, xw⟩, hx⟩ : ∃ x, l[k]? = some x := ⟨_, List.getElem?_eq_getElem (by rw [L.out]; exact hlt)⟩
      obtain ⟨c0, c1, c2, c3⟩ := Pgs.cells (Words.Rd.below H.out I.out.bel hB) rfl hx
      have HX := Lib.hid hx
      clear hx
      by_cases hn : 0 ≤ xn ∧ xn < 16
      · have HY := Lib.hid (inN_yes (p := ⟨xq, xn, xd, xw⟩) |>.2 hn)
        obtain ⟨y, rfl⟩ : ∃ y : Nat, xn = y := ⟨xn.toNat, by omega⟩
        have hy : y < 16 := by omega
        have I1 := Lib.hid ((I.out.alloc (.cells #[.int .i64 xq, .int .i64 y, .int .i64 xd, .bool xw] 36)).put (by omega) (by omega) HX.out HY.out)
        obtain ⟨v, hv⟩ : ∃ v, (run s (l.take k))[y]? = some v := ⟨_, List.getElem?_eq_getElem (by rw [run_length, hs]; exact hy)⟩
        have q0 := (I.out.alloc (.cells #[.int .i64 xq, .int .i64 y, .int .i64 xd, .bool xw] 36)).cur.cell hv
        have q1 := (I.out.alloc (.cells #[.int .i64 xq, .int .i64 y, .int .i64 xd, .bool xw] 36)).cur.frozen y
        clear hv
        go_wp2_with fail
        go_roundw
        case rel => exact ⟨k + 1, by go_num, by omega, I1.out⟩
        case measure => simp [intOf]; omega
      · have HD := Lib.hid (allN_bad HX.out (inN_no.2 hn))
        have h0 := (I.out.alloc (.cells #[.int .i64 xq, .int .i64 xn, .int .i64 xd, .bool xw] 36)).res
        have HW := Lib.hid (wi_setRow h0 zero16)
        have HB := Lib.hid (below_setRow (I.out.alloc (.cells #[.int .i64 xq, .int .i64 xn, .int .i64 xd, .bool xw] 36)).bel (show w.heap.size ≤ w.heap.size + 1 by omega) (icells zero16).toArray)
        by_cases hn1 : xn < 0
        · clear hn
          go_wp2_with (refine wpList_store_row rfl 22 (.tmp 4) (.tmp 24) rfl (w.heap.size + 1) (icells zero16).toArray rfl rfl 22 (icells zero16).toArray h0 HS rfl HA ?_)
          refine bodyPost_ret (results_ac rfl _ _ (w.heap.size + 1) 22 (icells zero16).toArray _ rfl HW.out Try.underlying22 rfl HS) rfl ?_
          exact folded_bad HD.out HB.out
        · have hn2 : 16 ≤ xn := by omega
          clear hn
          go_wp2_with (refine wpList_store_row rfl 22 (.tmp 4) (.tmp 24) rfl (w.heap.size + 1) (icells zero16).toArray rfl rfl 22 (icells zero16).toArray h0 HS rfl HA ?_)
          refine bodyPost_ret (results_ac rfl _ _ (w.heap.size + 1) 22 (icells zero16).toArray _ rfl HW.out Try.underlying22 rfl HS) rfl ?_
          exact folded_bad HD.out HB.out
    · obtain rfl : k = n := by omega
      have hr := I.out.res
      have h1 := I.out.cur
      have hal : (run s (l.take k)).length = 16 := by rw [run_length, hs]
      have HSL := size22_of hal
      have HAL := arr_all (run s (l.take k))
      have HW := Lib.hid (wi_setRow hr (run s (l.take k)))
      have HB := Lib.hid (below_setRow I.out.bel (show w.heap.size ≤ w.heap.size + 1 by omega) (icells (run s (l.take k))).toArray)
      have hzs := z16_size hal
      go_wp2_with (first
        | (refine wpList_load_row rfl 22 (.tmp 6) rfl (w.heap.size + 2) rfl 22 (icells (run s (l.take k))).toArray (0, 0) _ h1 Try.underlying22 rfl HSL ?_)
        | (refine wpList_store_row rfl 22 (.tmp 4) (.tmp 31) rfl (w.heap.size + 1) (icells (run s (l.take k))).toArray rfl rfl 22 (icells zero16).toArray hr HSL hzs HAL ?_))
      refine bodyPost_ret (results_ac rfl _ _ (w.heap.size + 1) 22 (icells (run s (l.take k))).toArray _ rfl HW.out Try.underlying22 rfl HSL) rfl ?_
      exact folded_ok I.out.ok L.out HB.out
end Go.Proofs.Ytiiadclcfbghkaa.Mnt
