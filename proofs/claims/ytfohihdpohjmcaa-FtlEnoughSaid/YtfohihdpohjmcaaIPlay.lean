/-
  What the document's own Play of a store of numbered data returns, walked through the program's text.
-/
import Derived.Test.YtfohihdpohjmcaaWalks
namespace Go.Proofs.Ytfohihdpohjmcaa.Ftl
open Go.ChangeShapes Go.WideShapes Go.ChangeAt Go.RowKit Words
set_option linter.unusedVariables false

def iAns (l : List Fop) : List Fan := if l.length ≤ 400 then anss sto0 l else []
def iErr (l : List Fop) : Int := if l.length ≤ 400 then 0 else 2
def IPlayed (w : World) (l : List Fop) (e : Ending) (w' : World) : Prop :=
  ∃ A c, e = .returned (.tuple #[.slice A (iAns l).length c, .int .i64 (iErr l)]) ∧ Fans w' w'.heap.size A (iAns l).length c (iAns l) ∧ Below w.heap.size w w'
theorem iplayed_bad {w w' : World} {l : List Fop} (h : ¬ l.length ≤ 400) (b : Below w.heap.size w w') : IPlayed w l (.returned (.tuple #[.slice none 0 0, .int .i64 2])) w' := by
  have e1 : iAns l = [] := by unfold iAns; rw [if_neg h]
  have e2 : iErr l = 2 := by unfold iErr; rw [if_neg h]
  unfold IPlayed
  rw [e1, e2]
  exact ⟨none, 0, rfl, Words.Rd.nil_ _ _ _, b⟩
theorem iplayed_ok {w w' : World} {l : List Fop} {A : Option Addr} {n c : Nat} (h : l.length ≤ 400) (f : Fans w' w'.heap.size A n c (anss sto0 l)) (b : Below w.heap.size w w') : IPlayed w l (.returned (.tuple #[.slice A n c, .int .i64 0])) w' := by
  have e1 : iAns l = anss sto0 l := by unfold iAns; rw [if_pos h]
  have e2 : iErr l = 0 := by unfold iErr; rw [if_pos h]
  have hl := f.len
  unfold IPlayed
  rw [e1, e2, hl]
  exact ⟨A, c, rfl, f, b⟩
set_option maxRecDepth 100000 in
set_option maxHeartbeats 8000000 in
theorem iplay10 (B : Nat) (Aa : Option Addr) (n c : Nat) (l : List Fop) (w : World) (h : Ops w B Aa n c l) (hB : B ≤ w.heap.size) (hwf : ∀ o ∈ l, Wf o) :
    Calls Try.prog 10 #[.slice Aa n c] w (IPlayed w l) := by
  have H := Lib.hid h
  have L := Lib.hid h.len
  have WF := Lib.hid hwf
  have hmm := @run_makeMap Try.prog
  obtain ⟨i32, hi32, hz0, hz1, hz2⟩ := info_parts info32
  have hzz : (Value.agg #[.int .i64 0, .int .i64 0]).cells.size = 2 := rfl
  clear h hwf
  by_cases hn : n ≤ 400
  · have G0 : Hid (IS w (w.alloc (.map #[] 0)) none 0 0 [] (.map []) sto0) := Lib.hid
      ⟨(Below.refl _ _).alloc (Nat.le_refl _) _, World.ownsRow_nil _ _ _ _, World.ownsMap_made _ _ _ _, tie0⟩
    go_enter Try.func10, Try.ntmps10
    go_wp2_with fail
    go_loopw [5, 17] (fun a i wr => ∃ (k : Nat) (A2 : Option Addr) (c2 : Nat) (D : Dm), a = .slice A2 k c2 ∧ i = .int .i64 k ∧ k ≤ n ∧ IS w wr A2 k c2 (A l k) D (S l k)) (fun _ i _ => (n - intOf i).toNat)
    case atStart => exact ⟨0, none, 0, .map [], rfl, rfl, by omega, by rw [A_zero, S_zero]; exact G0.out⟩
    case round =>
      obtain ⟨k, A2, c2, D, rfl, rfl, hk, hinv⟩ := hrel
      have G := Lib.hid hinv
      clear hinv G0
      by_cases hlt : k < n
      · obtain ⟨gl, ol, rfl, _, _⟩ := Words.Rd.row H.out (by omega)
        obtain ⟨o, ho⟩ : ∃ o, l[k]? = some o := ⟨_, List.getElem?_eq_getElem (by rw [L.out]; exact hlt)⟩
        obtain ⟨c0, c1, c2'⟩ := Ops.cells (Words.Rd.below H.out G.out.bel hB) rfl ho
        obtain ⟨w0, w1, w2⟩ := WF.out o (List.mem_iff_getElem?.2 ⟨k, ho⟩)
        have HO := Lib.hid ho
        clear ho
        obtain ⟨kd, nn, dd⟩ := o
        have c0 : wr.cell? ⟨gl, ol + k * 3, none⟩ = some (.int .i64 kd) := c0
        have c1 : wr.cell? ⟨gl, ol + k * 3 + 1, none⟩ = some (.int .i64 nn) := c1
        have c2' : wr.cell? ⟨gl, ol + k * 3 + 2, none⟩ = some (.int .i64 dd) := c2'
        have hkey := Go.Maps.keyOf_int_mk (P := Try.prog) Try.underlying3 (a := nn) w1
        have HWD := Lib.hid (show (Lit.int .i64 dd).wf = true from w2)
        have G2 := Lib.hid ((G.out.alloc (.cells #[.int .i64 kd, .int .i64 nn, .int .i64 dd] 37)).alloc (.cells #[.int .i64 0, .int .i64 0] 32))
        have HT := Lib.hid (G.out.tie.has nn)
        have HT2 := Lib.hid (G.out.tie.val nn)
        clear w0 w1 w2
        by_cases hkd : kd = 1 ∨ kd = 2 ∨ kd = 3
        · by_cases hr : 0 ≤ nn ∧ nn < 16
          · have hr2 : ¬ (nn > 15) := by omega
            have hr3 : ¬ (nn < 0) := by omega
            rcases hkd with rfl | hkd
            · -- a write
              obtain ⟨f1, f2⟩ := fx_write (s := S l k) (o := ⟨1, nn, dd⟩) rfl hr
              have HS : Hid (S l (k + 1) = upd (S l k) nn (some dd)) := Lib.hid (by rw [S_next HO.out]; exact f2)
              have HA : Hid (A l (k + 1) = A l k ++ [⟨0, 0⟩]) := Lib.hid (by rw [A_next HO.out, f1])
              have z0 : ((wr.alloc (.cells #[.int .i64 1, .int .i64 nn, .int .i64 dd] 37)).alloc (.cells #[.int .i64 0, .int .i64 0] 32)).cell? ⟨wr.heap.size + 1, 0, none⟩ = some (.int .i64 0) := by
                have := cell_of_row _ _ 0 _ 32 (0, 0) (heap_alloc_new (wr.alloc (.cells #[.int .i64 1, .int .i64 nn, .int .i64 dd] 37)) (.cells #[.int .i64 0, .int .i64 0] 32))
                rw [World.size_alloc] at this
                exact this
              have z1 : ((wr.alloc (.cells #[.int .i64 1, .int .i64 nn, .int .i64 dd] 37)).alloc (.cells #[.int .i64 0, .int .i64 0] 32)).cell? ⟨wr.heap.size + 1, 1, none⟩ = some (.int .i64 0) := by
                have := cell_of_row _ _ 1 _ 32 (0, 0) (heap_alloc_new (wr.alloc (.cells #[.int .i64 1, .int .i64 nn, .int .i64 dd] 37)) (.cells #[.int .i64 0, .int .i64 0] 32))
                rw [World.size_alloc] at this
                exact this
              have Z0 := Lib.hid z0
              have Z1 := Lib.hid z1
              have hsz : wr.heap.size + 1 < ((wr.alloc (.cells #[.int .i64 1, .int .i64 nn, .int .i64 dd] 37)).alloc (.cells #[.int .i64 0, .int .i64 0] 32)).heap.size := by rw [World.size_alloc, World.size_alloc]; omega
              have hgs := G.out.size
              have HSZ := Lib.hid hsz
              clear f1 f2 z0 z1 hsz
              go_wp2_with (first
                | (at_lookup; refine wpList_lookup_own_ok_int _ rfl _ _ 46 rfl 3 3 .i64 law3 Try.underlying46 Try.underlying3 (zero3 _) w.heap.size k D rfl G2.out.map _ _ rfl hkey ?_
                   intro cc hat hwc
                   clear hat hwc)
                | (at_mapUpdate; (((refine wpList_mapUpdate_in _ rfl _ _ _ 46 rfl 3 3 law3 Try.underlying46 _ w.heap.size k D rfl G2.out.map (by unfold maxLen; omega) _ _ _ rfl rfl hkey _ [] (plainElem_int Try.underlying3 HWD.out) ?_); intro w1 hown1 hturn1; have Q0 := (grown_cell' hturn1.grown (p := ⟨wr.heap.size + 1, 0, none⟩) HSZ.out (by show some (wr.heap.size + 1) ≠ some w.heap.size; intro e; injection e with e; omega)).trans Z0.out; have Q1 := (grown_cell' hturn1.grown (p := ⟨wr.heap.size + 1, 1, none⟩) HSZ.out (by show some (wr.heap.size + 1) ≠ some w.heap.size; intro e; injection e with e; omega)).trans Z1.out; obtain ⟨m1, m2, m3, m4⟩ := G2.out.put hown1 hturn1; have GX := Lib.hid (IR.alloc ⟨m1, m2, m3, m4⟩ (.cells #[.int .i64 0, .int .i64 0] 32)); have hsX := GX.out.size; have HR := Lib.hid (one_fan w1 ⟨0, 0⟩); clear hown1 hturn1 m1 m2 m3 m4)))
                | (at_builtin; refine wpList_append_rd _ rfl (.tmp 76) (.tmp 78) 23 rfl (w.heap.size + 1) 32 i32 _ 2 16 Try.underlying23 hi32 hz0 hz1 hz2 hzz (by decide) _ k (acells (A l k)) rfl GX.out.row _ _ 1 1 (acells [⟨0, 0⟩]) rfl HR.out (acells_one _) (by simp only [maxLen]; omega) (by omega) hsX ?_
                   intro A9 c9 x9 hown9 hg9
                   have GN := Lib.hid (GX.out.next hown9 hg9 HA.out)
                   clear hown9 hg9))
              go_roundw
              case rel => exact ⟨k + 1, A9, c9, _, rfl, by go_num, by omega, by rw [HS.out]; exact GN.out⟩
              case measure => simp [intOf]; omega
            · cases hs : S l k nn with
              | none =>
                have hh : Go.Maps.has D (.int .i64 nn) = false := by have := HT.out; rw [hs] at this; exact this
                rcases hkd with rfl | rfl
                · -- nothing to read
                  obtain ⟨f1, f2⟩ := fx_none (s := S l k) (o := ⟨2, nn, dd⟩) (.inl rfl) hr hs
                  have HS : Hid (S l (k + 1) = S l k) := Lib.hid (by rw [S_next HO.out]; exact f2)
                  have HA : Hid (A l (k + 1) = A l k ++ [⟨3, 0⟩]) := Lib.hid (by rw [A_next HO.out, f1])
                  have GX := Lib.hid ((((G.out.ready.alloc (.cells #[.int .i64 2, .int .i64 nn, .int .i64 dd] 37)).alloc (.cells #[.int .i64 3, .int .i64 0] 32)).alloc (.cells #[.int .i64 3, .int .i64 0] 32)))
                  have hsX := GX.out.size
                  have HR := one_fan ((wr.alloc (.cells #[.int .i64 2, .int .i64 nn, .int .i64 dd] 37)).alloc (.cells #[.int .i64 3, .int .i64 0] 32)) ⟨3, 0⟩
                  rw [World.size_alloc, World.size_alloc] at HR
                  have HR := Lib.hid HR
                  clear f1 f2
                  clear hs
                  go_wp2_with (first
                    | (at_lookup; refine wpList_lookup_own_ok_int _ rfl _ _ 46 rfl 3 3 .i64 law3 Try.underlying46 Try.underlying3 (zero3 _) w.heap.size k D rfl G2.out.map _ _ rfl hkey ?_
                       intro cc hat hwc
                       clear hat hwc)
                    | (at_builtin; refine wpList_append_rd _ rfl (.tmp 76) (.tmp 78) 23 rfl (w.heap.size + 1) 32 i32 _ 2 16 Try.underlying23 hi32 hz0 hz1 hz2 hzz (by decide) _ k (acells (A l k)) rfl GX.out.row _ _ 1 1 (acells [⟨3, 0⟩]) rfl HR.out (acells_one _) (by simp only [maxLen]; omega) (by omega) hsX ?_
                       intro A9 c9 x9 hown9 hg9
                       have GN := Lib.hid (GX.out.next hown9 hg9 HA.out)
                       clear hown9 hg9))
                  go_roundw
                  case rel => exact ⟨k + 1, A9, c9, _, rfl, by go_num, by omega, by rw [HS.out]; exact GN.out⟩
                  case measure => simp [intOf]; omega
                · -- nothing to trim
                  obtain ⟨f1, f2⟩ := fx_none (s := S l k) (o := ⟨3, nn, dd⟩) (.inr rfl) hr hs
                  have HS : Hid (S l (k + 1) = S l k) := Lib.hid (by rw [S_next HO.out]; exact f2)
                  have HA : Hid (A l (k + 1) = A l k ++ [⟨3, 0⟩]) := Lib.hid (by rw [A_next HO.out, f1])
                  have GX := Lib.hid ((((G.out.ready.alloc (.cells #[.int .i64 3, .int .i64 nn, .int .i64 dd] 37)).alloc (.cells #[.int .i64 3, .int .i64 0] 32)).alloc (.cells #[.int .i64 3, .int .i64 0] 32)))
                  have hsX := GX.out.size
                  have HR := one_fan ((wr.alloc (.cells #[.int .i64 3, .int .i64 nn, .int .i64 dd] 37)).alloc (.cells #[.int .i64 3, .int .i64 0] 32)) ⟨3, 0⟩
                  rw [World.size_alloc, World.size_alloc] at HR
                  have HR := Lib.hid HR
                  clear f1 f2
                  clear hs
                  go_wp2_with (first
                    | (at_lookup; refine wpList_lookup_own_ok_int _ rfl _ _ 46 rfl 3 3 .i64 law3 Try.underlying46 Try.underlying3 (zero3 _) w.heap.size k D rfl G2.out.map _ _ rfl hkey ?_
                       intro cc hat hwc
                       clear hat hwc)
                    | (at_builtin; refine wpList_append_rd _ rfl (.tmp 76) (.tmp 78) 23 rfl (w.heap.size + 1) 32 i32 _ 2 16 Try.underlying23 hi32 hz0 hz1 hz2 hzz (by decide) _ k (acells (A l k)) rfl GX.out.row _ _ 1 1 (acells [⟨3, 0⟩]) rfl HR.out (acells_one _) (by simp only [maxLen]; omega) (by omega) hsX ?_
                       intro A9 c9 x9 hown9 hg9
                       have GN := Lib.hid (GX.out.next hown9 hg9 HA.out)
                       clear hown9 hg9))
                  go_roundw
                  case rel => exact ⟨k + 1, A9, c9, _, rfl, by go_num, by omega, by rw [HS.out]; exact GN.out⟩
                  case measure => simp [intOf]; omega
              | some v =>
                have hh : Go.Maps.has D (.int .i64 nn) = true := by have := HT.out; rw [hs] at this; exact this
                have HV : Hid (D.atKey (.int .i64 nn) (num 0) = num v) := Lib.hid (by have := HT2.out; rw [hs] at this; exact this)
                rcases hkd with rfl | rfl
                · -- a read
                  obtain ⟨f1, f2⟩ := fx_read (s := S l k) (o := ⟨2, nn, dd⟩) rfl hr hs
                  have HS : Hid (S l (k + 1) = S l k) := Lib.hid (by rw [S_next HO.out]; exact f2)
                  have HA : Hid (A l (k + 1) = A l k ++ [⟨0, v⟩]) := Lib.hid (by rw [A_next HO.out, f1])
                  have GX := Lib.hid ((((G.out.ready.alloc (.cells #[.int .i64 2, .int .i64 nn, .int .i64 dd] 37)).alloc (.cells #[.int .i64 0, .int .i64 v] 32)).alloc (.cells #[.int .i64 0, .int .i64 v] 32)))
                  have hsX := GX.out.size
                  have HR := one_fan ((wr.alloc (.cells #[.int .i64 2, .int .i64 nn, .int .i64 dd] 37)).alloc (.cells #[.int .i64 0, .int .i64 v] 32)) ⟨0, v⟩
                  rw [World.size_alloc, World.size_alloc] at HR
                  have HR := Lib.hid HR
                  clear f1 f2
                  clear hs
                  go_wp2_with (first
                    | (at_lookup; refine wpList_lookup_own_ok_int _ rfl _ _ 46 rfl 3 3 .i64 law3 Try.underlying46 Try.underlying3 (zero3 _) w.heap.size k D rfl G2.out.map _ _ rfl hkey ?_
                       intro cc hat hwc
                       obtain rfl : v = cc := num_inj (HV.out.symm.trans hat)
                       clear hat hwc)
                    | (at_builtin; refine wpList_append_rd _ rfl (.tmp 76) (.tmp 78) 23 rfl (w.heap.size + 1) 32 i32 _ 2 16 Try.underlying23 hi32 hz0 hz1 hz2 hzz (by decide) _ k (acells (A l k)) rfl GX.out.row _ _ 1 1 (acells [⟨0, v⟩]) rfl HR.out (acells_one _) (by simp only [maxLen]; omega) (by omega) hsX ?_
                       intro A9 c9 x9 hown9 hg9
                       have GN := Lib.hid (GX.out.next hown9 hg9 HA.out)
                       clear hown9 hg9))
                  go_roundw
                  case rel => exact ⟨k + 1, A9, c9, _, rfl, by go_num, by omega, by rw [HS.out]; exact GN.out⟩
                  case measure => simp [intOf]; omega
                · -- a trim
                  obtain ⟨f1, f2⟩ := fx_trim (s := S l k) (o := ⟨3, nn, dd⟩) rfl hr hs
                  have HS : Hid (S l (k + 1) = upd (S l k) nn none) := Lib.hid (by rw [S_next HO.out]; exact f2)
                  have HA : Hid (A l (k + 1) = A l k ++ [⟨0, 0⟩]) := Lib.hid (by rw [A_next HO.out, f1])
                  have z0 : ((wr.alloc (.cells #[.int .i64 3, .int .i64 nn, .int .i64 dd] 37)).alloc (.cells #[.int .i64 0, .int .i64 0] 32)).cell? ⟨wr.heap.size + 1, 0, none⟩ = some (.int .i64 0) := by
                    have := cell_of_row _ _ 0 _ 32 (0, 0) (heap_alloc_new (wr.alloc (.cells #[.int .i64 3, .int .i64 nn, .int .i64 dd] 37)) (.cells #[.int .i64 0, .int .i64 0] 32))
                    rw [World.size_alloc] at this
                    exact this
                  have z1 : ((wr.alloc (.cells #[.int .i64 3, .int .i64 nn, .int .i64 dd] 37)).alloc (.cells #[.int .i64 0, .int .i64 0] 32)).cell? ⟨wr.heap.size + 1, 1, none⟩ = some (.int .i64 0) := by
                    have := cell_of_row _ _ 1 _ 32 (0, 0) (heap_alloc_new (wr.alloc (.cells #[.int .i64 3, .int .i64 nn, .int .i64 dd] 37)) (.cells #[.int .i64 0, .int .i64 0] 32))
                    rw [World.size_alloc] at this
                    exact this
                  have Z0 := Lib.hid z0
                  have Z1 := Lib.hid z1
                  have hsz : wr.heap.size + 1 < ((wr.alloc (.cells #[.int .i64 3, .int .i64 nn, .int .i64 dd] 37)).alloc (.cells #[.int .i64 0, .int .i64 0] 32)).heap.size := by rw [World.size_alloc, World.size_alloc]; omega
                  have hgs := G.out.size
                  have HSZ := Lib.hid hsz
                  clear f1 f2 z0 z1 hsz
                  go_wp2_with (first
                    | (at_lookup; refine wpList_lookup_own_ok_int _ rfl _ _ 46 rfl 3 3 .i64 law3 Try.underlying46 Try.underlying3 (zero3 _) w.heap.size k D rfl G2.out.map _ _ rfl hkey ?_
                       intro cc hat hwc
                       obtain rfl : v = cc := num_inj (HV.out.symm.trans hat)
                       clear hat hwc)
                    | (at_delete; (((refine wpList_delete_own _ rfl _ _ 46 3 rfl 3 law3 Try.underlying46 _ w.heap.size k D rfl G2.out.map _ _ rfl hkey ?_); intro w1 hown1 hturn1; have Q0 := (grown_cell' hturn1.grown (p := ⟨wr.heap.size + 1, 0, none⟩) HSZ.out (by show some (wr.heap.size + 1) ≠ some w.heap.size; intro e; injection e with e; omega)).trans Z0.out; have Q1 := (grown_cell' hturn1.grown (p := ⟨wr.heap.size + 1, 1, none⟩) HSZ.out (by show some (wr.heap.size + 1) ≠ some w.heap.size; intro e; injection e with e; omega)).trans Z1.out; obtain ⟨m1, m2, m3, m4⟩ := G2.out.del hown1 hturn1; have GX := Lib.hid (IR.alloc ⟨m1, m2, m3, m4⟩ (.cells #[.int .i64 0, .int .i64 0] 32)); have hsX := GX.out.size; have HR := Lib.hid (one_fan w1 ⟨0, 0⟩); clear hown1 hturn1 m1 m2 m3 m4)))
                    | (at_builtin; refine wpList_append_rd _ rfl (.tmp 76) (.tmp 78) 23 rfl (w.heap.size + 1) 32 i32 _ 2 16 Try.underlying23 hi32 hz0 hz1 hz2 hzz (by decide) _ k (acells (A l k)) rfl GX.out.row _ _ 1 1 (acells [⟨0, 0⟩]) rfl HR.out (acells_one _) (by simp only [maxLen]; omega) (by omega) hsX ?_
                       intro A9 c9 x9 hown9 hg9
                       have GN := Lib.hid (GX.out.next hown9 hg9 HA.out)
                       clear hown9 hg9))
                  go_roundw
                  case rel => exact ⟨k + 1, A9, c9, _, rfl, by go_num, by omega, by rw [HS.out]; exact GN.out⟩
                  case measure => simp [intOf]; omega
          · by_cases h0 : nn < 0
            · rcases hkd with rfl | rfl | rfl
              · obtain ⟨f1, f2⟩ := fx_range (s := S l k) (o := ⟨1, nn, dd⟩) (.inl rfl) hr
                have HS : Hid (S l (k + 1) = S l k) := Lib.hid (by rw [S_next HO.out]; exact f2)
                have HA : Hid (A l (k + 1) = A l k ++ [⟨2, 0⟩]) := Lib.hid (by rw [A_next HO.out, f1])
                have GX := Lib.hid ((((G.out.ready.alloc (.cells #[.int .i64 1, .int .i64 nn, .int .i64 dd] 37)).alloc (.cells #[.int .i64 2, .int .i64 0] 32)).alloc (.cells #[.int .i64 2, .int .i64 0] 32)))
                have hsX := GX.out.size
                have HR := one_fan ((wr.alloc (.cells #[.int .i64 1, .int .i64 nn, .int .i64 dd] 37)).alloc (.cells #[.int .i64 2, .int .i64 0] 32)) ⟨2, 0⟩
                rw [World.size_alloc, World.size_alloc] at HR
                have HR := Lib.hid HR
                clear f1 f2
                clear hr
                go_wp2_with (first
                  | (at_lookup; refine wpList_lookup_own_ok_int _ rfl _ _ 46 rfl 3 3 .i64 law3 Try.underlying46 Try.underlying3 (zero3 _) w.heap.size k D rfl G2.out.map _ _ rfl hkey ?_
                     intro cc hat hwc
                     clear hat hwc)
                  | (at_builtin; refine wpList_append_rd _ rfl (.tmp 76) (.tmp 78) 23 rfl (w.heap.size + 1) 32 i32 _ 2 16 Try.underlying23 hi32 hz0 hz1 hz2 hzz (by decide) _ k (acells (A l k)) rfl GX.out.row _ _ 1 1 (acells [⟨2, 0⟩]) rfl HR.out (acells_one _) (by simp only [maxLen]; omega) (by omega) hsX ?_
                     intro A9 c9 x9 hown9 hg9
                     have GN := Lib.hid (GX.out.next hown9 hg9 HA.out)
                     clear hown9 hg9))
                go_roundw
                case rel => exact ⟨k + 1, A9, c9, _, rfl, by go_num, by omega, by rw [HS.out]; exact GN.out⟩
                case measure => simp [intOf]; omega
              · obtain ⟨f1, f2⟩ := fx_range (s := S l k) (o := ⟨2, nn, dd⟩) (.inr (.inl rfl)) hr
                have HS : Hid (S l (k + 1) = S l k) := Lib.hid (by rw [S_next HO.out]; exact f2)
                have HA : Hid (A l (k + 1) = A l k ++ [⟨2, 0⟩]) := Lib.hid (by rw [A_next HO.out, f1])
                have GX := Lib.hid ((((G.out.ready.alloc (.cells #[.int .i64 2, .int .i64 nn, .int .i64 dd] 37)).alloc (.cells #[.int .i64 2, .int .i64 0] 32)).alloc (.cells #[.int .i64 2, .int .i64 0] 32)))
                have hsX := GX.out.size
                have HR := one_fan ((wr.alloc (.cells #[.int .i64 2, .int .i64 nn, .int .i64 dd] 37)).alloc (.cells #[.int .i64 2, .int .i64 0] 32)) ⟨2, 0⟩
                rw [World.size_alloc, World.size_alloc] at HR
                have HR := Lib.hid HR
                clear f1 f2
                clear hr
                go_wp2_with (first
                  | (at_lookup; refine wpList_lookup_own_ok_int _ rfl _ _ 46 rfl 3 3 .i64 law3 Try.underlying46 Try.underlying3 (zero3 _) w.heap.size k D rfl G2.out.map _ _ rfl hkey ?_
                     intro cc hat hwc
                     clear hat hwc)
                  | (at_builtin; refine wpList_append_rd _ rfl (.tmp 76) (.tmp 78) 23 rfl (w.heap.size + 1) 32 i32 _ 2 16 Try.underlying23 hi32 hz0 hz1 hz2 hzz (by decide) _ k (acells (A l k)) rfl GX.out.row _ _ 1 1 (acells [⟨2, 0⟩]) rfl HR.out (acells_one _) (by simp only [maxLen]; omega) (by omega) hsX ?_
                     intro A9 c9 x9 hown9 hg9
                     have GN := Lib.hid (GX.out.next hown9 hg9 HA.out)
                     clear hown9 hg9))
                go_roundw
                case rel => exact ⟨k + 1, A9, c9, _, rfl, by go_num, by omega, by rw [HS.out]; exact GN.out⟩
                case measure => simp [intOf]; omega
              · obtain ⟨f1, f2⟩ := fx_range (s := S l k) (o := ⟨3, nn, dd⟩) (.inr (.inr rfl)) hr
                have HS : Hid (S l (k + 1) = S l k) := Lib.hid (by rw [S_next HO.out]; exact f2)
                have HA : Hid (A l (k + 1) = A l k ++ [⟨2, 0⟩]) := Lib.hid (by rw [A_next HO.out, f1])
                have GX := Lib.hid ((((G.out.ready.alloc (.cells #[.int .i64 3, .int .i64 nn, .int .i64 dd] 37)).alloc (.cells #[.int .i64 2, .int .i64 0] 32)).alloc (.cells #[.int .i64 2, .int .i64 0] 32)))
                have hsX := GX.out.size
                have HR := one_fan ((wr.alloc (.cells #[.int .i64 3, .int .i64 nn, .int .i64 dd] 37)).alloc (.cells #[.int .i64 2, .int .i64 0] 32)) ⟨2, 0⟩
                rw [World.size_alloc, World.size_alloc] at HR
                have HR := Lib.hid HR
                clear f1 f2
                clear hr
                go_wp2_with (first
                  | (at_lookup; refine wpList_lookup_own_ok_int _ rfl _ _ 46 rfl 3 3 .i64 law3 Try.underlying46 Try.underlying3 (zero3 _) w.heap.size k D rfl G2.out.map _ _ rfl hkey ?_
                     intro cc hat hwc
                     clear hat hwc)
                  | (at_builtin; refine wpList_append_rd _ rfl (.tmp 76) (.tmp 78) 23 rfl (w.heap.size + 1) 32 i32 _ 2 16 Try.underlying23 hi32 hz0 hz1 hz2 hzz (by decide) _ k (acells (A l k)) rfl GX.out.row _ _ 1 1 (acells [⟨2, 0⟩]) rfl HR.out (acells_one _) (by simp only [maxLen]; omega) (by omega) hsX ?_
                     intro A9 c9 x9 hown9 hg9
                     have GN := Lib.hid (GX.out.next hown9 hg9 HA.out)
                     clear hown9 hg9))
                go_roundw
                case rel => exact ⟨k + 1, A9, c9, _, rfl, by go_num, by omega, by rw [HS.out]; exact GN.out⟩
                case measure => simp [intOf]; omega
            · have h15 : nn > 15 := by omega
              rcases hkd with rfl | rfl | rfl
              · obtain ⟨f1, f2⟩ := fx_range (s := S l k) (o := ⟨1, nn, dd⟩) (.inl rfl) hr
                have HS : Hid (S l (k + 1) = S l k) := Lib.hid (by rw [S_next HO.out]; exact f2)
                have HA : Hid (A l (k + 1) = A l k ++ [⟨2, 0⟩]) := Lib.hid (by rw [A_next HO.out, f1])
                have GX := Lib.hid ((((G.out.ready.alloc (.cells #[.int .i64 1, .int .i64 nn, .int .i64 dd] 37)).alloc (.cells #[.int .i64 2, .int .i64 0] 32)).alloc (.cells #[.int .i64 2, .int .i64 0] 32)))
                have hsX := GX.out.size
                have HR := one_fan ((wr.alloc (.cells #[.int .i64 1, .int .i64 nn, .int .i64 dd] 37)).alloc (.cells #[.int .i64 2, .int .i64 0] 32)) ⟨2, 0⟩
                rw [World.size_alloc, World.size_alloc] at HR
                have HR := Lib.hid HR
                clear f1 f2
                clear hr
                go_wp2_with (first
                  | (at_lookup; refine wpList_lookup_own_ok_int _ rfl _ _ 46 rfl 3 3 .i64 law3 Try.underlying46 Try.underlying3 (zero3 _) w.heap.size k D rfl G2.out.map _ _ rfl hkey ?_
                     intro cc hat hwc
                     clear hat hwc)
                  | (at_builtin; refine wpList_append_rd _ rfl (.tmp 76) (.tmp 78) 23 rfl (w.heap.size + 1) 32 i32 _ 2 16 Try.underlying23 hi32 hz0 hz1 hz2 hzz (by decide) _ k (acells (A l k)) rfl GX.out.row _ _ 1 1 (acells [⟨2, 0⟩]) rfl HR.out (acells_one _) (by simp only [maxLen]; omega) (by omega) hsX ?_
                     intro A9 c9 x9 hown9 hg9
                     have GN := Lib.hid (GX.out.next hown9 hg9 HA.out)
                     clear hown9 hg9))
                go_roundw
                case rel => exact ⟨k + 1, A9, c9, _, rfl, by go_num, by omega, by rw [HS.out]; exact GN.out⟩
                case measure => simp [intOf]; omega
              · obtain ⟨f1, f2⟩ := fx_range (s := S l k) (o := ⟨2, nn, dd⟩) (.inr (.inl rfl)) hr
                have HS : Hid (S l (k + 1) = S l k) := Lib.hid (by rw [S_next HO.out]; exact f2)
                have HA : Hid (A l (k + 1) = A l k ++ [⟨2, 0⟩]) := Lib.hid (by rw [A_next HO.out, f1])
                have GX := Lib.hid ((((G.out.ready.alloc (.cells #[.int .i64 2, .int .i64 nn, .int .i64 dd] 37)).alloc (.cells #[.int .i64 2, .int .i64 0] 32)).alloc (.cells #[.int .i64 2, .int .i64 0] 32)))
                have hsX := GX.out.size
                have HR := one_fan ((wr.alloc (.cells #[.int .i64 2, .int .i64 nn, .int .i64 dd] 37)).alloc (.cells #[.int .i64 2, .int .i64 0] 32)) ⟨2, 0⟩
                rw [World.size_alloc, World.size_alloc] at HR
                have HR := Lib.hid HR
                clear f1 f2
                clear hr
                go_wp2_with (first
                  | (at_lookup; refine wpList_lookup_own_ok_int _ rfl _ _ 46 rfl 3 3 .i64 law3 Try.underlying46 Try.underlying3 (zero3 _) w.heap.size k D rfl G2.out.map _ _ rfl hkey ?_
                     intro cc hat hwc
                     clear hat hwc)
                  | (at_builtin; refine wpList_append_rd _ rfl (.tmp 76) (.tmp 78) 23 rfl (w.heap.size + 1) 32 i32 _ 2 16 Try.underlying23 hi32 hz0 hz1 hz2 hzz (by decide) _ k (acells (A l k)) rfl GX.out.row _ _ 1 1 (acells [⟨2, 0⟩]) rfl HR.out (acells_one _) (by simp only [maxLen]; omega) (by omega) hsX ?_
                     intro A9 c9 x9 hown9 hg9
                     have GN := Lib.hid (GX.out.next hown9 hg9 HA.out)
                     clear hown9 hg9))
                go_roundw
                case rel => exact ⟨k + 1, A9, c9, _, rfl, by go_num, by omega, by rw [HS.out]; exact GN.out⟩
                case measure => simp [intOf]; omega
              · obtain ⟨f1, f2⟩ := fx_range (s := S l k) (o := ⟨3, nn, dd⟩) (.inr (.inr rfl)) hr
                have HS : Hid (S l (k + 1) = S l k) := Lib.hid (by rw [S_next HO.out]; exact f2)
                have HA : Hid (A l (k + 1) = A l k ++ [⟨2, 0⟩]) := Lib.hid (by rw [A_next HO.out, f1])
                have GX := Lib.hid ((((G.out.ready.alloc (.cells #[.int .i64 3, .int .i64 nn, .int .i64 dd] 37)).alloc (.cells #[.int .i64 2, .int .i64 0] 32)).alloc (.cells #[.int .i64 2, .int .i64 0] 32)))
                have hsX := GX.out.size
                have HR := one_fan ((wr.alloc (.cells #[.int .i64 3, .int .i64 nn, .int .i64 dd] 37)).alloc (.cells #[.int .i64 2, .int .i64 0] 32)) ⟨2, 0⟩
                rw [World.size_alloc, World.size_alloc] at HR
                have HR := Lib.hid HR
                clear f1 f2
                clear hr
                go_wp2_with (first
                  | (at_lookup; refine wpList_lookup_own_ok_int _ rfl _ _ 46 rfl 3 3 .i64 law3 Try.underlying46 Try.underlying3 (zero3 _) w.heap.size k D rfl G2.out.map _ _ rfl hkey ?_
                     intro cc hat hwc
                     clear hat hwc)
                  | (at_builtin; refine wpList_append_rd _ rfl (.tmp 76) (.tmp 78) 23 rfl (w.heap.size + 1) 32 i32 _ 2 16 Try.underlying23 hi32 hz0 hz1 hz2 hzz (by decide) _ k (acells (A l k)) rfl GX.out.row _ _ 1 1 (acells [⟨2, 0⟩]) rfl HR.out (acells_one _) (by simp only [maxLen]; omega) (by omega) hsX ?_
                     intro A9 c9 x9 hown9 hg9
                     have GN := Lib.hid (GX.out.next hown9 hg9 HA.out)
                     clear hown9 hg9))
                go_roundw
                case rel => exact ⟨k + 1, A9, c9, _, rfl, by go_num, by omega, by rw [HS.out]; exact GN.out⟩
                case measure => simp [intOf]; omega
        · have h1 : (kd != 1) = true := by rw [bne_iff_ne]; omega
          have h2 : (kd != 2) = true := by rw [bne_iff_ne]; omega
          have h3 : (kd != 3) = true := by rw [bne_iff_ne]; omega
          obtain ⟨f1, f2⟩ := fx_kind (s := S l k) (o := ⟨kd, nn, dd⟩) hkd
          have HS : Hid (S l (k + 1) = S l k) := Lib.hid (by rw [S_next HO.out]; exact f2)
          have HA : Hid (A l (k + 1) = A l k ++ [⟨5, 0⟩]) := Lib.hid (by rw [A_next HO.out, f1])
          have GX := Lib.hid ((((G.out.ready.alloc (.cells #[.int .i64 kd, .int .i64 nn, .int .i64 dd] 37)).alloc (.cells #[.int .i64 5, .int .i64 0] 32)).alloc (.cells #[.int .i64 5, .int .i64 0] 32)))
          have hsX := GX.out.size
          have HR := one_fan ((wr.alloc (.cells #[.int .i64 kd, .int .i64 nn, .int .i64 dd] 37)).alloc (.cells #[.int .i64 5, .int .i64 0] 32)) ⟨5, 0⟩
          rw [World.size_alloc, World.size_alloc] at HR
          have HR := Lib.hid HR
          clear f1 f2
          clear hkd
          go_wp2_with (first
            | (at_lookup; refine wpList_lookup_own_ok_int _ rfl _ _ 46 rfl 3 3 .i64 law3 Try.underlying46 Try.underlying3 (zero3 _) w.heap.size k D rfl G2.out.map _ _ rfl hkey ?_
               intro cc hat hwc
               clear hat hwc)
            | (at_builtin; refine wpList_append_rd _ rfl (.tmp 76) (.tmp 78) 23 rfl (w.heap.size + 1) 32 i32 _ 2 16 Try.underlying23 hi32 hz0 hz1 hz2 hzz (by decide) _ k (acells (A l k)) rfl GX.out.row _ _ 1 1 (acells [⟨5, 0⟩]) rfl HR.out (acells_one _) (by simp only [maxLen]; omega) (by omega) hsX ?_
               intro A9 c9 x9 hown9 hg9
               have GN := Lib.hid (GX.out.next hown9 hg9 HA.out)
               clear hown9 hg9))
          go_roundw
          case rel => exact ⟨k + 1, A9, c9, _, rfl, by go_num, by omega, by rw [HS.out]; exact GN.out⟩
          case measure => simp [intOf]; omega
      · obtain rfl : k = n := by omega
        have HF := Lib.hid (show Fans wr wr.heap.size A2 k c2 (A l k) from Words.Rd.of_own G.out.row)
        have HB := Lib.hid G.out.bel
        have HL := Lib.hid (A_all (l := l) (k := k) (by rw [L.out]; exact Nat.le_refl _))
        clear G
        go_wp2_with fail
        go_ret2
        exact iplayed_ok (by rw [L.out]; exact hn) (by rw [← HL.out]; exact HF.out) HB.out
  · have hn2 : (n : Int) > 400 := by omega
    go_enter Try.func10, Try.ntmps10
    go_wp2_with fail
    go_ret2
    exact iplayed_bad (by rw [L.out]; exact hn) (Below.refl _ _)
end Go.Proofs.Ytfohihdpohjmcaa.Ftl
