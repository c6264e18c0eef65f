/-
  Pages as they are written one behind the other.
-/
import Derived.Test.YtiiadclcfbghkaaCuts
namespace Go.Proofs.Ytiiadclcfbghkaa.Mnt
open Go.ChangeShapes Go.WideShapes Go.ChangeAt Go.RowKit Words
set_option linter.unusedVariables false

/-- What the writing keeps. -/
structure WInv (w : World) (l : List Pg) (A : Option Addr) (k c : Nat) (W : World) : Prop where
  bel : Below w.heap.size w W
  row : OwnPg W w.heap.size A k c (wrt (l.take k))
  ok : allN (l.take k) = true
section
variable {w W W' : World} {l : List Pg} {A : Option Addr} {k c : Nat}
theorem WInv.alloc (h : WInv w l A k c W) (o : Obj) : WInv w l A k c (W.alloc o) := ⟨h.bel.alloc h.bel.size _, h.row.below ((Below.refl _ _).alloc (Nat.le_refl _) _) (Nat.le_refl _), h.ok⟩
theorem WInv.had (h : WInv w l A k c W) {p : Pg} (hp : l[k]? = some p) (hn : inN p = true) {A' : Option Addr} {c' : Nat} (ho : W'.ownsRow w.heap.size 36 4 (.slice A' (k + 1) c') (k + 1) (lcells (wrt (l.take k)) ++ lcells [wpg k p])) (hg : W.grownBy W' (Value.slice A k c).ownBlock) :
    WInv w l A' (k + 1) c' W' :=
  ⟨below_grown h.bel h.row hg h.bel.size (Nat.le_refl _), by rw [wrt_next hp]; unfold OwnPg; rw [lcells_append]; exact ho, by rw [take_next hp, allN_app, allN_one, h.ok, hn]; rfl⟩
end
/-- What is written, and whether it could be. -/
def Wrote (w : World) (l : List Pg) (e : Ending) (w' : World) : Prop :=
  (allN l = false ∧ e = .returned (.tuple #[.slice none 0 0, .bool false]) ∧ Below w.heap.size w w') ∨
  (allN l = true ∧ ∃ A c, e = .returned (.tuple #[.slice A l.length c, .bool true]) ∧ OwnPg w' w.heap.size A l.length c (wrt l) ∧ Below w.heap.size w w')
set_option maxHeartbeats 4000000 in
theorem written12 (B : Nat) (A : Option Addr) (n c : Nat) (l : List Pg) (w : World) (h : Pgs w B A n c l) (hB : B ≤ w.heap.size) (hn32 : n * 32 ≤ 140737488351232) :
    Calls Try.prog 12 #[.slice A n c] w (Wrote w l) := by
  have hm := Words.Rd.small h
  have L := Lib.hid h.len
  have H := Lib.hid h
  have hn : n ≤ 4398046511000 := by omega
  obtain ⟨i0, hi0, hz0, hz1, hz2⟩ := info_parts info36
  have hi0 := Lib.hid hi0; have hz0 := Lib.hid hz0; have hz1 := Lib.hid hz1; have hz2 := Lib.hid hz2
  have I0 : Hid (WInv w l none 0 0 w) := Lib.hid ⟨Below.refl _ _, by
    have := w.ownsRow_nil w.heap.size 36 4
    unfold OwnPg
    simpa [lcells, wrt] using this, rfl⟩
  clear h hn32
  go_enter Try.func12, Try.ntmps12
  go_wp2_with fail
  go_loopw [4, 9] (fun v i wr => ∃ (A' : Option Addr) (k c' : Nat), v = .slice A' k c' ∧ i = .int .i64 k ∧ k ≤ n ∧ WInv w l A' k c' wr) (fun _ i _ => (n - intOf i).toNat)
  case atStart => exact ⟨none, 0, 0, rfl, rfl, by omega, I0.out⟩
  case round =>
    obtain ⟨A', k, c', rfl, rfl, hk, hinv⟩ := hrel
    have I := Lib.hid hinv
    clear hinv I0
    by_cases hlt : k < n
    · obtain ⟨gl, ol, rfl, _, _⟩ := Words.Rd.row H.out (by omega)
      obtain ⟨⟨xq, xn, xd, xw⟩, hx⟩ : ∃ x, l[k]? = some x := ⟨_, List.getElem?_eq_getElem (by rw [L.out]; exact hlt)⟩
      obtain ⟨c0, c1, c2, c3⟩ := Pgs.cells (Words.Rd.below H.out I.out.bel hB) rfl hx
      have HX := Lib.hid hx
      clear hx
      by_cases hn : 0 ≤ xn ∧ xn < 16
      · have HY := Lib.hid (inN_yes (p := ⟨xq, xn, xd, xw⟩) |>.2 hn)
        obtain ⟨h0, h1⟩ := hn
        have hown := ((I.out.alloc (.cells (pcells ⟨xq, xn, xd, xw⟩).toArray 36)).alloc (.cells (pcells (wpg k ⟨xq, xn, xd, xw⟩)).toArray 36))
        have hnew := one_page (wr.alloc (.cells (pcells ⟨xq, xn, xd, xw⟩).toArray 36)) (wpg k ⟨xq, xn, xd, xw⟩)
        rw [World.size_alloc] at hnew
        have hsz : w.heap.size ≤ ((wr.alloc (.cells (pcells ⟨xq, xn, xd, xw⟩).toArray 36)).alloc (.cells (pcells (wpg k ⟨xq, xn, xd, xw⟩)).toArray 36)).heap.size := by
          have := I.out.bel.size; rw [World.size_alloc, World.size_alloc]; omega
        have HO := Lib.hid hown
        have HN := Lib.hid hnew
        have HZ := Lib.hid hsz
        clear hown hnew hsz
        go_wp2_with (at_builtin; refine wpList_append_rd _ rfl (.tmp 22) (.tmp 29) 23 rfl w.heap.size 36 i0 _ 4 32 Try.underlying23 hi0.out hz0.out hz1.out hz2.out rfl (by decide) _ k (lcells (wrt (l.take k))) rfl HO.out.row _ _ 1 1 (lcells [wpg k ⟨xq, xn, xd, xw⟩]) rfl HN.out (lcells_one _) (by unfold maxLen; omega) (by omega) HZ.out ?_
                     intro A2 c2 w2 hown2 hg2)
        go_roundw
        case rel => exact ⟨A2, k + 1, c2, rfl, by go_num, by omega, WInv.had HO.out HX.out HY.out hown2 hg2⟩
        case measure => simp [intOf]; omega
      · have HD := Lib.hid (allN_bad HX.out (inN_no.2 hn))
        have HB := Lib.hid (I.out.alloc (.cells (pcells ⟨xq, xn, xd, xw⟩).toArray 36)).bel
        by_cases hn1 : xn < 0
        · clear hn
          go_wp2_with fail
          go_ret2
          exact .inl ⟨HD.out, rfl, HB.out⟩
        · have hn2 : 16 ≤ xn := by omega
          clear hn
          go_wp2_with fail
          go_ret2
          exact .inl ⟨HD.out, rfl, HB.out⟩
    · obtain rfl : k = n := by omega
      have hall : l.take k = l := List.take_of_length_le (by rw [L.out]; exact Nat.le_refl _)
      have hinv := I.out
      obtain ⟨bel, row, ok⟩ := hinv
      rw [hall] at row ok
      have HR := Lib.hid row
      have HOK := Lib.hid ok
      have HB := Lib.hid bel
      clear hall row ok bel
      go_wp2_with fail
      go_ret2
      exact .inr ⟨HOK.out, A', c', by rw [L.out]; rfl, by rw [L.out]; exact HR.out, HB.out⟩
end Go.Proofs.Ytiiadclcfbghkaa.Mnt
