/-
  The first whole page of each number, in a map; the pages that follow one another.
-/
import Derived.Test.YtiiadclcfbghkaaPages
namespace Go.Proofs.Ytiiadclcfbghkaa.Mnt
open Go.ChangeShapes Go.WideShapes Go.ChangeAt Go.RowKit Words
set_option linter.unusedVariables false

structure FInv (w : World) (l : List Pg) (k : Nat) (W : World) : Prop where
  bel : Below w.heap.size w W
  mp : MapP W w.heap.size k (fi (l.take k))
theorem finv_start (w : World) (l : List Pg) : FInv w l 0 (w.alloc (.map #[] 0)) := ⟨(Below.refl _ _).alloc (Nat.le_refl _) _, MapP.new w⟩
theorem FInv.alloc {w : World} {l : List Pg} {k : Nat} {W : World} (h : FInv w l k W) (o : Obj) : FInv w l k (W.alloc o) := ⟨h.bel.alloc h.bel.size _, h.mp.alloc o⟩
theorem FInv.skip {w : World} {l : List Pg} {k : Nat} {W : World} {x : Pg} (h : FInv w l k W) (hx : l[k]? = some x) (hs : (x.w && !(fi (l.take k) x.q).isSome) = false) : FInv w l (k + 1) W :=
  ⟨h.bel, (h.mp.mono (Nat.le_succ k)).as (by rw [take_next hx, fi_skip hs])⟩
theorem FInv.keep {w : World} {l : List Pg} {k : Nat} {W W' : World} {x : Pg} (h : FInv w l k W) (hx : l[k]? = some x) (hs : (x.w && !(fi (l.take k) x.q).isSome) = true)
    (hm : MapP W' w.heap.size (k + 1) (fun y => if y = x.q then some x else fi (l.take k) y)) (hg : W.grownBy W' (some w.heap.size)) : FInv w l (k + 1) W' :=
  ⟨h.bel.grown hg h.bel.size fun j hj => by cases hj; exact Nat.le_refl _, hm.as (by rw [take_next hx, fi_take hs])⟩
set_option maxHeartbeats 2000000 in
theorem firstOfEach19 (B : Nat) (A : Option Addr) (n c : Nat) (l : List Pg) (w : World) (h : Pgs w B A n c l) (hB : B ≤ w.heap.size) (hf : WfL l) :
    Calls Try.prog 19 #[.slice A n c] w fun e w' => ∃ b, e = .returned (.map (some b)) ∧ MapP w' b n (fi l) ∧ Below w.heap.size w w' := by
  have HN := Lib.hid h.small
  have HM : Hid (n < maxLen + 1) := Lib.hid (by have := Words.Rd.le h; have := Words.Rd.max h; omega)
  have HL := Lib.hid h.len
  have H := Lib.hid h
  have HF := Lib.hid hf
  have I0 := Lib.hid (finv_start w l)
  have hmm := @run_makeMap Try.prog
  have hn := HN.out
  clear h hf
  go_enter Try.func19, Try.ntmps19
  go_wp2_with fail
  go_loopw [11] (fun i wr => ∃ k : Nat, i = .int .i64 k ∧ k ≤ n ∧ FInv w l k wr) (fun i _ => (n - intOf i).toNat)
  case atStart => exact ⟨0, rfl, by omega, I0.out⟩
  case round =>
    obtain ⟨k, rfl, hk, hinv⟩ := hrel
    have I := Lib.hid hinv
    clear hinv I0
    by_cases hlt : k < n
    · obtain ⟨⟨xq, xn, xd, xw⟩, hx⟩ : ∃ x, l[k]? = some x := ⟨_, List.getElem?_eq_getElem (by rw [HL.out]; exact hlt)⟩
      have HX := Lib.hid hx
      obtain ⟨g, o, rfl, hg, _⟩ := Words.Rd.row H.out (by omega)
      obtain ⟨c0, c1, c2, c3⟩ := Pgs.cells (Words.Rd.below H.out I.out.bel hB) rfl hx
      have HQ : Hid ((Lit.int .i64 xq).wf = true) := Lib.hid (HF.out _ (List.mem_of_getElem? hx))
      obtain ⟨t, ht⟩ : ∃ t, (fi (l.take k) xq).isSome = t := ⟨_, rfl⟩
      have HT := Lib.hid ht
      have hk63 : k < maxLen := by have := HM.out; omega
      have HK := Lib.hid hk63
      clear hx ht hk63
      cases xw <;> cases t
      case true.false =>
        have hs : ((true : Bool) && !(fi (l.take k) xq).isSome) = true := by rw [HT.out]; rfl
        have HS := Lib.hid hs
        clear hs
        go_wp2_with (first
          | (at_lookup; refine wpList_look _ rfl (.tmp 16) (.tmp 18) rfl w.heap.size k (fi (l.take k)) rfl (I.out.mp.alloc _) xq HQ.out rfl _ rfl false HT.out ?_)
          | (at_mapUpdate; refine wpList_keep _ rfl (.tmp 28) (.tmp 30) (.tmp 31) rfl w.heap.size k (fi (l.take k)) rfl ((I.out.mp.alloc _).alloc _) xq HQ.out rfl ⟨xq, xn, xd, true⟩ rfl HK.out ?_
             intro w1 hm1 hg1))
        go_roundw
        case rel => exact ⟨k + 1, by go_num, by omega, FInv.keep ((I.out.alloc _).alloc _) HX.out HS.out hm1 hg1⟩
        case measure => simp [intOf]; omega
      all_goals
        have hs := HX.out
        go_wp2_with (at_lookup; refine wpList_look _ rfl (.tmp 16) (.tmp 18) rfl w.heap.size k (fi (l.take k)) rfl (I.out.mp.alloc _) xq HQ.out rfl _ rfl _ HT.out ?_)
        go_roundw
        case rel => exact ⟨k + 1, by go_num, by omega, FInv.skip ((I.out.alloc _).alloc _) HX.out (by rw [HT.out]; rfl)⟩
        case measure => simp [intOf]; omega
    · obtain rfl : k = n := by omega
      have h2 := Lib.hid (I.out.mp.as (f' := fi l) (by rw [List.take_of_length_le (by rw [HL.out]; exact Nat.le_refl _)]))
      go_wp2_with fail
      go_ret
      exact ⟨_, rfl, h2.out, I.out.bel⟩
end Go.Proofs.Ytiiadclcfbghkaa.Mnt
