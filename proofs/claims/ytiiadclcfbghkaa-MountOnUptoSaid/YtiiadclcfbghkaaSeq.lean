/-
  The pages that follow one another, in a row of the call's own.
-/
import Derived.Test.YtiiadclcfbghkaaFirst
import Derived.Test.YtiiadclcfbghkaaFold
namespace Go.Proofs.Ytiiadclcfbghkaa.Mnt
open Go.ChangeShapes Go.WideShapes Go.ChangeAt Go.RowKit Words
set_option linter.unusedVariables false

def slen : Value → Nat
  | .slice _ n _ => n
  | _ => 0
theorem one_page (w : World) (p : Pg) : Pgs (w.alloc (.cells (pcells p).toArray 36)) (w.heap.size + 1) (some ⟨w.heap.size, 0, none⟩) 1 1 [p] :=
  Words.Rd.new w 36 _ (0, 0) _ 1 (by simp [lcells]) rfl (by unfold maxLen; omega)
/-- What the collecting keeps. -/
structure SInv (w w1 : World) (b n : Nat) (l ps : List Pg) (A : Option Addr) (k c : Nat) (W : World) : Prop where
  bel : Below w1.heap.size w1 W
  mp : MapP w1 b n (fi l)
  ow : Below w.heap.size w w1
  row : OwnPg W w1.heap.size A k c (ps.take k)
section
variable {w w1 W W' : World} {b n : Nat} {l ps : List Pg} {A : Option Addr} {k c : Nat}
theorem SInv.map (h : SInv w w1 b n l ps A k c W) : MapP W b n (fi l) := h.mp.below h.bel h.mp.lt
theorem SInv.alloc (h : SInv w w1 b n l ps A k c W) (o : Obj) : SInv w w1 b n l ps A k c (W.alloc o) := ⟨h.bel.alloc h.bel.size _, h.mp, h.ow, h.row.below ((Below.refl _ _).alloc (Nat.le_refl _) _) (Nat.le_refl _)⟩
theorem SInv.had (h : SInv w w1 b n l ps A k c W) {p : Pg} (hp : ps[k]? = some p) {A' : Option Addr} {c' : Nat} (ho : W'.ownsRow w1.heap.size 36 4 (.slice A' (k + 1) c') (k + 1) (lcells (ps.take k) ++ lcells [p])) (hg : W.grownBy W' (Value.slice A k c).ownBlock) :
    SInv w w1 b n l ps A' (k + 1) c' W' :=
  ⟨below_grown h.bel h.row hg h.bel.size (Nat.le_refl _), h.mp, h.ow, by rw [take_next hp]; unfold OwnPg; rw [lcells_append]; exact ho⟩
theorem SInv.made (h : SInv w w1 b n l ps A k c W) (hk : ps.length = k) : MadePg w ps (.returned (.slice A k c)) W := by
  have hr := h.row
  rw [List.take_of_length_le (by omega)] at hr
  subst hk
  exact ⟨A, c, rfl, hr.more h.ow.size, h.ow.trans (h.bel.mono h.ow.size)⟩
end
set_option maxHeartbeats 2000000 in
theorem inSequence16 (q : Int) (hq : okF q = true) (B : Nat) (A : Option Addr) (n c : Nat) (l : List Pg) (w : World) (h : Pgs w B A n c l) (hB : B ≤ w.heap.size) (hf : WfL l) (hn32 : n * 32 ≤ 140737488351232) :
    Calls Try.prog 16 #[.int .i64 q, .slice A n c] w (MadePg w (sq l q)) := by
  have HC := Lib.hid (firstOfEach19 B A n c l w h hB hf)
  have HL := h.len
  have HS := Lib.hid (sq_get l)
  have HE := Lib.hid (sq_end l q)
  have hle := sq_le l q
  rw [HL] at hle
  obtain ⟨ps, hps⟩ : ∃ ps, ps = sq l q := ⟨_, rfl⟩
  have HP := Lib.hid hps
  rw [← hps] at hle ⊢
  obtain ⟨m, hm⟩ : ∃ m, ps.length = m := ⟨_, rfl⟩
  have HM := Lib.hid hm
  rw [hm] at hle
  obtain ⟨q0, q1⟩ := okF_yes.1 hq
  have hb : n ≤ 4398046511000 := by omega
  obtain ⟨i0, hi0, hz0, hz1, hz2⟩ := info_parts info36
  have hi0 := Lib.hid hi0; have hz0 := Lib.hid hz0; have hz1 := Lib.hid hz1; have hz2 := Lib.hid hz2
  clear h hf hq HL hps hm hn32
  go_enter Try.func16, Try.ntmps16
  go_wp2_with fail
  refine (HC.out).mono ?_; rintro e w1 ⟨b, rfl, m1, b1⟩
  have I0 : Hid (SInv w w1 b n l ps none 0 0 w1) := Lib.hid ⟨Below.refl _ _, m1, b1, by
    have := w1.ownsRow_nil w1.heap.size 36 4
    unfold OwnPg
    simpa [lcells] using this⟩
  clear m1 b1
  go_wp2_with fail
  go_loopw [6] (fun v wr => ∃ (A' : Option Addr) (k c' : Nat), v = .slice A' k c' ∧ k ≤ m ∧ SInv w w1 b n l ps A' k c' wr) (fun v _ => m - slen v)
  case atStart => exact ⟨none, 0, 0, rfl, by omega, I0.out⟩
  case round =>
    obtain ⟨A', k, c', rfl, hk, hinv⟩ := hrel
    have I := Lib.hid hinv
    clear hinv I0
    have HG : Hid (ps[k]? = fi l (q + k)) := Lib.hid (by rw [HP.out]; exact HS.out k q (by rw [← HP.out, HM.out]; exact hk))
    have HW : Hid ((Lit.int .i64 (q + k)).wf = true) := Lib.hid (wf_of (by omega) (by omega))
    have hw : IntKind.i64.wrap (q + (k : Int)) = q + k := by rw [IntKind.wrap_i64]; omega
    by_cases hlt : k < m
    · obtain ⟨r, hr⟩ : ∃ r, ps[k]? = some r := ⟨_, List.getElem?_eq_getElem (by rw [HM.out]; exact hlt)⟩
      have HR := Lib.hid hr
      have H1 : Hid ((fi l (q + k)).getD zeroP = r) := Lib.hid (by rw [← HG.out, hr]; rfl)
      have H2 : Hid ((fi l (q + k)).isSome = true) := Lib.hid (by rw [← HG.out, hr]; rfl)
      clear hr
      have hown := ((I.out.alloc (.cells (pcells r).toArray 36)).alloc (.cells (pcells r).toArray 36))
      have hnew := one_page (wr.alloc (.cells (pcells r).toArray 36)) r
      rw [World.size_alloc] at hnew
      have hsz : w1.heap.size ≤ ((wr.alloc (.cells (pcells r).toArray 36)).alloc (.cells (pcells r).toArray 36)).heap.size := by
        have := I.out.bel.size; rw [World.size_alloc, World.size_alloc]; omega
      have HO := Lib.hid hown
      have HN := Lib.hid hnew
      have HZ := Lib.hid hsz
      clear hown hnew hsz
      go_wp2_with (first
        | (at_lookup; refine wpList_look _ rfl (.tmp 12) (.tmp 16) rfl b n (fi l) rfl I.out.map (q + k) HW.out rfl r H1.out true H2.out ?_)
        | (at_builtin; refine wpList_append_rd _ rfl (.tmp 23) (.tmp 25) 23 rfl w1.heap.size 36 i0 _ 4 32 Try.underlying23 hi0.out hz0.out hz1.out hz2.out rfl (by decide) _ k (lcells (ps.take k)) rfl HO.out.row _ _ 1 1 (lcells [r]) rfl HN.out (lcells_one _) (by unfold maxLen; omega) (by omega) HZ.out ?_
           intro A2 c2 w2 hown2 hg2))
      go_roundw
      case rel => exact ⟨A2, k + 1, c2, rfl, by omega, SInv.had HO.out HR.out hown2 hg2⟩
      case measure => simp [slen]; omega
    · obtain rfl : k = m := by omega
      have H2 : Hid ((fi l (q + k)).isSome = false) := Lib.hid (by rw [← HG.out, List.getElem?_eq_none (by rw [HM.out]; exact Nat.le_refl _)]; rfl)
      go_wp2_with (at_lookup; refine wpList_look _ rfl (.tmp 12) (.tmp 16) rfl b n (fi l) rfl I.out.map (q + k) HW.out rfl _ rfl false H2.out ?_)
      go_ret
      exact SInv.made (I.out.alloc _) HM.out
end Go.Proofs.Ytiiadclcfbghkaa.Mnt
