/-
  JournalFolds, walked under what is asked of Fold.
-/
import Derived.Test.YtdckhfgfmkggiaaLawA
namespace Go.Proofs.Ytdckhfgfmkggiaa.Jrn
open Go.ChangeShapes Go.WideShapes Go.ChangeAt Go.RowKit Words Crc
set_option linter.unusedVariables false

theorem TextErr.get {w w' : World} {r : Bytes × Int} {e : Ending} {m : Nat} (h : TextErr w r e w') (hm : r.1.length = m) : ∃ A c, e = .returned (.tuple #[.slice A m c, .int .i64 r.2]) ∧ w'.ownsRow w.heap.size 5 1 (.slice A m c) m (bcells r.1) ∧ Below w.heap.size w w' := by
  subst hm
  exact h
theorem fold_ok {l : List Bytes} (h : l.all okR = true) : foldR l = (flat l, 0) := by unfold foldR; rw [if_pos h]
theorem fold_bad {l : List Bytes} {k : Nat} {r : Bytes} (hr : l[k]? = some r) (h : ¬ r.length ≤ 255) : foldR l = ([], 2) := by
  unfold foldR
  rw [if_neg]
  intro hall
  exact h (all_get hall hr)
theorem all_next {l : List Bytes} {k : Nat} {r : Bytes} (h : (l.take k).all okR = true) (hr : l[k]? = some r) (hl : r.length ≤ 255) : (l.take (k + 1)).all okR = true := by
  rw [List.take_add_one, hr, List.all_append, h]
  simp [okR_iff.2 hl]
theorem flat_next {l : List Bytes} {k : Nat} {r : Bytes} (hr : l[k]? = some r) : flat (l.take (k + 1)) = flat (l.take k) ++ enc r ∧ tot (l.take (k + 1)) = tot (l.take k) + (r.length + 3) := by
  rw [List.take_add_one, hr, flat_append, tot_append]
  refine ⟨?_, rfl⟩
  show _ ++ (enc r ++ []) = _
  rw [List.append_nil]
/-- What the walk keeps. -/
structure FI (w : World) (base : Nat) (l : List Bytes) (k t : Nat) (A : Option Addr) (c : Nat) (wr : World) : Prop where
  bel : Below w.heap.size w wr
  own : wr.ownsRow base 5 1 (.slice A t c) t (bcells (flat (l.take k)))
  ok : (l.take k).all okR = true
  tot : tot (l.take k) = t
set_option maxHeartbeats 4000000 in
theorem folds_walk (HF : FoldC) (A0 : Option Addr) (n c0 : Nat) (vs : List Sl) (l : List Bytes) (w : World) (h0 : Grid w w.heap.size A0 n c0 vs l) (hc : c0 ≤ 1048576) :
    Calls Try.prog 4 #[.slice A0 n c0] w fun e w' => e = .returned (.bool true) ∧ Below w.heap.size w w' := by
  have hn : n ≤ 1048576 := by have := Rd.le h0.top; omega
  obtain ⟨i0, hi0, hz0, hz1, hz2⟩ := info_parts info5
  obtain ⟨m, hm⟩ : ∃ m, (foldR l).1.length = m := ⟨_, rfl⟩
  obtain ⟨p, hp⟩ : ∃ p, foldR l = p := ⟨_, rfl⟩
  have H1 := Lib.hid (HF _ _ _ _ _ l w h0 (Nat.le_refl _) (by omega))
  rw [hp] at H1 hm
  have G := Lib.hid h0
  have L := Lib.hid h0.count
  have M := Lib.hid hm
  have HP := Lib.hid hp
  obtain ⟨x, er⟩ := p
  clear HF h0 hm hp
  go_enter Try.func4, Try.ntmps4
  go_wp2_with fail
  refine (H1.out).mono ?_; rintro e x1 he
  obtain ⟨P1, q1, rfl, o1, b1⟩ := he.get M.out
  have T1 := Lib.hid (show Txt x1 x1.heap.size P1 m q1 x from Rd.of_own o1)
  have B1 := Lib.hid b1
  clear he o1 b1
  go_wp2_with fail
  go_loopw [5, 17] (fun s i wr => ∃ (k t : Nat) (D : Option Addr) (d : Nat), s = .slice D t d ∧ i = .int .i64 k ∧ k ≤ n ∧ Below x1.heap.size x1 wr ∧ FI w x1.heap.size l k t D d wr) (fun _ i _ => (n - intOf i).toNat)
  case atStart => exact ⟨0, 0, none, 0, rfl, rfl, by omega, Below.refl _ _, B1.out, x1.ownsRow_nil _ _ _, rfl, rfl⟩
  case round =>
    obtain ⟨k, t, D, d, rfl, rfl, hk, hb2, hinv⟩ := hrel
    have I := Lib.hid hinv
    have B2 := Lib.hid hb2
    have ht := tot_le hinv.ok
    rw [hinv.tot, List.length_take, L.out] at ht
    clear hinv hb2
    by_cases hlt : k < n
    · obtain ⟨g, o, rfl, _, _⟩ := Rd.row G.out.top (by omega)
      obtain ⟨P2, m2, q2, r, hr, _, d2, t2⟩ := (G.out.below I.out.bel (Nat.le_refl _)).at_ rfl hlt
      have HR := Lib.hid hr
      have HRL := Lib.hid t2.len
      have HJ := Lib.hid (jwrite10 _ _ _ _ r wr t2 I.out.bel.size)
      clear hr t2
      by_cases hrl : r.length ≤ 255
      · have hw : writeR r = (enc r, 0) := by unfold writeR; rw [if_pos hrl]
        rw [hw] at HJ
        have hel : (enc r).length = m2 + 3 := by rw [enc_length, HRL.out]
        have EL := Lib.hid hel
        have hm2 : m2 ≤ 255 := by rw [← HRL.out]; exact hrl
        clear hw hel hrl
        go_wp2_with fail
        refine (HJ.out).mono ?_; rintro e x2 he
        obtain ⟨P3, q3, rfl, o3, b3⟩ := he.get EL.out
        have hs2 : w.heap.size ≤ wr.heap.size := I.out.bel.size
        have own2 := own_below I.out.own b3 (Nat.le_refl _)
        have bel2 := I.out.bel.trans (b3.mono hs2)
        have hs3 : x1.heap.size ≤ x2.heap.size := Nat.le_trans B2.out.size b3.size
        have B3 := Lib.hid (B2.out.trans (b3.mono B2.out.size))
        have OF := Lib.hid own2
        have R3 : Rd x2 x2.heap.size 1 P3 (m2 + 3) q3 (bcells (enc r)) := Rd.of_own o3
        have hx1 : w.heap.size ≤ x1.heap.size := B1.out.size
        clear he own2 o3
        go_wp2_with (at_builtin; refine wpList_append_rd _ rfl (.tmp 36) (.tmp 37) 22 rfl x1.heap.size 5 i0 (.int .u8 0) 1 1 Try.underlying22 hi0 hz0 hz1 hz2 rfl (by decide) _ t (bcells (flat (l.take k))) rfl OF.out x2.heap.size P3 (m2 + 3) q3 (bcells (enc r)) rfl R3 (bcells_one _) (by simp only [maxLen]; omega) (by omega) hs3 ?_
                     intro A4 c4 w4 own4 hg4)
        obtain ⟨f1, f2⟩ := flat_next HR.out
        have B4 := Lib.hid (below_grown B3.out OF.out hg4 hs3 (Nat.le_refl _))
        have FN : Hid (FI w x1.heap.size l (k + 1) (t + (m2 + 3)) A4 c4 w4) := Lib.hid
          ⟨B1.out.trans (B4.out.mono hx1), by rw [f1, bcells_append]; exact own4, all_next I.out.ok HR.out (by rw [HRL.out]; exact hm2), by rw [f2, I.out.tot, HRL.out]⟩
        clear own4 hg4 f1 f2 R3 bel2 b3
        go_roundw
        case rel => exact ⟨k + 1, t + (m2 + 3), A4, c4, rfl, by go_num, by omega, B4.out, FN.out⟩
        case measure => simp [intOf]; omega
      · have hw : writeR r = ([], 2) := by unfold writeR; rw [if_neg hrl]
        rw [hw] at HJ
        have hbad := HP.out.symm.trans (fold_bad HR.out hrl)
        injection hbad with hx her
        subst hx her
        obtain rfl : m = 0 := M.out.symm
        clear hw hrl
        go_wp2_with fail
        refine (HJ.out).mono ?_; rintro e x2 he
        obtain ⟨P3, q3, rfl, o3, b3⟩ := he.get rfl
        have BF := Lib.hid (I.out.bel.trans (b3.mono I.out.bel.size))
        clear he o3 b3
        go_wp2_with fail
        go_ret
        exact ⟨rfl, BF.out⟩
    · obtain rfl : k = n := by omega
      have hall : l.all okR = true := by have := I.out.ok; rwa [List.take_of_length_le (by rw [L.out]; omega)] at this
      have hbad := HP.out.symm.trans (fold_ok hall)
      injection hbad with hx her
      subst her
      obtain rfl : t = m := by
        have h1 := I.out.tot
        have h2 := M.out
        rw [List.take_of_length_le (by rw [L.out]; omega)] at h1
        have h3 : x.length = m := h2
        rw [hx, flat_length] at h3
        omega
      have hO := I.out.own
      rw [List.take_of_length_le (by rw [L.out]; omega), ← hx] at hO
      have k1 : (convert 22 9 (.slice P1 t q1)).run Try.prog wr = .ok (.string (str x)) wr := conv_txt (Rd.below T1.out B2.out (Nat.le_refl _)) 0
      have k2 : (convert 22 9 (.slice D t d)).run Try.prog wr = .ok (.string (str x)) wr := conv_txt (Rd.of_own hO) 0
      have hb := str_same x
      have BF := Lib.hid I.out.bel
      clear hx hO hall
      go_wp2_with fail
      go_ret
      exact ⟨rfl, BF.out⟩
end Go.Proofs.Ytdckhfgfmkggiaa.Jrn
