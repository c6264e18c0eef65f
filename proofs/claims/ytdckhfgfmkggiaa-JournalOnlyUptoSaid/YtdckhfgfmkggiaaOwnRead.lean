/-
  What the program's own Read returns.
-/
import Derived.Test.YtdckhfgfmkggiaaOwn
namespace Go.Proofs.Ytdckhfgfmkggiaa.Jrn
open Go.ChangeShapes Go.WideShapes Go.ChangeAt Go.RowKit Words Crc
set_option linter.unusedVariables false

theorem TT.cut1 {w : World} {A : Option Addr} {n c : Nat} {x : UInt8} {r : Bytes} (h : TT w (A, n, c) (x :: r)) (hn : 1 ≤ n) : TT w (cutA A c 1, n - 1, c - 1) r := by
  refine ⟨Txt.back (k := 1) h.txt hn, fun a e => ?_⟩
  have e : cutA A c 1 = some a := e
  unfold cutA at e
  split at e
  · exact h.blk a e
  · cases A with
    | none => cases e
    | some a0 =>
      have e : a0.add 1 = a := by simpa using e
      have := h.blk a0 rfl
      subst e
      exact this
/-- What stands behind p, as far as the length goes: the record's byte, the record, two bytes. -/
theorem piece {b : Bytes} {p n : Nat} {x : UInt8} (hn : b.length = n) (hx : b[p]? = some x) (h : p + 3 + x.toNat ≤ n) :
    ∃ y1 y2, (b.take (p + (x.toNat + 3))).drop p = (hd ((b.take (p + 1 + x.toNat)).drop (p + 1)) :: (b.take (p + 1 + x.toNat)).drop (p + 1)) ++ [y1, y2] := by
  have e1 : (b.take (p + 1 + x.toNat)).drop (p + 1) = (b.drop (p + 1)).take x.toNat := by
    rw [List.drop_take]; congr 1; omega
  have e2 : (b.take (p + (x.toNat + 3))).drop p = (b.drop p).take (x.toNat + 3) := by
    rw [List.drop_take]; congr 1; omega
  have hrl := (one_at hn hx h).1
  have hh : hd ((b.take (p + 1 + x.toNat)).drop (p + 1)) = x := by
    apply UInt8.toNat_inj.1
    rw [hd_nat (by have := byte_lt x; omega), hrl]
  rw [hh, e1, e2, drop_at hx]
  have e3 : (x :: b.drop (p + 1)).take (x.toNat + 3) = x :: (b.drop (p + 1)).take (x.toNat + 2) := rfl
  have hl : ((b.drop (p + 1)).drop x.toNat).length = n - (p + 1 + x.toNat) := by rw [List.drop_drop, List.length_drop, hn]
  obtain ⟨y1, hy1⟩ : ∃ y, ((b.drop (p + 1)).drop x.toNat)[0]? = some y := ⟨_, List.getElem?_eq_getElem (by omega)⟩
  obtain ⟨y2, hy2⟩ : ∃ y, ((b.drop (p + 1)).drop x.toNat)[1]? = some y := ⟨_, List.getElem?_eq_getElem (by omega)⟩
  refine ⟨y1, y2, ?_⟩
  rw [e3, List.take_add]
  generalize (b.drop (p + 1)).drop x.toNat = t at *
  match t, hy1, hy2 with
  | a :: c :: t', hy1, hy2 =>
    simp at hy1 hy2
    subst hy1 hy2
    rfl
/-- What the first record's reading returns. -/
def FirstTo (w : World) (b : Bytes) (e : Ending) (w' : World) : Prop :=
  Below w.heap.size w w' ∧ ((one b = none ∧ e = .returned (.tuple #[.slice none 0 0, .bool false])) ∨ ∃ (P : Option Addr) (m q : Nat) (r : Bytes), one b = some r ∧ r.length = m ∧ m ≤ 255 ∧ e = .returned (.tuple #[.slice P m q, .bool true]) ∧ TT w' (P, m, q) r)
theorem first_no {w w' : World} {b : Bytes} (h : one b = none) (hb : Below w.heap.size w w') : FirstTo w b (.returned (.tuple #[.slice none 0 0, .bool false])) w' := ⟨hb, .inl ⟨h, rfl⟩⟩
theorem first_yes {w w' : World} {b r : Bytes} {P : Option Addr} {m q : Nat} (h : one b = some r) (hr : r.length = m) (hm : m ≤ 255) (ht : TT w' (P, m, q) r) (hb : Below w.heap.size w w') : FirstTo w b (.returned (.tuple #[.slice P m q, .bool true])) w' :=
  ⟨hb, .inr ⟨P, m, q, r, h, hr, hm, rfl, ht⟩⟩
set_option maxHeartbeats 4000000 in
theorem first20 (B : Nat) (A : Option Addr) (n c : Nat) (b : Bytes) (w : World) (h : Txt w B A n c b) (hB : B ≤ w.heap.size) :
    Calls Try.prog 20 #[.slice A n c] w (FirstTo w b) := by
  have L := Lib.hid h.len
  have hnc := Rd.le h
  have hcm := Rd.max h
  unfold maxLen at hcm
  by_cases hn : 0 < n
  · obtain ⟨g, o, rfl, _, _⟩ := Rd.row h (by omega)
    obtain ⟨x, hx⟩ : ∃ x, b[0]? = some x := ⟨_, List.getElem?_eq_getElem (by rw [L.out]; exact hn)⟩
    have c0 := h.cellAt rfl hx
    rw [Nat.add_zero] at c0
    have hx2 := byte_lt x
    by_cases hfit : 0 + 3 + x.toNat ≤ n
    · obtain ⟨hrl, ho⟩ := one_at L.out hx hfit
      obtain ⟨y1, y2, hpc⟩ := piece L.out hx hfit
      have hfit' : (x.toNat : Int) + 3 ≤ (n : Int) := by omega
      have T2 := h.head (show x.toNat + 3 ≤ n by omega)
      have hcut2 := fun w => run_front w (some ⟨g, o, none⟩) n c (x.toNat + 3) ((x.toNat : Int) + 3) (by omega) (by omega)
      rw [hpc] at ho
      simp only [Nat.zero_add, List.drop_zero] at hpc ho hrl
      rw [hpc] at T2
      generalize (b.take (1 + x.toNat)).drop 1 = r at *
      generalize x.toNat = m at *
      have hs : enc r = (hd r :: r) ++ [y1, y2] ↔ sum 65535 (hd r :: r) = y1.toNat * 256 + y2.toNat := sealed_iff (hd r :: r) y1 y2
      have HW := Lib.hid (openAny w.heap.size _ (m + 3) _ (hd r :: r) y1 y2 w (Rd.more T2 hB) (Nat.le_refl _) (by omega))
      have HRL := Lib.hid hrl
      clear T2 hx hpc h
      by_cases hsum : sum 65535 (hd r :: r) = y1.toNat * 256 + y2.toNat
      · have HOS : Hid (one b = some r) := Lib.hid (by rw [ho, if_pos (hs.2 hsum)])
        have HSM := Lib.hid hsum
        clear ho hs hrl hsum
        go_enter Try.func20, Try.ntmps20
        go_wp2_with fail
        refine (HW.out).mono ?_; rintro e x1 he
        obtain ⟨A2, c2, he, hown, hb1⟩ := he.1 HSM.out
        have hlen : (hd r :: r).length = m + 1 := by rw [List.length_cons, HRL.out]
        simp only [hlen] at he hown
        unfold Crc.two at he
        subst he
        have hcc := (Rd.le (Rd.of_own hown))
        have TT1 := (TT.own hown).cut1 (by omega)
        have hback := fun w => run_back w A2 (m + 1) c2 1 1 rfl (by omega)
        have e1 : m + 1 - 1 = m := by omega
        rw [e1] at TT1 hback
        generalize cutA A2 c2 1 = P4 at *
        have HT1 := Lib.hid TT1
        have HB1 := Lib.hid hb1
        clear TT1 hb1 hown hlen e1 hcut2
        go_wp2_with fail
        go_ret2
        exact first_yes HOS.out HRL.out (by omega) HT1.out HB1.out
      · have HON : Hid (one b = none) := Lib.hid (by rw [ho, if_neg (fun h => hsum (hs.1 h))])
        have HSM := Lib.hid hsum
        clear ho hs hrl hsum
        go_enter Try.func20, Try.ntmps20
        go_wp2_with fail
        refine (HW.out).mono ?_; rintro e x1 he
        obtain ⟨he2, q, rfl⟩ := he.2 HSM.out
        clear he
        unfold Crc.two at he2
        subst he2
        go_wp2_with fail
        go_ret2
        exact first_no HON.out (below_drewN (Below.refl _ _) _)
    · have HON := Lib.hid (one_short L.out hx (by omega))
      rw [List.drop_zero] at HON
      have hgt : (n : Int) < (x.toNat : Int) + 3 := by omega
      generalize x.toNat = m at *
      clear hx h
      go_enter Try.func20, Try.ntmps20
      go_wp2_with fail
      go_ret2
      exact first_no HON.out (Below.refl _ _)
  · obtain rfl : n = 0 := by omega
    have HON := Lib.hid (one_out L.out (Nat.le_refl 0))
    rw [List.drop_zero] at HON
    clear h
    go_enter Try.func20, Try.ntmps20
    go_wp2_with fail
    go_ret2
    exact first_no HON.out (Below.refl _ _)
set_option maxHeartbeats 8000000 in
theorem read11 : ReadC := by
  intro B A n c b w h hB hn
  obtain ⟨i22, hi22, hz220, hz221, hz222⟩ := info_parts info22
  have H := Lib.hid h
  have L := Lib.hid h.len
  have hnc := Rd.le h
  have hcm := Rd.max h
  unfold maxLen at hcm
  clear h
  go_enter Try.func11, Try.ntmps11
  go_wp2_with fail
  go_loopw [4, 5] (fun s i wr => ∃ (k p : Nat) (D : Option Addr) (d : Nat) (vs : List Sl) (ls : List Bytes), s = .slice D k d ∧ i = .int .i64 p ∧ p ≤ n ∧ JI w b k p D d vs ls wr) (fun _ i _ => (n - intOf i).toNat)
  case atStart => exact ⟨0, 0, none, 0, [], [], rfl, rfl, by omega, ji_start w b⟩
  case round =>
    obtain ⟨k, p, D, d, vs, ls, rfl, rfl, hp, hinv⟩ := hrel
    have I := Lib.hid hinv
    have hk3 : 3 * k ≤ n := by have := jr_few b hinv.eq; rw [hinv.cnt, L.out] at this; exact this
    have hbs := hinv.bel.size
    clear hinv
    have T2 : Txt wr B (cutA A c p) (n - p) (c - p) (b.drop p) := Txt.back (Rd.below H.out I.out.bel hB) hp
    have HF := Lib.hid (first20 B _ _ _ _ wr T2 (Nat.le_trans hB hbs))
    have hback := fun w => run_back w A n c p p rfl hp
    generalize cutA A c p = P2 at *
    clear T2
    go_wp2_with fail
    refine (HF.out).mono ?_; rintro e x1 ⟨hb1, ⟨hno, rfl⟩ | ⟨P4, m, q, r, hyes, hrl, hm, rfl, hT⟩⟩
    · have HON := Lib.hid hno
      have HB1 := Lib.hid hb1
      clear hno hb1
      go_wp2_with fail
      go_ret2
      exact (I.out.below HB1.out).end_ HON.out
    · have HOS := Lib.hid hyes
      have HRL := Lib.hid hrl
      have hend : p + (m + 3) ≤ n := by
        have := congrArg List.length (one_some hyes).2
        rw [List.length_append, enc_length, List.length_drop, L.out, hrl] at this
        omega
      clear hyes hrl
      have b5 : Below x1.heap.size x1 (x1.alloc (.cells #[.slice P4 m q] 22)) := (Below.refl _ _).alloc (Nat.le_refl _) _
      have hs1 : w.heap.size ≤ x1.heap.size := Nat.le_trans hbs hb1.size
      have G5 := (I.out.own.below hb1).below b5
      have T5 := hT.below b5
      have N5 : Rd (x1.alloc (.cells #[.slice P4 m q] 22)) (x1.heap.size + 1) 1 (some ⟨x1.heap.size, 0, none⟩) 1 1 [sval (P4, m, q)] := Rd.new x1 22 _ (0, 0) _ 1 rfl rfl (by decide)
      have hs5 : w.heap.size ≤ (x1.alloc (.cells #[.slice P4 m q] 22)).heap.size := Nat.le_trans hs1 b5.size
      have B5 := Lib.hid ((I.out.bel.trans (hb1.mono hbs)).trans (b5.mono hs1))
      clear hT hb1 b5 hback
      go_wp2_with (at_builtin; refine wpList_append_rd _ rfl (.tmp 19) (.tmp 21) 26 rfl w.heap.size 22 i22 (.slice none 0 0) 1 24 Try.underlying26 hi22 hz220 hz221 hz222 rfl (by decide) _ k (svals vs) rfl G5.own (x1.heap.size + 1) (some ⟨x1.heap.size, 0, none⟩) 1 1 [sval (P4, m, q)] rfl N5 (svals_one [(P4, m, q)]) (by simp only [maxLen]; omega) (by omega) hs5 ?_
                   intro A6 c6 w6 own6 hg6
                   have b6 : Below w.heap.size w w6 := below_grown B5.out G5.own hg6 hs5 (Nat.le_refl _)
                   have J6 := Lib.hid (I.out.next HOS.out b6 (G5.push T5 own6 hg6))
                   clear own6 hg6 b6 G5 T5 N5)
      rw [HRL.out] at J6
      go_roundw
      case rel => exact ⟨k + 1, p + (m + 3), A6, c6, _, _, rfl, by first | go_num | (congr 1; omega), by omega, J6.out⟩
      case measure => simp [intOf]; omega
end Go.Proofs.Ytdckhfgfmkggiaa.Jrn
