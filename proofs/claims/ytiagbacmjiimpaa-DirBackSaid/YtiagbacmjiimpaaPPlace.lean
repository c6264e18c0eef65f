/-
  Where a name's place is: the program's own search, its two results; what index returns.
-/
import Derived.Test.YtiagbacmjiimpaaPGood
import Derived.Test.YtiagbacmjiimpaaECon
import Derived.Laws.Bits64
namespace Go.Proofs.Ytiagbacmjiimpaa.Dir
open Go.ChangeShapes Go.WideShapes Go.ChangeAt Go.RowKit Words Go.Sort
set_option linter.unusedVariables false

/-- k names are below nm, the others not. -/
structure Pl (l : List En) (nm : List UInt8) (k : Nat) : Prop where
  le : k ≤ l.length
  lo : ∀ j, j < k → bl (eth l j).n nm = true
  hi : ∀ j, k ≤ j → j < l.length → bl (eth l j).n nm = false
theorem SS.lt {l : List En} (h : SS l) {i j : Nat} (hij : i < j) (hj : j < l.length) : bl (eth l i).n (eth l j).n = true := by
  have h1 := List.pairwise_iff_getElem.1 h i j (by omega) hj hij
  have e1 : eth l i = l[i]'(by omega) := eth_of (List.getElem?_eq_getElem _)
  have e2 : eth l j = l[j] := eth_of (List.getElem?_eq_getElem _)
  rw [e1, e2]
  exact h1
theorem eth_mem {l : List En} {k : Nat} (h : k < l.length) : eth l k ∈ l := List.mem_of_getElem? (eth_get h)
theorem bl_geq (a b : List UInt8) : (Op.bytesLess b a || a == b) = !bl a b := by
  have h := bl_leq b a
  rw [← h]
  congr 1
  rw [Bool.eq_iff_iff, beq_iff_eq, beq_iff_eq]
  exact ⟨Eq.symm, Eq.symm⟩
/-- Whether the next one has the name. -/
def hd (l : List En) (nm : List UInt8) (k : Nat) : Bool := decide (k < l.length) && ((eth l k).n == nm)
theorem Pl.has {l : List En} {nm : List UInt8} {k : Nat} (h : Pl l nm k) (hs : SS l) : hd l nm k = has l nm := by
  unfold hd
  rw [Bool.eq_iff_iff, Bool.and_eq_true, decide_eq_true_iff, beq_iff_eq, has_iff]
  constructor
  · rintro ⟨h1, h2⟩
    exact ⟨_, eth_mem h1, h2⟩
  · rintro ⟨e, he, hn⟩
    obtain ⟨j, hj⟩ := List.mem_iff_getElem?.1 he
    have hjl := (List.getElem?_eq_some_iff.1 hj).1
    have ej : eth l j = e := eth_of hj
    have hkj : k ≤ j := by
      apply Nat.le_of_not_lt
      intro hlt
      have := h.lo j hlt
      rw [ej, hn, bl_irr] at this
      cases this
    rcases Nat.eq_or_lt_of_le hkj with rfl | hlt
    · exact ⟨hjl, by rw [ej, hn]⟩
    · have h1 := hs.lt hlt hjl
      rw [ej, hn] at h1
      rw [h.hi k (Nat.le_refl _) (by omega)] at h1
      cases h1
theorem Pl.fnd {l : List En} {nm : List UInt8} {k : Nat} (h : Pl l nm k) (hs : SS l) (hh : hd l nm k = true) : (eth l k).i = fnd l nm ∧ k < l.length := by
  unfold hd at hh
  rw [Bool.and_eq_true, decide_eq_true_iff, beq_iff_eq] at hh
  exact ⟨by rw [← hh.2, fnd_of hs (eth_mem hh.1)], hh.1⟩
theorem insE_cut {e : En} : ∀ {l : List En} {k : Nat}, k ≤ l.length → (∀ j, j < k → bl (eth l j).n e.n = true) → (∀ j, k ≤ j → j < l.length → bl (eth l j).n e.n = false) → (∀ x ∈ l, x.n ≠ e.n) → insE e l = l.take k ++ [e] ++ l.drop k
  | [], k, hk, _, _, _ => by
    obtain rfl : k = 0 := by simpa using hk
    rfl
  | y :: l, 0, _, _, h2, hn => by
    have h3 := h2 0 (Nat.le_refl _) (by simp)
    have h4 : bl e.n y.n = true := by
      cases hc : bl e.n y.n with
      | true => rfl
      | false => exact absurd (bl_tri h3 hc) (hn y (by simp))
    unfold insE
    rw [if_pos h4]
    rfl
  | y :: l, k + 1, hk, h1, h2, hn => by
    have h3 := h1 0 (by omega)
    have h4 : bl e.n y.n = false := bl_asymm h3
    unfold insE
    rw [if_neg (by rw [h4]; decide), insE_cut (l := l) (k := k) (by simpa using hk) (fun j hj => h1 (j + 1) (by omega)) (fun j hj hl => h2 (j + 1) (by omega) (by simpa using hl)) (fun x hx => hn x (by simp [hx]))]
    rfl
theorem Pl.ins {l : List En} {e : En} {k : Nat} (h : Pl l e.n k) (hs : SS l) (hh : hd l e.n k = false) : insE e l = l.take k ++ [e] ++ l.drop k :=
  insE_cut h.le h.lo h.hi (has_no (by rw [← h.has hs]; exact hh))
theorem Pl.del {l : List En} {nm : List UInt8} {k : Nat} (h : Pl l nm k) (hs : SS l) (hh : hd l nm k = true) : del l nm = l.take k ++ l.drop (k + 1) := by
  have h2 := hh
  unfold hd at h2
  rw [Bool.and_eq_true, decide_eq_true_iff, beq_iff_eq] at h2
  obtain ⟨hk, hn⟩ := h2
  have hsp : l = l.take k ++ (eth l k :: l.drop (k + 1)) := by
    conv => lhs; rw [← List.take_append_drop k l, drop_next (eth_get hk)]
  unfold Dir.del
  conv => lhs; rw [hsp]
  rw [List.eraseP_append_right _ (fun x hx => ?_), List.eraseP_cons_of_pos (by unfold isN; rw [hn]; exact beq_self_eq_true nm)]
  obtain ⟨j, hj⟩ := List.mem_iff_getElem?.1 hx
  rw [List.getElem?_take] at hj
  by_cases hjk : j < k
  · rw [if_pos hjk] at hj
    have := bl_ne (h.lo j hjk)
    rw [eth_of hj] at this
    simpa [isN] using this
  · rw [if_neg hjk] at hj
    cases hj
theorem sum_wrap (x : Int) (h0 : 0 ≤ x) (h1 : x < 18446744073709551616) : IntKind.u64.wrap (wrap64 x) = x := by
  rw [IntKind.wrap_u64]
  unfold wrap64
  omega
theorem half_wrap (x : Int) (h0 : 0 ≤ x) (h1 : x < 9223372036854775808) : wrap64 x = x := by
  unfold wrap64
  omega
theorem mid_wrap (p q : Nat) (h1 : p < 9223372036854775808) (h2 : q < 9223372036854775808) : wrap64 (IntKind.u64.wrap (wrap64 ((p : Int) + (q : Int))) / 2) = (((p + q) / 2 : Nat) : Int) := by
  rw [sum_wrap _ (by omega) (by omega), half_wrap _ (by omega) (by omega)]
  rfl
theorem clo30 (g1 g2 B : Nat) (A : Option Addr) (n c k : Nat) (l : List En) (nm : List UInt8) (w : World) (h : Ens w B A n c l) (h1 : w.cell? ⟨g1, 0, none⟩ = some (.slice A n c)) (h2 : w.cell? ⟨g2, 0, none⟩ = some (.string (str nm))) (hk : k < n) :
    Calls Try.prog 30 #[.int .i64 k, .pointer (some ⟨g1, 0, none⟩), .pointer (some ⟨g2, 0, none⟩)] w fun e w' => e = .returned (.bool (!bl (eth l k).n nm)) ∧ Below w.heap.size w w' := by
  have L := h.len
  obtain ⟨g, o, rfl, _, _⟩ := Words.Rd.row h (by omega)
  obtain ⟨c0, c1⟩ := Ens.cells h rfl (eth_get (by rw [L]; exact hk))
  have HN := h.small
  obtain ⟨⟨xn, xi⟩, hx⟩ : ∃ x, x = eth l k := ⟨_, rfl⟩
  rw [← hx] at c0 c1 ⊢
  simp only at c0 c1 ⊢
  have s1 := str_list xn
  have s2 := str_list nm
  have B0 := Lib.hid (Below.refl w.heap.size w)
  clear hx h L
  go_enter Try.func30, Try.ntmps30
  go_wp2_with fail
  go_quiet (fail)
  go_wp2_with fail
  go_ret
  exact ⟨rfl, below_drewN B0.out _⟩
set_option maxHeartbeats 2000000 in
theorem search29 (g1 g2 B : Nat) (A : Option Addr) (n c : Nat) (l : List En) (nm : List UInt8) (w : World) (h : Ens w B A n c l) (hB : B ≤ w.heap.size) (hs : SS l) (h1 : w.cell? ⟨g1, 0, none⟩ = some (.slice A n c)) (h2 : w.cell? ⟨g2, 0, none⟩ = some (.string (str nm))) :
    Calls Try.prog 29 #[.int .i64 n, .func (.func 30) #[] #[.pointer (some ⟨g1, 0, none⟩), .pointer (some ⟨g2, 0, none⟩)]] w fun e w' => ∃ k : Nat, e = .returned (.int .i64 k) ∧ Pl l nm k ∧ Below w.heap.size w w' := by
  have HN := h.small
  have L := Lib.hid h.len
  have S := Lib.hid hs
  have hl1 : g1 < w.heap.size := World.block_lt_of_cell? w ⟨g1, 0, none⟩ h1
  have hl2 : g2 < w.heap.size := World.block_lt_of_cell? w ⟨g2, 0, none⟩ h2
  have HC := Lib.hid (fun (x : World) (b : Below w.heap.size w x) (k : Nat) (hk : k < n) => clo30 g1 g2 B A n c k l nm x (Words.Rd.below h b hB) ((b.cell (p := ⟨g1, 0, none⟩) hl1).trans h1) ((b.cell (p := ⟨g2, 0, none⟩) hl2).trans h2) hk)
  have B0 := Lib.hid (Below.refl w.heap.size w)
  clear h hs hl1 hl2 h1 h2
  go_enter Try.func29, Try.ntmps29
  go_wp2_with fail
  go_loopw [5, 6] (fun i j wr => ∃ p q : Nat, p ≤ q ∧ q ≤ n ∧ i = .int .i64 p ∧ j = .int .i64 q ∧ (∀ x, x < p → bl (eth l x).n nm = true) ∧ (∀ x, q ≤ x → x < l.length → bl (eth l x).n nm = false) ∧ Below w.heap.size w wr) (fun i j _ => (intOf j - intOf i).toNat)
  case atStart => exact ⟨0, n, by omega, by omega, rfl, rfl, fun k hk => absurd hk (Nat.not_lt_zero _), fun k hk hy => by rw [L.out] at hy; omega, B0.out⟩
  case round =>
    obtain ⟨p, q, hpq, hqn, rfl, rfl, hlo, hhi, hbel⟩ := hrel
    have LO := Lib.hid hlo
    have HI := Lib.hid hhi
    have BW := Lib.hid hbel
    clear hlo hhi hbel
    by_cases hlt : p < q
    · obtain ⟨m, hm⟩ : ∃ m : Nat, m = (p + q) / 2 := ⟨_, rfl⟩
      have HD := HC.out wr BW.out m (by omega)
      have NX : Hid (∀ y, bl (eth l m).n nm = true → y ≤ m → bl (eth l y).n nm = true) := Lib.hid (fun y hy hym => by
        rcases Nat.eq_or_lt_of_le hym with rfl | h2
        · exact hy
        · exact bl_trans (S.out.lt h2 (by rw [L.out]; omega)) hy)
      have NY : Hid (∀ y, bl (eth l m).n nm = false → m ≤ y → y < l.length → bl (eth l y).n nm = false) := Lib.hid (fun y hy hym hyl => by
        rcases Nat.eq_or_lt_of_le hym with rfl | h2
        · exact hy
        · have h3 := S.out.lt h2 hyl
          cases hc : bl (eth l y).n nm with
          | false => rfl
          | true =>
            rw [bl_trans h3 hc] at hy
            cases hy)
      have hmw : wrap64 (IntKind.u64.wrap (wrap64 ((p : Int) + (q : Int))) / 2) = (m : Int) := by rw [mid_wrap p q (by omega) (by omega), hm]
      have hpm : p ≤ m := by omega
      have hmq : m < q := by omega
      clear hm
      cases hy : bl (eth l m).n nm with
      | true =>
        rw [hy] at HD
        have HD := Lib.hid HD
        have HY := Lib.hid hy
        clear hy
        go_wp2_with fail
        refine (HD.out).mono ?_; rintro e w' ⟨rfl, hb⟩
        have B2 := Lib.hid (BW.out.trans (hb.mono BW.out.size))
        clear hb
        go_wp2_with fail
        go_roundw
        case rel => exact ⟨m + 1, q, by omega, by omega, by go_num, rfl, fun x hx => NX.out x HY.out (by omega), HI.out, B2.out⟩
        case measure => simp [intOf]; omega
      | false =>
        rw [hy] at HD
        have HD := Lib.hid HD
        have HY := Lib.hid hy
        clear hy
        go_wp2_with fail
        refine (HD.out).mono ?_; rintro e w' ⟨rfl, hb⟩
        have B2 := Lib.hid (BW.out.trans (hb.mono BW.out.size))
        clear hb
        go_wp2_with fail
        go_roundw
        case rel => exact ⟨p, m, by omega, by omega, rfl, rfl, LO.out, fun x hx hxl => NY.out x HY.out hx hxl, B2.out⟩
        case measure => simp [intOf]; omega
    · obtain rfl : p = q := by omega
      go_wp2_with fail
      go_ret
      exact ⟨p, rfl, ⟨by rw [L.out]; exact hqn, LO.out, HI.out⟩, BW.out⟩
end Go.Proofs.Ytiagbacmjiimpaa.Dir
