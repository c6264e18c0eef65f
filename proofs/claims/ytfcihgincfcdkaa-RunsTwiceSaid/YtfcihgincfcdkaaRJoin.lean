/-
  Joining runs that continue one another, in a row of the call's own.
-/
import Derived.Test.YtfcihgincfcdkaaRCells
import Derived.Test.YtfcihgincfcdkaaRRange
import Derived.Deep.RegionLaw
namespace Go.Proofs.Ytfcihgincfcdkaa.Rns
open Go.ChangeShapes Go.WideShapes Go.ChangeAt Go.RowKit Words
set_option linter.unusedVariables false

theorem Pc.perm {E V : Int → Prop} {l : List Rn} {r : Rn} {put : Bool} {ps qs : List Rn} (h : Pc E l r put V ps) (hm : ∀ p, p ∈ qs ↔ p ∈ ps) (hs : Srt qs) : Pc E l r put V qs :=
  ⟨fun p hp => h.piece p ((hm p).1 hp), fun u t h1 h2 h3 h4 => (hm _).2 (h.all u t h1 h2 h3 h4), hs.imp fun hlt he => by rw [he] at hlt; omega⟩
theorem lc_take (l : List Rn) (k : Nat) : (lcells l).take (k * 3) = lcells (l.take k) := flat_take rcells_length l k
theorem lc_drop (l : List Rn) : ∀ k : Nat, (lcells l).drop (k * 3) = lcells (l.drop k) := by
  induction l with
  | nil => intro k; simp [lcells]
  | cons x l ih =>
    intro k
    cases k with
    | zero => simp
    | succ k =>
      show (rcells x ++ lcells l).drop ((k + 1) * 3) = lcells (l.drop k)
      rw [← ih k, List.drop_append, rcells_length, List.drop_eq_nil_of_le (by rw [rcells_length]; omega), List.nil_append]
      congr 1
      omega
/-- Within the bounds that the edges give. -/
def Bnd (us : List Rn) : Prop := ∀ p ∈ us, 0 ≤ p.a ∧ 1 ≤ p.m ∧ p.a + p.m ≤ 2199023255552 ∧ 0 ≤ p.d ∧ p.d ≤ 4398046511104
/-- What the joining keeps: the first k do not continue one another. -/
structure JInv (l : List Rn) (r : Rn) (put : Bool) (us : List Rn) (k : Nat) : Prop where
  fo : Fo 0 us
  is : ∀ x, ma us x = fx l r put x
  nc : Nc (us.take k)
  bd : Bnd us
theorem split2 {us : List Rn} {t : Nat} (h : t + 1 < us.length) : us = us.take t ++ nth us t :: nth us (t + 1) :: us.drop (t + 2) := by
  have h0 : us[t]'(by omega) = nth us t := (nth_of (List.getElem?_eq_getElem (by omega))).symm
  have h1 : us[t + 1] = nth us (t + 1) := (nth_of (List.getElem?_eq_getElem h)).symm
  rw [← h0, ← h1, List.getElem_cons_drop, List.getElem_cons_drop, List.take_append_drop]
/-- Two joined: the first made longer, the second struck. -/
def jn (us : List Rn) (t : Nat) : List Rn := (us.set t (join2 (nth us t) (nth us (t + 1)))).eraseIdx (t + 1)
theorem jn_is {us : List Rn} {t : Nat} (h : t + 1 < us.length) : jn us t = us.take t ++ join2 (nth us t) (nth us (t + 1)) :: us.drop (t + 2) := by
  unfold jn
  have hl : (us.take t).length = t := by rw [List.length_take]; omega
  have e := split2 h
  conv => lhs; rw [e]
  rw [List.set_append_right _ _ (by omega), hl, Nat.sub_self, List.set_cons_zero, List.eraseIdx_append_of_length_le (by omega), hl, show t + 1 - t = 1 by omega]
  have n0 : nth (us.take t ++ nth us t :: nth us (t + 1) :: us.drop (t + 2)) t = nth us t := by rw [← e]
  have n1 : nth (us.take t ++ nth us t :: nth us (t + 1) :: us.drop (t + 2)) (t + 1) = nth us (t + 1) := by rw [← e]
  rw [n0, n1]
  rfl
theorem jn_length {us : List Rn} {t : Nat} (h : t + 1 < us.length) : (jn us t).length = us.length - 1 := by
  unfold jn; rw [List.length_eraseIdx, List.length_set, if_pos h]
theorem JInv.join {l : List Rn} {r : Rn} {put : Bool} {us : List Rn} {t : Nat} (h : JInv l r put us (t + 1)) (ht : t + 1 < us.length) (hc : cont (nth us t) (nth us (t + 1)) = true) : JInv l r put (jn us t) (t + 1) := by
  have e := split2 ht
  have hf := h.fo
  rw [e] at hf
  have hb0 := h.bd (nth us t) (mem_nth.2 ⟨t, by omega, rfl⟩)
  have hb1 := h.bd (nth us (t + 1)) (mem_nth.2 ⟨t + 1, ht, rfl⟩)
  obtain ⟨k1, k2⟩ := cont_yes.1 hc
  have hl : (us.take t).length = t := by rw [List.length_take]; omega
  rw [jn_is ht]
  refine ⟨hf.join hc, fun x => ?_, ?_, fun p hp => ?_⟩
  · rw [ma_join hc hb0.2.1 hb1.2.1, ← e]; exact h.is x
  · rw [List.take_append, hl, List.take_of_length_le (by omega), show t + 1 - t = 1 by omega]
    have hn := h.nc
    have e3 : us.take (t + 1) = us.take t ++ [nth us t] := take_next (nth_get (by omega))
    rw [e3] at hn
    exact nc_last (p := nth us t) (p' := join2 (nth us t) (nth us (t + 1))) rfl rfl hn
  · rcases List.mem_append.1 hp with hp | hp
    · exact h.bd p (List.mem_of_mem_take hp)
    · rcases List.mem_cons.1 hp with rfl | hp
      · refine ⟨hb0.1, ?_, ?_, hb0.2.2.2.1, hb0.2.2.2.2⟩
        · show 1 ≤ (nth us t).m + (nth us (t + 1)).m; omega
        · show (nth us t).a + ((nth us t).m + (nth us (t + 1)).m) ≤ _; omega
      · exact h.bd p (List.mem_of_mem_drop hp)
theorem JInv.pass {l : List Rn} {r : Rn} {put : Bool} {us : List Rn} {t : Nat} (h : JInv l r put us (t + 1)) (ht : t + 1 < us.length) (hc : cont (nth us t) (nth us (t + 1)) = false) : JInv l r put us (t + 2) := by
  refine ⟨h.fo, h.is, ?_, h.bd⟩
  have hn := h.nc
  have e3 : us.take (t + 1) = us.take t ++ [nth us t] := take_next (nth_get (by omega))
  have e4 : us.take (t + 2) = us.take (t + 1) ++ [nth us (t + 1)] := take_next (nth_get ht)
  rw [e3] at hn
  rw [e4, e3, List.append_assoc]
  exact nc_snoc hn hc
theorem JInv.done {l : List Rn} {r : Rn} {put : Bool} {us : List Rn} {k : Nat} (h : JInv l r put us k) (hk : us.length ≤ k) : Upd l r put us := by
  have hn := h.nc
  rw [List.take_of_length_le hk] at hn
  exact upd_of h.fo hn h.is
theorem nc_one (l : List Rn) : Nc (l.take 1) := by
  match l with
  | [] => trivial
  | x :: l => trivial
theorem cl_ed {l : List Rn} {r : Rn} : Cl (· ∈ Ed l r) l ∧ r.a ∈ Ed l r ∧ r.a + r.m ∈ Ed l r := by
  unfold Ed
  refine ⟨fun x hx => ⟨?_, ?_⟩, by simp, by simp⟩
  · exact List.mem_cons_of_mem _ (List.mem_cons_of_mem _ (List.mem_flatMap.2 ⟨x, hx, by simp⟩))
  · exact List.mem_cons_of_mem _ (List.mem_cons_of_mem _ (List.mem_flatMap.2 ⟨x, hx, by simp⟩))
theorem join_start {L : List Int} {l : List Rn} {r : Rn} {put : Bool} {ps qs : List Rn} (hL : L = Ed l r) (hl : Oks l) (hr : okR r = true) (hb : ∀ q ∈ L, 0 ≤ q ∧ q ≤ 2199023255552)
    (h : Pc (· ∈ L) l r put (· ∈ L) ps) (hm : Sm ps qs) (hu : Up qs qs.length) : JInv l r put qs 1 := by
  have hs := up_srt hu
  have hp := h.perm hm.mem hs
  subst hL
  obtain ⟨p1, p2, p3, p4, p5, p6⟩ := okR_yes.1 hr
  obtain ⟨hf, hi⟩ := pieces_done cl_ed.1 cl_ed.2 (fun x hx => (okR_yes.1 (hl x hx)).2.1) p2 (fun e he => (hb e he).1) hp hs
  refine ⟨hf, hi, nc_one qs, fun p hp' => ?_⟩
  obtain ⟨_, h1, h2, h3, h4⟩ := hp.piece p hp'
  have h5 := hb _ h1
  have h6 := hb _ h2.1
  have h7 := h2.2.1
  refine ⟨h5.1, by omega, h6.2, h4, ?_⟩
  rw [h3]
  unfold fx
  split
  · rename_i hin
    have := inR_yes.1 hin
    split <;> omega
  · exact ma_top hl _
/-- The second struck, in memory: what lies behind it one place on. -/
theorem OwnRn.struck {w : World} {base g i m c : Nat} {l : List Rn} (h : OwnRn w base (some ⟨g, 0, none⟩) (i + 1 + m) c l) :
    OwnRn (w.setCells g (i * 3) (lcells (l.drop (i + 1)))) base (some ⟨g, 0, none⟩) (i + m) c (l.eraseIdx i) ∧ w.grownBy (w.setCells g (i * 3) (lcells (l.drop (i + 1)))) (some g) := by
  have hl := h.len
  have h1 := own_setCells (lcells (l.drop (i + 1))) (i * 3) h
  have e0 : (lcells (l.take i)).length = i * 3 := by rw [lcells_length, List.length_take, Nat.min_eq_left (by omega)]
  have e2 : (lcells (l.drop (i + 1))).length = m * 3 := by rw [lcells_length, List.length_drop]; omega
  have e1 : setAll (lcells l) (i * 3) (lcells (l.drop (i + 1))) = lcells (l.take i) ++ lcells (l.drop (i + 1)) ++ (lcells (l.drop i)).drop (m * 3) := by
    have e3 : lcells l = lcells (l.take i) ++ (lcells (l.drop i)).take (m * 3) ++ (lcells (l.drop i)).drop (m * 3) := by
      rw [List.append_assoc, List.take_append_drop, ← lcells_append, List.take_append_drop]
    have := setAll_mid (lcells (l.drop (i + 1))) ((lcells (l.drop i)).take (m * 3)) (lcells (l.take i)) ((lcells (l.drop i)).drop (m * 3)) (by
      rw [List.length_take, e2, lcells_length, List.length_drop]; omega)
    rw [← e3, e0] at this
    exact this
  rw [e1] at h1
  have h2 := own_head h1.1 (k := i + m) (by omega)
  have e4 : (lcells (l.take i) ++ lcells (l.drop (i + 1)) ++ (lcells (l.drop i)).drop (m * 3)).take ((i + m) * 3) = lcells (l.eraseIdx i) := by
    rw [List.eraseIdx_eq_take_drop_succ, lcells_append]
    exact List.take_left' (by rw [List.length_append, e0, e2, ← Nat.add_mul])
  rw [e4] at h2
  exact ⟨h2, h1.2⟩
/-- The length made longer, in memory. -/
theorem OwnRn.put2 {w : World} {base g n c : Nat} {l : List Rn} (h : OwnRn w base (some ⟨g, 0, none⟩) n c l) {t : Nat} (ht : t < n) (y : Int) :
    OwnRn (w.setCell ⟨g, t * 3 + 2, none⟩ (.int .i64 y)) base (some ⟨g, 0, none⟩) n c (l.set t ⟨(nth l t).a, (nth l t).d, y⟩) ∧ w.grownBy (w.setCell ⟨g, t * 3 + 2, none⟩ (.int .i64 y)) (some g) := by
  have := Go.World.ownsRow.stored h (t * 3 + 2) (.int .i64 y)
  rw [lcells, flat_set (f := rcells) rcells_length (nth_get (by rw [h.len]; exact ht)) (j := 2) (by omega) (y := ⟨(nth l t).a, (nth l t).d, y⟩) rfl] at this
  exact this
end Go.Proofs.Ytfcihgincfcdkaa.Rns
