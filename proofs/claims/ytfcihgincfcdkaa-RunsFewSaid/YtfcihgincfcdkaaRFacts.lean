/-
  What the laws say of the lists that Cut and Put leave: the plain mathematics.
-/
import Derived.Test.YtfcihgincfcdkaaRCutL
namespace Go.Proofs.Ytfcihgincfcdkaa.Rns
set_option linter.unusedVariables false

/-! ### how many runs -/
theorem few_parts {a u : Int} (hau : a ≤ u) : ∀ {l : List Rn} {e : Int}, Fo e l → (bfr a l).length + (afr u l).length ≤ l.length + 1
  | [], _, _ => by simp [bfr, afr]
  | r :: l, e, h => by
    have ih := few_parts hau h.2
    have lb := bfr_length a l
    have la := afr_length u l
    rw [bfr_cons, afr_cons, List.length_append, List.length_append, List.length_cons]
    by_cases h1 : r.a < a
    · by_cases h2 : u < r.a + r.m
      · rw [b1_yes h1, a1_yes h2, bfr_nil h.2 (by omega)]
        simp; omega
      · rw [b1_yes h1, a1_no h2]
        simp; omega
    · by_cases h2 : u < r.a + r.m
      · rw [b1_no h1, a1_yes h2]
        simp; omega
      · rw [b1_no h1, a1_no h2]
        simp; omega
theorem ok_of_ce {l : List Rn} {a m : Int} (h : ce l a m = 0) : rt l = true ∧ okR ⟨a, 0, m⟩ = true ∧ rt (cutL l a m) = true ∧ cl l a m = cutL l a m := by
  cases h1 : rt l with
  | false => rw [(ce_form a m h1).1] at h; cases h
  | true =>
    cases h2 : okR ⟨a, 0, m⟩ with
    | false => rw [(ce_range h1 h2).1] at h; cases h
    | true =>
      cases h3 : rt (cutL l a m) with
      | false => rw [(ce_full h1 h2 h3).1] at h; cases h
      | true => exact ⟨rfl, rfl, rfl, (ce_ok h1 h2 h3).2⟩
theorem ok_of_pe {l : List Rn} {r : Rn} (h : pe l r = 0) : rt l = true ∧ okR r = true ∧ rt (putL l r) = true ∧ pl l r = putL l r := by
  cases h1 : rt l with
  | false => rw [(pe_form r h1).1] at h; cases h
  | true =>
    cases h2 : okR r with
    | false => rw [(pe_run h1 h2).1] at h; cases h
    | true =>
      cases h3 : rt (putL l r) with
      | false => rw [(pe_full h1 h2 h3).1] at h; cases h
      | true => exact ⟨rfl, rfl, rfl, (pe_ok h1 h2 h3).2⟩
theorem few_cut {l : List Rn} {a m : Int} (h : ce l a m = 0) : (cl l a m).length ≤ l.length + 1 := by
  obtain ⟨h1, h2, h3, h4⟩ := ok_of_ce h
  obtain ⟨o1, o2, o3, o4, o5, o6⟩ := okR_yes.1 h2
  simp only at o3
  rw [h4]
  unfold cutL
  rw [List.length_append]
  exact few_parts (by omega) (rt_ch h1).fo
theorem few_put {l : List Rn} {r : Rn} (h : pe l r = 0) : (pl l r).length ≤ l.length + 2 := by
  obtain ⟨h1, h2, h3, h4⟩ := ok_of_pe h
  obtain ⟨o1, o2, o3, o4, o5, o6⟩ := okR_yes.1 h2
  rw [h4]
  unfold putL
  have k1 := fold_len (afr (r.a + r.m) l) (jst (bfr r.a l) r)
  have k2 := jst_length (bfr r.a l) r
  have k3 := few_parts (a := r.a) (u := r.a + r.m) (by omega) (rt_ch h1).fo
  omega
theorem put_none {l : List Rn} {r : Rn} (h : pe l r ≠ 0) : pl l r = [] := if_neg h
theorem cut_none {l : List Rn} {a m : Int} (h : ce l a m ≠ 0) : cl l a m = [] := if_neg h
/-! ### the last one counts -/
theorem fx_in {l : List Rn} {r : Rn} {x : Int} (h : inR r x = true) : fx l r true x = r.d + x - r.a := by unfold fx; rw [if_pos h]; rfl
theorem fx_cut {l : List Rn} {r : Rn} {x : Int} (h : inR r x = true) : fx l r false x = -1 := by unfold fx; rw [if_pos h]; rfl
theorem fx_out {l : List Rn} {r : Rn} {put : Bool} {x : Int} (h : inR r x = false) : fx l r put x = ma l x := by unfold fx; rw [if_neg (by rw [h]; simp)]
theorem find_put_in {l : List Rn} {r : Rn} {x : Int} (h : pe l r = 0) (hx : inR r x = true) : fv (pl l r) x = r.d + x - r.a ∧ fe (pl l r) x = 0 := by
  obtain ⟨h1, h2, h3, h4⟩ := ok_of_pe h
  obtain ⟨o1, o2, o3, o4, o5, o6⟩ := okR_yes.1 h2
  have hi := inR_yes.1 hx
  have hm := (put_upd h1 h2).is x
  rw [fx_in hx] at hm
  rw [h4]
  have := find_is h3 (x := x) (by rw [hm]; omega)
  rw [hm] at this
  exact this
theorem find_cut_in {l : List Rn} {a d m : Int} {x : Int} (h : ce l a m = 0) (hx : inR ⟨a, d, m⟩ x = true) : fe (cl l a m) x = 3 := by
  obtain ⟨h1, h2, h3, h4⟩ := ok_of_ce h
  have hx' : inR ⟨a, 0, m⟩ x = true := inR_yes.2 (inR_yes.1 hx)
  have hm := (cut_is h1 h2).is x
  rw [fx_cut hx'] at hm
  rw [h4]
  exact (find_none h3 hm).2
theorem find_same {l k : List Rn} {x : Int} (h1 : rt l = true) (h2 : rt k = true) (h : ma k x = ma l x) : fv k x = fv l x ∧ fe k x = fe l x := by
  unfold fv fe; rw [h1, h2, h]; exact ⟨rfl, rfl⟩
theorem find_put_out {l : List Rn} {r : Rn} {x : Int} (h : pe l r = 0) (hx : inR r x = false) : fv (pl l r) x = fv l x ∧ fe (pl l r) x = fe l x := by
  obtain ⟨h1, h2, h3, h4⟩ := ok_of_pe h
  rw [h4]
  exact find_same h1 h3 (by rw [(put_upd h1 h2).is x, fx_out hx])
theorem find_cut_out {l : List Rn} {a d m : Int} {x : Int} (h : ce l a m = 0) (hx : inR ⟨a, d, m⟩ x = false) : fv (cl l a m) x = fv l x ∧ fe (cl l a m) x = fe l x := by
  obtain ⟨h1, h2, h3, h4⟩ := ok_of_ce h
  have hx' : inR ⟨a, 0, m⟩ x = false := inR_no.2 (inR_no.1 hx)
  rw [h4]
  exact find_same h1 h3 (by rw [(cut_is h1 h2).is x, fx_out hx'])
theorem put_right {l : List Rn} {r : Rn} (h : pe l r = 0) : rt (pl l r) = true := by obtain ⟨h1, h2, h3, h4⟩ := ok_of_pe h; rw [h4]; exact h3
theorem cut_right {l : List Rn} {a m : Int} (h : ce l a m = 0) : rt (cl l a m) = true := by obtain ⟨h1, h2, h3, h4⟩ := ok_of_ce h; rw [h4]; exact h3
/-! ### twice -/
theorem put_list {l k : List Rn} {r : Rn} (h1 : rt l = true) (h2 : okR r = true) (h3 : rt k = true) (hm : ∀ x, ma k x = fx l r true x) : pl l r = k ∧ pe l r = 0 := by
  have e : putL l r = k := (put_upd h1 h2).unique ⟨rt_ch h3, hm⟩
  have := pe_ok h1 h2 (by rw [e]; exact h3)
  exact ⟨this.2.trans e, this.1⟩
theorem cut_list {l k : List Rn} {a m : Int} (h1 : rt l = true) (h2 : okR ⟨a, 0, m⟩ = true) (h3 : rt k = true) (hm : ∀ x, ma k x = fx l ⟨a, 0, m⟩ false x) : cl l a m = k ∧ ce l a m = 0 := by
  have e : cutL l a m = k := (cut_is h1 h2).unique ⟨rt_ch h3, hm⟩
  have := ce_ok h1 h2 (by rw [e]; exact h3)
  exact ⟨this.2.trans e, this.1⟩
theorem put_is {l : List Rn} {r : Rn} (h : pe l r = 0) (x : Int) : ma (pl l r) x = fx l r true x := by obtain ⟨h1, h2, h3, h4⟩ := ok_of_pe h; rw [h4]; exact (put_upd h1 h2).is x
theorem cl_is {l : List Rn} {a m : Int} (h : ce l a m = 0) (x : Int) : ma (cl l a m) x = fx l ⟨a, 0, m⟩ false x := by obtain ⟨h1, h2, h3, h4⟩ := ok_of_ce h; rw [h4]; exact (cut_is h1 h2).is x
theorem put_twice {l : List Rn} {r : Rn} (h : pe l r = 0) : pl (pl l r) r = pl l r ∧ pe (pl l r) r = 0 := by
  obtain ⟨h1, h2, _, _⟩ := ok_of_pe h
  refine put_list (put_right h) h2 (put_right h) fun x => ?_
  cases hx : inR r x with
  | true => rw [fx_in hx, put_is h, fx_in hx]
  | false => rw [fx_out hx]
theorem put_cut {l : List Rn} {r : Rn} (h : pe l r = 0) (hc : ce l r.a r.m = 0) : cl (pl l r) r.a r.m = cl l r.a r.m ∧ ce (pl l r) r.a r.m = 0 := by
  obtain ⟨h1, h2, _, _⟩ := ok_of_ce hc
  refine cut_list (put_right h) h2 (cut_right hc) fun x => ?_
  rw [cl_is hc]
  cases hx : inR r x with
  | true =>
    have hx' : inR ⟨r.a, 0, r.m⟩ x = true := inR_yes.2 (inR_yes.1 hx)
    rw [fx_cut hx', fx_cut hx']
  | false =>
    have hx' : inR ⟨r.a, 0, r.m⟩ x = false := inR_no.2 (inR_no.1 hx)
    rw [fx_out hx', fx_out hx', put_is h, fx_out hx]
theorem put_order {l : List Rn} {r s : Rn} (h : pe l r = 0) (hx : pe (pl l r) s = 0) (hy : pe l s = 0) (hd : ¬ (r.a < s.a + s.m ∧ s.a < r.a + r.m)) : pl (pl l s) r = pl (pl l r) s ∧ pe (pl l s) r = 0 := by
  obtain ⟨h1, h2, _, _⟩ := ok_of_pe h
  refine put_list (put_right hy) h2 (put_right hx) fun x => ?_
  rw [put_is hx]
  cases hs : inR s x with
  | true =>
    have hr : inR r x = false := inR_no.2 (by have := inR_yes.1 hs; omega)
    rw [fx_in hs, fx_out hr, put_is hy, fx_in hs]
  | false =>
    rw [fx_out hs, put_is h]
    cases hr : inR r x with
    | true => rw [fx_in hr, fx_in hr]
    | false => rw [fx_out hr, fx_out hr, put_is hy, fx_out hs]
/-! ### one list -/
theorem rt_one {r : Rn} (h : okR r = true) : rt [r] = true := by unfold rt rtF; rw [stp_first, h]; rfl
theorem ma_one (r : Rn) (x : Int) : ma [r] x = if inR r x = true then x - r.a + r.d else -1 := rfl
theorem put_nil {r : Rn} (h : okR r = true) : pl [] r = [r] ∧ pe [] r = 0 := put_list rfl h (rt_one h) fun x => by
  rw [ma_one]
  cases hx : inR r x with
  | true => rw [if_pos rfl, fx_in hx]; omega
  | false => rw [fx_out hx]; rfl
theorem put_front {a d m k : Int} (h1 : okR ⟨a + k, d + k, m - k⟩ = true) (h2 : okR ⟨a, d, k⟩ = true) (h3 : okR ⟨a, d, m⟩ = true) : pl [⟨a + k, d + k, m - k⟩] ⟨a, d, k⟩ = [⟨a, d, m⟩] ∧ pe [⟨a + k, d + k, m - k⟩] ⟨a, d, k⟩ = 0 := put_list (rt_one h1) h2 (rt_one h3) fun x => by
  obtain ⟨o1, o2, o3, o4, o5, o6⟩ := okR_yes.1 h1
  obtain ⟨p1, p2, p3, p4, p5, p6⟩ := okR_yes.1 h2
  simp only at o3 p3
  rw [ma_one]
  cases hx : inR ⟨a, d, k⟩ x with
  | true =>
    have hi := inR_yes.1 hx
    simp only at hi
    rw [if_pos (inR_yes.2 ⟨hi.1, by show x < a + m; omega⟩), fx_in hx]
    show x - a + d = d + x - a
    omega
  | false =>
    have hi := inR_no.1 hx
    simp only at hi
    rw [fx_out hx, ma_one]
    cases hy : inR ⟨a, d, m⟩ x with
    | true =>
      have hj := inR_yes.1 hy
      simp only at hj
      rw [if_pos rfl, if_pos (inR_yes.2 ⟨by show a + k ≤ x; omega, by show x < a + k + (m - k); omega⟩)]
      show x - a + d = x - (a + k) + (d + k)
      omega
    | false =>
      have hj := inR_no.1 hy
      simp only at hj
      rw [if_neg (by simp), if_neg (by rw [Bool.not_eq_true]; exact inR_no.2 (by show ¬ (a + k ≤ x ∧ x < a + k + (m - k)); omega))]
theorem put_next {a d k : Int} (h1 : okR ⟨a, d, k⟩ = true) (h2 : okR ⟨a + k, d + k, 1⟩ = true) (h3 : okR ⟨a, d, k + 1⟩ = true) : pl [⟨a, d, k⟩] ⟨a + k, d + k, 1⟩ = [⟨a, d, k + 1⟩] ∧ pe [⟨a, d, k⟩] ⟨a + k, d + k, 1⟩ = 0 := put_list (rt_one h1) h2 (rt_one h3) fun x => by
  obtain ⟨o1, o2, o3, o4, o5, o6⟩ := okR_yes.1 h1
  simp only at o3
  rw [ma_one]
  cases hx : inR ⟨a + k, d + k, 1⟩ x with
  | true =>
    have hi := inR_yes.1 hx
    simp only at hi
    rw [if_pos (inR_yes.2 ⟨by show a ≤ x; omega, by show x < a + (k + 1); omega⟩), fx_in hx]
    show x - a + d = d + k + x - (a + k)
    omega
  | false =>
    have hi := inR_no.1 hx
    simp only at hi
    rw [fx_out hx, ma_one]
    cases hy : inR ⟨a, d, k⟩ x with
    | true =>
      have hj := inR_yes.1 hy
      simp only at hj
      rw [if_pos rfl, if_pos (inR_yes.2 ⟨hj.1, by show x < a + (k + 1); omega⟩)]
    | false =>
      have hj := inR_no.1 hy
      simp only at hj
      rw [if_neg (by rw [Bool.not_eq_true]; exact inR_no.2 (by show ¬ (a ≤ x ∧ x < a + (k + 1)); omega)), if_neg (by simp)]
/-- The list after k blocks, one by one. -/
def upto (a d : Int) (k : Nat) : List Rn := if k = 0 then [] else [⟨a, d, k⟩]
theorem ok_small {a d m : Int} (h1 : 0 ≤ a) (h2 : 0 ≤ d) (h3 : 1 ≤ m) (h4 : a ≤ 2000) (h5 : d ≤ 2000) (h6 : m ≤ 2000) : okR ⟨a, d, m⟩ = true := okR_yes.2 ⟨h1, h2, h3, by show a ≤ _; omega, by show d ≤ _; omega, by show m ≤ _; omega⟩
theorem upto_next {a d : Int} {k : Nat} (h1 : 0 ≤ a) (h2 : 0 ≤ d) (h4 : a ≤ 1000) (h5 : d ≤ 1000) (hk : k < 60) : pl (upto a d k) ⟨a + k, d + k, 1⟩ = upto a d (k + 1) ∧ pe (upto a d k) ⟨a + k, d + k, 1⟩ = 0 := by
  unfold upto
  rw [if_neg (Nat.succ_ne_zero k)]
  by_cases h0 : k = 0
  · subst h0
    rw [if_pos rfl]
    have := put_nil (r := ⟨a, d, 1⟩) (ok_small h1 h2 (by omega) (by omega) (by omega) (by omega))
    simpa using this
  · rw [if_neg h0]
    have := put_next (a := a) (d := d) (k := k) (ok_small h1 h2 (by omega) (by omega) (by omega) (by omega)) (ok_small (by omega) (by omega) (by omega) (by omega) (by omega) (by omega)) (ok_small h1 h2 (by omega) (by omega) (by omega) (by omega))
    exact this
end Go.Proofs.Ytfcihgincfcdkaa.Rns
