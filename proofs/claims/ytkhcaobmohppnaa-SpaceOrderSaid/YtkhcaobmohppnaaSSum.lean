/-
  How many blocks are free: the plain mathematics, and the law's own sum.
-/
import Derived.Test.YtkhcaobmohppnaaSFacts
import Derived.Test.YtkhcaobmohppnaaSCon
namespace Go.Proofs.Ytkhcaobmohppnaa.Spc
open Go.ChangeShapes Go.WideShapes Go.ChangeAt Go.RowKit Words Go.Sort
set_option linter.unusedVariables false

def cnt : List Gp → Int
  | [] => 0
  | g :: l => g.m + cnt l
theorem cnt_app : ∀ (l k : List Gp), cnt (l ++ k) = cnt l + cnt k
  | [], k => by show cnt k = 0 + cnt k; omega
  | g :: l, k => by
    have := cnt_app l k
    show g.m + cnt (l ++ k) = g.m + cnt l + cnt k
    omega
def trues (f : Nat → Bool) : Nat → Int
  | 0 => 0
  | n + 1 => trues f n + (if f n = true then 1 else 0)
theorem trues_le (f : Nat → Bool) : ∀ n : Nat, 0 ≤ trues f n ∧ trues f n ≤ n
  | 0 => by unfold trues; omega
  | n + 1 => by
    have := trues_le f n
    unfold trues
    split <;> omega
theorem trues_congr {f g : Nat → Bool} : ∀ {n : Nat}, (∀ x, x < n → f x = g x) → trues f n = trues g n
  | 0, _ => rfl
  | n + 1, h => by
    unfold trues
    rw [trues_congr fun x hx => h x (by omega), h n (by omega)]
theorem trues_flip {f g : Nat → Bool} {p : Nat} (hf : f p = false) (hg : g p = true) (h : ∀ x, x ≠ p → f x = g x) : ∀ {n : Nat}, p < n → trues g n = trues f n + 1
  | n + 1, hp => by
    unfold trues
    by_cases hn : p = n
    · subst hn
      rw [hf, hg, trues_congr fun x hx => h x (by omega)]
      simp
    · rw [trues_flip hf hg h (n := n) (by omega), h n (fun e => hn e.symm)]
      omega
def inF (f : Nat → Bool) (a j : Nat) (b : Bool) (x : Nat) : Bool := if a ≤ x ∧ x < a + j then b else f x
theorem trues_up {f : Nat → Bool} {n a : Nat} : ∀ {j : Nat}, a + j ≤ n → (∀ x, a ≤ x → x < a + j → f x = false) → trues (inF f a j true) n = trues f n + j
  | 0, _, _ => by
    rw [trues_congr (g := f) fun x _ => by unfold inF; rw [if_neg (by omega)]]; simp
  | j + 1, hn, hf => by
    have ih := trues_up (f := f) (n := n) (a := a) (j := j) (by omega) fun x h1 h2 => hf x h1 (by omega)
    have h := trues_flip (f := inF f a j true) (g := inF f a (j + 1) true) (p := a + j) (by unfold inF; rw [if_neg (by omega)]; exact hf _ (by omega) (by omega)) (by unfold inF; rw [if_pos (by omega)])
      (fun x hx => by
        unfold inF
        by_cases h1 : a ≤ x ∧ x < a + j
        · rw [if_pos h1, if_pos (by omega)]
        · rw [if_neg h1, if_neg (by omega)]) (n := n) (by omega)
    rw [h, ih]; push_cast; omega
theorem trues_down {f : Nat → Bool} {n a : Nat} : ∀ {j : Nat}, a + j ≤ n → (∀ x, a ≤ x → x < a + j → f x = true) → trues (inF f a j false) n = trues f n - j
  | 0, _, _ => by
    rw [trues_congr (g := f) fun x _ => by unfold inF; rw [if_neg (by omega)]]; simp
  | j + 1, hn, hf => by
    have ih := trues_down (f := f) (n := n) (a := a) (j := j) (by omega) fun x h1 h2 => hf x h1 (by omega)
    have h := trues_flip (f := inF f a (j + 1) false) (g := inF f a j false) (p := a + j) (by unfold inF; rw [if_pos (by omega)]) (by unfold inF; rw [if_neg (by omega)]; exact hf _ (by omega) (by omega))
      (fun x hx => by
        unfold inF
        by_cases h1 : a ≤ x ∧ x < a + j
        · rw [if_pos h1, if_pos (by omega)]
        · rw [if_neg h1, if_neg (by omega)]) (n := n) (by omega)
    push_cast; omega
theorem cnt_gk (row : List Bool) : ∀ n, cnt (gk row n) = trues (at_ row) n
  | 0 => rfl
  | n + 1 => by
    have ih := cnt_gk row n
    show _ = trues (at_ row) n + (if at_ row n = true then 1 else 0)
    cases h : at_ row n with
    | false => rw [gk_free h, ih]; simp
    | true =>
      by_cases h2 : n = 0 ∨ at_ row (n - 1) = false
      · rw [gk_new h h2, cnt_app, ih]; rfl
      · rw [gk_more h h2]
        obtain ⟨_, q2, q3⟩ := gk_pos h2
        obtain ⟨pre, g, he, _⟩ := (gk_gi row n).fin q2 q3
        rw [he] at ih ⊢
        rw [bump_app, cnt_app]
        rw [cnt_app] at ih
        show cnt pre + ((g.m + 1) + 0) = _
        have ih' : cnt pre + (g.m + 0) = trues (at_ row) n := ih
        simp
        omega
theorem cnt_ok {s : Int} {l : List Gp} (h : okRow s l = true) : cnt l = trues (fun x => mem l x) s.toNat := by
  have h1 := cnt_gk (rowOf l s.toNat) s.toNat
  rw [gk_row h] at h1
  rw [h1]
  exact trues_congr fun x hx => at_rowOf hx
theorem cnt_le {s : Int} {l : List Gp} (h : okRow s l = true) : 0 ≤ cnt l ∧ cnt l ≤ s := by
  rw [cnt_ok h]
  have := trues_le (fun x => mem l x) s.toNat
  obtain ⟨h1, _, _⟩ := ok_ch h
  omega
/-- What a step adds. -/
def dl (o : Sp) : Int := if o.k = 3 then o.m else -o.m
theorem step_cnt {s : Int} {l : List Gp} {o : Sp} (h : ser s l o = 0) : okRow s (sgl s l o) = true ∧ cnt (sgl s l o) = cnt l + dl o ∧ 1 ≤ o.m ∧ o.m ≤ s ∧ (o.k = 1 ∨ o.k = 2 ∨ o.k = 3) := by
  obtain ⟨h1, h2, h3, h4, h5⟩ := ok_parts h
  obtain ⟨c1, c2, c3⟩ := ok_ch h1
  obtain ⟨m1, m2⟩ := setR_ok (a := ats o l) (m := o.m) (b := decide (o.k = 3)) h1
  rw [(sgl_yes h).1]
  refine ⟨m1, ?_, by omega, by omega, h2⟩
  rw [cnt_ok m1, cnt_ok h1]
  obtain ⟨m, hm⟩ : ∃ m : Nat, o.m = m := ⟨o.m.toNat, by omega⟩
  have key : ∀ (a : Nat) (b : Bool), ats o l = a → a + m ≤ s.toNat → trues (fun x => mem (gk (setR s.toNat l (ats o l) o.m b) s.toNat) x) s.toNat = trues (inF (fun x => mem l x) a m b) s.toNat := fun a b ha ham =>
    trues_congr fun x hx => by
      rw [(setR_ok (a := ats o l) (m := o.m) (b := b) h1).2 x (by omega)]
      unfold inF
      rw [ha, hm]
      by_cases hc : a ≤ x ∧ x < a + m
      · rw [if_pos hc, if_pos (by omega)]
      · rw [if_neg hc, if_neg (by omega)]
  unfold dl
  by_cases hk : o.k = 3
  · have ha : ats o l = o.a := if_pos hk
    obtain ⟨a, hae⟩ : ∃ a : Nat, o.a = a := ⟨o.a.toNat, by omega⟩
    rw [decide_eq_true hk, if_pos hk, key a true (by rw [ha, hae]) (by omega), trues_up (by omega), hm]
    intro x hx1 hx2
    have hh : ¬ heldF l o.a o.m.toNat = true := fun hc => h5 ⟨hk, hc⟩
    cases hz : mem l x with
    | false => rfl
    | true =>
      refine absurd ?_ hh
      unfold heldF
      rw [List.any_eq_true]
      exact ⟨x - a, List.mem_range.2 (by omega), by rw [hae, show ((a : Int) + ((x - a : Nat) : Int)) = x by omega]; exact hz⟩
  · have hp : ¬ (pk o l).1 < 0 := fun hc => h4 ⟨hk, hc⟩
    have ha : ats o l = (pk o l).1 := if_neg hk
    rcases pk_pk (o := o) (l := l) (fun g hg => by have := c3.each g hg; omega) with ⟨e, _⟩ | ⟨g, hg, e, hgm⟩
    · rw [e] at hp; exact absurd (by show (-1 : Int) < 0; omega) hp
    · have hge := c3.each g hg
      obtain ⟨a, hae⟩ : ∃ a : Nat, g.a = a := ⟨g.a.toNat, by omega⟩
      rw [decide_eq_false hk, if_neg hk, key a false (by rw [ha, e]; exact hae) (by omega), trues_down (by omega), hm]
      · omega
      · intro x hx1 hx2
        exact mem_yes.2 ⟨g, hg, inG_yes.2 ⟨by omega, by omega⟩⟩
theorem start_ok {s : Int} (h : szOk s = true) : okRow s (start s) = true ∧ cnt (start s) = s := by
  unfold szOk at h
  simp at h
  have e : ((s.toNat : Nat) : Int) = s := by omega
  have g := gk_gi (List.replicate s.toNat true) s.toNat
  refine ⟨ok_of_ch h.1 h.2 (by have := g.ch; rwa [e] at this), ?_⟩
  unfold start
  rw [cnt_gk]
  have : ∀ n m : Nat, n ≤ m → trues (at_ (List.replicate m true)) n = n := by
    intro n
    induction n with
    | zero => intro m _; rfl
    | succ n ih =>
      intro m hm
      unfold trues
      rw [ih m (by omega), at_replicate, decide_eq_true (by omega)]
      simp
  rw [this _ _ (Nat.le_refl _)]
  omega
theorem fold_ok {s : Int} : ∀ (ops : List Sp) (st : List Gp × List An), okRow s st.1 = true → okRow s (ops.foldl (fold1 s) st).1 = true
  | [], _, h => h
  | o :: ops, st, h => by
    refine fold_ok ops (fold1 s st o) ?_
    by_cases he : ser s st.1 o = 0
    · rw [fold1_ok he]; exact (step_cnt he).1
    · rw [fold1_no he]; exact h
theorem played_ok {s : Int} (h : szOk s = true) (ops : List Sp) : okRow s (played s ops).1 = true := fold_ok ops _ (start_ok h).1
theorem fold_two {s : Int} : ∀ (ops : List Sp) (st : List Gp × List An), ∃ ys, (ops.foldl (fold1 s) st).2 = st.2 ++ ys ∧ ys.length = ops.length
  | [], st => ⟨[], by simp, rfl⟩
  | o :: ops, st => by
    obtain ⟨ys, h1, h2⟩ := fold_two ops (fold1 s st o)
    refine ⟨⟨ser s st.1 o, sat s st.1 o⟩ :: ys, ?_, by rw [List.length_cons, List.length_cons, h2]⟩
    show (ops.foldl (fold1 s) (fold1 s st o)).2 = _
    rw [h1]
    unfold fold1
    simp
theorem played_length (s : Int) (ops : List Sp) : (played s ops).2.length = ops.length := by
  obtain ⟨ys, h1, h2⟩ := fold_two (s := s) ops (start s, [])
  unfold played
  rw [h1]; simpa using h2
/-- The answer of one of the operations. -/
theorem played_get {s : Int} {ops : List Sp} {k : Nat} {o : Sp} (h : ops[k]? = some o) : (played s ops).2[k]? = some ⟨ser s (played s (ops.take k)).1 o, sat s (played s (ops.take k)).1 o⟩ := by
  have hk := (List.getElem?_eq_some_iff.1 h).1
  have e : ops = ops.take k ++ o :: ops.drop (k + 1) := by rw [← drop_next h, List.take_append_drop]
  have e2 : played s ops = (o :: ops.drop (k + 1)).foldl (fold1 s) (played s (ops.take k)) := by
    conv => lhs; rw [e]
    unfold played; rw [List.foldl_append]
  obtain ⟨ys, h1, h2⟩ := fold_two (s := s) (ops.drop (k + 1)) (fold1 s (played s (ops.take k)) o)
  have hl := played_length s (ops.take k)
  rw [e2]
  show ((ops.drop (k + 1)).foldl (fold1 s) (fold1 s (played s (ops.take k)) o)).2[k]? = _
  rw [h1]
  unfold fold1
  simp only
  rw [List.append_assoc, List.getElem?_append_right (by rw [hl, List.length_take]; omega), hl, List.length_take, Nat.min_eq_left (by omega), Nat.sub_self]
  rfl
/-- How many are free behind k operations. -/
def fr (s : Int) (ops : List Sp) (k : Nat) : Int := cnt (played s (ops.take k)).1
theorem fr_start {s : Int} (h : szOk s = true) (ops : List Sp) : fr s ops 0 = s := (start_ok h).2
theorem fr_next {s : Int} {ops : List Sp} {k : Nat} {o : Sp} (h : ops[k]? = some o) (he : ser s (played s (ops.take k)).1 o = 0) : fr s ops (k + 1) = fr s ops k + dl o := by
  unfold fr
  rw [played_next h, fold1_ok he]
  exact (step_cnt he).2.1
theorem fr_same {s : Int} {ops : List Sp} {k : Nat} {o : Sp} (h : ops[k]? = some o) (he : ser s (played s (ops.take k)).1 o ≠ 0) : fr s ops (k + 1) = fr s ops k := by
  unfold fr
  rw [played_next h, fold1_no he]
theorem fr_le {s : Int} (h : szOk s = true) (ops : List Sp) (k : Nat) : 0 ≤ fr s ops k ∧ fr s ops k ≤ s := cnt_le (played_ok h _)
theorem sz_le {s : Int} (h : szOk s = true) : 0 ≤ s ∧ s ≤ 4096 := by unfold szOk at h; simpa using h
/-! ### the law's own sum -/
theorem cnt_part {l : List Gp} (h : ∀ g ∈ l, 1 ≤ g.m) (k : Nat) : 0 ≤ cnt (l.take k) ∧ cnt (l.take k) ≤ cnt l := by
  have pos : ∀ l : List Gp, (∀ g ∈ l, 1 ≤ g.m) → 0 ≤ cnt l := by
    intro l
    induction l with
    | nil => intro _; show (0 : Int) ≤ 0; omega
    | cons g l ih =>
      intro h
      have := ih fun x hx => h x (by simp [hx])
      have := h g (by simp)
      show 0 ≤ g.m + cnt l
      omega
  have e : cnt l = cnt (l.take k) + cnt (l.drop k) := by rw [← cnt_app, List.take_append_drop]
  have h1 := pos (l.take k) fun g hg => h g (List.mem_of_mem_take hg)
  have h2 := pos (l.drop k) fun g hg => h g (List.mem_of_mem_drop hg)
  omega
theorem cnt_next {l : List Gp} {k : Nat} {g : Gp} (h : l[k]? = some g) : cnt (l.take (k + 1)) = cnt (l.take k) + g.m := by
  rw [take_next h, cnt_app]
  show cnt (l.take k) + (g.m + 0) = _
  omega
set_option maxHeartbeats 2000000 in
theorem free20 (B : Nat) (A : Option Addr) (n c : Nat) (l : List Gp) (s : Int) (w : World) (h : Gps w B A n c l) (hB : B ≤ w.heap.size) (ho : okRow s l = true) :
    Calls Try.prog 20 #[.slice A n c] w fun e w' => e = .returned (.int .i64 (cnt l)) ∧ Below w.heap.size w w' := by
  have HN := h.small
  have HL := Lib.hid h.len
  have H := Lib.hid h
  have HE := Lib.hid (ok_ch ho).2.2
  have HC := Lib.hid (cnt_le ho)
  have H2 := Lib.hid (ok_ch ho).2.1
  have b0 : Below w.heap.size w w := Below.refl _ _
  have B0 := Lib.hid b0
  clear h b0 ho
  go_enter Try.func20, Try.ntmps20
  go_wp2_with fail
  go_loopw [3, 8] (fun v i wr => ∃ k : Nat, v = .int .i64 (cnt (l.take k)) ∧ i = .int .i64 k ∧ k ≤ n ∧ Below w.heap.size w wr) (fun _ i _ => (n - intOf i).toNat)
  case atStart => exact ⟨0, rfl, rfl, by omega, B0.out⟩
  case round =>
    obtain ⟨k, rfl, rfl, hk, hbel⟩ := hrel
    have BW := Lib.hid hbel
    clear hbel
    by_cases hlt : k < n
    · obtain ⟨g, o, rfl, _, _⟩ := Words.Rd.row H.out (by omega)
      obtain ⟨⟨ga, gm⟩, hr⟩ : ∃ r, l[k]? = some r := ⟨_, List.getElem?_eq_getElem (by rw [HL.out]; exact hlt)⟩
      obtain ⟨c0, c1⟩ := Gps.cells (Words.Rd.below H.out BW.out hB) rfl hr
      have HX := Lib.hid (cnt_next hr)
      have p1 := cnt_part (l := l) (fun g hg => (HE.out.each g hg).2.1) k
      have p2 := cnt_part (l := l) (fun g hg => (HE.out.each g hg).2.1) (k + 1)
      have p3 := HC.out
      have p4 := H2.out
      rw [HX.out] at p2
      obtain ⟨v, hv⟩ : ∃ v, v = cnt (l.take k) := ⟨_, rfl⟩
      rw [← hv] at HX p1 p2 ⊢
      have hw : IntKind.i64.wrap (v + gm) = v + gm := by rw [IntKind.wrap_i64]; simp only at p2; omega
      have BX := Lib.hid (BW.out.alloc BW.out.size (.cells #[.int .i64 ga, .int .i64 gm] 36))
      clear hr hv p1 p2 p3 p4
      go_wp2_with fail
      go_roundw
      case rel => exact ⟨k + 1, i64_num HX.out.symm, by go_num, by omega, BX.out⟩
      case measure => simp [intOf]; omega
    · obtain rfl : k = n := by omega
      have hall : l.take k = l := List.take_of_length_le (by rw [HL.out]; exact Nat.le_refl _)
      rw [hall]
      clear hall
      go_wp2_with fail
      go_ret
      exact ⟨rfl, BW.out⟩
end Go.Proofs.Ytkhcaobmohppnaa.Spc
