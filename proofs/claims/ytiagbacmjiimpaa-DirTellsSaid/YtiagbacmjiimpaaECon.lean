/-
  What is asked of the program's own functions; the example that the laws run ahead.
-/
import Derived.Test.YtiagbacmjiimpaaEEqs
namespace Go.Proofs.Ytiagbacmjiimpaa.Dir
open Go.ChangeShapes Go.WideShapes Go.ChangeAt Go.RowKit Words Go.Sort
set_option linter.unusedVariables false

/-- The answers. -/
def fe (l : List En) (nm : List UInt8) : Int := if rt l = false then 1 else if has l nm = true then 0 else 3
def fv (l : List En) (nm : List UInt8) : Int := if fe l nm = 0 then fnd l nm else 0
def ae (l : List En) (e : En) : Int := if rt l = false then 1 else if good e.n = false then 2 else if has l e.n = true then 6 else 0
def al (l : List En) (e : En) : List En := if ae l e = 0 then insE e l else []
def re (l : List En) (nm : List UInt8) : Int := if rt l = false then 1 else if has l nm = true then 0 else 3
def rl (l : List En) (nm : List UInt8) : List En := if re l nm = 0 then del l nm else []
def ne (l : List En) (f t : List UInt8) : Int := if rt l = false then 1 else if has l f = false then 3 else if f = t then 0 else if good t = false then 2 else if has l t = true then 6 else 0
def nl (l : List En) (f t : List UInt8) : List En := if ne l f t = 0 then (if f = t then l else insE ⟨t, fnd l f⟩ (del l f)) else []
/-- A list and an error. -/
def Lst (w : World) (l : List En) (x : Int) (e : Ending) (w' : World) : Prop :=
  ∃ A n c, e = .returned (.tuple #[.slice A n c, .int .i64 x]) ∧ l.length = n ∧ OwnEn w' w.heap.size A n c l ∧ Below w.heap.size w w'
structure Con : Prop where
  good : ∀ (nm : List UInt8) (w : World), nm.length ≤ maxLen → Calls Try.prog 12 #[.string (str nm)] w fun e w' => e = .returned (.bool (good nm)) ∧ Below w.heap.size w w'
  right : ∀ (B : Nat) (A : Option Addr) (n c : Nat) (l : List En) (w : World), Ens w B A n c l → WfE l → B ≤ w.heap.size → Calls Try.prog 14 #[.slice A n c] w fun e w' => e = .returned (.bool (rt l)) ∧ Below w.heap.size w w'
  find : ∀ (B : Nat) (A : Option Addr) (n c : Nat) (l : List En) (nm : List UInt8) (w : World), Ens w B A n c l → WfE l → nm.length ≤ maxLen → B ≤ w.heap.size →
    Calls Try.prog 9 #[.slice A n c, .string (str nm)] w fun e w' => e = .returned (.tuple #[.int .i64 (fv l nm), .int .i64 (fe l nm)]) ∧ Below w.heap.size w w'
  add : ∀ (B : Nat) (A : Option Addr) (n c : Nat) (l : List En) (x : En) (w : World), Ens w B A n c l → WfE l → x.n.length ≤ maxLen → n * 24 ≤ 140737488355000 → B ≤ w.heap.size →
    Calls Try.prog 10 #[.slice A n c, eval_ x] w (Lst w (al l x) (ae l x))
  rem : ∀ (B : Nat) (A : Option Addr) (n c : Nat) (l : List En) (nm : List UInt8) (w : World), Ens w B A n c l → WfE l → nm.length ≤ maxLen → n * 24 ≤ 140737488355000 → B ≤ w.heap.size →
    Calls Try.prog 11 #[.slice A n c, .string (str nm)] w (Lst w (rl l nm) (re l nm))
  ren : ∀ (B : Nat) (A : Option Addr) (n c : Nat) (l : List En) (f t : List UInt8) (w : World), Ens w B A n c l → WfE l → f.length ≤ maxLen → t.length ≤ maxLen → n * 24 ≤ 140737488355000 → B ≤ w.heap.size →
    Calls Try.prog 20 #[.slice A n c, .string (str f), .string (str t)] w (Lst w (nl l f t) (ne l f t))
/-! ### what fits -/
theorem good_len {nm : List UInt8} (h : good nm = true) : nm.length ≤ maxLen := by
  have : nm.length ≤ 12 := by
    unfold good at h
    simp only [Bool.and_eq_true, decide_eq_true_iff] at h
    exact h.1.1.1.2
  unfold maxLen
  omega
theorem wf_rt {l : List En} (h : rt l = true) : WfE l := fun e he => good_len ((rt_iff.1 h).1 e he)
theorem wf_nil : WfE [] := fun e he => by cases he
theorem wf_al {l : List En} {x : En} (h : WfE l) (hx : x.n.length ≤ maxLen) : WfE (al l x) := by
  unfold al
  split
  · intro e he
    rcases mem_insE.1 he with rfl | he
    · exact hx
    · exact h e he
  · exact wf_nil
theorem wf_del {l : List En} (h : WfE l) (nm : List UInt8) : WfE (del l nm) := fun e he => h e (List.mem_of_mem_eraseP he)
theorem wf_nl {l : List En} {f t : List UInt8} (h : WfE l) (ht : t.length ≤ maxLen) : WfE (nl l f t) := by
  unfold nl
  split
  · split
    · exact h
    · intro e he
      rcases mem_insE.1 he with rfl | he
      · exact ht
      · exact wf_del h f e he
  · exact wf_nil
def exA : List En := [⟨[98], 2⟩]
def exB : List En := [⟨[97], 1⟩, ⟨[98], 2⟩]
def exC : List En := [⟨[98], 2⟩, ⟨[99], 1⟩]
theorem ex_is : al exA ⟨[97], 1⟩ = exB ∧ ae exA ⟨[97], 1⟩ = 0 ∧ nl exB [97] [99] = exC ∧ ne exB [97] [99] = 0 ∧ fv exC [99] = 1 ∧ fe exC [99] = 0 ∧ good [120, 46, 121] = true ∧ good [46, 46] = false := by decide +kernel
set_option maxHeartbeats 4000000 in
theorem alive21 (CON : Con) (w : World) : Calls Try.prog 21 #[] w fun e w' => e = .returned (.bool true) ∧ Below w.heap.size w w' := by
  obtain ⟨x1, x2, x3, x4, x5, x6, x7, x8⟩ := ex_is
  have hwA : WfE exA := fun e he => by simp [exA] at he; subst he; simp [maxLen]
  have hwB : WfE exB := fun e he => by simp [exB] at he; rcases he with rfl | rfl <;> simp [maxLen]
  have hwC : WfE exC := fun e he => by simp [exC] at he; rcases he with rfl | rfl <;> simp [maxLen]
  have HO : Ens (w.alloc (.cells (lcells exA).toArray 24)) (w.heap.size + 1) (some ⟨w.heap.size, 0, none⟩) 1 1 exA := Words.Rd.new w 24 _ (0, 0) _ 1 (by simp [lcells, exA]) rfl (by unfold maxLen; omega)
  have H1 := CON.add _ _ 1 1 exA ⟨[97], 1⟩ _ HO hwA (by simp [maxLen]) (by omega) (by rw [World.size_alloc]; exact Nat.le_refl _)
  rw [x1, x2] at H1
  have H2 := fun (x : World) (A : Option Addr) (c : Nat) (h : Ens x x.heap.size A 2 c exB) => CON.ren x.heap.size A 2 c exB [97] [99] x h hwB (by simp [maxLen]) (by simp [maxLen]) (by omega) (Nat.le_refl _)
  rw [x3, x4] at H2
  have H3 := fun (x : World) (A : Option Addr) (c : Nat) (h : Ens x x.heap.size A 2 c exC) => CON.find x.heap.size A 2 c exC [99] x h hwC (by simp [maxLen]) (Nat.le_refl _)
  rw [x5, x6] at H3
  have H4 := fun x => CON.good [120, 46, 121] x (by simp [maxLen])
  rw [x7] at H4
  have H5 := fun x => CON.good [46, 46] x (by simp [maxLen])
  rw [x8] at H5
  unfold Lst at H1 H2
  have H1 := Lib.hid H1
  have H2 := Lib.hid H2
  have H3 := Lib.hid H3
  have H4 := Lib.hid H4
  have H5 := Lib.hid H5
  have B1 := Lib.hid (boxed w (.cells (lcells exA).toArray 24))
  clear HO hwA hwB hwC x1 x2 x3 x4 x5 x6 x7 x8
  go_enter Try.func21, Try.ntmps21
  go_wp2_with fail
  refine (H1.out).mono ?_; rintro e w1 ⟨A1, n1, c1, rfl, l1, o1, b1⟩
  obtain rfl : n1 = 2 := l1.symm
  have B2 := Lib.hid (B1.out.trans (b1.mono B1.out.size))
  have R2 := Lib.hid (H2.out w1 A1 c1 o1.gps)
  clear l1 o1 b1
  go_wp2_with fail
  refine (R2.out).mono ?_; rintro e w2 ⟨A2, n2, c2, rfl, l2, o2, b2⟩
  obtain rfl : n2 = 2 := l2.symm
  have B3 := Lib.hid (B2.out.trans (b2.mono B2.out.size))
  have R3 := Lib.hid (H3.out w2 A2 c2 o2.gps)
  have O2 := Lib.hid o2
  clear l2 o2 b2
  go_wp2_with fail
  refine (R3.out).mono ?_; rintro e w3 ⟨rfl, b3⟩
  have B4 := Lib.hid (B3.out.trans (b3.mono B3.out.size))
  have O3 := Lib.hid (O2.out.below b3 (Nat.le_refl _))
  have NG : Ens (w3.alloc (.cells (lcells exC).toArray 24)) (w3.heap.size + 1) (some ⟨w3.heap.size, 0, none⟩) 2 2 exC := Words.Rd.new w3 24 _ (0, 0) _ 2 (by simp [lcells, exC]) rfl (by unfold maxLen; omega)
  have bn := boxed w3 (.cells (lcells exC).toArray 24)
  have B5 := Lib.hid (B4.out.trans (bn.mono B4.out.size))
  have E2 := Lib.hid (equal17_yes _ _ A2 (some ⟨w3.heap.size, 0, none⟩) 2 2 c2 2 _ _ _ (O3.out.below bn (Nat.le_refl _)).gps NG rfl)
  clear NG bn b3
  go_wp2_with fail
  refine (E2.out).mono ?_; rintro e w5 ⟨rfl, L5⟩
  have B6 := Lib.hid (B5.out.trans (L5.below.mono B5.out.size))
  clear L5
  go_wp2_with fail
  refine (H4.out w5).mono ?_; rintro e w6 ⟨rfl, b6⟩
  have B7 := Lib.hid (B6.out.trans (b6.mono B6.out.size))
  clear b6
  go_wp2_with fail
  refine (H5.out w6).mono ?_; rintro e w7 ⟨rfl, b7⟩
  have B8 := Lib.hid (B7.out.trans (b7.mono B7.out.size))
  clear b7
  go_wp2_with fail
  go_ret
  exact ⟨rfl, B8.out⟩
end Go.Proofs.Ytiagbacmjiimpaa.Dir
