/-
  Where a name is: the document's own.
-/
import Derived.Test.YtiagbacmjiimpaaEEqs
namespace Go.Proofs.Ytiagbacmjiimpaa.Dir
open Go.ChangeShapes Go.WideShapes Go.ChangeAt Go.RowKit Words Go.Sort
set_option linter.unusedVariables false

/-- The first place with the name, or -1. -/
def At (l : List En) (nm : List UInt8) (v : Int) : Prop := (∃ k : Nat, v = k ∧ k < l.length ∧ (eth l k).n = nm ∧ ∀ j, j < k → (eth l j).n ≠ nm) ∨ (v = -1 ∧ has l nm = false)
theorem at_no {l : List En} {nm : List UInt8} (h : ∀ j, j < l.length → (eth l j).n ≠ nm) : has l nm = false := by
  rw [← Bool.not_eq_true, has_iff]
  rintro ⟨e, he, hn⟩
  obtain ⟨j, hj⟩ := List.mem_iff_getElem?.1 he
  have := (List.getElem?_eq_some_iff.1 hj).1
  exact h j this (by rw [eth_of hj]; exact hn)
theorem clo26 (x : En) (g : Nat) (nm : List UInt8) (w : World) (h1 : w.cell? ⟨g, 0, none⟩ = some (.string (str nm))) :
    Calls Try.prog 28 #[eval_ x, .pointer (some ⟨g, 0, none⟩)] w fun e w' => e = .returned (.bool (x.n == nm)) ∧ Below w.heap.size w w' := by
  obtain ⟨xn, xi⟩ := x
  unfold eval_
  simp only
  have hg1 : g < w.heap.size := World.block_lt_of_cell? w ⟨g, 0, none⟩ h1
  have k1 : (w.alloc (.cells #[.string (str xn), .int .i64 xi] 24)).cell? ⟨g, 0, none⟩ = some (.string (str nm)) := (World.cell?_alloc_lt w _ _ hg1).trans h1
  have BB := Lib.hid (boxed w (.cells #[.string (str xn), .int .i64 xi] 24))
  have s1 := str_list xn
  have s2 := str_list nm
  go_enter Try.func28, Try.ntmps28
  go_wp2_with fail
  go_ret
  exact ⟨rfl, BB.out⟩
set_option maxHeartbeats 2000000 in
theorem index25 (g : Nat) (nm : List UInt8) (B : Nat) (A : Option Addr) (n c : Nat) (l : List En) (w : World) (h : Ens w B A n c l) (hB : B ≤ w.heap.size) (hg : w.cell? ⟨g, 0, none⟩ = some (.string (str nm))) :
    Calls Try.prog 27 #[.slice A n c, .func (.func 28) #[] #[.pointer (some ⟨g, 0, none⟩)]] w fun e w' => ∃ v, e = .returned (.int .i64 v) ∧ At l nm v ∧ Below w.heap.size w w' := by
  have hm := Rd.small h
  have H := Lib.hid h
  have L := Lib.hid h.len
  have hgl : g < w.heap.size := World.block_lt_of_cell? w ⟨g, 0, none⟩ hg
  have HC := Lib.hid (fun (x : En) (wr : World) (b : Below w.heap.size w wr) => clo26 x g nm wr (by rw [b.cell (p := ⟨g, 0, none⟩) hgl]; exact hg))
  clear h hg hgl
  go_enter Try.func27, Try.ntmps27
  go_wp2_with fail
  go_loopw [8] (fun i wr => ∃ k : Nat, k ≤ n ∧ i = .int .i64 k ∧ (∀ j, j < k → (eth l j).n ≠ nm) ∧ Below w.heap.size w wr) (fun i _ => (n - intOf i).toNat)
  case atStart => exact ⟨0, by omega, rfl, fun j hj => absurd hj (by omega), Below.refl _ _⟩
  case round =>
    obtain ⟨k, hk, rfl, hinv, hbel⟩ := hrel
    have HI := Lib.hid hinv
    have HB := Lib.hid hbel
    clear hinv hbel
    by_cases hlt : k < n
    · obtain ⟨g', o, rfl, _, _⟩ := Words.Rd.row H.out (by omega)
      have HK : Hid (k < l.length) := Lib.hid (by rw [L.out]; exact hlt)
      obtain ⟨c0, c1⟩ := Ens.cells (Words.Rd.below H.out HB.out hB) rfl (eth_get HK.out)
      have HD := HC.out (eth l k) wr HB.out
      have HY := Lib.hid (fun (e : (eth l k).n = nm) => show At l nm k from .inl ⟨k, rfl, HK.out, e, HI.out⟩)
      have HX := Lib.hid (fun (e : (eth l k).n ≠ nm) => show ∀ j, j < k + 1 → (eth l j).n ≠ nm from fun j hj => by
        by_cases hjk : j = k
        · subst hjk; exact e
        · exact HI.out j (by omega))
      obtain ⟨⟨xn, xi⟩, hx⟩ : ∃ x, x = eth l k := ⟨_, rfl⟩
      rw [← hx] at c0 c1 HD HY HX
      unfold eval_ at HD
      simp only at c0 c1 HD HY HX
      clear hx
      by_cases hz : xn = nm
      · have h1 := Lib.hid (HY.out hz)
        rw [show (xn == nm) = true by rw [beq_iff_eq]; exact hz] at HD
        have HD := Lib.hid HD
        clear hz
        go_wp2_with fail
        refine (HD.out).mono ?_; rintro e w' ⟨rfl, hb⟩
        have HB2 := Lib.hid (HB.out.trans (hb.mono HB.out.size))
        clear hb c0 c1
        go_wp2_with fail
        go_ret
        exact ⟨_, rfl, h1.out, HB2.out⟩
      · have h1 := Lib.hid (HX.out hz)
        rw [show (xn == nm) = false by rw [beq_eq_false_iff_ne]; exact hz] at HD
        have HD := Lib.hid HD
        clear hz
        go_wp2_with fail
        refine (HD.out).mono ?_; rintro e w' ⟨rfl, hb⟩
        have HB2 := Lib.hid (HB.out.trans (hb.mono HB.out.size))
        clear hb c0 c1
        go_wp2_with fail
        go_roundw
        case rel => exact ⟨k + 1, by omega, by go_num, h1.out, HB2.out⟩
        case measure => simp [intOf]; omega
    · obtain rfl : k = n := by omega
      have h1 : Hid (At l nm (-1)) := Lib.hid (.inr ⟨rfl, at_no (by rw [L.out]; exact HI.out)⟩)
      go_wp2_with fail
      go_ret
      exact ⟨_, rfl, h1.out, HB.out⟩
theorem at16 (nm : List UInt8) (B : Nat) (A : Option Addr) (n c : Nat) (l : List En) (w : World) (h : Ens w B A n c l) (hB : B ≤ w.heap.size) :
    Calls Try.prog 16 #[.slice A n c, .string (str nm)] w fun e w' => ∃ v, e = .returned (.int .i64 v) ∧ At l nm v ∧ Below w.heap.size w w' := by
  have hg : Whole (w.alloc (.cells #[.string (str nm)] 9)) w.heap.size 9 #[.string (str nm)] := Whole.new w 9 _
  have bx := boxed w (.cells #[.string (str nm)] 9)
  have HI := Lib.hid (index25 w.heap.size nm B A n c l (w.alloc (.cells #[.string (str nm)] 9)) (Words.Rd.below h bx hB) (Nat.le_trans hB bx.size) (by rw [hg.cell]; rfl))
  have BX := Lib.hid bx
  clear h bx hg
  go_enter Try.func16, Try.ntmps16
  go_wp2_with fail
  refine (HI.out).mono ?_; rintro e w' ⟨v, rfl, hv, hb⟩
  have HV := Lib.hid hv
  have HB2 := Lib.hid (BX.out.trans (hb.mono BX.out.size))
  clear hv hb
  go_wp2_with fail
  go_ret
  exact ⟨_, rfl, HV.out, HB2.out⟩
end Go.Proofs.Ytiagbacmjiimpaa.Dir
