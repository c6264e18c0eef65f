/-
  What the functions of package cell that make nothing return: walked through the program's text.
-/
import Derived.Test.YtaombamfglljaaaRows
import Derived.Test.YtaombamfglljaaaPlain
import Derived.Test.YtaombamfglljaaaWords
import Derived.Deep.QuietTactic
import Derived.BigQuiet
namespace Go.Proofs.Ytaombamfglljaaa.Cell
open Go.ChangeShapes Go.WideShapes Go.ChangeAt Go.RowKit Words

theorem ret_int {k : IntKind} {a b : Int} (h : a = b) : Ending.returned (.int k a) = .returned (.int k b) := by rw [h]
theorem ret_bool {a b : Bool} (h : a = b) : Ending.returned (.bool a) = .returned (.bool b) := by rw [h]
theorem i64_num {a b : Int} (h : a = b) : Value.int .i64 a = Value.int .i64 b := by rw [h]
theorem and8 (x y : UInt8) : bits BinOp.and IntKind.u8 (x.toNat : Int) (y.toNat : Int) = ((x &&& y).toNat : Int) := by
  rw [u8_and_nat _ _ (byte_lt x) (byte_lt y), UInt8.toNat_and]
theorem or8 (x y : UInt8) : bits BinOp.or IntKind.u8 (x.toNat : Int) (y.toNat : Int) = ((x ||| y).toNat : Int) := by
  rw [u8_or_nat _ _ (byte_lt x) (byte_lt y), UInt8.toNat_or]
theorem andNot8 (x y : UInt8) : bits BinOp.andNot IntKind.u8 (x.toNat : Int) (y.toNat : Int) = ((x &&& ~~~y).toNat : Int) := by
  rw [u8_andNot_nat _ _ (byte_lt x) (byte_lt y), UInt8.toNat_and, not_nat]
theorem ups_test (x y : UInt8) : (bits BinOp.andNot IntKind.u8 (y.toNat : Int) (x.toNat : Int) != 0) = ups x y := by
  rw [andNot8]
  unfold ups
  rw [Bool.eq_iff_iff, bne_iff_ne, bne_iff_ne, ne_eq, ne_eq, ← UInt8.toNat_inj]
  simp

/-- The []bool value reads as the row. -/
def Bts (w : World) (B : Nat) (A : Option Addr) (n c : Nat) (row : List Bool) : Prop := Rd w B 1 A n c (row.map Value.bool)
theorem Bts.len {w : World} {B : Nat} {A : Option Addr} {n c : Nat} {row : List Bool} (h : Bts w B A n c row) : row.length = n := by
  have := Rd.len h
  rw [List.length_map] at this
  omega
theorem Bts.cellAt {w : World} {B : Nat} {A : Option Addr} {n c : Nat} {row : List Bool} (h : Bts w B A n c row) {b o : Nat} (e : A = some ⟨b, o, none⟩) {j : Nat} {x : Bool} (hx : row[j]? = some x) : w.cell? ⟨b, o + j, none⟩ = some (.bool x) := by
  have hj := (List.getElem?_eq_some_iff.1 hx).1
  have hl := Bts.len h
  exact Rd.cellAt h e (by omega) j _ (by rw [List.getElem?_map, hx]; rfl)
theorem Txt.small {w : World} {B : Nat} {A : Option Addr} {n c : Nat} {l : List UInt8} (h : Txt w B A n c l) : n ≤ 9223372036854775807 := by
  have := Rd.le h; have := Rd.max h; unfold maxLen at this; omega

theorem risesAny (B1 B2 : Nat) (A1 A2 : Option Addr) (n c1 c2 : Nat) (a b : List UInt8) (w : World) (h1 : Txt w B1 A1 n c1 a) (h2 : Txt w B2 A2 n c2 b) :
    Calls Try.prog 29 #[.slice A1 n c1, .slice A2 n c2] w fun e w' => e = .returned (.bool (rises a b)) ∧ w = w' := by
  have hm := Txt.small h1
  have H1 := Lib.hid h1
  have H2 := Lib.hid h2
  have L1 := Lib.hid h1.len
  have L2 := Lib.hid h2.len
  clear h1 h2
  go_enter Try.func29, Try.ntmps29
  go_wp2
  go_loop [9] (fun i => ∃ k : Nat, k ≤ n ∧ i = .int .i64 k ∧ ∀ j, j < k → ∀ x y, a[j]? = some x → b[j]? = some y → ups x y = false) (fun i => (n - intOf i).toNat)
  case atStart => exact ⟨0, by omega, rfl, fun j hj => absurd hj (Nat.not_lt_zero _)⟩
  case round =>
    obtain ⟨k, hk, rfl, hinv⟩ := hrel
    have HI := Lib.hid hinv
    clear hinv
    by_cases hlt : k < n
    · obtain ⟨g1, o1, rfl, _, _⟩ := Rd.row H1.out (by omega)
      obtain ⟨g2, o2, rfl, _, _⟩ := Rd.row H2.out (by omega)
      have hx : a[k]? = some (a[k]'(by rw [L1.out]; exact hlt)) := List.getElem?_eq_getElem _
      have hy : b[k]? = some (b[k]'(by rw [L2.out]; exact hlt)) := List.getElem?_eq_getElem _
      generalize a[k]'(by rw [L1.out]; exact hlt) = x at *
      generalize b[k]'(by rw [L2.out]; exact hlt) = y at *
      have hc1 := H1.out.cellAt rfl hx
      have hc2 := H2.out.cellAt rfl hy
      have HX := Lib.hid hx
      have HY := Lib.hid hy
      have hu := ups_test x y
      clear hx hy
      cases hux : ups x y with
      | false =>
        rw [hux] at hu
        have HU := Lib.hid hux
        clear hux
        go_wp2_with fail
        go_round
        case rel => exact ⟨k + 1, by omega, by go_num, fun j hj x' y' hx' hy' => by
          by_cases hjk : j < k
          · exact HI.out j hjk x' y' hx' hy'
          · obtain rfl : j = k := by omega
            have e1 := HX.out; have e2 := HY.out
            rw [e1] at hx'; rw [e2] at hy'
            injection hx' with hx'; injection hy' with hy'
            subst hx' hy'; exact HU.out⟩
        case measure => simp [intOf]; omega
      | true =>
        rw [hux] at hu
        have HU := Lib.hid hux
        clear hux
        go_wp2_with fail
        go_ret
        exact ⟨ret_bool (rises_true.2 ⟨k, x, y, HX.out, HY.out, HU.out⟩).symm, rfl⟩
    · obtain rfl : k = n := by omega
      go_wp2_with fail
      go_ret
      exact ⟨ret_bool (rises_false.2 fun j x y hx hy => HI.out j (by have := (List.getElem?_eq_some_iff.1 hx).1; have := L1.out; omega) x y hx hy).symm, rfl⟩
end Go.Proofs.Ytaombamfglljaaa.Cell
