/-
  Whether a name is good, a list valid: the document's own.
-/
import Derived.Test.YtiagbacmjiimpaaEMem
import Derived.Laws.IdiomStrings
import Derived.Laws.Cover1
namespace Go.Proofs.Ytiagbacmjiimpaa.Dir
open Go.ChangeShapes Go.WideShapes Go.ChangeAt Go.RowKit Words Go.Sort
set_option linter.unusedVariables false

theorem str_size (l : List UInt8) : (str l).size = l.length := by show l.toArray.size = _; simp
theorem list_beq {a b : List UInt8} : (a == b) = decide (a = b) := by rw [Bool.eq_iff_iff, beq_iff_eq, decide_eq_true_iff]
/-- The bytes of a name, made anew. -/
theorem conv_name (nm : List UInt8) (w : World) : ∃ G W, (convert 9 47 (.string (str nm))).run Try.prog w = .ok (.slice (some ⟨w.heap.size, 0, none⟩) nm.length G) W ∧
    (∀ j x, nm[j]? = some x → W.cell? ⟨w.heap.size, j, none⟩ = some (.int .u8 (x.toNat : Int))) ∧ Below w.heap.size w W := by
  have h := run_bytes_of_string (P := Try.prog) w 9 47 5 (str nm) Try.underlying9 Try.underlying47 Try.underlying5
  rw [str_size] at h
  refine ⟨_, _, h, fun j x hx => ?_, (Below.refl _ _).drew.alloc (Nat.le_refl _) _⟩
  have hj := (List.getElem?_eq_some_iff.1 hx).1
  have hj2 : j < (str nm).data.size := by show j < nm.toArray.size; simpa using hj
  have hc := bytesRow_at (str nm) (grownCap w nm.length 0 5) j hj2
  rw [cell_of_row _ w.heap.size j _ 5 _ (heap_alloc_new w.drew _), hc]
  have : (str nm).data[j] = x := by
    show nm.toArray[j]'(by simpa using hj) = x
    simpa using (List.getElem?_eq_some_iff.1 hx).2
  rw [this]
def g0 (nm : List UInt8) : Bool := decide (1 ≤ nm.length) && decide (nm.length ≤ 12) && !(nm == [46]) && !(nm == [46, 46])
theorem good_is (nm : List UInt8) : good nm = (g0 nm && nm.all okB) := rfl
theorem next_all {nm : List UInt8} {k : Nat} {b : UInt8} (h : nm[k]? = some b) : (nm.take (k + 1)).all okB = ((nm.take k).all okB && okB b) := by
  rw [List.take_add_one, h]; simp
theorem okB_nat (b : UInt8) : okB b = ((((b.toNat : Nat) : Int) != 0) && (((b.toNat : Nat) : Int) != 47)) := by
  have h1 : (b == 0) = (((b.toNat : Nat) : Int) == 0) := by
    rw [Bool.eq_iff_iff, beq_iff_eq, beq_iff_eq, ← UInt8.toNat_inj]
    simp
  have h2 : (b == 47) = (((b.toNat : Nat) : Int) == 47) := by
    rw [Bool.eq_iff_iff, beq_iff_eq, beq_iff_eq, ← UInt8.toNat_inj]
    show b.toNat = 47 ↔ _
    omega
  unfold okB
  rw [bne, bne, bne, bne, h1, h2]
set_option maxHeartbeats 2000000 in
theorem ogood13 (nm : List UInt8) (w : World) (hl : nm.length ≤ maxLen) : Calls Try.prog 13 #[.string (str nm)] w fun e w' => e = .returned (.bool (good nm)) ∧ Below w.heap.size w w' := by
  have HL := Lib.hid hl
  have hl2 : nm.length ≤ 9223372036854775807 := by unfold maxLen at hl; exact hl
  have hsz := str_size nm
  have hst := str_list nm
  have e1 : (str [46]).toList = [46] := str_list _
  have e2 : (str [46, 46]).toList = [46, 46] := str_list _
  obtain ⟨G, W1, hcv, hrd, hbl⟩ := conv_name nm w
  have HR := Lib.hid hrd
  have HB := Lib.hid hbl
  have HG : Hid (g0 nm = (decide (1 ≤ nm.length) && decide (nm.length ≤ 12) && !(nm == [46]) && !(nm == [46, 46]))) := Lib.hid rfl
  have HGI := Lib.hid (good_is nm)
  clear hrd hbl hl
  go_enter Try.func13, Try.ntmps13
  go_upto_region 1 with fail
  go_cut [3] (fun u wx => u = .bool (g0 nm) ∧ wx = w)
  case first =>
    by_cases t1 : 1 ≤ nm.length
    · by_cases t2 : nm.length ≤ 12
      · by_cases t3 : nm = [46]
        · have HV : Hid (g0 nm = false) := Lib.hid (by rw [t3]; rfl)
          have t3' : (nm == [46]) = true := by rw [beq_iff_eq]; exact t3
          clear t3
          go_wp2_with fail
          go_meet
          exact ⟨bool_val HV.out.symm, rfl⟩
        · by_cases t4 : nm = [46, 46]
          · have HV : Hid (g0 nm = false) := Lib.hid (by rw [t4]; rfl)
            have t3' : (nm == [46]) = false := by rw [beq_eq_false_iff_ne]; exact t3
            have t4' : (nm == [46, 46]) = true := by rw [beq_iff_eq]; exact t4
            clear t4 t3
            go_wp2_with fail
            go_meet
            exact ⟨bool_val HV.out.symm, rfl⟩
          · have t3' : (nm == [46]) = false := by rw [beq_eq_false_iff_ne]; exact t3
            have t4' : (nm == [46, 46]) = false := by rw [beq_eq_false_iff_ne]; exact t4
            have HV : Hid (g0 nm = true) := Lib.hid (by rw [HG.out, t3', t4']; simp [t1, t2])
            clear t4 t3
            go_wp2_with fail
            go_meet
            exact ⟨bool_val HV.out.symm, rfl⟩
      · have HV : Hid (g0 nm = false) := Lib.hid (by rw [HG.out]; simp [t2])
        go_wp2_with fail
        go_meet
        exact ⟨bool_val HV.out.symm, rfl⟩
    · have HV : Hid (g0 nm = false) := Lib.hid (by rw [HG.out]; simp [t1])
      go_wp2_with fail
      go_meet
      exact ⟨bool_val HV.out.symm, rfl⟩
  case rest =>
    obtain ⟨rfl, rfl⟩ := hcut
    generalize hu : g0 nm = u at *
    clear HG hst e1 e2 hu
    go_wp2_with fail
    go_loopw [3, 25] (fun v i wr => ∃ k : Nat, i = .int .i64 k ∧ k ≤ nm.length ∧ v = .bool (u && (nm.take k).all okB) ∧ wr = W1) (fun _ i _ => (nm.length - intOf i).toNat)
    case atStart => exact ⟨0, rfl, by omega, by simp, rfl⟩
    case round =>
      obtain ⟨k, rfl, hk, rfl, rfl⟩ := hrel
      by_cases hlt : k < nm.length
      · obtain ⟨b, hb⟩ : ∃ b, nm[k]? = some b := ⟨_, List.getElem?_eq_getElem hlt⟩
        have c0 := HR.out k b hb
        have HN := Lib.hid (next_all hb)
        have HO := Lib.hid (okB_nat b)
        generalize hp : (u && (nm.take k).all okB) = p
        have HP : Hid ((u && (nm.take (k + 1)).all okB) = (p && okB b)) := Lib.hid (by rw [HN.out, ← hp, Bool.and_assoc])
        generalize ((b.toNat : Nat) : Int) = x at *
        generalize okB b = ob at *
        clear hb hp HN
        cases p with
        | false =>
          go_wp2_with fail
          go_roundw
          case rel => exact ⟨k + 1, by go_num, by omega, bool_val (by rw [HP.out]; rfl), trivial⟩
          case measure => simp [intOf]; omega
        | true =>
          cases e1 : (x == 0) with
          | true =>
            have HQ : Hid ((u && (nm.take (k + 1)).all okB) = false) := Lib.hid (by rw [HP.out, HO.out, bne, e1]; rfl)
            have e1n : (x != 0) = false := by rw [bne, e1]; rfl
            go_wp2_with fail
            go_roundw
            case rel => exact ⟨k + 1, by go_num, by omega, bool_val HQ.out.symm, trivial⟩
            case measure => simp [intOf]; omega
          | false =>
            have HQ : Hid ((u && (nm.take (k + 1)).all okB) = (x != 47)) := Lib.hid (by rw [HP.out, HO.out, bne, e1]; rfl)
            have e1n : (x != 0) = true := by rw [bne, e1]; rfl
            go_wp2_with fail
            go_roundw
            case rel => exact ⟨k + 1, by go_num, by omega, bool_val HQ.out.symm, trivial⟩
            case measure => simp [intOf]; omega
      · obtain rfl : k = nm.length := by omega
        have HF : Hid ((u && (nm.take nm.length).all okB) = (u && nm.all okB)) := Lib.hid (by rw [List.take_length])
        go_wp2_with fail
        go_ret
        exact ⟨ret_bool (by rw [HF.out, HGI.out]), HB.out⟩
end Go.Proofs.Ytiagbacmjiimpaa.Dir
