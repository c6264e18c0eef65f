/-
  The small test that the code is not empty returns true.
-/
import Derived.Test.YtkoakfbdhehndaaOpens
namespace Go.Proofs.Ytkoakfbdhehndaa.Crc
open Go.ChangeShapes Go.WideShapes Go.ChangeAt Go.RowKit Words

def nine : List UInt8 := [49, 50, 51, 52, 53, 54, 55, 56, 57]
theorem nine_sum : sum 65535 nine = 10673 := by decide +kernel
theorem nine_sealed : sealed_ nine = nine ++ [41, 177] := sealed_of nine 41 177 (by rw [nine_sum]; rfl)
theorem one_sum : sum 0 [1] = 4129 := by decide +kernel
def nineCells : Array Value := #[.int .u8 49, .int .u8 50, .int .u8 51, .int .u8 52, .int .u8 53, .int .u8 54, .int .u8 55, .int .u8 56, .int .u8 57]
set_option maxHeartbeats 2000000 in
theorem alive (w : World) : Calls Try.prog 15 #[] w fun e w' => e = .returned (.bool true) ∧ Below w.heap.size w w' := by
  have h0 : Txt (w.alloc (.cells nineCells 5 (9, 10))) (w.heap.size + 1) (some ⟨w.heap.size, 0, none⟩) 9 9 nine := Rd.new w 5 nineCells (9, 10) _ 9 rfl rfl (by decide)
  have HS := Lib.hid (sealAny _ _ 9 9 nine _ h0 (by simp) (by decide))
  have hb0 : Below w.heap.size w (w.alloc (.cells nineCells 5 (9, 10))) := (Below.refl _ _).alloc (Nat.le_refl _) _
  clear h0
  have hcv : (convert 23 23 (.slice (some ⟨w.heap.size, 0, none⟩) 9 9)).run Try.prog (w.alloc (.cells #[.int .u8 49, .int .u8 50, .int .u8 51, .int .u8 52, .int .u8 53, .int .u8 54, .int .u8 55, .int .u8 56, .int .u8 57] 5)) = .ok (.slice (some ⟨w.heap.size, 0, none⟩) 9 9) (w.alloc (.cells nineCells 5 (9, 10))) :=
    Lib.run_convert_bytes_const w 23 5 nineCells 9 9 Try.underlying23 Try.underlying5
  go_enter Try.func15, Try.ntmps15
  go_wp2_with fail
  refine (HS.out).mono ?_; rintro e w1 ⟨A1, c1, he, hown1, hbel1⟩
  have hlen : (sealed_ nine).length = 11 := by rw [nine_sealed]; rfl
  rw [hlen] at he hown1
  rw [nine_sealed] at hown1
  clear hcv
  obtain ⟨g1, c1', hv, _, hg1⟩ := own_form_pos hown1 (by decide)
  injection hv with hv1 _ hv3
  subst hv1 hv3
  unfold two at he
  subst he
  have h1 : Txt w1 w1.heap.size (some ⟨g1, 0, none⟩) 11 c1 (nine ++ [41, 177]) := Rd.of_own hown1
  have HO := Lib.hid (openAny w1.heap.size (some ⟨g1, 0, none⟩) 11 c1 nine 41 177 w1 h1 (Nat.le_refl _) (by decide))
  have hc9 : w1.cell? ⟨g1, 0 + 9, none⟩ = some (.int .u8 41) := h1.cellAt (x := 41) rfl rfl
  have hc10 : w1.cell? ⟨g1, 0 + 10, none⟩ = some (.int .u8 177) := h1.cellAt (x := 177) rfl rfl
  go_wp2_with fail
  refine (HO.out).mono ?_; rintro e w2 ⟨hop, _⟩
  obtain ⟨A2, c2, he, hown2, hbel2⟩ := hop nine_sum
  clear hop
  unfold two at he
  subst he
  have hb2 : Below w.heap.size w w2 := (hb0.trans (hbel1.mono (by simp))).trans (hbel2.mono (by have := hbel1.size; simp at this; omega))
  have hd9 : w2.cell? ⟨g1, 9, none⟩ = some (.int .u8 41) := (hbel2.cell (p := ⟨g1, 9, none⟩) hg1).trans hc9
  have hd10 : w2.cell? ⟨g1, 10, none⟩ = some (.int .u8 177) := (hbel2.cell (p := ⟨g1, 10, none⟩) hg1).trans hc10
  have hcs : (convert 23 9 (.slice A2 nine.length c2)).run Try.prog w2 = .ok (.string (str nine)) w2 := run_string w2 23 9 5 Try.underlying23 Try.underlying5 Try.underlying9 (Rd.of_own hown2)
  have hbq : (str nine).toList = [49, 50, 51, 52, 53, 54, 55, 56, 57] := str_list nine
  have HB := Lib.hid hb2
  have h3 : Txt (w2.alloc (.cells #[.int .u8 1] 5)) (w2.heap.size + 1) (some ⟨w2.heap.size, 0, none⟩) 1 1 [1] := Rd.new w2 5 _ _ _ 1 rfl rfl (by decide)
  have HS3 := Lib.hid (sumOf 0 (by decide) _ _ 1 1 [1] _ h3)
  rw [one_sum] at HS3
  clear hb2 hb0 hbel1 hbel2 hc9 hc10 h1 h3 HO HS hown1 hown2
  go_wp2_with fail
  refine (HS3.out).mono ?_; rintro e w' ⟨rfl, rfl⟩
  go_wp2_with fail
  go_ret
  exact ⟨rfl, HB.out.alloc HB.out.size _⟩
end Go.Proofs.Ytkoakfbdhehndaa.Crc
