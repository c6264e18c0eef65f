/-
  Pieces of a row of pages.
-/
import Derived.Test.YtiiadclcfbghkaaMount
import Derived.Deep.RegionLaw
namespace Go.Proofs.Ytiiadclcfbghkaa.Mnt
open Go.ChangeShapes Go.WideShapes Go.ChangeAt Go.RowKit Words
set_option linter.unusedVariables false

theorem lc_take (l : List Pg) (k : Nat) : (lcells l).take (k * 4) = lcells (l.take k) := flat_take pcells_length l k
theorem lc_drop (l : List Pg) : ∀ k : Nat, (lcells l).drop (k * 4) = lcells (l.drop k) := by
  induction l with
  | nil => intro k; simp [lcells]
  | cons x l ih =>
    intro k
    cases k with
    | zero => simp
    | succ k =>
      show (pcells x ++ lcells l).drop ((k + 1) * 4) = lcells (l.drop k)
      rw [← ih k, List.drop_append, pcells_length, List.drop_eq_nil_of_le (by rw [pcells_length]; omega), List.nil_append]
      congr 1
      omega
/-- The piece from i up to m. -/
theorem Pgs.mid {w : World} {B g o n c i m : Nat} {l : List Pg} (h : Pgs w B (some ⟨g, o, none⟩) n c l) (h1 : i ≤ m) (hm : m ≤ n) : Pgs w B (some ⟨g, o + i * 4, none⟩) (m - i) (c - i) ((l.take m).drop i) := by
  have hl := h.len
  have hle := Words.Rd.le h
  have hmax := Words.Rd.max h
  refine ⟨by rw [lcells_length, List.length_drop, List.length_take, Nat.min_eq_left (by omega)], by omega, by omega, (fun e => by cases e), fun hn => ?_⟩
  obtain ⟨b, o', e, hb, hc⟩ := Words.Rd.row h (by omega)
  injection e with e
  injection e with e1 e2
  subst e1 e2
  refine ⟨g, o + i * 4, rfl, hb, fun j u hu => ?_⟩
  rw [← lc_drop, ← lc_take, List.getElem?_drop, List.getElem?_take] at hu
  split at hu
  · rw [Nat.add_assoc]; exact hc _ u hu
  · cases hu
theorem elem23 : Try.prog.elem 23 = 36 := by simp [Program.elem, Try.underlying23]
theorem run_mid (w : World) (g o n c i m : Nat) (K M : Int) (hK : K = (i : Int)) (hM : M = (m : Int)) (h1 : i ≤ m) (h2 : m ≤ c) (h3 : i < c) :
    (Instr.slice 23 (.slice (some ⟨g, o, none⟩) n c) (some (.int .i64 K)) (some (.int .i64 M)) none).run Try.prog w = .ok (.slice (some ⟨g, o + i * 4, none⟩) (m - i) (c - i)) w := by
  subst hK hM
  obtain ⟨i0, hi0, _, hz1, _⟩ := info_parts info36
  have h := run_slice_lh (P := Try.prog) w 23 (some ⟨g, o, none⟩) n c (by rw [elem23]; exact Try.underlying23) .i64 .i64 (i : Int) (m : Int) (by omega) (by omega) (by omega)
  rw [h, elem23]
  simp [sizeOf, typeInfo, hi0, sliced, hz1, Addr.add]
  rw [if_neg (by omega)]
  split
  · rename_i h5
    rw [h5, Nat.add_zero]
  · rfl
theorem store_16 {W : World} {b : Nat} {z l : List Int} (h : WI W b 22 z) (hz : z.length = l.length) : (storeCells ⟨b, 0, none⟩ (icells l) 0).run Try.prog W = .ok () (W.setCells b 0 (icells l)) := by
  have ht := h.there (n := (icells l).length) (by rw [icells_length, hz])
  have := run_storeCells_cells (P := Try.prog) b 0 (icells l) 0 W (fun j hj => by simpa using (ht j hj).1) (fun j hj => by simpa using (ht j hj).2) (icells_one l)
  exact this
theorem wi_z (w : World) : WI (w.alloc (.cells #[.int .i64 0, .int .i64 0, .int .i64 0, .int .i64 0, .int .i64 0, .int .i64 0, .int .i64 0, .int .i64 0, .int .i64 0, .int .i64 0, .int .i64 0, .int .i64 0, .int .i64 0, .int .i64 0, .int .i64 0, .int .i64 0] 22)) w.heap.size 22 zero16 := WI.new w 22 zero16
end Go.Proofs.Ytiiadclcfbghkaa.Mnt
