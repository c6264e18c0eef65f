/-
  Plain facts of NandBack and NandAgain: a page that was programmed is read; an erased block takes its pages in their order.
-/
import Derived.Test.YtellfblfalpdiaaPerf
namespace Go.Proofs.Ytellfblfalpdiaa.Nand
open Go.ChangeShapes Go.WideShapes Go.ChangeAt Go.RowKit Words

theorem betw_in {x lo hi : Int} (h1 : lo ≤ x) (h2 : x ≤ hi) : betw x lo hi = true := by
  unfold betw
  rw [decide_eq_true h1, decide_eq_true h2]; rfl
theorem within_of {k : Int} {i p : Nat} {d : Int} (hi : i < 8) (hp : p < 4) : within ⟨k, (i : Int), (p : Int), d⟩ = true := by
  unfold within
  rw [betw_in (x := (i : Int)) (lo := 0) (hi := 7) (by omega) (by omega), betw_in (x := (p : Int)) (lo := 0) (hi := 3) (by omega) (by omega)]
  simp
theorem put_at (b : Blk) {p : Nat} (hp : p < 4) (x : Int) (n : Int) : ({ b.put p x with done := n } : Blk).at p = x := by
  have : p = 0 ∨ p = 1 ∨ p = 2 ∨ p = 3 := by omega
  rcases this with h | h | h | h <;> subst h <;> rfl
/-- Programming the next page of a block. -/
structure Next (l : List Blk) (i p : Nat) (d : Int) (m : List Blk) (e : Blk) : Prop where
  err : errOf l ⟨1, (i : Int), (p : Int), d⟩ = 0
  next : nextOf l ⟨1, (i : Int), (p : Int), d⟩ = m
  right : right m = true
  len : m.length = 8
  at_ : m[i]? = some e
  done : e.done = (p : Int) + 1
  page : e.at p = d
theorem next_of {l : List Blk} {i p : Nat} {d : Int} {b : Blk} (hr : right l = true) (hi : i < 8) (hp : p < 4) (hb : l[i]? = some b) (hd : b.done = (p : Int)) : ∃ m e, Next l i p d m e ∧ e = { b.put p d with done := (p : Int) + 1 } ∧ m = l.set i e := by
  have he : errOf l ⟨1, (i : Int), (p : Int), d⟩ = 0 := by
    rw [err_of hr rfl (within_of hi hp) rfl hb]
    unfold blkErr
    simp [hd]
  have hD : doB b ⟨1, (i : Int), (p : Int), d⟩ = { b.put p d with done := (p : Int) + 1 } := by unfold doB; rw [if_pos rfl, hd]; rfl
  obtain ⟨hu, _⟩ := upd_of (l := l) (o := ⟨1, (i : Int), (p : Int), d⟩) rfl hb
  have hn : nextOf l ⟨1, (i : Int), (p : Int), d⟩ = l.set i { b.put p d with done := (p : Int) + 1 } := by unfold nextOf; rw [if_pos he, hu, hD]
  refine ⟨_, _, ⟨he, rfl, next_right he, right_len (next_right he), ?_, rfl, put_at b hp d _⟩, rfl, hn⟩
  rw [hn]
  exact get_set_same hb _
theorem Next.read {l m : List Blk} {i p : Nat} {d : Int} {e : Blk} (h : Next l i p d m e) (hi : i < 8) (hp : p < 4) : errOf m ⟨3, (i : Int), (p : Int), 0⟩ = 0 ∧ dataOf m ⟨3, (i : Int), (p : Int), 0⟩ = d := by
  have he : errOf m ⟨3, (i : Int), (p : Int), 0⟩ = 0 := by
    rw [err_of h.right rfl (within_of hi hp) rfl h.at_]
    unfold blkErr
    simp [h.done]
    omega
  refine ⟨he, ?_⟩
  unfold dataOf
  rw [if_pos he, (upd_of (l := m) (o := ⟨3, (i : Int), (p : Int), 0⟩) rfl h.at_).2]
  unfold datum
  rw [if_pos rfl]
  exact h.page
theorem Next.held {l m : List Blk} {i p : Nat} {d d' : Int} {e : Blk} (h : Next l i p d m e) (hi : i < 8) (hp : p < 4) : errOf m ⟨1, (i : Int), (p : Int), d'⟩ = 6 := by
  rw [err_of h.right rfl (within_of hi hp) rfl h.at_]
  unfold blkErr
  simp [h.done]
  intro hh
  omega
end Go.Proofs.Ytellfblfalpdiaa.Nand
