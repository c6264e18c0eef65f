/-
  What a pair of slots given by value reads as, for a proof's frame.
-/
import Derived.Test.YtpjhihmbgahagaaCon
import Derived.OpenShut
import Derived.RowKit
import Derived.Lib.SmallJoins
namespace Go.Proofs.Ytpjhihmbgahagaa.Twn
open Go.ChangeShapes Go.WideShapes Go.ChangeAt Go.RowKit Words
set_option linter.unusedVariables false

section
variable {H : Type} {enc : TypeId × Value → H} {w : World} {base : Nat} {spare : Nat → Bool} {held : Bool} {fuel : Nat} {cs : List Value} {x : DataW H × List MemPlace}
theorem cells24 : Try.prog.cellsOf 24 = 6 := by kernel_rfl
theorem cells23 : Try.prog.cellsOf 23 = 3 := by kernel_rfl
theorem cells4 : Try.prog.cellsOf 4 = 1 := by kernel_rfl
theorem cells3 : Try.prog.cellsOf 3 = 1 := by kernel_rfl
theorem int_one {v : Value} (h : DataW.trod enc Try.prog w base spare held fuel 3 [v] = some x) : ∃ n, v = .int .i64 n := by
  obtain ⟨n, hc, _⟩ := DataW.trod_int Try.underlying3 h
  injection hc with hc
  exact ⟨n, hc⟩
theorem bool_one {v : Value} (h : DataW.trod enc Try.prog w base spare held fuel 4 [v] = some x) : ∃ n, v = .bool n := by
  obtain ⟨n, hc, _⟩ := DataW.trod_bool Try.underlying4 h
  injection hc with hc
  exact ⟨n, hc⟩
theorem slo_of {c0 c1 c2 : Value} (h : DataW.trod enc Try.prog w base spare held fuel 23 [c0, c1, c2] = some x) : ∃ s : Slo, c0 = .bool s.w ∧ c1 = .int .i64 s.c ∧ c2 = .int .i64 s.d := by
  obtain ⟨ys, n, _, _, hlen, hyl, hf⟩ := DataW.trod_struct Try.underlying23 h
  match ys, hyl with
  | [y0, y1, y2], _ =>
    have h0 : DataW.trod enc Try.prog w base spare held n 4 (([c0, c1, c2].drop 0).take (Try.prog.cellsOf 4)) = some y0 := hf 0 _ rfl
    have h1 : DataW.trod enc Try.prog w base spare held n 3 (([c0, c1, c2].drop 1).take (Try.prog.cellsOf 3)) = some y1 := hf 1 _ rfl
    have h2 : DataW.trod enc Try.prog w base spare held n 3 (([c0, c1, c2].drop 2).take (Try.prog.cellsOf 3)) = some y2 := hf 2 _ rfl
    rw [cells4] at h0
    rw [cells3] at h1 h2
    obtain ⟨a, ha⟩ := bool_one (show DataW.trod enc Try.prog w base spare held n 4 [c0] = some y0 from h0)
    obtain ⟨b, hb⟩ := int_one (show DataW.trod enc Try.prog w base spare held n 3 [c1] = some y1 from h1)
    obtain ⟨c, hc⟩ := int_one (show DataW.trod enc Try.prog w base spare held n 3 [c2] = some y2 from h2)
    exact ⟨⟨a, b, c⟩, ha, hb, hc⟩
theorem st_of {c0 c1 c2 c3 c4 c5 : Value} (h : DataW.trod enc Try.prog w base spare held fuel 24 [c0, c1, c2, c3, c4, c5] = some x) : ∃ s : St, (Value.agg #[c0, c1, c2, c3, c4, c5]) = sv s := by
  obtain ⟨xs, m, _, _, _, hl, hi⟩ := DataW.trod_array Try.underlying24 h
  rw [cells23] at hi
  match xs, hl with
  | [y0, y1], _ =>
    obtain ⟨a, a0, a1, a2⟩ := slo_of (show DataW.trod enc Try.prog w base spare held m 23 [c0, c1, c2] = some y0 from hi 0 (by omega))
    obtain ⟨b, b0, b1, b2⟩ := slo_of (show DataW.trod enc Try.prog w base spare held m 23 [c3, c4, c5] = some y1 from hi 1 (by omega))
    exact ⟨⟨a, b⟩, by rw [a0, a1, a2, b0, b1, b2]; rfl⟩
end
theorem open_st {H : Type} {enc : TypeId × Value → H} {W : World} {v : Value} {d : DataW H} {p : List MemPlace} {r : Reach} {b0 : Nat} (hv : Value.okWide Try.prog W r b0 24 v) (h : DataW.Trod enc Try.prog W 0 (fun _ => true) true 24 v d p) : ∃ s : St, v = sv s := by
  obtain ⟨cs, rfl, hsz⟩ : ∃ cs : Array Value, v = .agg cs ∧ cs.size = Try.prog.cellsOf 24 := by
    simp only [Value.okWide, Try.underlying24] at hv
    obtain ⟨cs, h1, h2, _⟩ := hv
    exact ⟨cs, h1, h2⟩
  rw [cells24] at hsz
  obtain ⟨l⟩ := cs
  obtain ⟨fuel, hf⟩ := h
  match l, hsz with
  | [c0, c1, c2, c3, c4, c5], _ => exact st_of (show DataW.trod enc Try.prog W 0 (fun _ => true) true fuel 24 [c0, c1, c2, c3, c4, c5] = _ from hf)
end Go.Proofs.Ytpjhihmbgahagaa.Twn
