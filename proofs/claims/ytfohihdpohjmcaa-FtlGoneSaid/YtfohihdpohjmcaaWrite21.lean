/-
  What write returns: room is made, the data are programmed.
-/
import Derived.Test.YtfohihdpohjmcaaClean24
import Derived.Deep.QuietTactic
import Derived.BigQuiet
namespace Go.Proofs.Ytfohihdpohjmcaa.Ftl
open Go.ChangeShapes Go.WideShapes Go.ChangeAt Go.RowKit Words
open Nand (Blk Nop OwnFl errOf nextOf dataOf oval)
set_option linter.unusedVariables false

/-- A measure out of a relation that has one: the least that fits. -/
theorem least_of (p : Nat → Prop) (n : Nat) (h : p n) : ∃ m, p m ∧ ∀ k, p k → m ≤ k := by
  induction n using Nat.strongRecOn with
  | _ n ih =>
    by_cases hx : ∃ k, k < n ∧ p k
    · obtain ⟨k, hk, hp⟩ := hx
      exact ih k hk hp
    · exact ⟨n, h, fun k hk => by
        rcases Nat.lt_or_ge k n with h1 | h1
        · exact absurd ⟨k, h1, hk⟩ hx
        · exact h1⟩
theorem measure_of {α : Type} (p : α → Nat → Prop) : ∃ μ : α → Nat, ∀ x m, p x m → p x (μ x) ∧ μ x ≤ m := by
  have h : ∀ x, ∃ m, (∃ k, p x k) → p x m ∧ ∀ k, p x k → m ≤ k := fun x => by
    by_cases hx : ∃ k, p x k
    · obtain ⟨k, hk⟩ := hx
      obtain ⟨m, h1, h2⟩ := least_of (p x) k hk
      exact ⟨m, fun _ => ⟨h1, h2⟩⟩
    · exact ⟨0, fun h => absurd h hx⟩
  refine ⟨fun x => Classical.choose (h x), fun x m hm => ?_⟩
  have := Classical.choose_spec (h x) ⟨m, hm⟩
  exact ⟨this.1, this.2 m hm⟩
/-- How far the making of room may still go. -/
def Left (base g X E0 : Nat) (s : Sto) (w wr : World) (m : Nat) : Prop := ∃ l pl T E q, WI2 base g X E0 s w wr l pl T E q ∧ m + E = E0 + 6
theorem Left.next {base g X E0 T E m : Nat} {s : Sto} {w wr : World} {l : List Blk} {pl : List Int} {q : Pos} (h : WI2 base g X E0 s w wr l pl T (E + 1) q) (hm : m + E = E0 + 6) : ∃ m', m' < m ∧ Left base g X E0 s w wr m' := by
  have := h.room.lim
  exact ⟨m - 1, by omega, l, pl, T, E + 1, q, h, by omega⟩
theorem WI2.here {base g X E0 T E : Nat} {s : Sto} {w wr : World} {l : List Blk} {pl : List Int} {q : Pos} (h : WI2 base g X E0 s w wr l pl T E q) (n : Nat) : WI2 base g X E0 s (wr.drewN n) (wr.drewN n) l pl T E q := ⟨h.ring, h.room, h.dv.drewN n, Fr.refl _ _ _⟩
theorem WI2.on {base g X E0 T E T' E' : Nat} {s : Sto} {w wr x : World} {l l' : List Blk} {pl pl' : List Int} {q q' : Pos} (h : WI2 base g X E0 s w wr l pl T E q) (n : Nat) (h2 : WI2 base g X E0 s (wr.drewN n) x l' pl' T' E' q') : WI2 base g X E0 s w x l' pl' T' E' q' := ⟨h2.ring, h2.room, h2.dv, (h.fr.drewN n).trans h2.fr⟩
def Wrote (base g : Nat) (s : Sto) (T E n : Nat) (v : Int) (w : World) (e : Ending) (w' : World) : Prop :=
  e = .returned (.tuple #[]) ∧ ∃ l' pl' T' E' q', Ring l' pl' T' E' q' (upd s n (some v)) ∧ T' ≤ 4 * (E' + 7) ∧ T + 1 ≤ T' ∧ E' ≤ E + 5 ∧ DV w' base g l' pl' ((T' % 32 : Nat) : Int) ∧ Fr base g w w'
set_option maxHeartbeats 8000000 in
theorem write21 (base g : Nat) (s : Sto) (l : List Blk) (pl : List Int) (T E : Nat) (q : Pos) (n : Nat) (v : Int) (w : World) (R : Ring l pl T E q s) (hT : T ≤ 4 * (E + 7)) (hE : E + 5 ≤ 8000) (d : DV w base g l pl ((T % 32 : Nat) : Int)) (hs : base ≤ w.heap.size) (hn : n < 16) :
    Calls Try.prog 21 #[.pointer (some ⟨g, 0, none⟩), .int .i64 n, .int .i64 v] w (Wrote base g s T E n v w) := by
  obtain ⟨μ, hμ⟩ := measure_of (Left base g T E s w)
  have MU := Lib.hid hμ
  have I0 : Hid (WI2 base g T E s w w l pl T E q) := Lib.hid ⟨R, room_start R hT, d, Fr.refl _ _ _⟩
  clear hμ R hT d
  go_enter Try.func21, Try.ntmps21
  go_wp2_with fail
  go_loopw [] (fun wr => ∃ m, Left base g T E s w wr m) (fun wr => μ wr)
  case atStart => exact ⟨6, l, pl, T, E, q, I0.out, by omega⟩
  case round =>
    obtain ⟨m0, hm0⟩ := hrel
    obtain ⟨⟨l1, pl1, T1, E1, q1, J, hm⟩, hle⟩ := MU.out _ _ hm0
    have J := Lib.hid J
    obtain ⟨m, hmm⟩ : ∃ m, m = μ wr := ⟨_, rfl⟩
    rw [← hmm] at hm ⊢
    clear hm0 hle I0 hmm
    obtain ⟨r, c, d⟩ := J.out.dv
    obtain ⟨b, hb⟩ := J.out.ring.get (i := (T1 / 4 + 1) % 8) (by omega)
    have hah := J.out.ring.ahead J.out.room.hi hb
    have q0 := d.flash
    obtain ⟨_, _, _, _, q4, _⟩ := d.row.cells hb
    have hi8 : (T1 / 4 + 1) % 8 < 8 := by omega
    have HA : Hid (∀ j, Calls Try.prog 23 #[.pointer (some ⟨g, 0, none⟩)] (wr.drewN j) fun e w' => e = .returned (.int .i64 ((T1 / 4 + 1) % 8 : Nat)) ∧ ∃ m, w' = wr.drewN m) := Lib.hid (fun j =>
      (ahead23 base g l1 pl1 (T1 % 32) (wr.drewN j) (J.out.dv.drewN j) (by omega)).mono fun e w' ⟨h1, h2⟩ => ⟨by rw [h1]; congr 3; omega, j, h2⟩)
    obtain ⟨i, hii⟩ : ∃ i, i = (T1 / 4 + 1) % 8 := ⟨_, rfl⟩
    rw [← hii] at hi8 HA q4
    have HII := Lib.hid hii
    clear hii
    clear d hb
    by_cases hd : 0 < b.done
    · have hT1 := Lib.hid (hah.1 hd)
      have hi2 : i = E1 % 8 := by have := hT1.out; have := HII.out; omega
      have hE1 : E1 + 1 ≤ 8000 := by have := (J.out.room.full hT1.out).2; omega
      have HCL := Lib.hid (fun k => clean24 base g T E s l1 pl1 T1 E1 q1 (wr.drewN k) (J.out.here k) (Nat.le_trans hs J.out.fr.size) hT1.out hE1)
      rw [← hi2] at HCL
      have HN := Lib.hid (fun k x l' pl' T' q' h2 => Left.next (J.out.on k (x := x) (l' := l') (pl' := pl') (T' := T') (E' := E1 + 1) (q' := q') h2) hm)
      clear hah hi2 hE1 hm
      go_wp2_with fail
      go_quiet ((go_at_call 23; exact HA.out _))
      go_wp2_with fail
      refine (HA.out _).mono ?_; rintro e x1 ⟨rfl, mq, rfl⟩
      go_wp2_with fail
      refine (HCL.out _).mono ?_; rintro e x2 ⟨rfl, l2, pl2, T2, q2, J2⟩
      obtain ⟨m2, hm2, JN⟩ := HN.out _ _ _ _ _ _ J2
      have JM := MU.out _ _ JN
      have JN := Lib.hid JN
      have hlt : μ x2 < m := Nat.lt_of_le_of_lt JM.2 hm2
      clear J2 JM hm2
      go_wp2_with fail
      go_roundw
      case rel => exact ⟨_, JN.out⟩
      case measure => exact hlt
    · have hT1 : T1 < 4 * (E1 + 7) := by
        rcases Nat.lt_or_ge T1 (4 * (E1 + 7)) with h1 | h1
        · exact h1
        · have := J.out.room.hi; exact absurd (hah.2 (by omega)) hd
      have hlo := J.out.ring.lo
      have hrp := J.out.ring.program (by omega) hn v
      have hcnt := J.out.room.cnt
      have hlim := J.out.room.lim
      have HPR := Lib.hid (fun k => program25 base g l1 pl1 T1 n v (wr.drewN k) (J.out.dv.drewN k) (Nat.le_trans hs J.out.fr.size) hn (J.out.ring.program_err (by omega) v))
      have JF := Lib.hid (fun k x (dx : DV x base g (nextOf l1 (opP T1 v)) (pl1.set n ((T1 % 32 : Nat) : Int)) (((T1 + 1) % 32 : Nat) : Int)) (fx : Fr base g (wr.drewN k) x) =>
        (show Wrote base g s T E n v w (.returned (.tuple #[])) x from ⟨rfl, _, _, _, _, _, hrp, by omega, by omega, hlim, dx, (J.out.fr.drewN k).trans fx⟩))
      have hd2 : ¬ 0 < b.done := hd
      clear hah hT1 hlo hrp hcnt hlim hm hd
      go_wp2_with fail
      go_quiet ((go_at_call 23; exact HA.out _))
      go_wp2_with fail
      refine (HPR.out _).mono ?_; rintro e x2 ⟨rfl, d2, f2⟩
      have HW := Lib.hid (JF.out _ _ d2 f2)
      clear d2 f2
      go_wp2_with fail
      go_end0
      exact HW.out
end Go.Proofs.Ytfohihdpohjmcaa.Ftl
