/-
  Blocks given back that are free already: the program's own.
-/
import Derived.Test.YtkhcaobmohppnaaDGv
namespace Go.Proofs.Ytkhcaobmohppnaa.Spc
open Go.ChangeShapes Go.WideShapes Go.ChangeAt Go.RowKit Words Go.Sort
set_option linter.unusedVariables false

set_option maxHeartbeats 8000000 in
set_option maxRecDepth 100000 in
theorem give_held (base g i n c : Nat) (s : Int) (A : Option Addr) (l : List Gp) (a m : Int) (w : World) (d : RD w base g s A n c l) (hcnt : Cnt l a i) (hin : i < n) (hR : (gth l i).a < a + m) (hl : ∀ x ∈ l, 0 ≤ x.a ∧ 1 ≤ x.m ∧ x.a + x.m ≤ 4096) (ha : 0 ≤ a) (hm : 1 ≤ m) (ham : a + m ≤ 4096) (hb : base ≤ w.heap.size) (hn : n ≤ 5000) :
    Calls Try.prog 39 #[.pointer (some ⟨g, 0, none⟩), .agg #[.int .i64 a, .int .i64 m]] w fun e w' => e = .returned (aval 6 0) ∧ Below w.heap.size w w' := by
  have mx := mixedO
  have HLL := Lib.hid d.row.len
  have HLF := Lib.hid hl
  have HC := Lib.hid hcnt
  obtain ⟨r, rfl, _, _⟩ := d.row.addr (by omega)
  have G0 := Lib.hid (GV.start (a := a) (m := m) d hb)
  have HB41 := Lib.hid (fun (x : World) (h : GV base g s (some ⟨r, 0, none⟩) n c l w a m x) => before41 base g n c s _ l a x h.dev (fun y hy => by have := HLF.out y hy; rw [IntKind.wrap_i64]; omega))
  obtain ⟨wb, hwb⟩ : ∃ wb, (w.alloc (.cells #[.int .i64 a, .int .i64 m] 36)).alloc (.cells #[.int .i64 0, .int .i64 0] 27) = wb := ⟨_, rfl⟩
  rw [hwb] at G0
  have BW : Hid (Below w.heap.size w wb) := Lib.hid (by rw [← hwb]; exact two_blocks w _ _)
  have HG := Lib.hid (end31 ⟨a, m⟩)
  have hwam : IntKind.i64.wrap (a + m) = a + m := by rw [IntKind.wrap_i64]; omega
  have hra := hl (gth l i) (List.mem_of_getElem? (gth_get (by rw [d.row.len]; omega)))
  have CR := Lib.hid (fun (x : World) (h : GV base g s (some ⟨r, 0, none⟩) n c l w a m x) => OwnGp.cellsG (i := i) h.dev.row (by omega))
  have CR0 := Lib.hid (fun (x : World) (h : GV base g s (some ⟨r, 0, none⟩) n c l w a m x) => h.dev.row.at_ (i := i) (by omega))
  have hn1 : decide (i < n) = true := by rw [decide_eq_true_iff]; omega
  have hin' : i < n := by omega
  have hwi : IntKind.i64.wrap ((i : Int) + 1) = ((i + 1 : Nat) : Int) := by have := d.row.gps.small; rw [IntKind.wrap_i64]; omega
  obtain ⟨⟨xa, xm⟩, hx⟩ : ∃ x, x = gth l i := ⟨_, rfl⟩
  rw [← hx] at hR hra CR CR0
  simp only at hR hra CR CR0
  have hhl : decide (xa < a + m) = true := by rw [decide_eq_true_iff]; omega
  have HG := Lib.hid (fun w => HG.out w hwam)
  unfold gval at HG
  simp only at HG
  clear d hb hl hcnt hin hra hR hx
  have q0 := G0.out.gap.cell 0
  have q1 := G0.out.gap.cell 1
  simp at q0 q1
  go_enter Try.func39, Try.ntmps39
  go_wp2_with fail
  refine (HB41.out wb G0.out).mono ?_; rintro e w2 ⟨v, rfl, cv, b2⟩
  obtain rfl := cnt_unique HC.out cv
  have G2 := Lib.hid (G0.out.next b2)
  have B2 := Lib.hid (BW.out.trans (b2.mono BW.out.size))
  clear q0 q1 b2 cv G0 hwb
  generalize wb = wz at *
  go_wp2_with fail
  have k0 := boxG G2.out.gap (j := 0) rfl
  have k1 := boxG G2.out.gap (j := 1) rfl
  have k2 := boxG G2.out.dev.blk (j := 1) rfl
  obtain ⟨k5, k6⟩ := CR.out _ G2.out
  refine wp_region_quiet_grown (by assumption) (by kernel_rfl) ?_
  repeat (go_big_quiet_step (first | (go_at_call 31; exact Calls.grown_of (HG.out _))))
  refine wpQuiet_nil ?_
  intro _ hw2
  obtain ⟨⟨nq, osq⟩, hw3⟩ := hw2
  subst hw3
  have BQ := Lib.hid (below_grow (Below.refl _ w2) (Nat.le_refl _) nq osq)
  generalize grow (World.drewN w2 nq) osq = w3 at *
  have G3 := Lib.hid (G2.out.next BQ.out)
  have BB := Lib.hid (B2.out.trans (BQ.out.mono B2.out.size))
  clear BQ G2 k0 k1 k2 k5 k6
  have u0 := G3.out.ans.cell 0
  have u1 := G3.out.ans.cell 1
  have u2 := G3.out.ans.frozen 0
  have u3 := G3.out.ans.frozen 1
  simp at u0 u1
  have X5 := Lib.hid (fill_an G3.out.ans rfl 6 0)
  have B5 := Lib.hid (fill_below BB.out (show w.heap.size ≤ w.heap.size + 1 by omega) 6 0)
  clear G3
  go_wp2_with fail
  refine bodyPost_ret (results_an rfl rfl X5.out) rfl ?_
  exact ⟨rfl, B5.out⟩
end Go.Proofs.Ytkhcaobmohppnaa.Spc
