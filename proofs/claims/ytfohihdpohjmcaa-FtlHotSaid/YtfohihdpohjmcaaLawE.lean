/-
  FtlGone, walked under what is asked of Play.
-/
import Derived.Test.YtfohihdpohjmcaaLawD
namespace Go.Proofs.Ytfohihdpohjmcaa.Ftl
open Go.ChangeShapes Go.WideShapes Go.ChangeAt Go.RowKit Words
set_option linter.unusedVariables false

def four (N d : Int) : List Fop := [⟨3, N, 0⟩, ⟨2, N, 0⟩, ⟨1, N, d⟩, ⟨2, N, 0⟩]
theorem trim_gone {s : Sto} {N : Int} (hr : 0 ≤ N ∧ N < 16) : fnx s ⟨3, N, 0⟩ N = none := by
  cases hs : s N with
  | none => rw [(fx_none (o := ⟨3, N, 0⟩) (.inr rfl) hr hs).2]; exact hs
  | some v => rw [(fx_trim (o := ⟨3, N, 0⟩) rfl hr hs).2]; exact upd_same _ _ _
theorem four_ans {s : Sto} {N d : Int} (hr : 0 ≤ N ∧ N < 16) : (anss s (four N d))[1]? = some ⟨3, 0⟩ ∧ (anss s (four N d))[2]? = some ⟨0, 0⟩ ∧ (anss s (four N d))[3]? = some ⟨0, d⟩ := by
  have h1 := trim_gone (s := s) hr
  have h2 := fx_none (s := fnx s ⟨3, N, 0⟩) (o := ⟨2, N, 0⟩) (.inl rfl) hr h1
  have h3 := fx_write (s := fnx s ⟨3, N, 0⟩) (o := ⟨1, N, d⟩) rfl hr
  have h4 := fx_read (s := upd (fnx s ⟨3, N, 0⟩) N (some d)) (o := ⟨2, N, 0⟩) (v := d) rfl hr (upd_same _ _ _)
  unfold four
  simp only [anss]
  refine ⟨?_, ?_, ?_⟩
  · show some _ = _; rw [h2.1]
  · show some _ = _; rw [h2.2, h3.1]
  · show some _ = _; rw [h2.2, h3.2, h4.1]
theorem gone_ans {l : List Fop} {N d : Int} (hr : 0 ≤ N ∧ N < 16) {n : Nat} (hn : l.length = n) : (anss sto0 (l ++ four N d))[n + 1]? = some ⟨3, 0⟩ ∧ (anss sto0 (l ++ four N d))[n + 2]? = some ⟨0, 0⟩ ∧ (anss sto0 (l ++ four N d))[n + 3]? = some ⟨0, d⟩ := by
  obtain ⟨h1, h2, h3⟩ := four_ans (s := runS sto0 l) (d := d) hr
  rw [anss_append]
  have hl : (anss sto0 l).length = n := by rw [anss_length, hn]
  refine ⟨?_, ?_, ?_⟩
  · rw [List.getElem?_append_right (by omega), hl, show n + 1 - n = 1 by omega]; exact h1
  · rw [List.getElem?_append_right (by omega), hl, show n + 2 - n = 2 by omega]; exact h2
  · rw [List.getElem?_append_right (by omega), hl, show n + 3 - n = 3 by omega]; exact h3
theorem four_wf {N d : Int} (hN : (Lit.int .i64 N).wf = true) (hd : (Lit.int .i64 d).wf = true) : ∀ o ∈ four N d, Wf o := by
  intro o ho
  simp [four] at ho
  rcases ho with rfl | rfl | rfl | rfl
  · exact ⟨rfl, hN, rfl⟩
  · exact ⟨rfl, hN, rfl⟩
  · exact ⟨rfl, hN, hd⟩
  · exact ⟨rfl, hN, rfl⟩
set_option maxRecDepth 100000 in
set_option maxHeartbeats 8000000 in
theorem ftlGone_walk (HPC : PlayC) (B : Nat) (A0 : Option Addr) (n c : Nat) (l : List Fop) (N d : Int) (w : World) (w0 : Ops w B A0 n c l) (hB : B ≤ w.heap.size) (wf : ∀ o ∈ l, Wf o) (hwN : (Lit.int .i64 N).wf = true) (hwd : (Lit.int .i64 d).wf = true) :
    Calls Try.prog 8 #[.slice A0 n c, .int .i64 N, .int .i64 d] w fun e w' => e = .returned (.bool true) ∧ Below w.heap.size w w' := by
  have hlen := Ops.len w0
  have HAL := Lib.hid (alive12 HPC w)
  have HCL := Lib.hid (fun x (b : Below w.heap.size w x) (h : n ≤ 100000) => clone15 _ _ _ _ l x (Words.Rd.below w0 b hB) (Nat.le_trans hB b.size) h)
  have HPO := Lib.hid (fun B A m c x h hB => HPC B A m c (l ++ four N d) x h hB (fun o ho => by
    rcases List.mem_append.1 ho with h | h
    · exact wf o h
    · exact four_wf hwN hwd o h))
  have HGO := Lib.hid (fun v e x h p => fplayed_ok (w := v) (w' := x) (l := l ++ four N d) (e := e) h p)
  have L := Lib.hid hlen
  obtain ⟨i37, hi37, hz0, hz1, hz2⟩ := info_parts info37
  have hzz : (Value.agg #[.int .i64 0, .int .i64 0, .int .i64 0]).cells.size = 3 := rfl
  clear w0 wf HPC hlen hwN hwd
  by_cases h0 : N < 0
  · go_enter Try.func8, Try.ntmps8
    go_wp2_with fail
    refine (HAL.out).mono ?_; rintro e x0 ⟨rfl, hb0⟩
    go_wp2_with fail
    go_ret
    exact ⟨rfl, hb0⟩
  · by_cases h1 : N ≥ 16
    · go_enter Try.func8, Try.ntmps8
      go_wp2_with fail
      refine (HAL.out).mono ?_; rintro e x0 ⟨rfl, hb0⟩
      go_wp2_with fail
      go_ret
      exact ⟨rfl, hb0⟩
    · by_cases h2 : 396 < n
      · have h2' : (n : Int) > 396 := by omega
        go_enter Try.func8, Try.ntmps8
        go_wp2_with fail
        refine (HAL.out).mono ?_; rintro e x0 ⟨rfl, hb0⟩
        go_wp2_with fail
        go_ret
        exact ⟨rfl, hb0⟩
      · have h2' : ¬ (n : Int) > 396 := by omega
        obtain ⟨a1, a2, a3⟩ := gone_ans (l := l) (N := N) (d := d) ⟨by omega, by omega⟩ L.out
        have A1 := Lib.hid a1
        have A2 := Lib.hid a2
        have A3 := Lib.hid a3
        have LF : Hid ((l ++ four N d).length = n + 4) := Lib.hid (by rw [List.length_append, L.out]; rfl)
        clear a1 a2 a3
        go_enter Try.func8, Try.ntmps8
        go_wp2_with fail
        refine (HAL.out).mono ?_; rintro e x0 ⟨rfl, hb0⟩
        have B0 := Lib.hid hb0
        clear hb0
        go_wp2_with fail
        refine (HCL.out _ B0.out (by omega)).mono ?_; rintro e x1 ⟨Ac, cc, rfl, hrow, hb1⟩
        have R0 := Lib.hid (Go.World.ownsRow.alloc hrow (.cells #[.int .i64 3, .int .i64 N, .int .i64 0, .int .i64 2, .int .i64 N, .int .i64 0, .int .i64 1, .int .i64 N, .int .i64 d, .int .i64 2, .int .i64 N, .int .i64 0] 37))
        have C0 := Lib.hid (hb1.alloc hb1.size (.cells #[.int .i64 3, .int .i64 N, .int .i64 0, .int .i64 2, .int .i64 N, .int .i64 0, .int .i64 1, .int .i64 N, .int .i64 d, .int .i64 2, .int .i64 N, .int .i64 0] 37))
        have HR := Lib.hid (lit_ops x1 (four N d) #[.int .i64 3, .int .i64 N, .int .i64 0, .int .i64 2, .int .i64 N, .int .i64 0, .int .i64 1, .int .i64 N, .int .i64 d, .int .i64 2, .int .i64 N, .int .i64 0] 4 rfl rfl (by omega))
        have hsX := C0.out.size
        clear hrow hb1
        go_wp2_with (first
          | (at_builtin; refine wpList_append_rd _ rfl (.tmp 26) (.tmp 36) 22 rfl x0.heap.size 37 i37 _ 3 24 Try.underlying22 hi37 hz0 hz1 hz2 hzz (by decide) _ n (pcells l) rfl R0.out _ _ 4 4 (pcells (four N d)) rfl HR.out (pcells_one _) (by simp only [maxLen]; omega) (by omega) hsX ?_
             intro A9 c9 x9 hown9 hg9
             have R9 := Lib.hid (show Ops x9 x9.heap.size A9 (n + 4) c9 (l ++ four N d) from by unfold Ops; rw [pcells_append]; exact Words.Rd.of_own hown9)
             have C9 := Lib.hid (below_grown C0.out R0.out hg9 hsX (Nat.le_refl _))
             have B9 := Lib.hid (next_below B0.out C9.out B0.out.size)
             clear hown9 hg9))
        refine (HPO.out _ _ _ _ x9 R9.out (Nat.le_refl _)).mono ?_; rintro e x2 hx
        obtain ⟨A3', c3, A4, wl2, c4, rfl, hi3, hi4, _, hb2⟩ := HGO.out _ _ _ (by rw [LF.out]; omega) hx
        rw [LF.out] at hi3 ⊢
        obtain ⟨g3, o3, rfl, _, _⟩ := Words.Rd.row hi3 (by omega)
        obtain ⟨d0, d1⟩ := Fans.cells hi3 rfl A1.out
        obtain ⟨e0, e1⟩ := Fans.cells hi3 rfl A2.out
        obtain ⟨f0, f1⟩ := Fans.cells hi3 rfl A3.out
        have d0 : x2.cell? ⟨g3, o3 + (n + 1) * 2, none⟩ = some (.int .i64 3) := d0
        have d1 : x2.cell? ⟨g3, o3 + (n + 1) * 2 + 1, none⟩ = some (.int .i64 0) := d1
        have e0 : x2.cell? ⟨g3, o3 + (n + 2) * 2, none⟩ = some (.int .i64 0) := e0
        have e1 : x2.cell? ⟨g3, o3 + (n + 2) * 2 + 1, none⟩ = some (.int .i64 0) := e1
        have f0 : x2.cell? ⟨g3, o3 + (n + 3) * 2, none⟩ = some (.int .i64 0) := f0
        have f1 : x2.cell? ⟨g3, o3 + (n + 3) * 2 + 1, none⟩ = some (.int .i64 d) := f1
        have B2 := Lib.hid (next_below B9.out hb2 B9.out.size)
        clear hx hi3 hi4 hb2
        go_wp2_with fail
        go_ret
        exact ⟨rfl, B2.out⟩
end Go.Proofs.Ytfohihdpohjmcaa.Ftl
