/-
  FtlEnough, walked under what is asked of Play.
-/
import Derived.Test.YtfohihdpohjmcaaCon
namespace Go.Proofs.Ytfohihdpohjmcaa.Ftl
open Go.ChangeShapes Go.WideShapes Go.ChangeAt Go.RowKit Words
set_option linter.unusedVariables false

theorem anss_get {l : List Fop} {k : Nat} {o : Fop} {s : Sto} (h : l[k]? = some o) : (anss s l)[k]? = some (fans (runS s (l.take k)) o) := by
  induction l generalizing s k with
  | nil => simp at h
  | cons a t ih =>
    cases k with
    | zero => simp at h; subst h; simp [anss, runS]
    | succ k =>
      simp only [anss, List.getElem?_cons_succ, List.take_succ_cons, runS]
      exact ih (by simpa using h)
theorem ans_w {s : Sto} {o : Fop} (h : o.kind = 1) (hr : frange o) : (fans s o).err = 0 := by rw [(fx_write (s := s) h hr).1]
theorem ans_r {s : Sto} {o : Fop} (h : o.kind = 1) (hr : ¬ frange o) : (fans s o).err = 2 := by rw [(fx_range (s := s) (.inl h) hr).1]
theorem wsum_bound {wl : List Int} (hp : ∀ x ∈ wl, 0 ≤ x ∧ x ≤ 1000000) {k : Nat} (hk : k ≤ wl.length) : 0 ≤ wsum wl k ∧ wsum wl k ≤ 1000000 * k := by
  induction k with
  | zero => exact ⟨Int.le_refl _, by show (0 : Int) ≤ 1000000 * ((0 : Nat) : Int); omega⟩
  | succ k ih =>
    obtain ⟨a, b⟩ := ih (by omega)
    have h := hp _ (List.getElem_mem (h := (show k < wl.length by omega)))
    have e : wl.getD k 0 = wl[k] := by rw [List.getD_eq_getElem?_getD, List.getElem?_eq_getElem (by omega)]; rfl
    show 0 ≤ wsum wl k + wl.getD k 0 ∧ wsum wl k + wl.getD k 0 ≤ _
    rw [e]
    omega
set_option maxHeartbeats 4000000 in
theorem ftlEnough_walk (HPC : PlayC) (B : Nat) (A0 : Option Addr) (n c : Nat) (l : List Fop) (w : World) (w0 : Ops w B A0 n c l) (hB : B ≤ w.heap.size) (wf : ∀ o ∈ l, Wf o) :
    Calls Try.prog 6 #[.slice A0 n c] w fun e w' => e = .returned (.bool true) ∧ Below w.heap.size w w' := by
  have hlen := Ops.len w0
  have HAL := Lib.hid (alive12 HPC w)
  have HP := Lib.hid (fun x (b : Below w.heap.size w x) => HPC _ _ _ _ l x (Words.Rd.below w0 b hB) (Nat.le_trans hB b.size) wf)
  have HG := Lib.hid (fun v e x h p => fplayed_ok (w := v) (w' := x) (l := l) (e := e) h p)
  have HN := Lib.hid (fun v e x h p => fplayed_bad (w := v) (w' := x) (l := l) (e := e) h p)
  simp only [hlen] at HG HN
  have H := Lib.hid w0
  have L := Lib.hid hlen
  clear w0 wf HPC hlen
  by_cases hn : n ≤ 400
  · go_enter Try.func6, Try.ntmps6
    go_wp2_with fail
    refine (HAL.out).mono ?_; rintro e x0 ⟨rfl, hb0⟩
    have B0 := Lib.hid hb0
    clear hb0
    go_wp2_with fail
    refine (HP.out _ B0.out).mono ?_; rintro e x1 hx
    obtain ⟨A1, c1, A2, wl, c2, rfl, hi1, hi2, hw, hb1⟩ := HG.out _ _ _ hn hx
    have X1 := Lib.hid hi1
    have X2 := Lib.hid hi2
    have B1 := Lib.hid (next_below B0.out hb1 B0.out.size)
    have HW := Lib.hid hw
    clear hx hi1 hi2 hw hb1
    go_wp2_with fail
    go_loopw [6, 33] (fun a i wr => ∃ (k : Nat), a = .int .i64 (nw l k : Nat) ∧ i = .int .i64 k ∧ k ≤ n ∧ Below x1.heap.size x1 wr) (fun _ i _ => (n - intOf i).toNat)
    case atStart => exact ⟨0, by rw [nw_zero]; rfl, rfl, by omega, Below.refl _ _⟩
    case round =>
      obtain ⟨k, rfl, rfl, hk, hb⟩ := hrel
      have HB := Lib.hid hb
      have BF := Lib.hid (next_below B1.out hb B1.out.size)
      clear hb
      by_cases hlt : k < n
      · obtain ⟨gl, ol, rfl, _, _⟩ := Words.Rd.row H.out (by omega)
        obtain ⟨g1, o1, rfl, _, _⟩ := Words.Rd.row X1.out (by omega)
        obtain ⟨o, ho⟩ : ∃ o, l[k]? = some o := ⟨_, List.getElem?_eq_getElem (by rw [L.out]; exact hlt)⟩
        obtain ⟨c0, c1', c2'⟩ := Ops.cells (Words.Rd.below H.out BF.out hB) rfl ho
        have B3 := Lib.hid (HB.out.alloc HB.out.size (.cells (ocells o).toArray 37))
        obtain ⟨d0, d1⟩ := Fans.cells (fans_next X1.out B3.out) rfl (anss_get (s := sto0) ho)
        have HO := Lib.hid ho
        have hnl := nw_le l k
        clear ho
        obtain ⟨kd, nn, dd⟩ := o
        have c0 : wr.cell? ⟨gl, ol + k * 3, none⟩ = some (.int .i64 kd) := c0
        have c1' : wr.cell? ⟨gl, ol + k * 3 + 1, none⟩ = some (.int .i64 nn) := c1'
        have c2' : wr.cell? ⟨gl, ol + k * 3 + 2, none⟩ = some (.int .i64 dd) := c2'
        have B3 : Hid (Below x1.heap.size x1 (wr.alloc (.cells #[.int .i64 kd, .int .i64 nn, .int .i64 dd] 37))) := B3
        have d0 : (wr.alloc (.cells #[.int .i64 kd, .int .i64 nn, .int .i64 dd] 37)).cell? ⟨g1, o1 + k * 2, none⟩ = some (.int .i64 (fans (runS sto0 (l.take k)) ⟨kd, nn, dd⟩).err) := d0
        by_cases hk1 : kd = 1
        · subst hk1
          by_cases hr : 0 ≤ nn ∧ nn < 16
          · rw [ans_w (o := ⟨1, nn, dd⟩) rfl hr] at d0
            have HN2 := Lib.hid (nw_yes HO.out (isFw_iff.2 ⟨rfl, hr⟩))
            generalize nw l k = m at *
            clear hr d1
            go_wp2_with fail
            go_roundw
            case rel => exact ⟨k + 1, by rw [HN2.out]; go_num, by go_num, by omega, B3.out⟩
            case measure => simp [intOf]; omega
          · rw [ans_r (o := ⟨1, nn, dd⟩) rfl hr] at d0
            have HN2 := Lib.hid (nw_no HO.out (by rw [← Bool.not_eq_true, isFw_iff]; exact fun h => hr h.2))
            generalize nw l k = m at *
            clear hr d1
            go_wp2_with fail
            go_roundw
            case rel => exact ⟨k + 1, by rw [HN2.out], by go_num, by omega, B3.out⟩
            case measure => simp [intOf]; omega
        · have hkb : (kd == 1) = false := by rw [beq_eq_false_iff_ne]; exact hk1
          have HN2 := Lib.hid (nw_no HO.out (by rw [← Bool.not_eq_true, isFw_iff]; exact fun h => hk1 h.1))
          generalize nw l k = m at *
          clear hk1 d1 d0
          go_wp2_with fail
          go_roundw
          case rel => exact ⟨k + 1, by rw [HN2.out], by go_num, by omega, B3.out⟩
          case measure => simp [intOf]; omega
      · obtain rfl : k = n := by omega
        have hroom := HW.out.room
        rw [L.out] at hroom
        have HRM := Lib.hid hroom
        have WB := Lib.hid (fun j (h : j ≤ 8) => wsum_bound HW.out.pos (k := j) (by rw [HW.out.len]; exact h))
        have X3 := Lib.hid (ints_next X2.out HB.out)
        have WL := Lib.hid HW.out.len
        have hnl := nw_le l k
        obtain ⟨m, hm⟩ : ∃ x, nw l k = x := ⟨_, rfl⟩
        rw [hm] at HRM hnl ⊢
        clear hroom hm HW
        go_wp2_with fail
        go_loopw [7, 54] (fun a i wx => ∃ (j : Nat), a = .int .i64 (wsum wl j) ∧ i = .int .i64 j ∧ j ≤ 8 ∧ wx = wr) (fun _ i _ => (8 - intOf i).toNat)
        case atStart => exact ⟨0, rfl, rfl, by omega, rfl⟩
        case round =>
          obtain ⟨j, rfl, rfl, hj, rfl⟩ := hrel
          obtain ⟨wb1, wb2⟩ := WB.out j hj
          by_cases hlt2 : j < 8
          · obtain ⟨g2, o2, rfl, _, _⟩ := Words.Rd.row X3.out (by decide)
            obtain ⟨x, hx⟩ : ∃ x, wl[j]? = some x := ⟨_, List.getElem?_eq_getElem (by rw [WL.out]; exact hlt2)⟩
            have c3 := Ints.cellAt X3.out rfl hx
            have hws : wsum wl (j + 1) = wsum wl j + x := by show wsum wl j + wl.getD j 0 = _; rw [List.getD_eq_getElem?_getD, hx]; rfl
            obtain ⟨wb3, wb4⟩ := WB.out (j + 1) (by omega)
            have HWS := Lib.hid hws
            rw [hws] at wb3 wb4
            generalize wsum wl j = s at *
            have hwr : IntKind.i64.wrap (s + x) = s + x := by rw [IntKind.wrap_i64]; omega
            clear hx hws
            go_wp2_with fail
            go_roundw
            case rel => exact ⟨j + 1, by rw [HWS.out], by go_num, by omega, by first | rfl | trivial⟩
            case measure => simp [intOf]; omega
          · obtain rfl : j = 8 := by omega
            have hroom := HRM.out
            generalize wsum wl 8 = s at *
            have hwr : IntKind.i64.wrap (8 + s) = 8 + s := by rw [IntKind.wrap_i64]; omega
            have hwr2 : IntKind.i64.wrap (4 * (8 + s)) = 4 * (8 + s) := by rw [IntKind.wrap_i64]; omega
            go_wp2_with fail
            go_ret
            exact ⟨ret_bool (by first | (simp; done) | (simp; omega)), BF.out⟩
  · go_enter Try.func6, Try.ntmps6
    go_wp2_with fail
    refine (HAL.out).mono ?_; rintro e x0 ⟨rfl, hb0⟩
    have B0 := Lib.hid hb0
    clear hb0
    go_wp2_with fail
    refine (HP.out _ B0.out).mono ?_; rintro e x1 hx
    obtain ⟨A1, c1, A2, c2, rfl, hi1, hb1⟩ := HN.out _ _ _ hn hx
    have B1 := Lib.hid (next_below B0.out hb1 B0.out.size)
    clear hx hi1 hb1
    go_wp2_with fail
    go_ret
    exact ⟨rfl, B1.out⟩
end Go.Proofs.Ytfohihdpohjmcaa.Ftl
