/-
  The last write counts: one operation more changes the page of its own number alone, and as it says.
-/
import Derived.Test.YtegllglfnngijaaRows
import Derived.Test.YtegllglfnngijaaLast
import Derived.WalkKit
import Derived.ProofKit
import Derived.OpenShut
import Derived.ShutString
import Derived.ChangeOld
import Derived.Below
import Derived.SizedLaws
import Derived.RegionTactic
import Derived.Deep.RegionWith
import Derived.Deep.CutBlock
import Derived.ChangeAlike
namespace Go.Proofs.Ytegllglfnngijaa.remapLast
open Go.ChangeShapes Go.WideShapes Go.ChangeAt Go.RowKit Words Go.Proofs.Ytegllglfnngijaa.Rem
open Go.ChangeMaps (open_string shut_string)
set_option linter.unusedVariables false

theorem own : ownKnob Try.prog.godebug = none := by kernel_rfl
theorem laidOut : laidOutB Try.prog = true := by kernel_rfl

set_option maxRecDepth 20000 in
set_option maxHeartbeats 16000000 in
/-- The walk: the Go text returns true and writes nothing that was there. -/
theorem walk (a0 : Int) (a1 : Option Addr) (len1 cap1 : Nat) (z1 : List Nop) (o2 : Nop) (w : World) (w0 : (Lit.int .i64 a0).wf = true) (w1 : Ops w w.heap.size a1 len1 cap1 z1) (r1 : cap1 * 16 ≤ 140737488351232) :
    Calls Try.prog 5 #[.int .i64 a0, .slice a1 len1 cap1, oval o2] w fun e w' => e = .returned (.bool true) ∧ Below w.heap.size w w' := by
  have hn : len1 ≤ 8796093022207 := by have := Words.Rd.le w1; omega
  obtain ⟨kd, nn⟩ := o2
  have hlen := w1.len
  have HAL := alive14 (w.alloc (obox ⟨kd, nn⟩))
  have HPA := (fun x (b : Below w.heap.size w x) => play8 _ _ _ _ z1 a0 x (Words.Rd.below w1 b (Nat.le_refl _)) b.size (by omega))
  have HPB := (fun B A c x h hB => play8F B A (len1 + 1) c (z1 ++ [⟨kd, nn⟩]) a0 x h hB (by omega))
  have HCL := (fun x (b : Below w.heap.size w x) => clone15 _ _ _ _ z1 x (Words.Rd.below w1 b (Nat.le_refl _)) b.size (by omega))
  unfold Played at HPA
  unfold PlayedF at HPB
  have lwa := pAt_length a0 z1
  have lno := pAt_length a0 (z1 ++ [⟨kd, nn⟩])
  obtain ⟨was, hwas⟩ : ∃ x, pAt a0 z1 = x := ⟨_, rfl⟩
  obtain ⟨now, hnow⟩ : ∃ x, pAt a0 (z1 ++ [⟨kd, nn⟩]) = x := ⟨_, rfl⟩
  obtain ⟨pe, hpe⟩ : ∃ x, pErrs a0 (z1 ++ [⟨kd, nn⟩]) = x := ⟨_, rfl⟩
  obtain ⟨er, her⟩ : ∃ x, perr a0 = x := ⟨_, rfl⟩
  simp only [hwas, her] at HPA
  simp only [hnow, her, hpe] at HPB
  rw [hwas] at lwa
  rw [hnow] at lno
  generalize pErrs a0 z1 = pe0 at HPA
  generalize pNo a0 z1 = pn0 at HPA
  generalize pNo a0 (z1 ++ [⟨kd, nn⟩]) = pn1 at HPB
  unfold av at HPA HPB
  have HWAS := Lib.hid hwas
  have HNOW := Lib.hid hnow
  have HPE := Lib.hid hpe
  have HER := Lib.hid her
  have L := Lib.hid hlen
  have HPA := Lib.hid HPA
  have HPB := Lib.hid HPB
  have HCL := Lib.hid HCL
  have HAL := Lib.hid HAL
  have s1 := size25_of lwa
  have o1 := arr_all was
  have B0 := Lib.hid ((Below.refl w.heap.size w).alloc (Nat.le_refl _) (obox ⟨kd, nn⟩))
  have C0 : (w.alloc (obox ⟨kd, nn⟩)).cell? ⟨w.heap.size, 0, none⟩ = some (.int .i64 kd) := cell_of_row _ _ 0 _ 37 (0, 0) (heap_alloc_new w _)
  have C1 : (w.alloc (obox ⟨kd, nn⟩)).cell? ⟨w.heap.size, 1, none⟩ = some (.int .i64 nn) := cell_of_row _ _ 1 _ 37 (0, 0) (heap_alloc_new w _)
  have C0 := Lib.hid C0
  have C1 := Lib.hid C1
  obtain ⟨i37, hi37, hz70, hz71, hz72⟩ := info_parts info37'
  have hzz : (Value.agg #[.int .i64 0, .int .i64 0]).cells.size = 2 := rfl
  have mx : Try.prog.follows .mixedOrders = true := by kernel_rfl
  unfold obox at HAL B0 C0 C1
  unfold oval
  clear w1 r1 hlen hwas hnow hpe her
  go_enter Try.func5, Try.ntmps5
  go_wp2_with fail
  refine (HAL.out).mono ?_; rintro e x1 ⟨rfl, b1⟩
  have hsb : w.heap.size < (w.alloc (.cells #[.int .i64 kd, .int .i64 nn] 37)).heap.size := by simp
  have B1 := Lib.hid (B0.out.trans (b1.mono B0.out.size))
  have D0 := Lib.hid ((b1.cell (p := ⟨w.heap.size, 0, none⟩) hsb).trans C0.out)
  have D1 := Lib.hid ((b1.cell (p := ⟨w.heap.size, 1, none⟩) hsb).trans C1.out)
  have hs1 : w.heap.size < x1.heap.size := Nat.lt_of_lt_of_le hsb b1.size
  clear b1 C0 C1
  go_wp2_with fail
  refine (HPA.out _ B1.out).mono ?_; rintro e x2 ⟨A1, c1, A2, c2, rfl, i1, i2, b2⟩
  have B2 := Lib.hid ((next_below B1.out b2 B1.out.size).alloc (next_below B1.out b2 B1.out.size).size (.cells (icells was).toArray 25))
  have hb3 : Below x1.heap.size x1 (x2.alloc (.cells (icells was).toArray 25)) := b2.alloc b2.size _
  have q0 := (hb3.cell (p := ⟨w.heap.size, 0, none⟩) hs1).trans D0.out
  have q1 := (hb3.cell (p := ⟨w.heap.size, 1, none⟩) hs1).trans D1.out
  obtain ⟨x3, h3⟩ : ∃ x3, x2.alloc (.cells (icells was).toArray 25) = x3 := ⟨_, rfl⟩
  rw [h3] at B2 q0 q1
  have K8 : WI x3 x2.heap.size 25 was := h3 ▸ WI.new x2 25 was
  have K8 := Lib.hid K8
  have hs3 : w.heap.size < x3.heap.size := by
    have h1 := hb3.size
    rw [h3] at h1
    omega
  clear i1 i2 b2 hb3 D0 D1 HPA HAL
  have PD : Below x3.heap.size x3 x3 := Below.refl _ _
  have hB : x3.heap.size ≤ x3.heap.size := Nat.le_refl _
  have hdr : x3.drew.heap.size = x3.heap.size := rfl
  have P_i : Hid (Below x3.heap.size x3 x3.drew) := Lib.hid PD.drew
  have HC_i := Lib.hid (HCL.out x3.drew (next_below B2.out P_i.out B2.out.size))
  have P_ii : Hid (Below x3.heap.size x3 (x3.alloc (.cells #[.int .i64 0, .int .i64 0, .int .i64 0, .int .i64 0, .int .i64 0, .int .i64 0, .int .i64 0, .int .i64 0, .int .i64 0, .int .i64 0, .int .i64 0, .int .i64 0, .int .i64 0, .int .i64 0, .int .i64 0, .int .i64 0] 25)).drew) := Lib.hid (PD.alloc PD.size (.cells #[.int .i64 0, .int .i64 0, .int .i64 0, .int .i64 0, .int .i64 0, .int .i64 0, .int .i64 0, .int .i64 0, .int .i64 0, .int .i64 0, .int .i64 0, .int .i64 0, .int .i64 0, .int .i64 0, .int .i64 0, .int .i64 0] 25)).drew
  have A_ii := Lib.hid ((wi_drew (wi_z x3)))
  have HC_ii := Lib.hid (HCL.out (x3.alloc (.cells #[.int .i64 0, .int .i64 0, .int .i64 0, .int .i64 0, .int .i64 0, .int .i64 0, .int .i64 0, .int .i64 0, .int .i64 0, .int .i64 0, .int .i64 0, .int .i64 0, .int .i64 0, .int .i64 0, .int .i64 0, .int .i64 0] 25)).drew (next_below B2.out P_ii.out B2.out.size))
  have P_iii : Hid (Below x3.heap.size x3 (x3.alloc (.cells #[.int .i64 kd, .int .i64 nn] 37)).drew) := Lib.hid (PD.alloc PD.size (.cells #[.int .i64 kd, .int .i64 nn] 37)).drew
  have L_iii := Lib.hid ((LitAt.drew (LitAt.new x3 ⟨kd, nn⟩)))
  have HC_iii := Lib.hid (HCL.out (x3.alloc (.cells #[.int .i64 kd, .int .i64 nn] 37)).drew (next_below B2.out P_iii.out B2.out.size))
  have P_iv : Hid (Below x3.heap.size x3 ((x3.alloc (.cells #[.int .i64 0, .int .i64 0, .int .i64 0, .int .i64 0, .int .i64 0, .int .i64 0, .int .i64 0, .int .i64 0, .int .i64 0, .int .i64 0, .int .i64 0, .int .i64 0, .int .i64 0, .int .i64 0, .int .i64 0, .int .i64 0] 25)).alloc (.cells #[.int .i64 kd, .int .i64 nn] 37)).drew) := Lib.hid ((PD.alloc PD.size (.cells #[.int .i64 0, .int .i64 0, .int .i64 0, .int .i64 0, .int .i64 0, .int .i64 0, .int .i64 0, .int .i64 0, .int .i64 0, .int .i64 0, .int .i64 0, .int .i64 0, .int .i64 0, .int .i64 0, .int .i64 0, .int .i64 0] 25)).alloc (PD.alloc PD.size (.cells #[.int .i64 0, .int .i64 0, .int .i64 0, .int .i64 0, .int .i64 0, .int .i64 0, .int .i64 0, .int .i64 0, .int .i64 0, .int .i64 0, .int .i64 0, .int .i64 0, .int .i64 0, .int .i64 0, .int .i64 0, .int .i64 0] 25)).size (.cells #[.int .i64 kd, .int .i64 nn] 37)).drew
  have A_iv := Lib.hid ((wi_drew ((wi_z x3).alloc (.cells #[.int .i64 kd, .int .i64 nn] 37))))
  have L_iv := Lib.hid ((LitAt.drew (LitAt.new (x3.alloc (.cells #[.int .i64 0, .int .i64 0, .int .i64 0, .int .i64 0, .int .i64 0, .int .i64 0, .int .i64 0, .int .i64 0, .int .i64 0, .int .i64 0, .int .i64 0, .int .i64 0, .int .i64 0, .int .i64 0, .int .i64 0, .int .i64 0] 25)) ⟨kd, nn⟩)))
  have HC_iv := Lib.hid (HCL.out ((x3.alloc (.cells #[.int .i64 0, .int .i64 0, .int .i64 0, .int .i64 0, .int .i64 0, .int .i64 0, .int .i64 0, .int .i64 0, .int .i64 0, .int .i64 0, .int .i64 0, .int .i64 0, .int .i64 0, .int .i64 0, .int .i64 0, .int .i64 0] 25)).alloc (.cells #[.int .i64 kd, .int .i64 nn] 37)).drew (next_below B2.out P_iv.out B2.out.size))
  have P_v : Hid (Below x3.heap.size x3 ((x3.alloc (.cells #[.int .i64 kd, .int .i64 nn] 37)).alloc (.cells #[.int .i64 0, .int .i64 0, .int .i64 0, .int .i64 0, .int .i64 0, .int .i64 0, .int .i64 0, .int .i64 0, .int .i64 0, .int .i64 0, .int .i64 0, .int .i64 0, .int .i64 0, .int .i64 0, .int .i64 0, .int .i64 0] 25)).drew) := Lib.hid ((PD.alloc PD.size (.cells #[.int .i64 kd, .int .i64 nn] 37)).alloc (PD.alloc PD.size (.cells #[.int .i64 kd, .int .i64 nn] 37)).size (.cells #[.int .i64 0, .int .i64 0, .int .i64 0, .int .i64 0, .int .i64 0, .int .i64 0, .int .i64 0, .int .i64 0, .int .i64 0, .int .i64 0, .int .i64 0, .int .i64 0, .int .i64 0, .int .i64 0, .int .i64 0, .int .i64 0] 25)).drew
  have A_v := Lib.hid ((wi_drew (wi_z (x3.alloc (.cells #[.int .i64 kd, .int .i64 nn] 37)))))
  have L_v := Lib.hid ((LitAt.drew ((LitAt.new x3 ⟨kd, nn⟩).alloc (.cells #[.int .i64 0, .int .i64 0, .int .i64 0, .int .i64 0, .int .i64 0, .int .i64 0, .int .i64 0, .int .i64 0, .int .i64 0, .int .i64 0, .int .i64 0, .int .i64 0, .int .i64 0, .int .i64 0, .int .i64 0, .int .i64 0] 25))))
  have HC_v := Lib.hid (HCL.out ((x3.alloc (.cells #[.int .i64 kd, .int .i64 nn] 37)).alloc (.cells #[.int .i64 0, .int .i64 0, .int .i64 0, .int .i64 0, .int .i64 0, .int .i64 0, .int .i64 0, .int .i64 0, .int .i64 0, .int .i64 0, .int .i64 0, .int .i64 0, .int .i64 0, .int .i64 0, .int .i64 0, .int .i64 0] 25)).drew (next_below B2.out P_v.out B2.out.size))
  have h16 : (icells now).length = 16 := by rw [icells_length, lno]
  have hz16 : zero16.length = now.length := by rw [lno]; rfl
  have HSV : ∀ (v : World), (storeCells ⟨v.heap.size, 0, none⟩ (icells now) 0).run Try.prog (v.alloc (.cells #[.int .i64 0, .int .i64 0, .int .i64 0, .int .i64 0, .int .i64 0, .int .i64 0, .int .i64 0, .int .i64 0, .int .i64 0, .int .i64 0, .int .i64 0, .int .i64 0, .int .i64 0, .int .i64 0, .int .i64 0, .int .i64 0] 25)) = .ok () ((v.alloc (.cells #[.int .i64 0, .int .i64 0, .int .i64 0, .int .i64 0, .int .i64 0, .int .i64 0, .int .i64 0, .int .i64 0, .int .i64 0, .int .i64 0, .int .i64 0, .int .i64 0, .int .i64 0, .int .i64 0, .int .i64 0, .int .i64 0] 25)).setCells v.heap.size 0 (icells now)) := fun v => store_16 (wi_z v) hz16
  go_upto_region 4 with (refine wpList_store_new rfl 25 (.tmp 8) (.tmp 23) rfl x2 (icells was).toArray rfl rfl 25 (icells zero16).toArray s1 (z16_size lwa) o1 ?_; rw [h3]; clear h3)
  go_cut [11, 12, 14] (fun u11 u12 u14 wx => ∃ b12 A3 c3, u11 = .slice A3 pe.length c3 ∧ u12 = .pointer (some ⟨b12, 0, none⟩) ∧ u14 = .int .i64 er ∧ Ints wx wx.heap.size A3 pe.length c3 pe ∧ WI wx b12 25 now ∧ Below x3.heap.size x3 wx)
  case first =>
    unfold MadeO at HC_i HC_ii HC_iii HC_iv HC_v
    go_region_law (first
      | (refine step_append_rd (P := Try.prog) _ rfl (.tmp 29) (.tmp 31) 22 rfl x3.heap.size 37 i37 _ 2 16 Try.underlying22 hi37 hz70 hz71 hz72 hzz (by decide) _ len1 (lcells z1) (by simp [Act.eval]) RR.out.row _ _ 1 1 (lcells [⟨kd, nn⟩]) (by simp [Act.eval]) LL.out (lcells_one _) (by simp only [maxLen]; omega) (by omega) (RR.out.size hB) ?_; intro A2' c2' x hown hg; have RX := Lib.hid (rc_app RR.out hB hown hg); have AX := Lib.hid (wi_app RR.out AA.out hg); clear hown hg)
      | (refine step_append_rd (P := Try.prog) _ rfl (.tmp 29) (.tmp 31) 22 rfl x3.heap.size 37 i37 _ 2 16 Try.underlying22 hi37 hz70 hz71 hz72 hzz (by decide) _ len1 (lcells z1) (by simp [Act.eval]) RR.out.row _ _ 1 1 (lcells [⟨kd, nn⟩]) (by simp [Act.eval]) LL.out (lcells_one _) (by simp only [maxLen]; omega) (by omega) (RR.out.size hB) ?_; intro A2' c2' x hown hg; have RX := Lib.hid (rc_app RR.out hB hown hg); clear hown hg)
      | (refine step_append_rd (P := Try.prog) _ rfl (.tmp 29) (.tmp 31) 22 rfl x3.heap.size 37 i37 _ 2 16 Try.underlying22 hi37 hz70 hz71 hz72 hzz (by decide) _ len1 (lcells z1) (by simp [Act.eval]) (RR.out.alloc hB (.cells #[.int .i64 0, .int .i64 0, .int .i64 0, .int .i64 0, .int .i64 0, .int .i64 0, .int .i64 0, .int .i64 0, .int .i64 0, .int .i64 0, .int .i64 0, .int .i64 0, .int .i64 0, .int .i64 0, .int .i64 0, .int .i64 0] 25)).row _ _ 1 1 (lcells [⟨kd, nn⟩]) (by simp [Act.eval]) (LitAt.alloc LL.out (.cells #[.int .i64 0, .int .i64 0, .int .i64 0, .int .i64 0, .int .i64 0, .int .i64 0, .int .i64 0, .int .i64 0, .int .i64 0, .int .i64 0, .int .i64 0, .int .i64 0, .int .i64 0, .int .i64 0, .int .i64 0, .int .i64 0] 25)) (lcells_one _) (by simp only [maxLen]; omega) (by omega) ((RR.out.alloc hB (.cells #[.int .i64 0, .int .i64 0, .int .i64 0, .int .i64 0, .int .i64 0, .int .i64 0, .int .i64 0, .int .i64 0, .int .i64 0, .int .i64 0, .int .i64 0, .int .i64 0, .int .i64 0, .int .i64 0, .int .i64 0, .int .i64 0] 25)).size hB) ?_; intro A2' c2' x hown hg; have RX := Lib.hid (rc_app (RR.out.alloc hB (.cells #[.int .i64 0, .int .i64 0, .int .i64 0, .int .i64 0, .int .i64 0, .int .i64 0, .int .i64 0, .int .i64 0, .int .i64 0, .int .i64 0, .int .i64 0, .int .i64 0, .int .i64 0, .int .i64 0, .int .i64 0, .int .i64 0] 25)) hB hown hg); have AX := Lib.hid (wi_app (RR.out.alloc hB (.cells #[.int .i64 0, .int .i64 0, .int .i64 0, .int .i64 0, .int .i64 0, .int .i64 0, .int .i64 0, .int .i64 0, .int .i64 0, .int .i64 0, .int .i64 0, .int .i64 0, .int .i64 0, .int .i64 0, .int .i64 0, .int .i64 0] 25)) (wi_z y) hg); clear hown hg)
      | (refine step_append_rd (P := Try.prog) _ rfl (.tmp 29) (.tmp 31) 22 rfl x3.heap.size 37 i37 _ 2 16 Try.underlying22 hi37 hz70 hz71 hz72 hzz (by decide) _ len1 (lcells z1) (by simp [Act.eval]) (RR.out.alloc hB (.cells #[.int .i64 kd, .int .i64 nn] 37)).row _ _ 1 1 (lcells [⟨kd, nn⟩]) (by simp [Act.eval]) (LitAt.new y ⟨kd, nn⟩) (lcells_one _) (by simp only [maxLen]; omega) (by omega) ((RR.out.alloc hB (.cells #[.int .i64 kd, .int .i64 nn] 37)).size hB) ?_; intro A2' c2' x hown hg; have RX := Lib.hid (rc_app (RR.out.alloc hB (.cells #[.int .i64 kd, .int .i64 nn] 37)) hB hown hg); have AX := Lib.hid (wi_app (RR.out.alloc hB (.cells #[.int .i64 kd, .int .i64 nn] 37)) (WI.alloc AA.out (.cells #[.int .i64 kd, .int .i64 nn] 37)) hg); clear hown hg)
      | (refine step_append_rd (P := Try.prog) _ rfl (.tmp 29) (.tmp 31) 22 rfl x3.heap.size 37 i37 _ 2 16 Try.underlying22 hi37 hz70 hz71 hz72 hzz (by decide) _ len1 (lcells z1) (by simp [Act.eval]) (RR.out.alloc hB (.cells #[.int .i64 kd, .int .i64 nn] 37)).row _ _ 1 1 (lcells [⟨kd, nn⟩]) (by simp [Act.eval]) (LitAt.new y ⟨kd, nn⟩) (lcells_one _) (by simp only [maxLen]; omega) (by omega) ((RR.out.alloc hB (.cells #[.int .i64 kd, .int .i64 nn] 37)).size hB) ?_; intro A2' c2' x hown hg; have RX := Lib.hid (rc_app (RR.out.alloc hB (.cells #[.int .i64 kd, .int .i64 nn] 37)) hB hown hg); clear hown hg)
      | (refine step_append_rd (P := Try.prog) _ rfl (.tmp 29) (.tmp 31) 22 rfl x3.heap.size 37 i37 _ 2 16 Try.underlying22 hi37 hz70 hz71 hz72 hzz (by decide) _ len1 (lcells z1) (by simp [Act.eval]) ((RR.out.alloc hB (.cells #[.int .i64 0, .int .i64 0, .int .i64 0, .int .i64 0, .int .i64 0, .int .i64 0, .int .i64 0, .int .i64 0, .int .i64 0, .int .i64 0, .int .i64 0, .int .i64 0, .int .i64 0, .int .i64 0, .int .i64 0, .int .i64 0] 25)).alloc hB (.cells #[.int .i64 kd, .int .i64 nn] 37)).row _ _ 1 1 (lcells [⟨kd, nn⟩]) (by simp [Act.eval]) (LitAt.new (y.alloc (.cells #[.int .i64 0, .int .i64 0, .int .i64 0, .int .i64 0, .int .i64 0, .int .i64 0, .int .i64 0, .int .i64 0, .int .i64 0, .int .i64 0, .int .i64 0, .int .i64 0, .int .i64 0, .int .i64 0, .int .i64 0, .int .i64 0] 25)) ⟨kd, nn⟩) (lcells_one _) (by simp only [maxLen]; omega) (by omega) (((RR.out.alloc hB (.cells #[.int .i64 0, .int .i64 0, .int .i64 0, .int .i64 0, .int .i64 0, .int .i64 0, .int .i64 0, .int .i64 0, .int .i64 0, .int .i64 0, .int .i64 0, .int .i64 0, .int .i64 0, .int .i64 0, .int .i64 0, .int .i64 0] 25)).alloc hB (.cells #[.int .i64 kd, .int .i64 nn] 37)).size hB) ?_; intro A2' c2' x hown hg; have RX := Lib.hid (rc_app ((RR.out.alloc hB (.cells #[.int .i64 0, .int .i64 0, .int .i64 0, .int .i64 0, .int .i64 0, .int .i64 0, .int .i64 0, .int .i64 0, .int .i64 0, .int .i64 0, .int .i64 0, .int .i64 0, .int .i64 0, .int .i64 0, .int .i64 0, .int .i64 0] 25)).alloc hB (.cells #[.int .i64 kd, .int .i64 nn] 37)) hB hown hg); have AX := Lib.hid (wi_app ((RR.out.alloc hB (.cells #[.int .i64 0, .int .i64 0, .int .i64 0, .int .i64 0, .int .i64 0, .int .i64 0, .int .i64 0, .int .i64 0, .int .i64 0, .int .i64 0, .int .i64 0, .int .i64 0, .int .i64 0, .int .i64 0, .int .i64 0, .int .i64 0] 25)).alloc hB (.cells #[.int .i64 kd, .int .i64 nn] 37)) (WI.alloc (wi_z y) (.cells #[.int .i64 kd, .int .i64 nn] 37)) hg); clear hown hg)
      | (refine step_append_rd (P := Try.prog) _ rfl (.tmp 29) (.tmp 31) 22 rfl x3.heap.size 37 i37 _ 2 16 Try.underlying22 hi37 hz70 hz71 hz72 hzz (by decide) _ len1 (lcells z1) (by simp [Act.eval]) ((RR.out.alloc hB (.cells #[.int .i64 kd, .int .i64 nn] 37)).alloc hB (.cells #[.int .i64 0, .int .i64 0, .int .i64 0, .int .i64 0, .int .i64 0, .int .i64 0, .int .i64 0, .int .i64 0, .int .i64 0, .int .i64 0, .int .i64 0, .int .i64 0, .int .i64 0, .int .i64 0, .int .i64 0, .int .i64 0] 25)).row _ _ 1 1 (lcells [⟨kd, nn⟩]) (by simp [Act.eval]) (LitAt.alloc (LitAt.new y ⟨kd, nn⟩) (.cells #[.int .i64 0, .int .i64 0, .int .i64 0, .int .i64 0, .int .i64 0, .int .i64 0, .int .i64 0, .int .i64 0, .int .i64 0, .int .i64 0, .int .i64 0, .int .i64 0, .int .i64 0, .int .i64 0, .int .i64 0, .int .i64 0] 25)) (lcells_one _) (by simp only [maxLen]; omega) (by omega) (((RR.out.alloc hB (.cells #[.int .i64 kd, .int .i64 nn] 37)).alloc hB (.cells #[.int .i64 0, .int .i64 0, .int .i64 0, .int .i64 0, .int .i64 0, .int .i64 0, .int .i64 0, .int .i64 0, .int .i64 0, .int .i64 0, .int .i64 0, .int .i64 0, .int .i64 0, .int .i64 0, .int .i64 0, .int .i64 0] 25)).size hB) ?_; intro A2' c2' x hown hg; have RX := Lib.hid (rc_app ((RR.out.alloc hB (.cells #[.int .i64 kd, .int .i64 nn] 37)).alloc hB (.cells #[.int .i64 0, .int .i64 0, .int .i64 0, .int .i64 0, .int .i64 0, .int .i64 0, .int .i64 0, .int .i64 0, .int .i64 0, .int .i64 0, .int .i64 0, .int .i64 0, .int .i64 0, .int .i64 0, .int .i64 0, .int .i64 0] 25)) hB hown hg); have AX := Lib.hid (wi_app ((RR.out.alloc hB (.cells #[.int .i64 kd, .int .i64 nn] 37)).alloc hB (.cells #[.int .i64 0, .int .i64 0, .int .i64 0, .int .i64 0, .int .i64 0, .int .i64 0, .int .i64 0, .int .i64 0, .int .i64 0, .int .i64 0, .int .i64 0, .int .i64 0, .int .i64 0, .int .i64 0, .int .i64 0, .int .i64 0] 25)) (wi_z (y.alloc (.cells #[.int .i64 kd, .int .i64 nn] 37))) hg); clear hown hg)
      | (go_simp; (first
          | (go_at_call 15; (first
              | ((with_reducible refine (HC_i.out).mono ?_); rintro e y ⟨Ac, cc, rfl, hC, hCb⟩; have RR := Lib.hid (rc_made P_i.out P_i.out.size hC hCb); have k0 := (RR.out.bel.cell (p := ⟨w.heap.size, 0, none⟩) hs3).trans q0; have k1 := (RR.out.bel.cell (p := ⟨w.heap.size, 1, none⟩) hs3).trans q1; have hwy : w.heap.size < y.heap.size := Nat.lt_of_lt_of_le hs3 (RR.out.size hB); have k0z := (World.cell?_alloc_lt y (.cells #[.int .i64 0, .int .i64 0, .int .i64 0, .int .i64 0, .int .i64 0, .int .i64 0, .int .i64 0, .int .i64 0, .int .i64 0, .int .i64 0, .int .i64 0, .int .i64 0, .int .i64 0, .int .i64 0, .int .i64 0, .int .i64 0] 25) ⟨w.heap.size, 0, none⟩ hwy).trans k0; have k1z := (World.cell?_alloc_lt y (.cells #[.int .i64 0, .int .i64 0, .int .i64 0, .int .i64 0, .int .i64 0, .int .i64 0, .int .i64 0, .int .i64 0, .int .i64 0, .int .i64 0, .int .i64 0, .int .i64 0, .int .i64 0, .int .i64 0, .int .i64 0, .int .i64 0] 25) ⟨w.heap.size, 1, none⟩ hwy).trans k1; clear hC hCb)
              | ((with_reducible refine (HC_ii.out).mono ?_); rintro e y ⟨Ac, cc, rfl, hC, hCb⟩; have RR := Lib.hid (rc_made P_ii.out P_ii.out.size hC hCb); have AA := Lib.hid (wi_next A_ii.out hCb); have k0 := (RR.out.bel.cell (p := ⟨w.heap.size, 0, none⟩) hs3).trans q0; have k1 := (RR.out.bel.cell (p := ⟨w.heap.size, 1, none⟩) hs3).trans q1; have hwy : w.heap.size < y.heap.size := Nat.lt_of_lt_of_le hs3 (RR.out.size hB); have k0z := (World.cell?_alloc_lt y (.cells #[.int .i64 0, .int .i64 0, .int .i64 0, .int .i64 0, .int .i64 0, .int .i64 0, .int .i64 0, .int .i64 0, .int .i64 0, .int .i64 0, .int .i64 0, .int .i64 0, .int .i64 0, .int .i64 0, .int .i64 0, .int .i64 0] 25) ⟨w.heap.size, 0, none⟩ hwy).trans k0; have k1z := (World.cell?_alloc_lt y (.cells #[.int .i64 0, .int .i64 0, .int .i64 0, .int .i64 0, .int .i64 0, .int .i64 0, .int .i64 0, .int .i64 0, .int .i64 0, .int .i64 0, .int .i64 0, .int .i64 0, .int .i64 0, .int .i64 0, .int .i64 0, .int .i64 0] 25) ⟨w.heap.size, 1, none⟩ hwy).trans k1; clear hC hCb)
              | ((with_reducible refine (HC_iii.out).mono ?_); rintro e y ⟨Ac, cc, rfl, hC, hCb⟩; have RR := Lib.hid (rc_made P_iii.out P_iii.out.size hC hCb); have LL := Lib.hid (LitAt.next L_iii.out hCb); have k0 := (RR.out.bel.cell (p := ⟨w.heap.size, 0, none⟩) hs3).trans q0; have k1 := (RR.out.bel.cell (p := ⟨w.heap.size, 1, none⟩) hs3).trans q1; have hwy : w.heap.size < y.heap.size := Nat.lt_of_lt_of_le hs3 (RR.out.size hB); have k0z := (World.cell?_alloc_lt y (.cells #[.int .i64 0, .int .i64 0, .int .i64 0, .int .i64 0, .int .i64 0, .int .i64 0, .int .i64 0, .int .i64 0, .int .i64 0, .int .i64 0, .int .i64 0, .int .i64 0, .int .i64 0, .int .i64 0, .int .i64 0, .int .i64 0] 25) ⟨w.heap.size, 0, none⟩ hwy).trans k0; have k1z := (World.cell?_alloc_lt y (.cells #[.int .i64 0, .int .i64 0, .int .i64 0, .int .i64 0, .int .i64 0, .int .i64 0, .int .i64 0, .int .i64 0, .int .i64 0, .int .i64 0, .int .i64 0, .int .i64 0, .int .i64 0, .int .i64 0, .int .i64 0, .int .i64 0] 25) ⟨w.heap.size, 1, none⟩ hwy).trans k1; clear hC hCb)
              | ((with_reducible refine (HC_iv.out).mono ?_); rintro e y ⟨Ac, cc, rfl, hC, hCb⟩; have RR := Lib.hid (rc_made P_iv.out P_iv.out.size hC hCb); have AA := Lib.hid (wi_next A_iv.out hCb); have LL := Lib.hid (LitAt.next L_iv.out hCb); have k0 := (RR.out.bel.cell (p := ⟨w.heap.size, 0, none⟩) hs3).trans q0; have k1 := (RR.out.bel.cell (p := ⟨w.heap.size, 1, none⟩) hs3).trans q1; have hwy : w.heap.size < y.heap.size := Nat.lt_of_lt_of_le hs3 (RR.out.size hB); have k0z := (World.cell?_alloc_lt y (.cells #[.int .i64 0, .int .i64 0, .int .i64 0, .int .i64 0, .int .i64 0, .int .i64 0, .int .i64 0, .int .i64 0, .int .i64 0, .int .i64 0, .int .i64 0, .int .i64 0, .int .i64 0, .int .i64 0, .int .i64 0, .int .i64 0] 25) ⟨w.heap.size, 0, none⟩ hwy).trans k0; have k1z := (World.cell?_alloc_lt y (.cells #[.int .i64 0, .int .i64 0, .int .i64 0, .int .i64 0, .int .i64 0, .int .i64 0, .int .i64 0, .int .i64 0, .int .i64 0, .int .i64 0, .int .i64 0, .int .i64 0, .int .i64 0, .int .i64 0, .int .i64 0, .int .i64 0] 25) ⟨w.heap.size, 1, none⟩ hwy).trans k1; clear hC hCb)
              | ((with_reducible refine (HC_v.out).mono ?_); rintro e y ⟨Ac, cc, rfl, hC, hCb⟩; have RR := Lib.hid (rc_made P_v.out P_v.out.size hC hCb); have AA := Lib.hid (wi_next A_v.out hCb); have LL := Lib.hid (LitAt.next L_v.out hCb); have k0 := (RR.out.bel.cell (p := ⟨w.heap.size, 0, none⟩) hs3).trans q0; have k1 := (RR.out.bel.cell (p := ⟨w.heap.size, 1, none⟩) hs3).trans q1; have hwy : w.heap.size < y.heap.size := Nat.lt_of_lt_of_le hs3 (RR.out.size hB); have k0z := (World.cell?_alloc_lt y (.cells #[.int .i64 0, .int .i64 0, .int .i64 0, .int .i64 0, .int .i64 0, .int .i64 0, .int .i64 0, .int .i64 0, .int .i64 0, .int .i64 0, .int .i64 0, .int .i64 0, .int .i64 0, .int .i64 0, .int .i64 0, .int .i64 0] 25) ⟨w.heap.size, 0, none⟩ hwy).trans k0; have k1z := (World.cell?_alloc_lt y (.cells #[.int .i64 0, .int .i64 0, .int .i64 0, .int .i64 0, .int .i64 0, .int .i64 0, .int .i64 0, .int .i64 0, .int .i64 0, .int .i64 0, .int .i64 0, .int .i64 0, .int .i64 0, .int .i64 0, .int .i64 0, .int .i64 0] 25) ⟨w.heap.size, 1, none⟩ hwy).trans k1; clear hC hCb)
              ))
          | (go_at_call 8; (first
              | ((refine (HPB.out _ A2' c2' _ RX.out.ops (Nat.le_refl _)).mono ?_); rintro e v ⟨A3, c3, A4, c4, rfl, i3, i4, b4, f4⟩; have BV := next_below RX.out.bel b4 (RX.out.size hB); have AV := wi_next AX.out b4; have hlt := WI.lt AX.out; have hlt' := hlt; (try simp only [World.size_alloc, hdr] at AV); (try simp only [World.size_alloc, hdr] at hlt'); have hsx := RX.out.size hB; have hsy := RR.out.size hB; have hst := store_16 AV hz16; have FW := Lib.hid (wi_setCells AV hz16); have FB := Lib.hid (fb_of AV (by first | omega | (simp only [World.size_alloc]; omega)) BV (icells now)); have FI := Lib.hid (fi_of AV i3 (fun a ha => by have := f4 a ha; omega) (icells now)); clear i3 i4 b4 f4)
              | ((refine (HPB.out _ A2' c2' _ RX.out.ops (Nat.le_refl _)).mono ?_); rintro e v ⟨A3, c3, A4, c4, rfl, i3, i4, b4, f4⟩; have BV := next_below RX.out.bel b4 (RX.out.size hB); have hvs := BV.size; have FW := Lib.hid (wi_setCells (wi_z v) hz16); have FB := Lib.hid (below_setCells hvs (icells now) 0 _ (BV.alloc hvs (.cells #[.int .i64 0, .int .i64 0, .int .i64 0, .int .i64 0, .int .i64 0, .int .i64 0, .int .i64 0, .int .i64 0, .int .i64 0, .int .i64 0, .int .i64 0, .int .i64 0, .int .i64 0, .int .i64 0, .int .i64 0, .int .i64 0] 25))); have FI := Lib.hid (ints_set_new i3 (.cells #[.int .i64 0, .int .i64 0, .int .i64 0, .int .i64 0, .int .i64 0, .int .i64 0, .int .i64 0, .int .i64 0, .int .i64 0, .int .i64 0, .int .i64 0, .int .i64 0, .int .i64 0, .int .i64 0, .int .i64 0, .int .i64 0] 25) 0 (icells now)); clear i3 i4 b4 f4)
              | ((refine (HPB.out _ A2' c2' _ (RX.out.alloc hB (.cells #[.int .i64 0, .int .i64 0, .int .i64 0, .int .i64 0, .int .i64 0, .int .i64 0, .int .i64 0, .int .i64 0, .int .i64 0, .int .i64 0, .int .i64 0, .int .i64 0, .int .i64 0, .int .i64 0, .int .i64 0, .int .i64 0] 25)).ops (Nat.le_refl _)).mono ?_); rintro e v ⟨A3, c3, A4, c4, rfl, i3, i4, b4, f4⟩; have BV := next_below (RX.out.alloc hB (.cells #[.int .i64 0, .int .i64 0, .int .i64 0, .int .i64 0, .int .i64 0, .int .i64 0, .int .i64 0, .int .i64 0, .int .i64 0, .int .i64 0, .int .i64 0, .int .i64 0, .int .i64 0, .int .i64 0, .int .i64 0, .int .i64 0] 25)).bel b4 ((RX.out.alloc hB (.cells #[.int .i64 0, .int .i64 0, .int .i64 0, .int .i64 0, .int .i64 0, .int .i64 0, .int .i64 0, .int .i64 0, .int .i64 0, .int .i64 0, .int .i64 0, .int .i64 0, .int .i64 0, .int .i64 0, .int .i64 0, .int .i64 0] 25)).size hB); have AV := wi_next (wi_z x) b4; have hlt := WI.lt (wi_z x); have hlt' := hlt; (try simp only [World.size_alloc, hdr] at AV); (try simp only [World.size_alloc, hdr] at hlt'); have hsx := RX.out.size hB; have hsy := RR.out.size hB; have hst := store_16 AV hz16; have FW := Lib.hid (wi_setCells AV hz16); have FB := Lib.hid (fb_of AV (by first | omega | (simp only [World.size_alloc]; omega)) BV (icells now)); have FI := Lib.hid (fi_of AV i3 (fun a ha => by have := f4 a ha; omega) (icells now)); clear i3 i4 b4 f4)
              )))))
    all_goals
      go_wp2_with fail
      go_meet
      exact ⟨_, A3, c3, rfl, rfl, rfl, FI.out, FW.out, FB.out⟩
  case rest =>
    obtain ⟨b12, A3, c3, rfl, rfl, rfl, i3, k12, bl⟩ := hcut
    have I3 := Lib.hid i3
    have K12 := Lib.hid k12
    have K8c := Lib.hid (K8.out.below bl)
    have BF := Lib.hid (next_below B2.out bl B2.out.size)
    have r0 := (bl.cell (p := ⟨w.heap.size, 0, none⟩) hs3).trans q0
    have r1 := (bl.cell (p := ⟨w.heap.size, 1, none⟩) hs3).trans q1
    clear i3 k12 bl q0 q1 HSV h16 hz16 HPB HCL B2 K8 P_i HC_i P_ii HC_ii P_iii HC_iii P_iv HC_iv P_v HC_v A_ii A_iv A_v L_iii L_iv L_v hdr PD hi37 hz70 hz71 hz72 hzz
    cases hpk : pok a0 with
    | false =>
      have he2 : er = 2 := by rw [← HER.out]; exact (bad_of hpk z1).2.2.1
      subst he2
      clear hpk
      go_wp2_with fail
      go_ret
      exact ⟨rfl, BF.out⟩
    | true =>
      obtain ⟨P, wr0, G⟩ := good_of hpk z1
      obtain ⟨P2, wr1, G2⟩ := good_of hpk (z1 ++ [⟨kd, nn⟩])
      have hPP : P2 = P := by have h1 := G.pg; have h2 := G2.pg; omega
      subst hPP
      have hwr1 : wr1 = mnx P2 wr0 ⟨kd, nn⟩ := by rw [G2.is, run_last, ← G.is]
      have he0 : er = 0 := by rw [← HER.out]; exact G.code
      have hpe : pe = errs P2 [] z1 ++ [merr P2 wr0 ⟨kd, nn⟩] := by rw [← HPE.out, G2.err, errs_last, ← G.is]
      have hwas : was = ats wr0 := by rw [← HWAS.out, G.at_]
      have hnow : now = ats (mnx P2 wr0 ⟨kd, nn⟩) := by rw [← HNOW.out, G2.at_, hwr1]
      have hpel : pe.length = len1 + 1 := by rw [hpe, List.length_append, errs_length, L.out]; rfl
      have hlast : pe[len1]? = some (merr P2 wr0 ⟨kd, nn⟩) := by
        rw [hpe, List.getElem?_append_right (by rw [errs_length, L.out]; exact Nat.le_refl _), errs_length, L.out, Nat.sub_self]; rfl
      subst he0
      obtain ⟨g3, of3, rfl, _, _⟩ := Words.Rd.row I3.out (by omega)
      have d3 := Ints.cellAt I3.out rfl hlast
      have hwr : IntKind.i64.wrap ((len1 : Int) + 1) = (len1 : Int) + 1 := by rw [IntKind.wrap_i64]; omega
      have OKW := Lib.hid G.ok
      have LEW := Lib.hid G.len
      have HWQ := Lib.hid hwas
      have HNQ := Lib.hid hnow
      clear hpk G G2 hwr1 hpe hlast hwas hnow
      by_cases hm : merr P2 wr0 ⟨kd, nn⟩ = 0
      · rw [hm] at d3
        have HO := Lib.hid (fun n h1 h2 => last_other (o := ⟨kd, nn⟩) OKW.out LEW.out hm (n := n) h1 h2)
        obtain ⟨⟨hn0, hn1⟩, hls⟩ := last_same OKW.out LEW.out hm
        have hn0 : 0 ≤ nn := hn0
        have hn1 : nn < 16 := hn1
        obtain ⟨N, rfl⟩ : ∃ N : Nat, nn = N := ⟨nn.toNat, by omega⟩
        have hN : N < 16 := by omega
        have hls : (kd = 2 ∧ idx (mnx P2 wr0 ⟨kd, (N : Int)⟩) (N : Int) = -1) ∨ (kd = 1 ∧ idx wr0 (N : Int) < idx (mnx P2 wr0 ⟨kd, (N : Int)⟩) (N : Int)) := hls
        have LS := Lib.hid hls
        have AW := Lib.hid (fun n (h : n < 16) => ats_get wr0 h)
        have AN := Lib.hid (fun n (h : n < 16) => ats_get (mnx P2 wr0 ⟨kd, (N : Int)⟩) h)
        rw [← HWQ.out] at AW
        rw [← HNQ.out] at AN
        clear hm hls
        go_wp2_with fail
        go_loopw [68] (fun i wx => ∃ (k nd : Nat), i = .int .i64 k ∧ k ≤ 16 ∧ wx = wc.drewN nd) (fun i _ => (16 - intOf i).toNat)
        case atStart => exact ⟨0, 0, rfl, by omega, rfl⟩
        case round =>
          obtain ⟨k, nd, rfl, hk, rfl⟩ := hrel
          by_cases hlt : k < 16
          · have u0 := K8c.out.cell (AW.out k hlt)
            have v0 := K12.out.cell (AN.out k hlt)
            by_cases hkN : k = N
            · have hb : ((k : Int) != (N : Int)) = false := by rw [bne_eq_false_iff_eq]; omega
              clear u0 v0
              go_wp2_with fail
              go_quiet (fail)
              go_wp2_with fail
              go_roundw
              case rel => exact ⟨k + 1, _, by go_num, by omega, rfl⟩
              case measure => simp [intOf]; omega
            · have hb : ((k : Int) != (N : Int)) = true := by rw [bne_iff_ne]; omega
              have hidx := HO.out k hlt (by show (k : Int) ≠ (N : Int); omega)
              rw [hidx] at v0
              generalize idx wr0 k = u at *
              have hbu : (u != u) = false := by simp
              clear hidx
              go_wp2_with fail
              go_quiet (fail)
              go_wp2_with fail
              go_roundw
              case rel => exact ⟨k + 1, _, by go_num, by omega, rfl⟩
              case measure => simp [intOf]; omega
          · have u0 := K8c.out.cell (AW.out N hN)
            have v0 := K12.out.cell (AN.out N hN)
            have t0 : decide ((0 : Int) ≤ (N : Int)) = true := decide_eq_true (by omega)
            have t1 : decide ((N : Int) < 16) = true := decide_eq_true (by omega)
            rcases LS.out with ⟨rfl, hv⟩ | ⟨rfl, hv⟩
            · rw [hv] at v0
              clear u0 hv
              go_wp2_with fail
              go_quiet (fail)
              go_wp2_with fail
              go_ret
              exact ⟨rfl, by first | exact below_drewN (below_drewN BF.out _) _ | exact below_drewN BF.out _⟩
            · generalize idx wr0 (N : Int) = u at *
              generalize idx (mnx P2 wr0 ⟨1, (N : Int)⟩) (N : Int) = v at *
              have t2 : decide (u < v) = true := decide_eq_true hv
              go_wp2_with fail
              go_quiet (fail)
              go_wp2_with fail
              go_ret
              exact ⟨rfl, by first | exact below_drewN (below_drewN BF.out _) _ | exact below_drewN BF.out _⟩
      · have hsame : now = was := by rw [HNQ.out, HWQ.out, mnx_ne hm]
        subst hsame
        have hne : (merr P2 wr0 ⟨kd, nn⟩ != 0) = true := by rw [bne_iff_ne]; exact hm
        have l8 := K8c.out.range
        have l12 := K12.out.range
        have hz1 := size25_len lwa
        have heq := fun x => eq16 lwa x
        have heq' := fun x => eq16' lwa x
        clear hm HNQ HWQ
        generalize merr P2 wr0 ⟨kd, nn⟩ = m at *
        go_wp2_with (first
          | (refine wpList_load_mid rfl 25 (.tmp 8) rfl x2.heap.size 0 rfl (icells now) _ l8 Try.underlying25 rfl hz1 ?_)
          | (refine wpList_load_mid rfl 25 (.tmp 12) rfl b12 0 rfl (icells now) _ l12 Try.underlying25 rfl hz1 ?_))
        go_ret
        exact ⟨rfl, BF.out⟩

set_option maxRecDepth 100000 in
theorem contract (H : Type) (enc : TypeId × Value → H) (W : World) (base : Nat) (args : Array Value) (ds gs : List (DataW H)) (before : List MemPlace)
    (hval : ∀ (j : Nat) t v, Try.f5.params[j]? = some t → args[j]? = some v → Value.okWide Try.prog W .any base t v)
    (hW : DataW.Whole enc Try.prog Try.f5.params.toList Rows.remapLastSpec.vars false W args.toList ds gs before) (hsz : (DataW.weightsEach Try.prog (Try.f5.params.toList ++ Rows.remapLastSpec.plain.varTypes Try.prog) (ds ++ gs)).all (· ≤ reachBytes) = true) :
    Calls Try.prog 5 args W fun e W' => ∃ v, e = .returned v ∧ Rows.remapLastSpec.post enc Try.prog Try.f5 false true false false W args v W' := by
  have hW' := hW
  obtain ⟨p, q, hA0, hV, rfl, hfz, hnd⟩ := hW
  have hA : DataW.TrodAll enc Try.prog W 0 (fun _ => true) true Try.f5.params.toList args.toList ds p := hA0
  rw [Try.params5] at hA hval hsz
  obtain ⟨v0, vs0, d0, ds0, p0, q0, hargs, rfl, rfl, h0, rr0⟩ := trodAll_cons hA
  obtain ⟨v1, vs1, d1, ds1, p1, q1, rfl, rfl, rfl, h1, rr1⟩ := trodAll_cons rr0
  obtain ⟨v2, vs2, d2, ds2, p2, q2, rfl, rfl, rfl, h2, rr2⟩ := trodAll_cons rr1
  obtain ⟨rfl, rfl, rfl⟩ := trodAll_nil rr2
  obtain rfl : args = #[v0, v1, v2] := by cases args; simp_all
  obtain ⟨rfl, rfl⟩ := trodVars_none hV
  obtain ⟨a0, rfl, rfl, rfl, w0⟩ := open_int Try.underlying3 (hval 0 3 v0 rfl rfl) h0
  obtain ⟨a1, len1, cap1, rfl⟩ := okWide_slice Try.underlying22 (hval 1 22 v1 rfl rfl)
  have k1 := h1
  have lt1 : ∀ x ∈ p1, x.block < W.heap.size := by obtain ⟨m, hm⟩ := k1; exact DataW.trod_lt m _ _ _ hm
  obtain ⟨⟨z1, w1⟩, u1⟩ := open_ops h1
  have r1 := reach_ops hsz (j := 1) rfl rfl u1
  have k2 := h2
  have lt2 : ∀ x ∈ p2, x.block < W.heap.size := by obtain ⟨m, hm⟩ := k2; exact DataW.trod_lt m _ _ _ hm
  obtain ⟨o2, rfl⟩ := open_op (hval 2 37 v2 rfl rfl) h2
  clear hA0
  refine (walk a0 a1 len1 cap1 z1 o2 W w0 w1 r1).mono fun e W' ⟨he, bel⟩ => ?_
  subst he
  exact ⟨_, rfl, _, _, _, [], _, [], hW', trodAll_mk1 (shut_bool Try.underlying4 _), (trodAll_cons_mk (shut_int Try.underlying3 w0) (trodAll_cons_mk (Below.trod laidOut (by kernel_rfl) (of_decide_eq_true (by kernel_rfl)) k1 bel lt1) (trodAll_cons_mk (Below.trod laidOut (by kernel_rfl) (of_decide_eq_true (by kernel_rfl)) k2 bel lt2) trodAll_mk0))), rfl, bel.frame _, fun h => by cases h⟩

set_option maxRecDepth 100000 in
theorem lifted (os : Os) (started : os.Started) (H : Type) (enc : TypeId × Value → H) :
    ReturnsInHanded {} Try.checked os 5 .any (Rows.remapLastSpec.pre6 enc Try.prog Try.f5 Rows.remapLastRow.domain false) (Rows.remapLastSpec.post enc Try.prog Try.f5 false true false false) := by
  refine returnsInHanded_of_change_sized (C := Try.checked) own started (by kernel_rfl) Try.func5
    (ChangeSpec.witness6 (enc := enc) (C := Try.checked) false ⟨#[], #[.int .i64 0, .slice none 0 0, .agg #[.int .i64 0, .int .i64 0]], []⟩ 8 (by kernel_rfl) (by kernel_rfl) (by kernel_rfl) (by kernel_rfl)) ?_
  intro W base args ds gs before hval hW _ hsz _
  exact contract H enc W base args ds gs before hval hW hsz

theorem over : Rows.remapLastRow.holds Try.pinned (OpenSpec.ofChange Rows.remapLastSpec) :=
  OpenClaim.holds_of_wide 5 Try.f5 rfl rfl rfl rfl rfl rfl rfl ⟨rfl, rfl, rfl, rfl, rfl⟩ rfl rfl rfl rfl rfl (by kernel_rfl) Try.func5 (by kernel_rfl)
    (of_decide_eq_true (by kernel_rfl)) (by unfold Func.isWrapper; first | (rw [if_pos (by decide +kernel)]; kernel_rfl) | (rw [if_neg (by decide +kernel)]; exact ⟨rfl, rfl⟩))
    (fun os started H enc _ => lifted os started H enc)

/-- ████ THE STATEMENT ████ -/
theorem proved : Rows.RemapLastSaid := over
#print axioms proved
end Go.Proofs.Ytegllglfnngijaa.remapLast
