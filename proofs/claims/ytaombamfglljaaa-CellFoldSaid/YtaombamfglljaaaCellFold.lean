/-
  CellFold holds for every input: forced writes in any order yield the intersection. No condition.
-/
import Derived.Test.YtaombamfglljaaaRows
import Derived.Test.YtaombamfglljaaaFrame
import Derived.Test.YtaombamfglljaaaLists
import Derived.WalkKit
import Derived.ProofKit
import Derived.OpenShut
import Derived.ShutString
import Derived.ChangeOld
import Derived.Below
import Derived.SizedLaws
import Derived.RegionTactic
import Derived.Deep.RegionWith
import Derived.Deep.CutBlock
import Derived.ChangeAlike
namespace Go.Proofs.Ytaombamfglljaaa.cellFold
open Go.ChangeShapes Go.WideShapes Go.ChangeAt Go.RowKit Words Go.Proofs.Ytaombamfglljaaa.Cell
open Go.ChangeMaps (open_string shut_string)
set_option linter.unusedVariables false

theorem own : ownKnob Try.prog.godebug = none := by kernel_rfl
theorem laidOut : laidOutB Try.prog = true := by kernel_rfl

set_option maxRecDepth 20000 in
set_option maxHeartbeats 6000000 in
/-- The walk: the Go text returns true and writes nothing that was there. -/
theorem walk (a0 : Option Addr) (len0 cap0 : Nat) (z0 : List UInt8) (a1 : Option Addr) (len1 cap1 : Nat) (y1 : List (Option Addr × Nat × Nat)) (z1 : List (List UInt8)) (w : World) (w0 : Txt w w.heap.size a0 len0 cap0 z0) (w1 : Grid w w.heap.size a1 len1 cap1 y1 z1) (r0 : cap0 ≤ 140737488351232) (r1 : cap1 * 24 ≤ 140737488351232) :
    Calls Try.prog 8 #[.slice a0 len0 cap0, .slice a1 len1 cap1] w fun e w' => e = .returned (.bool true) ∧ Below w.heap.size w w' := by
  have q0 : len0 ≤ 140737488355328 := by have := Rd.le w0; omega
  have q1 : len1 * 24 ≤ 140737488355328 := by have := Rd.le w1.top; omega
  have q2 : len1 ≤ 140737488355328 := by omega
  have HA := Lib.hid (alive w)
  have TA := Lib.hid w0
  have GR := Lib.hid w1
  have LA := Lib.hid w0.len
  have LY : Hid (y1.length = len1) := Lib.hid (by have := Rd.len w1.top; rw [List.length_map] at this; omega)
  have LZ : Hid (z1.length = len1) := Lib.hid (by rw [w1.lens]; exact LY.out)
  clear w0 w1 r0 r1
  obtain ⟨xs, hxs⟩ : ∃ xs, xs = y1.map (fun v : Option Addr × Nat × Nat => Value.slice v.1 v.2.1 v.2.2) := ⟨_, rfl⟩
  have HXS := Lib.hid hxs
  have hone : ∀ u ∈ xs, ∃ p a b, u = Value.slice p a b := fun u hu => by
    rw [hxs] at hu
    obtain ⟨v, _, rfl⟩ := List.mem_map.1 hu
    exact ⟨_, _, _, rfl⟩
  have HOne := Lib.hid hone
  have hback : ∀ k, k < len1 → ∃ pa pl pc lk pa' pl' pc' lk', y1[k]? = some (pa, pl, pc) ∧ z1[k]? = some lk ∧ xs[k]? = some (.slice pa pl pc) ∧ xs.reverse[k]? = some (.slice pa' pl' pc') ∧ z1.reverse[k]? = some lk' ∧ y1[len1 - 1 - k]? = some (pa', pl', pc') ∧ z1[len1 - 1 - k]? = some lk' := fun k hk => by
    have h1 : y1[k]? = some (y1[k]'(by rw [LY.out]; exact hk)) := List.getElem?_eq_getElem _
    have h2 : y1[len1 - 1 - k]? = some (y1[len1 - 1 - k]'(by rw [LY.out]; omega)) := List.getElem?_eq_getElem _
    have h3 : z1[k]? = some (z1[k]'(by rw [LZ.out]; exact hk)) := List.getElem?_eq_getElem _
    have h4 : z1[len1 - 1 - k]? = some (z1[len1 - 1 - k]'(by rw [LZ.out]; omega)) := List.getElem?_eq_getElem _
    generalize z1[k]'(by rw [LZ.out]; exact hk) = lk at *
    generalize z1[len1 - 1 - k]'(by rw [LZ.out]; omega) = lk' at *
    generalize y1[k]'(by rw [LY.out]; exact hk) = v at *
    generalize y1[len1 - 1 - k]'(by rw [LY.out]; omega) = v' at *
    obtain ⟨pa, pl, pc⟩ := v
    obtain ⟨pa', pl', pc'⟩ := v'
    refine ⟨pa, pl, pc, _, pa', pl', pc', _, h1, h3, ?_, ?_, ?_, h2, h4⟩
    · rw [hxs, List.getElem?_map, h1]; rfl
    · rw [List.getElem?_reverse (by rw [hxs, List.length_map, LY.out]; exact hk), hxs, List.length_map, LY.out, List.getElem?_map, h2]; rfl
    · rw [List.getElem?_reverse (by rw [LZ.out]; exact hk), LZ.out]; exact h4
  have HBack := Lib.hid hback
  clear hxs hone hback
  go_enter Try.func8, Try.ntmps8
  go_wp2_with fail
  refine (HA.out).mono ?_; rintro e x0 ⟨rfl, hb0⟩
  have B0 := Lib.hid hb0
  have H1 := clone20 _ _ _ _ _ x0 (Rd.below GR.out.top hb0 (Nat.le_refl _)) (by rw [← HXS.out]; intro u hu; obtain ⟨_, _, _, rfl⟩ := HOne.out u hu; rfl) hb0.size q1
  rw [← HXS.out] at H1
  have H1 := Lib.hid H1
  clear hb0
  go_wp2_with fail
  refine (H1.out).mono ?_; rintro e x1 ⟨A5, c5, rfl, hown1, hb1⟩
  have B1 := Lib.hid hb1
  have H2 := Lib.hid (reverse21 x0.heap.size A5 len1 c5 xs x1 hown1 q2 HOne.out)
  clear hown1 hb1 H1
  go_wp2_with fail
  refine (H2.out).mono ?_; rintro e x2 ⟨rfl, hown2, hb2⟩
  have B2 : Hid (Below w.heap.size w x2) := Lib.hid (B0.out.trans ((B1.out.trans hb2).mono B0.out.size))
  have RB : Hid (Rd x2 x2.heap.size 1 A5 len1 c5 xs.reverse) := Lib.hid (Rd.of_own hown2)
  have TA2 := Lib.hid (Rd.below TA.out B2.out (Nat.le_refl _))
  have S2 : w.heap.size ≤ x2.heap.size := B2.out.size
  have RT := Lib.hid (Rd.below GR.out.top B2.out (Nat.le_refl _))
  rw [← HXS.out] at RT
  have RE : Hid (∀ (k : Nat) pa pl pc lk, y1[k]? = some (pa, pl, pc) → z1[k]? = some lk → Txt x2 w.heap.size pa pl pc lk) := Lib.hid (fun k pa pl pc lk h1 h2 => Rd.below (GR.out.each k _ _ h1 h2) B2.out (Nat.le_refl _))
  have H3 := Lib.hid (clone22 _ _ _ _ _ x2 TA2.out S2 q0)
  clear hown2 hb2 H2 B1
  go_wp2_with fail
  refine (H3.out).mono ?_; rintro e x3 ⟨A8, c8, he, hown3, hb3⟩
  rw [LA.out] at he hown3
  subst he
  have O3 := Lib.hid hown3
  have B3 := Lib.hid hb3
  obtain ⟨G, hG⟩ : ∃ G, 0 < len0 → A8 = some ⟨G, 0, none⟩ ∧ x2.heap.size ≤ G := by
    by_cases h0 : 0 < len0
    · obtain ⟨g, c', hv, hg, _⟩ := own_form_pos hown3 h0
      injection hv with hv _ _
      exact ⟨g, fun _ => ⟨hv, hg⟩⟩
    · exact ⟨0, fun h => absurd h h0⟩
  have HG := Lib.hid hG
  have T3 : Hid (Txt x3 x3.heap.size a0 len0 cap0 z0) := Lib.hid (Rd.more (Rd.below TA2.out hb3 S2) (Nat.le_trans S2 hb3.size))
  have OF : Hid (0 < len0 → ∀ p, a0 = some p → p.block ≠ G) := Lib.hid (fun h p hp => by
    obtain ⟨b, o, e, hb, _⟩ := Rd.row TA.out h
    rw [e] at hp
    injection hp with hp
    subst hp
    have := (hG h).2
    show b ≠ G
    omega)
  clear hown3 hb3 hG H3
  go_wp2_with fail
  go_loopw [6, 7, 25] (fun vx vy i wr => ∃ (k : Nat) (A6 : Option Addr) (c6 : Nat) (A7 : Option Addr) (c7 : Nat), k ≤ len1 ∧ i = .int .i64 k ∧ vx = .slice A6 len0 c6 ∧ vy = .slice A7 len0 c7 ∧
      Txt wr wr.heap.size A6 len0 c6 (foldTo z0 z1 k) ∧ Txt wr wr.heap.size A7 len0 c7 (foldTo z0 z1.reverse k) ∧ (0 < len0 → ∀ p, A6 = some p → p.block ≠ G) ∧ (0 < len0 → ∀ p, A7 = some p → p.block ≠ G) ∧
      wr.ownsRow x2.heap.size 5 1 (.slice A8 len0 c8) len0 (bcells (foldTo z0 z1 k)) ∧ Below x2.heap.size x2 wr) (fun _ _ i _ => (len1 - intOf i).toNat)
  case atStart => exact ⟨0, a0, cap0, a0, cap0, by omega, rfl, rfl, rfl, T3.out, T3.out, OF.out, OF.out, O3.out, B3.out⟩
  case round =>
    obtain ⟨k, A6, c6, A7, c7, hk, rfl, rfl, rfl, ht6, ht7, ho6, ho7, hown, hbel⟩ := hrel
    have T6 := Lib.hid ht6
    have T7 := Lib.hid ht7
    have O6 := Lib.hid ho6
    have O7 := Lib.hid ho7
    have OW := Lib.hid hown
    have BW := Lib.hid hbel
    have BWW : Hid (Below w.heap.size w wr) := Lib.hid (B2.out.trans (hbel.mono S2))
    clear ht6 ht7 ho6 ho7 hown
    by_cases hlt : k < len1
    · obtain ⟨pa, pl, pc, lk, pa', pl', pc', lk', hy, hz, hx, hx', hz', hy', hzz⟩ := HBack.out k hlt
      obtain ⟨b1, o1, rfl, _, _⟩ := Rd.row RT.out (by omega)
      obtain ⟨b5, o5, rfl, _, _⟩ := Rd.row RB.out (by omega)
      have TK := Lib.hid (RE.out k pa pl pc lk hy hz)
      have TK' := Lib.hid (RE.out _ pa' pl' pc' lk' hy' hzz)
      have DT : Hid (∀ y, Below x2.heap.size x2 y → y.cell? ⟨b1, o1 + k, none⟩ = some (.slice pa pl pc)) := Lib.hid (fun y b => Rd.cellAt (Rd.below RT.out b S2) rfl (by omega) k _ hx)
      have DB : Hid (∀ y, Below x2.heap.size x2 y → y.cell? ⟨b5, o5 + k, none⟩ = some (.slice pa' pl' pc')) := Lib.hid (fun y b => Rd.cellAt (Rd.below RB.out b (Nat.le_refl _)) rfl (by omega) k _ hx')
      have HF1 := Lib.hid (foldTo_succ (a := z0) hz)
      have HF2 := Lib.hid (foldTo_succ (a := z0) hz')
      clear hy hz hx hx' hz' hy' hzz
      have d1 := DT.out wr hbel
      have d5 := DB.out wr hbel
      clear hbel
      by_cases hl1 : pl = len0
      · by_cases hl2 : pl' = len0
        · have hl1' := hl1.symm
          have hl2' := hl2.symm
          clear hl1 hl2
          subst hl1'
          subst hl2'
          generalize foldTo z0 z1 k = F at *
          generalize foldTo z0 z1.reverse k = F' at *
          obtain ⟨Z, hZ⟩ : ∃ Z, Z = foldTo z0 z1 (k + 1) := ⟨_, rfl⟩
          obtain ⟨Z', hZ'⟩ : ∃ Z', Z' = foldTo z0 z1.reverse (k + 1) := ⟨_, rfl⟩
          have HZF : Hid (foldTo z0 z1 (k + 1) = Z) := Lib.hid hZ.symm
          have HZF' : Hid (foldTo z0 z1.reverse (k + 1) = Z') := Lib.hid hZ'.symm
          rw [← hZ] at HF1
          rw [← hZ'] at HF2
          clear hZ hZ'
          go_wp2_with fail
          have LF : Hid (F.length = len0) := Lib.hid (Txt.len T6.out)
          have LK : Hid (lk.length = len0) := Lib.hid (Txt.len TK.out)
          have LZ' : Hid (Z.length = len0) := Lib.hid (by rw [← HF1.out, force_length (by rw [LF.out, LK.out]), LF.out])
          go_loopw [48] (fun i ws => ∃ (j : Nat) (M : List UInt8), j ≤ len0 ∧ i = .int .i64 j ∧ M.length = len0 ∧ M.take j = Z.take j ∧ M.drop j = F.drop j ∧ ws.ownsRow x2.heap.size 5 1 (.slice A8 len0 c8) len0 (bcells M) ∧
              Txt ws wr.heap.size A6 len0 c6 F ∧ Txt ws wr.heap.size A7 len0 c7 F' ∧ Below x2.heap.size x2 ws ∧ wr.heap.size ≤ ws.heap.size) (fun i _ => (len0 - intOf i).toNat)
          case atStart => exact ⟨0, F, by omega, rfl, LF.out, rfl, rfl, OW.out, T6.out, T7.out, BW.out, Nat.le_refl _⟩
          case round =>
            obtain ⟨j, M, hj, rfl, hml, hmt, hmd, hownM, hs6, hs7, hbs, hss⟩ := hrel
            have OM := Lib.hid hownM
            have HML := Lib.hid hml
            have HMT := Lib.hid hmt
            have HMD := Lib.hid hmd
            have S6 := Lib.hid hs6
            have S7 := Lib.hid hs7
            have BS := Lib.hid hbs
            clear hml hmt hmd hownM
            by_cases hj1 : j < len0
            · obtain ⟨eG, hG2⟩ := HG.out (by omega)
              subst eG
              obtain ⟨b2, o2, rfl, _, _⟩ := Rd.row TK.out (by omega)
              obtain ⟨p, hp⟩ : ∃ p, F[j]? = some p := ⟨_, List.getElem?_eq_getElem (by rw [LF.out]; exact hj1)⟩
              obtain ⟨q, hq⟩ : ∃ q, lk[j]? = some q := ⟨_, List.getElem?_eq_getElem (by rw [LK.out]; exact hj1)⟩
              have e1 := DT.out wr hbs
              have e2 := Txt.cellAt (Rd.below TK.out hbs S2) rfl hq
              have e3 : wr.cell? ⟨G, 0 + j, none⟩ = some (.int .u8 (p.toNat : Int)) := Txt.cellAt (Rd.of_own OM.out) rfl (drop_head HMD.out hp)
              rw [Nat.zero_add] at e3
              have f1 := OM.out.frozenAt j
              have ha := and8 p q
              have HZ : Hid (Z[j]? = some (p &&& q)) := Lib.hid (by rw [← HF1.out]; exact force_get hp hq)
              obtain ⟨O4, b4⟩ := stored_byte OM.out j (p &&& q) hG2
              have HO4 := Lib.hid O4
              have HB4 := Lib.hid (hbs.trans b4)
              have HT4 : Hid ((M.set j (p &&& q)).take (j + 1) = Z.take (j + 1)) := Lib.hid (take_set_next (by rw [HML.out]; exact hj1) HMT.out HZ.out)
              have HD4 := Lib.hid (drop_set (z := p &&& q) HMD.out)
              have S6' := Lib.hid (rd_off S6.out (q := ⟨G, j, none⟩) (O6.out (by omega)) (.int .u8 ((p &&& q).toNat : Int)))
              have S7' := Lib.hid (rd_off S7.out (q := ⟨G, j, none⟩) (O7.out (by omega)) (.int .u8 ((p &&& q).toNat : Int)))
              clear hp hq O4 b4 hs6 hs7 hbs
              go_wp2_with fail
              go_region
              go_wp2_with fail
              go_roundw
              case rel => exact ⟨j + 1, M.set j (p &&& q), by omega, by go_num, by rw [List.length_set, HML.out], HT4.out, HD4.out, HO4.out, Rd.drew S6'.out, Rd.drew S7'.out, HB4.out.drew, by simpa using hss⟩
              case measure => simp [intOf]; omega
            · have hj' : len0 = j := by omega
              clear hj1
              subst hj'
              have HMZ : Hid (M = Z) := Lib.hid (filled HML.out LZ'.out HMT.out)
              rw [HMZ.out] at OM
              have SW : w.heap.size ≤ wr.heap.size := (B2.out.trans (hbs.mono S2)).size
              have HGl := Lib.hid (own_lt OM.out (fun h => (HG.out h).1))
              have H7 := forceOwn _ _ _ _ _ _ _ F lk wr S6.out (Rd.below TK.out hbs S2) hss SW q0
              rw [HF1.out] at H7
              have H7 := Lib.hid H7
              have e1 := DT.out wr hbs
              clear hs6 hs7 hbs
              go_wp2_with fail
              refine (H7.out).mono ?_; rintro e x5 ⟨A9, c9, rfl, hown9, hb9⟩
              have O9 := Lib.hid hown9
              have OM5 := Lib.hid (own_below OM.out hb9 (Nat.le_refl _))
              have B5 : Below x2.heap.size x2 x5 := BS.out.trans (hb9.mono BS.out.size)
              have S9 := hb9.size
              have H8 := forceOwn _ _ _ _ _ _ _ F' lk' x5 (Rd.below S7.out hb9 hss) (Rd.below TK'.out B5 S2) (by omega) (by omega) q0
              rw [HF2.out] at H8
              have H8 := Lib.hid H8
              have e2 := DB.out x5 B5
              have BB5 := Lib.hid B5
              clear hown9 hb9 B5 H7
              unfold two
              go_wp2_with fail
              refine (H8.out).mono ?_; rintro e x6 ⟨A10, c10, rfl, hown10, hb10⟩
              have B6 : Hid (Below x2.heap.size x2 x6) := Lib.hid (BB5.out.trans (hb10.mono BB5.out.size))
              have N6 : Hid (Txt x6 x6.heap.size A9 len0 c9 Z) := Lib.hid (Rd.more (Rd.below (Rd.of_own O9.out) hb10 (Nat.le_refl _)) hb10.size)
              have N7 : Hid (Txt x6 x6.heap.size A10 len0 c10 Z') := Lib.hid (Rd.of_own hown10)
              have P6 := Lib.hid (off_new O9.out HGl.out)
              have P7 := Lib.hid (off_new hown10 (fun h => Nat.lt_of_lt_of_le (HGl.out h) S9))
              have OM6 := Lib.hid (own_below OM5.out hb10 (Nat.le_refl _))
              clear hown10 hb10
              unfold two
              go_wp2_with fail
              refine ⟨⟨k + 1, A9, c9, A10, c10, by omega, by go_num, rfl, rfl, by rw [HZF.out]; exact N6.out, by rw [HZF'.out]; exact N7.out, P6.out, P7.out, by rw [HZF.out]; exact OM6.out, B6.out⟩, ?_⟩
              simp [intOf]; omega
        · have hne : ((pl' : Int) != (len0 : Int)) = true := by rw [bne_iff_ne]; omega
          have hl1' := hl1.symm
          clear hl1
          subst hl1'
          go_wp2_with fail
          go_ret
          exact ⟨rfl, BWW.out⟩
      · have hne : ((pl : Int) != (len0 : Int)) = true := by rw [bne_iff_ne]; omega
        go_wp2_with fail
        go_ret
        exact ⟨rfl, BWW.out⟩
    · obtain rfl : k = len1 := by omega
      have s6 := run_string wr 22 9 5 Try.underlying22 Try.underlying5 Try.underlying9 T6.out
      have s7 := run_string wr 22 9 5 Try.underlying22 Try.underlying5 Try.underlying9 T7.out
      have s8 := run_string wr 22 9 5 Try.underlying22 Try.underlying5 Try.underlying9 (Rd.of_own OW.out)
      have hb := foldTo_back z0 z1
      rw [LZ.out] at hb
      rw [hb] at s7
      have sb : ((str (foldTo z0 z1 k)).toList == (str (foldTo z0 z1 k)).toList) = true := beq_self_eq_true _
      clear hbel hb
      go_wp2_with fail
      go_ret
      exact ⟨rfl, BWW.out⟩

set_option maxRecDepth 100000 in
theorem contract (H : Type) (enc : TypeId × Value → H) (W : World) (base : Nat) (args : Array Value) (ds gs : List (DataW H)) (before : List MemPlace)
    (hval : ∀ (j : Nat) t v, Try.f8.params[j]? = some t → args[j]? = some v → Value.okWide Try.prog W .any base t v)
    (hW : DataW.Whole enc Try.prog Try.f8.params.toList Rows.cellFoldSpec.vars false W args.toList ds gs before) (hsz : (DataW.weightsEach Try.prog (Try.f8.params.toList ++ Rows.cellFoldSpec.plain.varTypes Try.prog) (ds ++ gs)).all (· ≤ reachBytes) = true) :
    Calls Try.prog 8 args W fun e W' => ∃ v, e = .returned v ∧ Rows.cellFoldSpec.post enc Try.prog Try.f8 false true false false W args v W' := by
  have hW' := hW
  obtain ⟨p, q, hA0, hV, rfl, hfz, hnd⟩ := hW
  have hA : DataW.TrodAll enc Try.prog W 0 (fun _ => true) true Try.f8.params.toList args.toList ds p := hA0
  rw [Try.params8] at hA hval hsz
  obtain ⟨v0, vs0, d0, ds0, p0, q0, hargs, rfl, rfl, h0, rr0⟩ := trodAll_cons hA
  obtain ⟨v1, vs1, d1, ds1, p1, q1, rfl, rfl, rfl, h1, rr1⟩ := trodAll_cons rr0
  obtain ⟨rfl, rfl, rfl⟩ := trodAll_nil rr1
  obtain rfl : args = #[v0, v1] := by cases args; simp_all
  obtain ⟨rfl, rfl⟩ := trodVars_none hV
  obtain ⟨a0, len0, cap0, rfl⟩ := okWide_slice Try.underlying22 (hval 0 22 v0 rfl rfl)
  have k0 := h0
  have lt0 : ∀ x ∈ p0, x.block < W.heap.size := by obtain ⟨m, hm⟩ := k0; exact DataW.trod_lt m _ _ _ hm
  obtain ⟨⟨z0, w0⟩, u0⟩ := open_txt h0
  have r0 := reach_txt hsz (j := 0) rfl rfl u0
  obtain ⟨a1, len1, cap1, rfl⟩ := okWide_slice Try.underlying36 (hval 1 36 v1 rfl rfl)
  have k1 := h1
  have lt1 : ∀ x ∈ p1, x.block < W.heap.size := by obtain ⟨m, hm⟩ := k1; exact DataW.trod_lt m _ _ _ hm
  obtain ⟨⟨y1, z1, w1⟩, u1⟩ := open_rows h1
  have r1 := reach_rows hsz (j := 1) rfl rfl u1
  clear hA0
  refine (walk a0 len0 cap0 z0 a1 len1 cap1 y1 z1 W w0 w1 r0 r1).mono fun e W' ⟨he, bel⟩ => ?_
  subst he
  exact ⟨_, rfl, _, _, _, [], _, [], hW', trodAll_mk1 (shut_bool Try.underlying4 _), (trodAll_cons_mk (Below.trod laidOut (by kernel_rfl) (of_decide_eq_true (by kernel_rfl)) k0 bel lt0) (trodAll_cons_mk (Below.trod laidOut (by kernel_rfl) (of_decide_eq_true (by kernel_rfl)) k1 bel lt1) trodAll_mk0)), rfl, bel.frame _, fun h => by cases h⟩

set_option maxRecDepth 100000 in
theorem lifted (os : Os) (started : os.Started) (H : Type) (enc : TypeId × Value → H) :
    ReturnsInHanded {} Try.checked os 8 .any (Rows.cellFoldSpec.pre6 enc Try.prog Try.f8 Rows.cellFoldRow.domain false) (Rows.cellFoldSpec.post enc Try.prog Try.f8 false true false false) := by
  refine returnsInHanded_of_change_sized (C := Try.checked) own started (by kernel_rfl) Try.func8
    (ChangeSpec.witness6 (enc := enc) (C := Try.checked) false ⟨#[], #[.slice none 0 0, .slice none 0 0], []⟩ 8 (by kernel_rfl) (by kernel_rfl) (by kernel_rfl) (by kernel_rfl)) ?_
  intro W base args ds gs before hval hW _ hsz _
  exact contract H enc W base args ds gs before hval hW hsz

theorem over : Rows.cellFoldRow.holds Try.pinned (OpenSpec.ofChange Rows.cellFoldSpec) :=
  OpenClaim.holds_of_wide 8 Try.f8 rfl rfl rfl rfl rfl rfl rfl ⟨rfl, rfl, rfl, rfl, rfl⟩ rfl rfl rfl rfl rfl (by kernel_rfl) Try.func8 (by kernel_rfl)
    (of_decide_eq_true (by kernel_rfl)) (by unfold Func.isWrapper; first | (rw [if_pos (by decide +kernel)]; kernel_rfl) | (rw [if_neg (by decide +kernel)]; exact ⟨rfl, rfl⟩))
    (fun os started H enc _ => lifted os started H enc)

/-- ████ THE STATEMENT ████ -/
theorem proved : Rows.CellFoldSaid := over
#print axioms proved
end Go.Proofs.Ytaombamfglljaaa.cellFold
