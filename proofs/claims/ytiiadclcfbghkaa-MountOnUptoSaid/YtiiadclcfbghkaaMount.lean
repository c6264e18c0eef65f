/-
  What Mount returns.
-/
import Derived.Test.YtiiadclcfbghkaaSeq
namespace Go.Proofs.Ytiiadclcfbghkaa.Mnt
open Go.ChangeShapes Go.WideShapes Go.ChangeAt Go.RowKit Words
set_option linter.unusedVariables false

theorem results_acc {P : Program} {fn : Func} {p q r : Tmp} {ty : TypeId} (h : fn.results = #[.cell p ty, .tmp q, .tmp r]) (tmps : Array Value) (w : World) (g : Nat) (t : TypeId) (cs : Array Value) (d : TypeDesc)
    (hp : tmps.getD p undef = .pointer (some ⟨g, 0, none⟩)) (hg : Whole w g t cs)
    (hu : P.underlying ty = some d) (hd : (match d with | .struct _ | .array _ _ => true | _ => false) = true) (hi : (P.info? ty).map (·.size) = some cs.size) :
    (results fn tmps).run P w = .ok (.tuple #[.agg cs, tmps.getD q undef, tmps.getD r undef]) w := by
  have hp' : tmps[p]?.getD undef = .pointer (some ⟨g, 0, none⟩) := by simpa using hp
  simp [results, h, hp', asAddr, run_loadVar_row w g t ty cs (0, 0) d hg hu hd hi]
def Mounted (w : World) (s : List Int) (l : List Pg) (q : Int) (e : Ending) (w' : World) : Prop :=
  e = .returned (.tuple #[av (moS s l q), .int .i64 (moN l q), .int .i64 (moE l q)]) ∧ Below w.heap.size w w'
theorem mounted_bad {w w' : World} {s : List Int} {l : List Pg} {q : Int} (h : okM l q = false) (b : Below w.heap.size w w') : Mounted w s l q (.returned (.tuple #[av zero16, .int .i64 0, .int .i64 2])) w' := by
  unfold Mounted; rw [moS_no h, moN_no h, moE_no h]; exact ⟨rfl, b⟩
theorem mounted_ok {w w' : World} {s ps st : List Int} {l : List Pg} {q v : Int} (h : okM l q = true) (hs : st = run s (sq l q)) (hv : v = q + (sq l q).length) (b : Below w.heap.size w w') : Mounted w s l q (.returned (.tuple #[av st, .int .i64 v, .int .i64 0])) w' := by
  subst hs hv
  unfold Mounted; rw [moS_yes h, moN_yes h, moE_yes h]; exact ⟨rfl, b⟩
theorem okM_no {l : List Pg} {q : Int} (h : okF q = false) : okM l q = false := by unfold okM; rw [h]; rfl
theorem okM_of {l : List Pg} {q : Int} (h : okF q = true) : okM l q = allN (sq l q) := by unfold okM; rw [h]; rfl
set_option maxHeartbeats 4000000 in
theorem mount9 (s : List Int) (hs : s.length = 16) (q : Int) (B : Nat) (A : Option Addr) (n c : Nat) (l : List Pg) (w : World) (h : Pgs w B A n c l) (hB : B ≤ w.heap.size) (hf : WfL l) (hn32 : n * 32 ≤ 140737488351232) :
    Calls Try.prog 9 #[av s, .int .i64 q, .slice A n c] w (Mounted w s l q) := by
  have HS := size22_of (l := zero16) rfl
  have HA := arr_all zero16
  have HSs := size22_of hs
  have HAs := arr_all s
  have W0 : Hid (WI ((w.alloc (.cells (icells s).toArray 22)).alloc (.cells (icells zero16).toArray 22)) w.heap.size 22 s) := Lib.hid ((WI.new w 22 s).alloc _)
  have W1 : Hid (WI ((w.alloc (.cells (icells s).toArray 22)).alloc (.cells (icells zero16).toArray 22)) (w.heap.size + 1) 22 zero16) := Lib.hid (by
    have := WI.new (w.alloc (.cells (icells s).toArray 22)) 22 zero16; rw [World.size_alloc] at this; exact this)
  have B0 : Hid (Below w.heap.size w ((w.alloc (.cells (icells s).toArray 22)).alloc (.cells (icells zero16).toArray 22))) := Lib.hid (two_blocks w _ _)
  cases hq : okF q with
  | false =>
    have HD := Lib.hid (okM_no (l := l) hq)
    have h0 := W1.out
    have HW := Lib.hid (wi_setRow h0 zero16)
    have HB := Lib.hid (below_setRow B0.out (show w.heap.size ≤ w.heap.size + 1 by omega) (icells zero16).toArray)
    have hq2 := okF_no.1 hq
    unfold av
    by_cases h1 : q < 0
    · clear hq hq2
      go_enter Try.func9, Try.ntmps9
      go_wp2_with (refine wpList_store_row rfl 22 (.tmp 6) (.tmp 18) rfl (w.heap.size + 1) (icells zero16).toArray rfl rfl 22 (icells zero16).toArray h0 HS rfl HA ?_)
      refine bodyPost_ret (results_acc rfl _ _ (w.heap.size + 1) 22 (icells zero16).toArray _ rfl HW.out Try.underlying22 rfl HS) rfl ?_
      exact mounted_bad HD.out HB.out
    · have h2 : 1099511627776 < q := by omega
      clear hq hq2
      go_enter Try.func9, Try.ntmps9
      go_wp2_with (refine wpList_store_row rfl 22 (.tmp 6) (.tmp 18) rfl (w.heap.size + 1) (icells zero16).toArray rfl rfl 22 (icells zero16).toArray h0 HS rfl HA ?_)
      refine bodyPost_ret (results_acc rfl _ _ (w.heap.size + 1) 22 (icells zero16).toArray _ rfl HW.out Try.underlying22 rfl HS) rfl ?_
      exact mounted_bad HD.out HB.out
  | true =>
    have HC := Lib.hid (inSequence16 q hq B A n c l _ (Words.Rd.below h B0.out hB) (Nat.le_trans hB B0.out.size) hf hn32)
    have HK := Lib.hid (okM_of (l := l) hq)
    have hle := sq_le l q
    have HL := h.len
    rw [HL] at hle
    have HF := Lib.hid (fun B A n c x h hB => fold7 s hs B A n c (sq l q) x h hB)
    have hlen := foS_length (l := sq l q) hs
    obtain ⟨q0, q1⟩ := okF_yes.1 hq
    have HV : Hid (IntKind.i64.wrap (q + ((sq l q).length : Int)) = q + (sq l q).length) := Lib.hid (by rw [IntKind.wrap_i64]; omega)
    have hlm : (sq l q).length ≤ 9223372036854775807 := by omega
    obtain ⟨ps, hps⟩ : ∃ ps, ps = sq l q := ⟨_, rfl⟩
    have HP := Lib.hid hps
    rw [← hps] at HC HF HK HV hlm hlen
    obtain ⟨m, hm⟩ : ∃ m, m = ps.length := ⟨_, rfl⟩
    have HM := Lib.hid hm
    rw [← hm] at HV hlm
    have hwv := HV.out
    obtain ⟨fs, hfs⟩ : ∃ fs, fs = foS s ps := ⟨_, rfl⟩
    have HFS := Lib.hid hfs
    rw [← hfs] at hlen
    have hSf := size22_of hlen
    have hAf := arr_all fs
    have hzf := z16_size hlen
    clear hq hps hm hfs hle HL h hf hn32 hlen
    unfold av
    go_enter Try.func9, Try.ntmps9
    go_wp2_with fail
    refine (HC.out).mono ?_; rintro e w1 ⟨A1, c1, rfl, o1, b1⟩
    rw [← HM.out] at o1 ⊢
    have B1 := Lib.hid (B0.out.trans (b1.mono B0.out.size))
    have S1 := WI.below W0.out b1
    have R1 := Lib.hid (WI.below W1.out b1)
    have O1 := Lib.hid o1
    clear o1 b1
    go_wp2_with (refine wpList_load_row rfl 22 (.tmp 3) rfl w.heap.size rfl 22 (icells s).toArray (0, 0) _ S1 Try.underlying22 rfl HSs ?_)
    refine (HF.out _ A1 m c1 w1 O1.out.pgs (Nat.le_refl _)).mono ?_; rintro e w2 ⟨rfl, b2⟩
    rw [← HFS.out]
    have B2 := Lib.hid (B1.out.trans (b2.mono B1.out.size))
    have R2 := Lib.hid (WI.below R1.out b2)
    clear b2
    have R3 := R2.out.alloc (.cells (icells fs).toArray 22)
    have S3 : Whole (w2.alloc (.cells (icells fs).toArray 22)) w2.heap.size 22 (icells fs).toArray := Whole.new w2 22 _
    have B3 := Lib.hid (B2.out.alloc B2.out.size (.cells (icells fs).toArray 22))
    unfold av
    cases ha : allN ps with
    | false =>
      rw [foE_no ha]
      rw [ha] at HK
      have HW := Lib.hid (wi_setRow R3 zero16)
      have HB := Lib.hid (below_setRow B3.out (show w.heap.size ≤ w.heap.size + 1 by omega) (icells zero16).toArray)
      clear ha
      go_wp2_with (first
        | (refine wpList_store_new rfl 22 (.tmp 10) (.tmp 26) rfl w2 (icells fs).toArray rfl rfl 22 (icells zero16).toArray hSf hzf hAf ?_)
        | (refine wpList_store_row rfl 22 (.tmp 6) (.tmp 30) rfl (w.heap.size + 1) (icells zero16).toArray rfl rfl 22 (icells zero16).toArray R3 HS rfl HA ?_))
      refine bodyPost_ret (results_acc rfl _ _ (w.heap.size + 1) 22 (icells zero16).toArray _ rfl HW.out Try.underlying22 rfl HS) rfl ?_
      exact mounted_bad HK.out HB.out
    | true =>
      rw [foE_yes ha]
      have HG : Hid (fs = run s ps) := Lib.hid (HFS.out.trans (foS_yes ha))
      rw [ha] at HK
      have HW := Lib.hid (wi_setRow R3 fs)
      have HB := Lib.hid (below_setRow B3.out (show w.heap.size ≤ w.heap.size + 1 by omega) (icells fs).toArray)
      clear ha
      go_wp2_with (first
        | (refine wpList_store_new rfl 22 (.tmp 10) (.tmp 26) rfl w2 (icells fs).toArray rfl rfl 22 (icells zero16).toArray hSf hzf hAf ?_)
        | (refine wpList_load_row rfl 22 (.tmp 10) rfl w2.heap.size rfl 22 (icells fs).toArray (0, 0) _ S3 Try.underlying22 rfl hSf ?_)
        | (refine wpList_store_row rfl 22 (.tmp 6) (.tmp 32) rfl (w.heap.size + 1) (icells fs).toArray rfl rfl 22 (icells zero16).toArray R3 hSf hzf hAf ?_))
      refine bodyPost_ret (results_acc rfl _ _ (w.heap.size + 1) 22 (icells fs).toArray _ rfl HW.out Try.underlying22 rfl hSf) rfl ?_
      exact mounted_ok (ps := []) HK.out (by rw [HG.out, HP.out]) (by rw [HM.out, HP.out]) HB.out
end Go.Proofs.Ytiiadclcfbghkaa.Mnt
