/-
  Runs in memory: rows of them that are read, rows of the call's own.
-/
import Derived.Test.YtfcihgincfcdkaaProg
import Derived.Test.YtfcihgincfcdkaaRPlain
import Derived.Deep.QuietTactic
import Derived.BigQuiet
import Derived.RegionTactic
import Derived.ChangeAlike
import Derived.Deep.RegionWith
import Derived.Deep.CutBlock
import Derived.Laws.CopyOwn
import Derived.Deep.DeepCutAuto
import Derived.StillTailTactics
import Derived.Maps.RangeWalk
namespace Go.Proofs.Ytfcihgincfcdkaa.Rns
open Go.ChangeShapes Go.WideShapes Go.ChangeAt Go.RowKit Words
set_option linter.unusedVariables false

def rcells (x : Rn) : List Value := [.int .i64 x.a, .int .i64 x.d, .int .i64 x.m]
def rval (x : Rn) : Value := .agg #[.int .i64 x.a, .int .i64 x.d, .int .i64 x.m]
theorem rcells_length (x : Rn) : (rcells x).length = 3 := rfl
def lcells (l : List Rn) : List Value := l.flatMap rcells
theorem lcells_length (l : List Rn) : (lcells l).length = l.length * 3 := flat_length rcells_length l
theorem lcells_append (a b : List Rn) : lcells (a ++ b) = lcells a ++ lcells b := List.flatMap_append
theorem rcells_one (x : Rn) : ∀ u ∈ rcells x, u.oneCell' = true := by
  intro u hu
  simp [rcells] at hu
  rcases hu with rfl | rfl | rfl <;> rfl
theorem lcells_one (l : List Rn) : ∀ u ∈ lcells l, u.oneCell' = true := by
  intro u hu
  obtain ⟨b, _, hb⟩ := List.mem_flatMap.1 hu
  exact rcells_one b u hb
/-- The []api.Run value reads as the list. -/
def Rns (w : World) (B : Nat) (A : Option Addr) (n c : Nat) (l : List Rn) : Prop := Words.Rd w B 3 A n c (lcells l)
/-- Each number fits an int. -/
def wfI (x : Int) : Prop := (Lit.int .i64 x).wf = true
structure RAt (w : World) (g o : Nat) (b : Rn) : Prop where
  c0 : w.cell? ⟨g, o, none⟩ = some (.int .i64 b.a)
  c1 : w.cell? ⟨g, o + 1, none⟩ = some (.int .i64 b.d)
  c2 : w.cell? ⟨g, o + 2, none⟩ = some (.int .i64 b.m)
section
variable {w : World} {B : Nat} {A : Option Addr} {n c : Nat} {l : List Rn}
theorem Rns.len (h : Rns w B A n c l) : l.length = n := by
  have := Words.Rd.len h
  rw [lcells_length] at this
  omega
theorem Rns.cells (h : Rns w B A n c l) {g o : Nat} (e : A = some ⟨g, o, none⟩) {i : Nat} {b : Rn} (hb : l[i]? = some b) : RAt w g (o + i * 3) b := by
  have hi := (List.getElem?_eq_some_iff.1 hb).1
  have hl := Rns.len h
  have hc : ∀ j, j < 3 → ∀ u, (rcells b)[j]? = some u → w.cell? ⟨g, o + i * 3 + j, none⟩ = some u := fun j hj u hu => by
    have := Words.Rd.cellAt h e (by omega) (i * 3 + j) u (by rw [lcells, flat_get rcells_length hb hj, hu])
    rwa [← Nat.add_assoc] at this
  exact ⟨hc 0 (by omega) _ rfl, hc 1 (by omega) _ rfl, hc 2 (by omega) _ rfl⟩
end
theorem info34 : (Try.prog.info? 34).map (fun i => (i.zero, i.size, i.bytes)) = some (some (.agg #[.int .i64 0, .int .i64 0, .int .i64 0]), 3, 24) := by kernel_rfl
/-- A list of the call's own. -/
def OwnRn (w : World) (base : Nat) (A : Option Addr) (n c : Nat) (l : List Rn) : Prop := w.ownsRow base 34 3 (.slice A n c) n (lcells l)
section
variable {w w' : World} {base g : Nat} {A : Option Addr} {n c : Nat} {l : List Rn}
theorem OwnRn.rns (h : OwnRn w base A n c l) : Rns w w.heap.size A n c l := Words.Rd.of_own h
theorem OwnRn.len (h : OwnRn w base A n c l) : l.length = n := h.rns.len
theorem OwnRn.below {D : Nat} (h : OwnRn w base A n c l) (hb : Below D w w') (hD : w.heap.size ≤ D) : OwnRn w' base A n c l := own_below h hb hD
theorem OwnRn.more (h : OwnRn w base A n c l) {base' : Nat} (hb : base' ≤ base) : OwnRn w base' A n c l := own_base h hb
theorem OwnRn.addr (h : OwnRn w base A n c l) (hn : 0 < n) : ∃ g, A = some ⟨g, 0, none⟩ ∧ base ≤ g ∧ g < w.heap.size := by
  obtain ⟨g, c', hv, h1, h2⟩ := own_form_pos h hn
  injection hv with hv _ _
  exact ⟨g, hv, h1, h2⟩
end
theorem boxed (x : World) (o : Obj) : Below x.heap.size x (x.alloc o) := (Below.refl _ _).alloc (Nat.le_refl _) o
theorem take_next {α : Type} {l : List α} {k : Nat} {x : α} (h : l[k]? = some x) : l.take (k + 1) = l.take k ++ [x] := by
  rw [List.take_add_one, h]; rfl
/-! ### where a block lies -/
theorem ma_skip : ∀ {pre : List Rn} {post : List Rn} {x : Int}, (∀ p ∈ pre, inR p x = false) → ma (pre ++ post) x = ma post x
  | [], _, _, _ => rfl
  | p :: pre, post, x, h => by
    show ma (p :: (pre ++ post)) x = _
    rw [ma_out (h p (by simp))]
    exact ma_skip fun q hq => h q (by simp [hq])
theorem ma_at {l : List Rn} {k : Nat} {r : Rn} {x : Int} (hr : l[k]? = some r) (h : ∀ p ∈ l.take k, inR p x = false) (hi : inR r x = true) : ma l x = x - r.a + r.d := by
  have e : l = l.take k ++ r :: l.drop (k + 1) := by
    obtain ⟨hk, hkr⟩ := List.getElem?_eq_some_iff.1 hr
    rw [← hkr, List.getElem_cons_drop, List.take_append_drop]
  rw [e, ma_skip h, ma_in hi]
theorem none_next {l : List Rn} {k : Nat} {r : Rn} {x : Int} (hr : l[k]? = some r) (h : ∀ p ∈ l.take k, inR p x = false) (hi : inR r x = false) : ∀ p ∈ l.take (k + 1), inR p x = false := fun p hp => by
  rw [take_next hr] at hp
  rcases List.mem_append.1 hp with hp | hp
  · exact h p hp
  · rw [List.mem_singleton] at hp; subst hp; exact hi
theorem whole_below2 {w w' : World} {g : Nat} {t : TypeId} {cs : Array Value} (h : Whole w g t cs) (hb : Below w.heap.size w w') : Whole w' g t cs := by
  have hlt := h.lt
  unfold Whole at *
  rw [hb.block _ hlt]
  exact h
/-- Each run is within the bounds. -/
def Oks (l : List Rn) : Prop := ∀ r ∈ l, okR r = true
set_option maxHeartbeats 2000000 in
theorem mfind13 (B : Nat) (A : Option Addr) (n c : Nat) (l : List Rn) (x : Int) (w : World) (h : Rns w B A n c l) (hB : B ≤ w.heap.size) (hb : Oks l) :
    Calls Try.prog 13 #[.slice A n c, .int .i64 x] w fun e w' => e = .returned (.int .i64 (ma l x)) ∧ Below w.heap.size w w' := by
  have HN := h.small
  have HL := Lib.hid h.len
  have H := Lib.hid h
  have HB := Lib.hid hb
  have b0 : Below w.heap.size w w := Below.refl _ _
  have B0 := Lib.hid b0
  clear h hb b0
  go_enter Try.func13, Try.ntmps13
  go_wp2_with fail
  go_loopw [11] (fun i wr => ∃ k : Nat, i = .int .i64 k ∧ k ≤ n ∧ Below w.heap.size w wr ∧ ∀ p ∈ l.take k, inR p x = false) (fun i _ => (n - intOf i).toNat)
  case atStart => exact ⟨0, rfl, by omega, B0.out, fun p hp => by simp at hp⟩
  case round =>
    obtain ⟨k, rfl, hk, hbel, hno⟩ := hrel
    have BW := Lib.hid hbel
    have NO := Lib.hid hno
    clear hbel hno
    by_cases hlt : k < n
    · obtain ⟨g, o, rfl, _, _⟩ := Words.Rd.row H.out (by omega)
      obtain ⟨⟨ra, rd, rm⟩, hr⟩ : ∃ r, l[k]? = some r := ⟨_, List.getElem?_eq_getElem (by rw [HL.out]; exact hlt)⟩
      obtain ⟨c0, c1, c2⟩ := Rns.cells (Words.Rd.below H.out BW.out hB) rfl hr
      obtain ⟨o1, o2, o3, o4, o5, o6⟩ := okR_yes.1 (HB.out _ (List.mem_of_getElem? hr))
      simp only at o1 o2 o3 o4 o5 o6
      have HR := Lib.hid hr
      clear hr
      have hw1 : IntKind.i64.wrap (ra + rm) = ra + rm := by rw [IntKind.wrap_i64]; omega
      obtain ⟨wb, hwb⟩ : ∃ wb, (wr.alloc (.cells #[.int .i64 ra, .int .i64 rd, .int .i64 rm] 34)).alloc (.cells #[.int .i64 ra, .int .i64 rd, .int .i64 rm] 34) = wb := ⟨_, rfl⟩
      have hg : Whole wb (wr.heap.size + 1) 34 #[.int .i64 ra, .int .i64 rd, .int .i64 rm] := by
        rw [← hwb]
        have := Whole.new (wr.alloc (.cells #[.int .i64 ra, .int .i64 rd, .int .i64 rm] 34)) 34 #[.int .i64 ra, .int .i64 rd, .int .i64 rm]
        rw [World.size_alloc] at this
        exact this
      have BB : Hid (Below w.heap.size w wb) := Lib.hid (by rw [← hwb]; exact (BW.out.alloc BW.out.size _).alloc (BW.out.alloc BW.out.size _).size _)
      have HG := Lib.hid hg
      have HWB := Lib.hid hwb
      clear hg hwb
      cases hi : inR ⟨ra, rd, rm⟩ x with
      | true =>
        have h1 := inR_yes.1 hi
        have h2 : ra ≤ x := h1.1
        have h3 : x < ra + rm := h1.2
        have HM : Hid (ma l x = x - ra + rd) := Lib.hid (ma_at HR.out NO.out hi)
        have hw2 : IntKind.i64.wrap (x - ra) = x - ra := by rw [IntKind.wrap_i64]; omega
        have hw3 : IntKind.i64.wrap (x - ra + rd) = x - ra + rd := by rw [IntKind.wrap_i64]; omega
        clear hi h1
        go_wp2_with fail
        rw [HWB.out]
        go_loopw [18] (fun i wx => i = .int .i64 0 ∧ Below wb.heap.size wb wx) (fun _ _ => 0)
        case atStart => exact ⟨rfl, Below.refl _ _⟩
        case round =>
          obtain ⟨rfl, hbx⟩ := hrel
          have g0 := Whole.cell (whole_below2 HG.out hbx) 0
          have g1 := Whole.cell (whole_below2 HG.out hbx) 1
          have g2 := Whole.cell (whole_below2 HG.out hbx) 2
          have BX := Lib.hid (BB.out.trans (hbx.mono BB.out.size))
          simp at g0 g1 g2
          clear hbx
          go_wp2_with fail
          go_ret
          exact ⟨ret_int HM.out.symm, (BX.out.alloc BX.out.size _)⟩
      | false =>
        have NX := Lib.hid (none_next HR.out NO.out hi)
        have h1 := inR_no.1 hi
        have h2 : ¬ (ra ≤ x ∧ x < ra + rm) := h1
        clear hi h1
        go_wp2_with fail
        rw [HWB.out]
        go_loopw [18] (fun i wx => ∃ j : Nat, i = .int .i64 j ∧ j ≤ 1 ∧ Below wb.heap.size wb wx) (fun i _ => (1 - intOf i).toNat)
        case atStart => exact ⟨0, rfl, by omega, Below.refl _ _⟩
        case round =>
          obtain ⟨j, rfl, hj, hbx⟩ := hrel
          have BX := Lib.hid hbx
          have g0 := Whole.cell (whole_below2 HG.out hbx) 0
          have g1 := Whole.cell (whole_below2 HG.out hbx) 1
          have g2 := Whole.cell (whole_below2 HG.out hbx) 2
          simp at g0 g1 g2
          clear hbx
          rcases Nat.eq_zero_or_pos j with h0 | h0
          · subst h0
            by_cases h4 : ra ≤ x
            · have h5 : ra + rm ≤ x := by omega
              clear h2
              go_wp2_with fail
              go_roundw
              case rel => exact ⟨1, by go_num, by omega, BX.out.alloc BX.out.size _⟩
              case measure => simp [intOf]
            · clear h2
              go_wp2_with fail
              go_roundw
              case rel => exact ⟨1, by go_num, by omega, BX.out.alloc BX.out.size _⟩
              case measure => simp [intOf]
          · obtain rfl : j = 1 := by omega
            clear h2 h0 hj
            go_wp2_with fail
            go_roundw
            case rel => exact ⟨k + 1, by go_num, by omega, BB.out.trans (BX.out.mono BB.out.size), NX.out⟩
            case measure => simp [intOf]; omega
    · obtain rfl : k = n := by omega
      have HM : Hid (ma l x = -1) := Lib.hid (Fo.miss (by have := NO.out; rwa [List.take_of_length_le (by rw [HL.out]; exact Nat.le_refl _)] at this))
      go_wp2_with fail
      go_ret
      exact ⟨ret_int HM.out.symm, BW.out⟩
end Go.Proofs.Ytfcihgincfcdkaa.Rns
