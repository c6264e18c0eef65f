/-
  What clean returns: the block behind the head is moved and erased.
-/
import Derived.Test.YtfohihdpohjmcaaProg25
import Derived.Deep.MidRow
namespace Go.Proofs.Ytfohihdpohjmcaa.Ftl
open Go.ChangeShapes Go.WideShapes Go.ChangeAt Go.RowKit Words
open Nand (Blk Nop OwnFl errOf nextOf dataOf oval)
set_option linter.unusedVariables false

theorem info3z : (Try.prog.info? 3).map (fun i => (i.zero, i.size, i.bytes)) = some (some (.int .i64 0), 1, 8) := by kernel_rfl
theorem index50 {l : List Int} {k : Nat} {x : Int} (hx : l[k]? = some x) (hl : l.length = 16) (w : World) : (Instr.index 50 (.agg (icells l).toArray) (.int .i64 (k : Int))).run Try.prog w = .ok (.int .i64 x) w := by
  have hk := (List.getElem?_eq_some_iff.1 hx).1
  have e16 : k < 16 := by omega
  obtain ⟨i3, hi3, _, hz3, _⟩ := info_parts info3z
  have hc : (icells l)[k]? = some (.int .i64 x) := by rw [icells_get, hx]; rfl
  have hlen : (icells l).length = 16 := by rw [icells_length, hl]
  generalize icells l = cs at *
  simp [Instr.index, go_sem, run_underlying Try.underlying50, sizeOf, typeInfo, hi3, hz3, hc]
  intro h
  omega
theorem size50 : (Try.prog.info? 50).map (·.size) = some 16 := by kernel_rfl
theorem size50_len {l : List Int} (h : l.length = 16) : (Try.prog.info? 50).map (·.size) = some (icells l).length := by rw [size50, icells_length, h]
/-- What cleaning keeps. -/
structure CI (base g X E T0 : Nat) (q0 : Pos) (s : Sto) (w : World) (k : Nat) (wr : World) (l : List Blk) (pl : List Int) (T : Nat) (q : Pos) : Prop where
  ring : Ring l pl T E q s
  cl : Cleaning X E T0 q0 k T q
  dv : DV wr base g l pl ((T % 32 : Nat) : Int)
  fr : Fr base g w wr
def CInv (base g X E T0 : Nat) (q0 : Pos) (s : Sto) (w : World) (k : Nat) (wr : World) : Prop := ∃ l pl T q, CI base g X E T0 q0 s w k wr l pl T q
/-- What a write keeps while it makes room. -/
structure WI2 (base g X E0 : Nat) (s : Sto) (w wr : World) (l : List Blk) (pl : List Int) (T E : Nat) (q : Pos) : Prop where
  ring : Ring l pl T E q s
  room : Room X E0 T E q
  dv : DV wr base g l pl ((T % 32 : Nat) : Int)
  fr : Fr base g w wr
theorem ne_true {p : Nat} : ((p : Int) != -1) = true := by rw [bne_iff_ne]; omega
theorem neg_false : ((-1 : Int) != -1) = false := by decide
set_option maxHeartbeats 8000000 in
theorem clean24 (base g X E0 : Nat) (s : Sto) (l : List Blk) (pl : List Int) (T0 E : Nat) (q0 : Pos) (w : World) (I : WI2 base g X E0 s w w l pl T0 E q0) (hs : base ≤ w.heap.size) (hT : T0 = 4 * (E + 7)) (hE : E + 1 ≤ 8000) :
    Calls Try.prog 24 #[.pointer (some ⟨g, 0, none⟩), .int .i64 (E % 8 : Nat)] w fun e w' => e = .returned (.tuple #[]) ∧ ∃ l' pl' T q, WI2 base g X E0 s w w' l' pl' T (E + 1) q := by
  have HI := Lib.hid I
  have hpl := I.ring.pln
  have hX := (I.room.full hT).1
  have HX4 := Lib.hid hX
  have HT := Lib.hid hT
  obtain ⟨r, c, d⟩ := I.dv
  have hran := d.range
  have hsz := size50_len hpl
  have I0 : Hid (CInv base g X E T0 q0 s w 0 w) := Lib.hid ⟨l, pl, T0, q0, I.ring, clean_start I.room.cnt, I.dv, I.fr⟩
  have HP := Lib.hid hpl
  have HE := Lib.hid hE
  clear I hpl hX hT d hE
  obtain ⟨e8, he8⟩ : ∃ e8, e8 = E % 8 := ⟨_, rfl⟩
  rw [← he8]
  have H8 := Lib.hid he8
  clear he8
  go_enter Try.func24, Try.ntmps24
  go_wp2_with (refine wpList_load_mid rfl 50 (.tmp 8) rfl g 1 rfl (icells pl) _ hran Try.underlying50 rfl hsz ?_)
  clear hran hsz
  go_loopw [10] (fun i wr => ∃ (k : Nat), i = .int .i64 k ∧ k ≤ 16 ∧ CInv base g X E T0 q0 s w k wr) (fun i _ => (16 - intOf i).toNat)
  case atStart => exact ⟨0, rfl, by omega, I0.out⟩
  case round =>
    obtain ⟨k, rfl, hk, hinv⟩ := hrel
    have J := Lib.hid hinv
    clear hinv I0
    by_cases hlt : k < 16
    · obtain ⟨x, hx⟩ : ∃ x, pl[k]? = some x := ⟨_, List.getElem?_eq_getElem (by rw [HP.out]; exact hlt)⟩
      have hidx := index50 hx HP.out
      have hin := HI.out.ring.in_block hlt hx
      have HX := Lib.hid hx
      clear hx
      rcases hin with ⟨t, ht, h1, h2, rfl⟩ | ⟨hx, hno⟩
      · obtain ⟨l1, pl1, T1, q1, ci⟩ := J.out
        have e1 : q1 k = some t := by rw [ci.cl.rest k (Nat.le_refl _) hlt]; exact ht
        obtain ⟨hlt1, cl1⟩ := Cleaning.yes ci.ring ci.cl hlt e1 h1 h2 HT.out HX4.out HI.out.ring.inj
        obtain ⟨er, en, es⟩ := ci.ring.read hlt e1 0
        have hpl1 := ci.ring.at_ k hlt
        rw [e1] at hpl1
        have HR := Lib.hid (read22 base g l1 pl1 ((T1 % 32 : Nat) : Int) k t wr ci.dv (Nat.le_trans hs ci.fr.size) hpl1 er en)
        generalize dataOf l1 (opR t 0) = v at *
        have HW := Lib.hid (fun x (dx : DV x base g l1 pl1 ((T1 % 32 : Nat) : Int)) (hz : base ≤ x.heap.size) => program25 base g l1 pl1 T1 k v x dx hz hlt (ci.ring.program_err hlt1 v))
        have hring := ci.ring.program hlt1 hlt v
        rw [upd_self es] at hring
        have JN : Hid (∀ x, DV x base g (nextOf l1 (opP T1 v)) (pl1.set k ((T1 % 32 : Nat) : Int)) (((T1 + 1) % 32 : Nat) : Int) → Fr base g w x → CInv base g X E T0 q0 s w (k + 1) x) := Lib.hid (fun x dx fx => ⟨_, _, _, _, hring, cl1, dx, fx⟩)
        have FR := Lib.hid ci.fr
        have hq : (((t % 32 : Nat) : Int) / 4 == (e8 : Int)) = true := by have := H8.out; rw [beq_iff_eq]; omega
        have hn := ne_true (p := t % 32)
        have hp : t % 32 < 32 := by omega
        clear ci cl1 er en es hpl1 hring ht h1 h2 e1
        generalize t % 32 = p at *
        go_wp2_with fail
        refine (HR.out).mono ?_; rintro e x1 ⟨rfl, d1, f1⟩
        have F1 := Lib.hid (FR.out.trans f1)
        have D1 := Lib.hid d1
        clear d1 f1
        go_wp2_with fail
        refine (HW.out _ D1.out (Nat.le_trans hs F1.out.size)).mono ?_; rintro e x2 ⟨rfl, d2, f2⟩
        have JF := Lib.hid (JN.out _ d2 (F1.out.trans f2))
        clear d2 f2
        go_wp2_with fail
        go_roundw
        case rel => exact ⟨k + 1, by go_num, by omega, JF.out⟩
        case measure => simp [intOf]; omega
      · have JN : Hid (CInv base g X E T0 q0 s w (k + 1) wr) := Lib.hid (by
          obtain ⟨l1, pl1, T1, q1, ci⟩ := J.out
          exact ⟨l1, pl1, T1, q1, ci.ring, ci.cl.no hlt (fun t ht => hno t (by rw [← ci.cl.rest k (Nat.le_refl _) hlt]; exact ht)), ci.dv, ci.fr⟩)
        clear hno
        rcases hx with rfl | ⟨p, rfl, hp, hne⟩
        · go_wp2_with fail
          go_roundw
          case rel => exact ⟨k + 1, by go_num, by omega, JN.out⟩
          case measure => simp [intOf]; omega
        · have hq : ((p : Int) / 4 == (e8 : Int)) = false := by have := H8.out; rw [beq_eq_false_iff_ne]; omega
          have hn := ne_true (p := p)
          clear hne
          go_wp2_with fail
          go_roundw
          case rel => exact ⟨k + 1, by go_num, by omega, JN.out⟩
          case measure => simp [intOf]; omega
    · obtain rfl : k = 16 := by omega
      obtain ⟨l1, pl1, T1, q1, ci⟩ := J.out
      have hroom := HI.out.room.next HT.out ci.cl HI.out.ring.inj
      have htot := ci.cl.tot
      have hr2 := ci.ring.erase (by have := HT.out; omega) HE.out (fun n t hn ht => ci.cl.done n t hn ht)
      have HS := Lib.hid (step27 base g l1 pl1 ((T1 % 32 : Nat) : Int) (opE E) wr ci.dv (Nat.le_trans hs ci.fr.size) (ci.ring.erase_err HE.out))
      have JN : Hid (∀ x, DV x base g (nextOf l1 (opE E)) pl1 ((T1 % 32 : Nat) : Int) → Fr base g w x → ∃ l' pl' T q, WI2 base g X E0 s w x l' pl' T (E + 1) q) := Lib.hid (fun x dx fx => ⟨_, _, _, _, hr2, hroom, dx, fx⟩)
      have FR := Lib.hid ci.fr
      clear ci hroom htot hr2
      unfold opE at HS JN
      rw [← H8.out] at HS JN
      unfold oval at HS
      simp only at HS
      go_wp2_with fail
      refine (HS.out).mono ?_; rintro e x1 ⟨rfl, d1, f1⟩
      have JF := Lib.hid (JN.out _ d1 (FR.out.trans f1))
      clear d1 f1
      go_wp2_with fail
      go_end0
      exact ⟨rfl, JF.out⟩
end Go.Proofs.Ytfohihdpohjmcaa.Ftl
