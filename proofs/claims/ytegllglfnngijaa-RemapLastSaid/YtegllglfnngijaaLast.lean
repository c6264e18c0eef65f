/-
  What slices.Clone of operations returns; and what a region keeps that clones, appends, plays and makes a block, in whatever order.
-/
import Derived.Test.YtegllglfnngijaaKeep
namespace Go.Proofs.Ytegllglfnngijaa.Rem
open Go.ChangeShapes Go.WideShapes Go.ChangeAt Go.RowKit Words
set_option linter.unusedVariables false

theorem info37' : (Try.prog.info? 37).map (fun i => (i.zero, i.size, i.bytes)) = some (some (.agg #[.int .i64 0, .int .i64 0]), 2, 16) := by kernel_rfl
def MadeO (w : World) (l : List Mop) (n : Nat) (e : Ending) (w' : World) : Prop :=
  ∃ A c, e = .returned (.slice A n c) ∧ w'.ownsRow w.heap.size 37 2 (.slice A n c) n (lcells l) ∧ Below w.heap.size w w'
set_option maxHeartbeats 1000000 in
theorem clone15 (B : Nat) (A : Option Addr) (n c : Nat) (l : List Mop) (w : World) (h : Ops w B A n c l) (hB : B ≤ w.heap.size) (hn : n ≤ 8796093022208) :
    Calls Try.prog 15 #[.slice A n c] w (MadeO w l n) := by
  obtain ⟨i0, hi0, hz0, hz1, hz2⟩ := info_parts info37'
  have hzz : (Value.agg #[.int .i64 0, .int .i64 0]).cells.size = 2 := rfl
  cases A with
  | none =>
    have hc := Words.Rd.none_ h rfl
    have hn0 : n = 0 := by have := Words.Rd.le h; omega
    have hl := h.len
    subst hc hn0
    have hl0 : l = [] := List.eq_nil_of_length_eq_zero hl
    subst hl0
    clear h hl
    have hq := Lib.run_eql_slice_nil (P := Try.prog) w 22 37 none 0 0 0 0 Try.underlying22
    go_enter Try.func15, Try.ntmps15
    go_wp2_with fail
    go_ret
    exact ⟨none, 0, rfl, w.ownsRow_nil _ _ _, Below.refl _ _⟩
  | some a =>
    have H := Lib.hid h
    have HN := Lib.hid h.len
    have hml := Words.Rd.max h
    have hle := Words.Rd.le h
    clear h
    have hq := Lib.run_eql_slice_nil (P := Try.prog) w 22 37 (some a) n c 0 0 Try.underlying22
    have hown1 : (w.alloc (.cells #[] 37)).ownsRow w.heap.size 37 2 (.slice (some ⟨w.heap.size, 0, none⟩) 0 0) 0 [] := w.ownsRow_lit #[] 0 (Nat.le_refl _) (by decide) rfl
    have hb1 : Below w.heap.size w (w.alloc (.cells #[] 37)) := (Below.refl _ _).alloc (Nat.le_refl _) _
    have hz1' : w.heap.size ≤ (w.alloc (.cells #[] 37)).heap.size := hb1.size
    have HR := Lib.hid (Words.Rd.alloc H.out hB (.cells #[] 37))
    go_enter Try.func15, Try.ntmps15
    go_wp2_with (first
      | (at_builtin; refine wpList_append_rd _ rfl (.tmp 5) (.tmp 6) 22 rfl w.heap.size 37 i0 _ 2 16 Try.underlying22 hi0 hz0 hz1 hz2 hzz (by decide) _ 0 [] rfl hown1 B (some a) n c (lcells l) rfl HR.out (lcells_one l) (by omega) (by omega) hz1' ?_
         intro A2 c2 w2 hown2 hg2
         have hb2 : Below w.heap.size w w2 := below_grown hb1 hown1 hg2 hz1' (Nat.le_refl _)
         simp only [Nat.zero_add, List.nil_append] at hown2))
    go_ret
    exact ⟨A2, c2, rfl, hown2, hb2⟩
/-! ### append in a region that draws -/
section
variable {P : Program} (w : World)
theorem step_append_rd {ops : Array Oper} {o : Oper} {a : Act} {K : Act → World → Prop} {Q : Exit → Act → World → Prop} {E : Prop}
    (hg : o.guard = none) (s x : Operand) (t : TypeId) (hop : o.op = Op.call { callee := Callee.builtin Builtin.append, args := #[s, x], argTypes := #[t, t] })
    (base : Nat) (e : TypeId) (i : TypeInfo) (z : Value) (size bytes : Nat) (ht : P.underlying t = some (.slice e)) (hi : P.info? e = some i) (hz : i.zero = some z)
    (hsize : i.size = size) (hby : i.bytes = bytes) (hzs : z.cells.size = size) (hsz : 0 < size)
    (v : Value) (n : Nat) (xs : List Value) (hs : a.eval s = v) (hown : w.ownsRow base e size v n xs)
    (B : Nat) (A : Option Addr) (m c : Nat) (news : List Value) (hx : a.eval x = .slice A m c) (hr : Words.Rd w B size A m c news) (h1 : ∀ u ∈ news, u.oneCell' = true)
    (h63 : n + m ≤ maxLen) (hbytes : (n + m) * bytes ≤ 140737488355328) (hbase : base ≤ w.heap.size)
    (hK : ∀ A' c' w', w'.ownsRow base e size (.slice A' (n + m) c') (n + m) (xs ++ news) → w.grownBy w' v.ownBlock → K (a.put o.dst (.slice A' (n + m) c')) w') :
    if Region.wanted o (yielded ops a.tmps) = true then Oper.wp P o a w K Q else E := by
  have hw : Region.wanted o (yielded ops a.tmps) = true := by simp [Region.wanted, hg]
  rw [if_pos hw]
  obtain ⟨v', w', hrun, h2, h3⟩ := run_append_rd (P := P) w base t o.type e i z size bytes ht hi hz hsize hby hzs hsz v n xs hown B A m c news hr h1 h63 hbytes hbase
  obtain ⟨A', c', rfl⟩ := own_form h2
  unfold Oper.wp
  simp [execOp, hop, resolve, invoke, builtin, hs, hx, hrun, Result.andThen]
  exact hK A' c' w' h2 h3
end
/-! ### what is kept -/
/-- The row of the call's own, the literal, in one world. -/
structure RC (w0 W : World) (B0 : Nat) (A : Option Addr) (n c : Nat) (l : List Mop) : Prop where
  bel : Below B0 w0 W
  row : W.ownsRow B0 37 2 (.slice A n c) n (lcells l)
theorem RC.size {w0 W : World} {B0 : Nat} {A : Option Addr} {n c : Nat} {l : List Mop} (h : RC w0 W B0 A n c l) (hB : B0 ≤ w0.heap.size) : B0 ≤ W.heap.size := Nat.le_trans hB h.bel.size
theorem RC.alloc {w0 W : World} {B0 : Nat} {A : Option Addr} {n c : Nat} {l : List Mop} (h : RC w0 W B0 A n c l) (hB : B0 ≤ w0.heap.size) (o : Obj) : RC w0 (W.alloc o) B0 A n c l :=
  ⟨h.bel.alloc (h.size hB) o, Go.World.ownsRow.alloc h.row o⟩
theorem RC.ops {w0 W : World} {B0 : Nat} {A : Option Addr} {n c : Nat} {l : List Mop} (h : RC w0 W B0 A n c l) : Ops W W.heap.size A n c l := Words.Rd.of_own h.row
theorem rc_made {w0 W y : World} {B0 : Nat} {A : Option Addr} {n c : Nat} {l : List Mop} (hb : Below B0 w0 W) (hB : B0 ≤ W.heap.size) (ho : y.ownsRow W.heap.size 37 2 (.slice A n c) n (lcells l)) (hy : Below W.heap.size W y) : RC w0 y B0 A n c l :=
  ⟨hb.trans (hy.mono hB), own_base ho hB⟩
theorem rc_app {w0 W x : World} {B0 : Nat} {A A' : Option Addr} {n c c' : Nat} {l : List Mop} {o : Mop} (h : RC w0 W B0 A n c l) (hB : B0 ≤ w0.heap.size)
    (ho : x.ownsRow B0 37 2 (.slice A' (n + 1) c') (n + 1) (lcells l ++ lcells [o])) (hg : W.grownBy x (Value.slice A n c).ownBlock) : RC w0 x B0 A' (n + 1) c' (l ++ [o]) :=
  ⟨below_grown h.bel h.row hg (h.size hB) (Nat.le_refl _), by rw [lcells_append]; exact ho⟩
/-- A block of sixteen is no row of operations. -/
theorem wi_app {w0 W x : World} {B0 b : Nat} {A : Option Addr} {n c : Nat} {l : List Mop} {z : List Int} (h : RC w0 W B0 A n c l) (hw : WI W b 25 z) (hg : W.grownBy x (Value.slice A n c).ownBlock) : WI x b 25 z := by
  have hlt := hw.lt
  have hne : some b ≠ (Value.slice A n c).ownBlock := by
    intro e
    rcases h.row.2 with ⟨hv, _⟩ | ⟨g, cap, cur, hv, _, hgg, _⟩
    · rw [hv] at e; simp [Value.ownBlock] at e
    · rw [hv] at e
      have eb : b = g := by simpa [Value.ownBlock] using e
      subst eb
      unfold WI Whole at hw
      rw [hgg] at hw
      injection hw with hw
      injection hw with _ ht
      cases ht
  unfold WI Whole at *
  rw [hg.block b hlt hne]
  exact hw
/-- The literal reads. -/
def LitAt (W : World) (b : Nat) (o : Mop) : Prop := Words.Rd W W.heap.size 2 (some ⟨b, 0, none⟩) 1 1 (lcells [o])
theorem LitAt.new (w : World) (o : Mop) : LitAt (w.alloc (.cells #[.int .i64 o.kind, .int .i64 o.n] 37)) w.heap.size o := by
  have := Words.Rd.new (sz := 2) w 37 #[.int .i64 o.kind, .int .i64 o.n] (0, 0) (lcells [o]) 1 rfl rfl (by unfold maxLen; omega)
  unfold LitAt
  rw [World.size_alloc]
  exact this
theorem LitAt.next {W y : World} {b : Nat} {o : Mop} (h : LitAt W b o) (hb : Below W.heap.size W y) : LitAt y b o := Words.Rd.more (Words.Rd.below h hb (Nat.le_refl _)) hb.size
theorem LitAt.drew {W : World} {b : Nat} {o : Mop} (h : LitAt W b o) : LitAt W.drew b o := Words.Rd.drew h
theorem wi_drew {W : World} {b : Nat} {t : TypeId} {l : List Int} (h : WI W b t l) : WI W.drew b t l := h
theorem LitAt.alloc {W : World} {b : Nat} {o : Mop} (h : LitAt W b o) (ob : Obj) : LitAt (W.alloc ob) b o := h.next ((Below.refl _ _).alloc (Nat.le_refl _) ob)
theorem wi_z (w : World) : WI (w.alloc (.cells #[.int .i64 0, .int .i64 0, .int .i64 0, .int .i64 0, .int .i64 0, .int .i64 0, .int .i64 0, .int .i64 0, .int .i64 0, .int .i64 0, .int .i64 0, .int .i64 0, .int .i64 0, .int .i64 0, .int .i64 0, .int .i64 0] 25)) w.heap.size 25 zero16 := WI.new w 25 zero16
theorem store_16 {W : World} {b : Nat} {z l : List Int} (h : WI W b 25 z) (hz : z.length = l.length) : (storeCells ⟨b, 0, none⟩ (icells l) 0).run Try.prog W = .ok () (W.setCells b 0 (icells l)) := by
  have ht := h.there (n := (icells l).length) (by rw [icells_length, hz])
  have := run_storeCells_cells (P := Try.prog) b 0 (icells l) 0 W (fun j hj => by simpa using (ht j hj).1) (fun j hj => by simpa using (ht j hj).2) (icells_one l)
  exact this
theorem fb_of {v w0 : World} {b B : Nat} {z : List Int} (h : WI v b 25 z) (hB : B ≤ b) (hb : Below B w0 v) (vs : List Value) : Below B w0 (v.setCells b 0 vs) := below_setCells hB vs 0 v hb
theorem ints_set_fresh {v : World} {A : Option Addr} {n c b : Nat} {l : List Int} (h : Ints v v.heap.size A n c l) (hne : ∀ a, A = some a → b ≠ a.block) (o : Nat) (vs : List Value) : Ints (v.setCells b o vs) (v.setCells b o vs).heap.size A n c l := by
  rw [size_setCells]
  refine ⟨Words.Rd.len h, Words.Rd.le h, Words.Rd.max h, Words.Rd.none_ h, fun hn => ?_⟩
  obtain ⟨g, of, e, hb, hc⟩ := Words.Rd.row h hn
  refine ⟨g, of, e, hb, fun j u hu => ?_⟩
  rw [World.cell?_setCells_out b vs o v ⟨g, of + j, none⟩ (fun e2 _ => absurd (show b = g from e2.symm) (hne ⟨g, of, none⟩ e))]
  exact hc j u hu
theorem fi_of {v : World} {b : Nat} {z : List Int} (hw : WI v b 25 z) {A : Option Addr} {n c : Nat} {l : List Int} (h : Ints v v.heap.size A n c l) (hne : ∀ a, A = some a → b ≠ a.block) (vs : List Value) : Ints (v.setCells b 0 vs) (v.setCells b 0 vs).heap.size A n c l := ints_set_fresh h hne 0 vs
theorem ints_set_new {v : World} {A : Option Addr} {n c : Nat} {l : List Int} (h : Ints v v.heap.size A n c l) (ob : Obj) (o : Nat) (vs : List Value) : Ints ((v.alloc ob).setCells v.heap.size o vs) ((v.alloc ob).setCells v.heap.size o vs).heap.size A n c l := by
  have h2 := ints_next h ((Below.refl _ _).alloc (Nat.le_refl _) ob)
  rw [size_setCells]
  refine ⟨Words.Rd.len h2, Words.Rd.le h2, Words.Rd.max h2, Words.Rd.none_ h2, fun hn => ?_⟩
  obtain ⟨g, of, e, hb, hc⟩ := Words.Rd.row h hn
  refine ⟨g, of, e, by rw [World.size_alloc]; omega, fun j u hu => ?_⟩
  rw [World.cell?_setCells_out _ vs o _ ⟨g, of + j, none⟩ (fun e2 _ => absurd e2 (by show g ≠ v.heap.size; omega)), World.cell?_alloc_lt v _ _ hb]
  exact hc j u hu
end Go.Proofs.Ytegllglfnngijaa.Rem
