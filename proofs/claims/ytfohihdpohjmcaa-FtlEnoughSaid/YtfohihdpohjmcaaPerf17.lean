/-
  What check and perform return.
-/
import Derived.Test.YtfohihdpohjmcaaWrite21
import Derived.Test.YtfohihdpohjmcaaCon
namespace Go.Proofs.Ytfohihdpohjmcaa.Ftl
open Go.ChangeShapes Go.WideShapes Go.ChangeAt Go.RowKit Words
set_option linter.unusedVariables false

/-- The device between two operations: T pages were programmed, E blocks erased. -/
structure Dv (base g : Nat) (s : Sto) (w : World) (l : List Nand.Blk) (pl : List Int) (T E : Nat) (q : Pos) : Prop where
  ring : Ring l pl T E q s
  hi : T ≤ 4 * (E + 7)
  dv : DV w base g l pl ((T % 32 : Nat) : Int)
def Dev (base g : Nat) (s : Sto) (w : World) (T E : Nat) : Prop := ∃ l pl q, Dv base g s w l pl T E q
theorem Dev.below {base g T E : Nat} {s : Sto} {w w' : World} (h : Dev base g s w T E) (hb : Below w.heap.size w w') : Dev base g s w' T E := by
  obtain ⟨l, pl, q, h⟩ := h
  exact ⟨l, pl, q, h.ring, h.hi, h.dv.below hb⟩
theorem Dev.lt {base g T E : Nat} {s : Sto} {w : World} (h : Dev base g s w T E) : g < w.heap.size := by
  obtain ⟨l, pl, q, h⟩ := h
  exact h.dv.lt
/-- What is read of a number's place. -/
theorem Dv.place {base g T E n : Nat} {s : Sto} {w : World} {l : List Nand.Blk} {pl : List Int} {q : Pos} (h : Dv base g s w l pl T E q) (hn : n < 16) :
    (∃ t v, q n = some t ∧ s (n : Int) = some v ∧ pl[n]? = some ((t % 32 : Nat) : Int)) ∨ (q n = none ∧ s (n : Int) = none ∧ pl[n]? = some (-1)) := by
  have hp := h.ring.at_ n hn
  cases e : q n with
  | none => rw [e] at hp; exact .inr ⟨rfl, h.ring.non n hn e, hp⟩
  | some t =>
    rw [e] at hp
    obtain ⟨b, _, hs⟩ := h.ring.dat n t hn e
    exact .inl ⟨t, _, rfl, hs, hp⟩
def obox (o : Fop) : Obj := .cells #[.int .i64 o.kind, .int .i64 o.n, .int .i64 o.data] 37
theorem ne_one {k : Int} (h : k ≠ 1) : (k != 1) = true := by rw [bne_iff_ne]; exact h
set_option maxHeartbeats 4000000 in
theorem check20 (base g : Nat) (s : Sto) (T E : Nat) (o : Fop) (w : World) (d : Dev base g s w T E) :
    Calls Try.prog 20 #[.pointer (some ⟨g, 0, none⟩), oval o] w fun e w' => e = .returned (.int .i64 (ferr s o)) ∧ Below w.heap.size w w' := by
  have B0 : Hid (Below w.heap.size w (w.alloc (obox o))) := Lib.hid ((Below.refl _ _).alloc (Nat.le_refl _) _)
  by_cases hk : fkind o
  · by_cases hr : frange o
    · obtain ⟨kd, nn, dt⟩ := o
      unfold fkind at hk
      unfold frange at hr
      simp only at hk hr
      obtain ⟨n, rfl⟩ : ∃ n : Nat, nn = n := ⟨nn.toNat, by omega⟩
      have hn : n < 16 := by omega
      clear hr
      have hr : frange ⟨kd, n, dt⟩ := ⟨by show (0 : Int) ≤ n; omega, by show (n : Int) < 16; omega⟩
      unfold obox at B0
      rcases hk with rfl | hk
      · have HE : Hid (ferr s ⟨1, n, dt⟩ = 0) := Lib.hid (by unfold ferr; rw [if_pos (.inl rfl), if_pos hr, if_pos rfl])
        unfold oval
        clear hr d
        go_enter Try.func20, Try.ntmps20
        go_wp2_with fail
        go_quiet (fail)
        go_wp2_with fail
        go_ret
        exact ⟨ret_int HE.out.symm, below_drewN B0.out _⟩
      · obtain ⟨l, pl, q, d⟩ := d
        obtain ⟨r, c, d0⟩ := d.dv
        have hfr := d0.alloc (.cells #[.int .i64 kd, .int .i64 n, .int .i64 dt] 37)
        have hne1 : ¬ kd = 1 := by omega
        rcases d.place hn with ⟨t, v, _, hs, hp⟩ | ⟨_, hs, hp⟩
        · have HE : Hid (ferr s ⟨kd, n, dt⟩ = 0) := Lib.hid (by
            unfold ferr; rw [if_pos (.inr hk), if_pos hr, if_neg hne1]
            show (if s n = none then (3 : Int) else 0) = 0
            rw [hs]; rfl)
          have c0 := hfr.at_ hp
          have hne := ne_true (p := t % 32)
          clear hr d d0 hfr hs hp
          generalize t % 32 = p at *
          unfold oval
          rcases hk with rfl | rfl
          · go_enter Try.func20, Try.ntmps20
            go_wp2_with fail
            go_quiet (fail)
            go_wp2_with fail
            go_ret
            exact ⟨ret_int HE.out.symm, below_drewN B0.out _⟩
          · go_enter Try.func20, Try.ntmps20
            go_wp2_with fail
            go_quiet (fail)
            go_wp2_with fail
            go_ret
            exact ⟨ret_int HE.out.symm, below_drewN B0.out _⟩
        · have HE : Hid (ferr s ⟨kd, n, dt⟩ = 3) := Lib.hid (by
            unfold ferr; rw [if_pos (.inr hk), if_pos hr, if_neg hne1]
            show (if s n = none then (3 : Int) else 0) = 3
            rw [hs]; rfl)
          have c0 := hfr.at_ hp
          clear hr d d0 hfr hs hp
          unfold oval
          rcases hk with rfl | rfl
          · go_enter Try.func20, Try.ntmps20
            go_wp2_with fail
            go_quiet (fail)
            go_wp2_with fail
            go_ret
            exact ⟨ret_int HE.out.symm, below_drewN B0.out _⟩
          · go_enter Try.func20, Try.ntmps20
            go_wp2_with fail
            go_quiet (fail)
            go_wp2_with fail
            go_ret
            exact ⟨ret_int HE.out.symm, below_drewN B0.out _⟩
    · have HE : Hid (ferr s o = 2) := Lib.hid (by unfold ferr; rw [if_pos hk, if_neg hr])
      obtain ⟨kd, nn, dt⟩ := o
      unfold fkind at hk
      unfold frange at hr
      simp only at hk hr
      unfold obox at B0
      unfold oval
      clear d
      by_cases h0 : nn < 0
      · clear hr
        rcases hk with rfl | rfl | rfl
        · go_enter Try.func20, Try.ntmps20
          go_wp2_with fail
          go_ret
          exact ⟨ret_int HE.out.symm, B0.out⟩
        · go_enter Try.func20, Try.ntmps20
          go_wp2_with fail
          go_ret
          exact ⟨ret_int HE.out.symm, B0.out⟩
        · go_enter Try.func20, Try.ntmps20
          go_wp2_with fail
          go_ret
          exact ⟨ret_int HE.out.symm, B0.out⟩
      · have h1 : nn ≥ 16 := by omega
        clear hr
        rcases hk with rfl | rfl | rfl
        · go_enter Try.func20, Try.ntmps20
          go_wp2_with fail
          go_ret
          exact ⟨ret_int HE.out.symm, B0.out⟩
        · go_enter Try.func20, Try.ntmps20
          go_wp2_with fail
          go_ret
          exact ⟨ret_int HE.out.symm, B0.out⟩
        · go_enter Try.func20, Try.ntmps20
          go_wp2_with fail
          go_ret
          exact ⟨ret_int HE.out.symm, B0.out⟩
  · have HE : Hid (ferr s o = 5) := Lib.hid (by unfold ferr; rw [if_neg hk])
    obtain ⟨kd, nn, dt⟩ := o
    unfold fkind at hk
    simp only at hk
    have h1 : (kd != 1) = true := by rw [bne_iff_ne]; omega
    have h2 : (kd != 2) = true := by rw [bne_iff_ne]; omega
    have h3 : (kd != 3) = true := by rw [bne_iff_ne]; omega
    unfold obox at B0
    unfold oval
    clear hk d
    go_enter Try.func20, Try.ntmps20
    go_wp2_with fail
    go_ret
    exact ⟨ret_int HE.out.symm, B0.out⟩
/-! ### the answer's box -/
theorem results_ans {fn : Func} {p : Tmp} (h : fn.results = #[.cell p 32]) {tmps : Array Value} {w : World} {b : Nat} {e d : Int} (hp : tmps.getD p undef = .pointer (some ⟨b, 0, none⟩)) (hw : Whole w b 32 #[.int .i64 e, .int .i64 d]) :
    (results fn tmps).run Try.prog w = .ok (.agg #[.int .i64 e, .int .i64 d]) w := by
  have c0 := hw.cell 0
  have c1 := hw.cell 1
  rw [results_one h, hp]
  simp at c0 c1
  simp [go_sem, loadVar, c0, c1]
def fvalA (a : Fan) : Value := .agg #[.int .i64 a.err, .int .i64 a.data]
def Did (base g : Nat) (s : Sto) (T E : Nat) (o : Fop) (w : World) (e : Ending) (w' : World) : Prop :=
  e = .returned (fvalA (fans s o)) ∧ ∃ T' E', Dev base g (fnx s o) w' T' E' ∧ T ≤ T' ∧ E' ≤ E + 5 ∧ (isFw o = true → T + 1 ≤ T') ∧ Fr base g w w'
theorem did_same {base g : Nat} {s : Sto} {T E : Nat} {o : Fop} {w w' : World} {a : Fan} (e1 : fans s o = a) (e2 : fnx s o = s) (hf : isFw o = false) (d : Dev base g s w' T E) (hb : Fr base g w w') : Did base g s T E o w (.returned (fvalA a)) w' :=
  ⟨by rw [e1], T, E, by rw [e2]; exact d, Nat.le_refl _, by omega, fun h => by (rw [hf] at h; cases h), hb⟩
/-! ### a box beside the device -/
theorem own_type {w : World} {base r b sz c : Nat} {t t' : TypeId} {xs : List Value} {n : Nat} {cs : Array Value} (h : w.ownsRow base t sz (.slice (some ⟨r, 0, none⟩) n c) n xs) (hw : Whole w b t' cs) (hn : 0 < n) (hne : t ≠ t') : r ≠ b := by
  rcases h.2 with ⟨_, h0⟩ | ⟨k, cap, cur, hv, _, hg, _⟩
  · omega
  · injection hv with hv _ _
    injection hv with hv
    injection hv with hv _ _
    subst hv
    intro e
    subst e
    unfold Whole at hw
    rw [hg] at hw
    injection hw with hw
    injection hw with _ ht
    exact hne ht
theorem whole_type {w : World} {g b : Nat} {t t' : TypeId} {cs cs' : Array Value} (h : Whole w g t cs) (hw : Whole w b t' cs') (hne : t ≠ t') : g ≠ b := by
  intro e
  subst e
  unfold Whole at h hw
  rw [h] at hw
  injection hw with hw
  injection hw with _ ht
  exact hne ht
theorem DV.setBox {w : World} {base g b : Nat} {l : List Nand.Blk} {pl : List Int} {h : Int} {cs : Array Value} (d : DV w base g l pl h) (hw : Whole w b 32 cs) (n : Nat) (u : Value) : DV (w.setCell ⟨b, n, none⟩ u) base g l pl h := by
  obtain ⟨r, c, d⟩ := d
  have h1 : g ≠ b := whole_type d.tab hw (by decide)
  have h2 : r ≠ b := own_type d.row hw (by omega) (by decide)
  refine ⟨r, c, whole_other d.tab (fun e => h1 e.symm) _, own_heap d.row fun k hk => ?_, d.ne, d.bg, d.len⟩
  have : k = r := by simpa [Value.ownBlock] using hk.symm
  subst this
  exact heap_setCell_other w ⟨b, n, none⟩ k u h2
theorem Dev.setBox {base g T E b : Nat} {s : Sto} {w : World} {cs : Array Value} (d : Dev base g s w T E) (hw : Whole w b 32 cs) (n : Nat) (u : Value) : Dev base g s (w.setCell ⟨b, n, none⟩ u) T E := by
  obtain ⟨l, pl, q, d⟩ := d
  exact ⟨l, pl, q, d.ring, d.hi, d.dv.setBox hw n u⟩
def fill (x : World) (b : Nat) (e d : Int) : World := (x.setCell ⟨b, 0, none⟩ (.int .i64 e)).setCell ⟨b, 1, none⟩ (.int .i64 d)
theorem fill_whole {x : World} {b : Nat} {e d e' d' : Int} (h : Whole x b 32 #[.int .i64 e', .int .i64 d']) : Whole (fill x b e d) b 32 #[.int .i64 e, .int .i64 d] := (h.set_ 0 (.int .i64 e)).set_ 1 (.int .i64 d)
theorem fill_fr {base g b : Nat} {w x : World} {e d : Int} (h : Fr base g w x) (hb : base ≤ b) (hw : w.heap.size ≤ b) : Fr base g w (fill x b e d) := (h.setN hb hw _ _).setN hb hw _ _
theorem fill_dev {base g T E b : Nat} {s : Sto} {x : World} {e d e' d' : Int} (h : Dev base g s x T E) (hw : Whole x b 32 #[.int .i64 e', .int .i64 d']) : Dev base g s (fill x b e d) T E := (h.setBox hw _ _).setBox (hw.set_ 0 (.int .i64 e)) _ _
/-- What a box needs in the walk. -/
theorem box_facts {x : World} {b : Nat} {e d : Int} (h : Whole x b 32 #[.int .i64 e, .int .i64 d]) : x.cell? ⟨b, 0, none⟩ = some (.int .i64 e) ∧ x.cell? ⟨b, 1, none⟩ = some (.int .i64 d) ∧ x.frozen? ⟨b, 0, none⟩ = false ∧ x.frozen? ⟨b, 1, none⟩ = false := ⟨h.cell 0, h.cell 1, h.frozen 0, h.frozen 1⟩
/-- The box that a call made at b, behind another that it made. -/
theorem Did.drew {base g : Nat} {s : Sto} {T E : Nat} {o : Fop} {w w' : World} {e : Ending} (h : Did base g s T E o w e w') : Did base g s T E o w e w'.drew := by
  obtain ⟨h1, T', E', h2, h3, h4, h5, h6⟩ := h
  obtain ⟨l, pl, q, d⟩ := h2
  exact ⟨h1, T', E', ⟨l, pl, q, d.ring, d.hi, d.dv.drew⟩, h3, h4, h5, h6.drew⟩
def zbox : Obj := .cells #[.int .i64 0, .int .i64 0] 32
set_option maxHeartbeats 8000000 in
theorem perform17 (base g : Nat) (s : Sto) (T E : Nat) (o : Fop) (w : World) (d : Dev base g s w T E) (hs : base ≤ w.heap.size) (hE : E + 5 ≤ 8000) :
    Calls Try.prog 17 #[.pointer (some ⟨g, 0, none⟩), oval o] w (Did base g s T E o w) := by
  have B0 : Below w.heap.size w ((w.alloc (obox o)).alloc zbox) := two_blocks w _ _
  have HC := Lib.hid (check20 base g s T E o ((w.alloc (obox o)).alloc zbox) (d.below B0))
  have G1 := d.lt
  have WZ : Whole ((w.alloc (obox o)).alloc zbox) (w.heap.size + 1) 32 #[.int .i64 0, .int .i64 0] := by
    have := Whole.new (w.alloc (obox o)) 32 #[.int .i64 0, .int .i64 0]
    rw [World.size_alloc] at this
    exact this
  -- behind check: the device, the answer's box
  have HX := Lib.hid (fun x (b : Below ((w.alloc (obox o)).alloc zbox).heap.size ((w.alloc (obox o)).alloc zbox) x) =>
    (show Dev base g s x T E ∧ Fr base g w x ∧ Whole x (w.heap.size + 1) 32 #[.int .i64 0, .int .i64 0] ∧ x.cell? ⟨w.heap.size, 0, none⟩ = some (.int .i64 o.kind) ∧ x.cell? ⟨w.heap.size, 1, none⟩ = some (.int .i64 o.n) ∧ x.cell? ⟨w.heap.size, 2, none⟩ = some (.int .i64 o.data) from
      have B1 := B0.trans (b.mono B0.size)
      have WO : Whole x w.heap.size 37 #[.int .i64 o.kind, .int .i64 o.n, .int .i64 o.data] := whole_below ((Whole.new w 37 #[.int .i64 o.kind, .int .i64 o.n, .int .i64 o.data]).alloc zbox) b (by simp; omega)
      ⟨d.below B1, (Fr.refl base g w).below hs B1, whole_below WZ b WZ.lt, WO.cell 0, WO.cell 1, WO.cell 2⟩))
  clear WZ B0
  have hb1 : base ≤ w.heap.size + 1 := by omega
  have hb2 : w.heap.size ≤ w.heap.size + 1 := by omega
  by_cases he : ferr s o = 0
  · have hkr : fkind o ∧ frange o := by
      by_cases hk : fkind o
      · by_cases hr : frange o
        · exact ⟨hk, hr⟩
        · unfold ferr at he; rw [if_pos hk, if_neg hr] at he; omega
      · unfold ferr at he; rw [if_neg hk] at he; omega
    obtain ⟨hk, hr⟩ := hkr
    rw [he] at HC
    obtain ⟨kd, nn, dt⟩ := o
    unfold fkind at hk
    have hr' := hr
    unfold frange at hr'
    simp only at hk hr'
    obtain ⟨n, rfl⟩ : ∃ n : Nat, nn = n := ⟨nn.toNat, by omega⟩
    have hn : n < 16 := by omega
    clear hr' d
    unfold oval at HC ⊢
    unfold obox zbox at HC HX
    rcases hk with rfl | rfl | rfl
    · obtain ⟨e1, e2⟩ := fx_write (s := s) (o := ⟨1, n, dt⟩) rfl hr
      have HF := Lib.hid (show isFw ⟨1, n, dt⟩ = true from isFw_iff.2 ⟨rfl, hr⟩)
      have E1 := Lib.hid e1
      have E2 := Lib.hid e2
      clear e1 e2 hr he
      go_enter Try.func17, Try.ntmps17
      go_wp2_with fail
      refine (HC.out).mono ?_; rintro e x1 ⟨rfl, b1⟩
      obtain ⟨⟨l1, pl1, q1, d1⟩, f1, w1, k0, k1, k2⟩ := HX.out _ b1
      have HW := Lib.hid (write21 base g s l1 pl1 T E q1 n dt x1 d1.ring d1.hi hE d1.dv (Nat.le_trans hs f1.size) hn)
      have F1 := Lib.hid f1
      have W1 := Lib.hid w1
      clear b1 d1 f1 w1
      go_wp2_with fail
      refine (HW.out).mono ?_; rintro e x2 ⟨rfl, l', pl', T', E', q', r2, t2, t3, t4, d2, f2⟩
      have W2 := f2.whole W1.out (by omega)
      have D2 := Lib.hid (show Dev base g (upd s n (some dt)) x2 T' E' from ⟨l', pl', q', r2, t2, d2⟩)
      have F2 := Lib.hid (F1.out.trans f2)
      obtain ⟨c0, c1, c2, c3⟩ := box_facts W2
      have WW := Lib.hid (fill_whole (e := 0) (d := 0) W2)
      have DF := Lib.hid (fill_dev (e := 0) (d := 0) D2.out W2)
      have FF := Lib.hid (fill_fr (e := 0) (d := 0) F2.out hb1 hb2)
      have TT := Lib.hid t3
      have TE := Lib.hid t4
      clear r2 t2 t3 t4 d2 f2 W2 k0 k1 k2
      go_wp2_with fail
      refine bodyPost_ret (results_ans rfl rfl WW.out) rfl ?_
      refine ⟨by rw [E1.out]; rfl, T', E', ?_, by have := TT.out; omega, TE.out, fun _ => TT.out, FF.out⟩
      rw [E2.out]
      exact DF.out
    · have hns : s (n : Int) ≠ none := by
        intro hx
        unfold ferr at he
        rw [if_pos (.inr (.inl rfl)), if_pos hr, if_neg (show ¬ (2 : Int) = 1 by decide), if_pos hx] at he
        omega
      have HF : Hid (isFw ⟨2, n, dt⟩ = false) := Lib.hid rfl
      have HNS := Lib.hid hns
      have HR := Lib.hid hr
      clear hr he hns
      go_enter Try.func17, Try.ntmps17
      go_wp2_with fail
      refine (HC.out).mono ?_; rintro e x1 ⟨rfl, b1⟩
      obtain ⟨⟨l1, pl1, q1, d1⟩, f1, w1, k0, k1, k2⟩ := HX.out _ b1
      rcases d1.place hn with ⟨t, v, e1, hs1, hp⟩ | ⟨_, hs1, _⟩
      · obtain ⟨er, en, es⟩ := d1.ring.read hn e1 0
        have HRD := Lib.hid (read22 base g l1 pl1 _ n t x1 d1.dv (Nat.le_trans hs f1.size) hp er en)
        obtain ⟨g1, g2⟩ := fx_read (s := s) (o := ⟨2, n, dt⟩) (v := Nand.dataOf l1 (opR t 0)) rfl HR.out es
        generalize Nand.dataOf l1 (opR t 0) = v2 at *
        have HD := Lib.hid (fun x (dx : Dev base g s x T E) (fx : Fr base g w x) => did_same (w' := x) g1 g2 HF.out dx fx)
        have D1 := Lib.hid d1
        have F1 := Lib.hid f1
        have W1 := Lib.hid w1
        clear b1 d1 f1 w1 e1 hs1 hp er en es g1 g2
        go_wp2_with fail
        refine (HRD.out).mono ?_; rintro e x2 ⟨rfl, d2, f2⟩
        have W2 := f2.whole W1.out (by omega)
        obtain ⟨c0, c1, c2, c3⟩ := box_facts W2
        have D2 : Dev base g s x2 T E := ⟨l1, pl1, q1, D1.out.ring, D1.out.hi, d2⟩
        have WW := Lib.hid (fill_whole (e := 0) (d := v2) W2)
        have DF := Lib.hid (HD.out _ (fill_dev (e := 0) (d := v2) D2 W2) (fill_fr (F1.out.trans f2) hb1 hb2))
        clear d2 f2 W2 k0 k1 k2 D2
        go_wp2_with fail
        refine bodyPost_ret (results_ans rfl rfl WW.out) rfl ?_
        exact DF.out
      · exact absurd hs1 HNS.out
    · have hns : s (n : Int) ≠ none := by
        intro hx
        unfold ferr at he
        rw [if_pos (.inr (.inr rfl)), if_pos hr, if_neg (show ¬ (3 : Int) = 1 by decide), if_pos hx] at he
        omega
      have HF : Hid (isFw ⟨3, n, dt⟩ = false) := Lib.hid rfl
      have HNS := Lib.hid hns
      have HR := Lib.hid hr
      clear hr he hns
      go_enter Try.func17, Try.ntmps17
      go_wp2_with fail
      refine (HC.out).mono ?_; rintro e x1 ⟨rfl, b1⟩
      obtain ⟨⟨l1, pl1, q1, d1⟩, f1, w1, k0, k1, k2⟩ := HX.out _ b1
      rcases d1.place hn with ⟨t, v, e1, hs1, hp⟩ | ⟨_, hs1, _⟩
      · obtain ⟨g1, g2⟩ := fx_trim (s := s) (o := ⟨3, n, dt⟩) (v := v) rfl HR.out hs1
        obtain ⟨r, c, dr⟩ := d1.dv
        have p0 := dr.at_ hp
        have p1 := dr.fro (1 + n)
        have D2 : Dev base g (upd s n none) (x1.setCell ⟨g, 1 + n, none⟩ (.int .i64 (-1))) T E := ⟨l1, _, _, d1.ring.trim hn, d1.hi, r, c, dr.setAt hn (-1)⟩
        have F2 : Fr base g w (x1.setCell ⟨g, 1 + n, none⟩ (.int .i64 (-1))) := f1.setG dr.bg _ _
        have W2 : Whole (x1.setCell ⟨g, 1 + n, none⟩ (.int .i64 (-1))) (w.heap.size + 1) 32 #[.int .i64 0, .int .i64 0] := whole_other w1 (by show g ≠ w.heap.size + 1; omega) _
        obtain ⟨c0, c1, c2, c3⟩ := box_facts W2
        have WW := Lib.hid (fill_whole (e := 0) (d := 0) W2)
        have DF : Hid (Did base g s T E ⟨3, n, dt⟩ w (.returned (fvalA ⟨0, 0⟩)) (fill (x1.setCell ⟨g, 1 + n, none⟩ (.int .i64 (-1))) (w.heap.size + 1) 0 0)) := Lib.hid
          ⟨by rw [g1], T, E, by rw [g2]; exact fill_dev (e := 0) (d := 0) D2 W2, Nat.le_refl _, by omega, fun h => by (rw [HF.out] at h; cases h), fill_fr F2 hb1 hb2⟩
        clear b1 d1 f1 w1 e1 hs1 hp g1 g2 dr D2 F2 W2
        go_wp2_with fail
        go_region
        go_wp2_with fail
        refine bodyPost_ret (results_ans rfl rfl (show Whole (fill (x1.setCell ⟨g, 1 + n, none⟩ (.int .i64 (-1))) (w.heap.size + 1) 0 0).drew _ _ _ from WW.out)) rfl ?_
        exact DF.out.drew
      · exact absurd hs1 HNS.out
  · have hf : isFw o = false := by
      cases hx : isFw o with
      | false => rfl
      | true =>
        obtain ⟨hk, hr⟩ := isFw_iff.1 hx
        exfalso; apply he; unfold ferr; rw [if_pos (.inl hk), if_pos hr, if_pos hk]
    have HD := Lib.hid (fun x (dx : Dev base g s x T E) (fx : Fr base g w x) => did_same (a := ⟨ferr s o, 0⟩) (w' := x) (by unfold fans; rw [if_neg (by omega)]) (by unfold fnx; rw [if_neg he]) hf dx fx)
    have hne : (ferr s o != 0) = true := by rw [bne_iff_ne]; exact he
    clear he hf d
    generalize ferr s o = er at *
    obtain ⟨kd, nn, dt⟩ := o
    unfold oval at HC ⊢
    unfold obox zbox at HC HX
    go_enter Try.func17, Try.ntmps17
    go_wp2_with fail
    refine (HC.out).mono ?_; rintro e x1 ⟨rfl, b1⟩
    obtain ⟨d1, f1, w1, _, _, _⟩ := HX.out _ b1
    obtain ⟨q0, q1, q2, q3⟩ := box_facts w1
    have WW := Lib.hid (fill_whole (e := er) (d := 0) w1)
    have DF := Lib.hid (HD.out _ (fill_dev (e := er) (d := 0) d1 w1) (fill_fr f1 hb1 hb2))
    clear b1 d1 f1 w1
    go_wp2_with fail
    refine bodyPost_ret (results_ans rfl rfl WW.out) rfl ?_
    exact DF.out
end Go.Proofs.Ytfohihdpohjmcaa.Ftl
