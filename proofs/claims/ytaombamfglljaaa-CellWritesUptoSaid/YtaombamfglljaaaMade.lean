/-
  What the functions of package cell that make new bytes return, and bytes.Clone.
-/
import Derived.Test.YtaombamfglljaaaWalks
import Derived.RegionTactic
import Derived.ChangeAlike
namespace Go.Proofs.Ytaombamfglljaaa.Cell
open Go.ChangeShapes Go.WideShapes Go.ChangeAt Go.RowKit Words

theorem info5 : (Try.prog.info? 5).map (fun i => (i.zero, i.size, i.bytes)) = some (some (.int .u8 0), 1, 1) := by kernel_rfl
theorem mayAny (B1 B2 : Nat) (A1 A2 : Option Addr) (n1 n2 c1 c2 : Nat) (a b : List UInt8) (w : World) (h1 : Txt w B1 A1 n1 c1 a) (h2 : Txt w B2 A2 n2 c2 b) :
    Calls Try.prog 16 #[.slice A1 n1 c1, .slice A2 n2 c2] w fun e w' => e = .returned (.bool (may a b)) ∧ w = w' := by
  have l1 := h1.len
  have l2 := h2.len
  by_cases hn : n1 = n2
  · subst hn
    have HM := Lib.hid (may_of_len (l1.trans l2.symm))
    have HR := Lib.hid (risesAny _ _ _ _ _ _ _ _ _ _ h1 h2)
    clear h1 h2
    go_enter Try.func16, Try.ntmps16
    go_wp2_with fail
    refine (HR.out).mono ?_; rintro e w' ⟨rfl, rfl⟩
    go_wp2_with fail
    go_ret
    exact ⟨ret_bool HM.out.symm, rfl⟩
  · have hne : ((n1 : Int) == (n2 : Int)) = false := by rw [beq_eq_false_iff_ne]; omega
    have HM := Lib.hid (may_other (a := a) (b := b) (by omega))
    clear h1 h2
    go_enter Try.func16, Try.ntmps16
    go_wp2_with fail
    go_ret
    exact ⟨ret_bool HM.out.symm, rfl⟩
/-- The error of a writing: 1 of other lengths, 6 where a bit would have to rise. -/
def chk (a b : List UInt8) : Int := if a.length ≠ b.length then 1 else if rises a b = true then 6 else 0
theorem chk_iff (a b : List UInt8) : chk a b = 0 ↔ may a b = true := by
  unfold chk may
  by_cases h : a.length = b.length
  · cases hr : rises a b <;> simp [h]
  · simp [h]
theorem chk_cases (a b : List UInt8) : (chk a b = 0 ∧ may a b = true ∧ a.length = b.length) ∨ (chk a b = 6 ∧ may a b = false ∧ a.length = b.length) ∨ (chk a b = 1 ∧ may a b = false ∧ a.length ≠ b.length) := by
  unfold chk may
  by_cases h : a.length = b.length
  · cases hr : rises a b <;> simp [h]
  · simp [h]
theorem checkAny (B1 B2 : Nat) (A1 A2 : Option Addr) (n1 n2 c1 c2 : Nat) (a b : List UInt8) (w : World) (h1 : Txt w B1 A1 n1 c1 a) (h2 : Txt w B2 A2 n2 c2 b) :
    Calls Try.prog 25 #[.slice A1 n1 c1, .slice A2 n2 c2] w fun e w' => e = .returned (.int .i64 (chk a b)) ∧ w = w' := by
  have l1 := h1.len
  have l2 := h2.len
  by_cases hn : n1 = n2
  · subst hn
    have HR := Lib.hid (risesAny _ _ _ _ _ _ _ _ _ _ h1 h2)
    have HL := Lib.hid (l1.trans l2.symm)
    clear h1 h2
    cases hr : rises a b with
    | false =>
      rw [hr] at HR
      have HC : Hid (chk a b = 0) := Lib.hid (by unfold chk; rw [if_neg (by have := HL.out; omega), hr]; rfl)
      clear hr
      go_enter Try.func25, Try.ntmps25
      go_wp2_with fail
      refine (HR.out).mono ?_; rintro e w' ⟨rfl, rfl⟩
      go_wp2_with fail
      go_ret
      exact ⟨ret_int HC.out.symm, rfl⟩
    | true =>
      rw [hr] at HR
      have HC : Hid (chk a b = 6) := Lib.hid (by unfold chk; rw [if_neg (by have := HL.out; omega), hr]; rfl)
      clear hr
      go_enter Try.func25, Try.ntmps25
      go_wp2_with fail
      refine (HR.out).mono ?_; rintro e w' ⟨rfl, rfl⟩
      go_wp2_with fail
      go_ret
      exact ⟨ret_int HC.out.symm, rfl⟩
  · have hne : ((n1 : Int) != (n2 : Int)) = true := by rw [bne_iff_ne]; omega
    have HC : Hid (chk a b = 1) := Lib.hid (by unfold chk; rw [if_pos (by omega)])
    clear h1 h2
    go_enter Try.func25, Try.ntmps25
    go_wp2_with fail
    go_ret
    exact ⟨ret_int HC.out.symm, rfl⟩

/-! ### new bytes -/
def two (v : Value) (k : Int) : Ending := .returned (.tuple #[v, .int .i64 k])
/-- A text of the call's own. -/
def MadeOne (w : World) (l : List UInt8) (e : Ending) (w' : World) : Prop :=
  ∃ A c, e = .returned (.slice A l.length c) ∧ w'.ownsRow w.heap.size 5 1 (.slice A l.length c) l.length (bcells l) ∧ Below w.heap.size w w'
/-- A text and an error code; nothing that was there has changed. -/
def TextErr (w : World) (r : List UInt8 × Int) (e : Ending) (w' : World) : Prop :=
  ∃ A c, e = two (.slice A r.1.length c) r.2 ∧ Txt w' w'.heap.size A r.1.length c r.1 ∧ Below w.heap.size w w'
theorem own_nil (w : World) : w.ownsRow w.heap.size 5 1 (.slice none 0 0) 0 [] := w.ownsRow_nil _ _ _
theorem nil_text {w w' : World} {e : Ending} {k : Int} (h : e = two (.slice none 0 0) k) (hb : Below w.heap.size w w') : TextErr w ([], k) e w' :=
  ⟨none, 0, h, Rd.nil_ _ _ _, hb⟩
set_option maxHeartbeats 1000000 in
theorem clone (B : Nat) (A : Option Addr) (n c : Nat) (l : List UInt8) (w : World) (h : Txt w B A n c l) (hB : B ≤ w.heap.size) (hn : n ≤ 140737488355328) :
    Calls Try.prog 26 #[.slice A n c] w (MadeOne w l) := by
  obtain ⟨i0, hi0, hz0, hz1, hz2⟩ := info_parts info5
  cases A with
  | none =>
    have hc := Rd.none_ h rfl
    have hn0 : n = 0 := by have := Rd.le h; omega
    have hl := h.len
    subst hc hn0
    have hl0 : l = [] := List.eq_nil_of_length_eq_zero hl
    subst hl0
    clear h hl
    have hq := Lib.run_eql_slice_nil (P := Try.prog) w 22 5 none 0 0 0 0 Try.underlying22
    go_enter Try.func26, Try.ntmps26
    go_wp2_with fail
    go_ret
    exact ⟨none, 0, rfl, own_nil w, Below.refl _ _⟩
  | some a =>
    have H := Lib.hid h
    have HN := Lib.hid h.len
    clear h
    have hq := Lib.run_eql_slice_nil (P := Try.prog) w 22 5 (some a) n c 0 0 Try.underlying22
    have hown1 : (w.alloc (.cells #[] 5)).ownsRow w.heap.size 5 1 (.slice (some ⟨w.heap.size, 0, none⟩) 0 0) 0 [] := w.ownsRow_lit #[] 0 (Nat.le_refl _) (by decide) rfl
    have hb1 : Below w.heap.size w (w.alloc (.cells #[] 5)) := (Below.refl _ _).alloc (Nat.le_refl _) _
    have hz1' : w.heap.size ≤ (w.alloc (.cells #[] 5)).heap.size := hb1.size
    have HR := Lib.hid (Rd.alloc H.out hB (.cells #[] 5))
    go_enter Try.func26, Try.ntmps26
    go_wp2_with (first
      | (at_builtin; refine wpList_append_rd _ rfl (.tmp 5) (.tmp 6) 22 rfl w.heap.size 5 i0 (.int .u8 0) 1 1 Try.underlying22 hi0 hz0 hz1 hz2 rfl (by decide) _ 0 [] rfl hown1 B (some a) n c (bcells l) rfl HR.out (bcells_one l) (by simp only [maxLen]; omega) (by omega) hz1' ?_
         intro A2 c2 w2 hown2 hg2
         have hb2 : Below w.heap.size w w2 := below_grown hb1 hown1 hg2 hz1' (Nat.le_refl _)
         simp only [Nat.zero_add, List.nil_append] at hown2))
    go_ret
    have hn' := HN.out
    subst hn'
    exact ⟨A2, c2, rfl, hown2, hb2⟩
theorem made_one {w w' : World} {l : List UInt8} {A : Option Addr} {n c : Nat} {xs : List Value} (hn : l.length = n) (hx : xs = bcells l) (h : w'.ownsRow w.heap.size 5 1 (.slice A n c) n xs) (hb : Below w.heap.size w w') :
    TextErr w (l, 0) (.returned (.tuple #[.slice A n c, .int .i64 0])) w' := by
  subst hn hx
  exact ⟨A, c, rfl, Rd.of_own h, hb⟩
def writeR (a b : List UInt8) : List UInt8 × Int := if chk a b = 0 then (b, 0) else ([], chk a b)
def forceR (a b : List UInt8) : List UInt8 × Int := if a.length = b.length then (force a b, 0) else ([], 1)
def tornR (a b : List UInt8) (row : List Bool) : List UInt8 × Int := if chk a b = 0 then (torn a b row, 0) else ([], chk a b)
theorem writeAny (B1 B2 : Nat) (A1 A2 : Option Addr) (n1 n2 c1 c2 : Nat) (a b : List UInt8) (w : World) (h1 : Txt w B1 A1 n1 c1 a) (h2 : Txt w B2 A2 n2 c2 b) (hB : B2 ≤ w.heap.size) (hn : n2 ≤ 140737488355328) :
    Calls Try.prog 11 #[.slice A1 n1 c1, .slice A2 n2 c2] w (TextErr w (writeR a b)) := by
  have HK := Lib.hid (checkAny _ _ _ _ _ _ _ _ _ _ _ h1 h2)
  have HC := Lib.hid (clone _ _ _ _ _ _ h2 hB hn)
  have HN := Lib.hid h2.len
  clear h1 h2
  unfold writeR
  by_cases h0 : chk a b = 0
  · rw [if_pos h0]
    rw [h0] at HK
    clear h0
    go_enter Try.func11, Try.ntmps11
    go_wp2_with fail
    refine (HK.out).mono ?_; rintro e w' ⟨rfl, rfl⟩
    go_wp2_with fail
    refine (HC.out).mono ?_; rintro e w' ⟨A, C, rfl, hown, hb⟩
    have HO := Lib.hid hown
    have HB := Lib.hid hb
    clear hown hb
    go_wp2_with fail
    go_ret2
    exact made_one rfl rfl HO.out HB.out
  · rw [if_neg h0]
    have hne : (chk a b != 0) = true := by rw [bne_iff_ne]; exact h0
    clear h0
    generalize chk a b = r at *
    go_enter Try.func11, Try.ntmps11
    go_wp2_with fail
    refine (HK.out).mono ?_; rintro e w' ⟨rfl, rfl⟩
    go_wp2_with fail
    go_ret2
    exact nil_text rfl (Below.refl _ _)
/-- One more element of a text that is being filled. -/
theorem take_set_next {M Z : List UInt8} {k : Nat} {z : UInt8} (hk : k < M.length) (h : M.take k = Z.take k) (hz : Z[k]? = some z) : (M.set k z).take (k + 1) = Z.take (k + 1) := by
  rw [List.take_add_one, List.take_add_one, List.take_set_of_le (Nat.le_refl _), h, hz, List.getElem?_set_self hk]
/-- A byte of an own text stored. -/
theorem stored_byte {w : World} {base g c n D : Nat} {l : List UInt8} (h : w.ownsRow base 5 1 (.slice (some ⟨g, 0, none⟩) n c) n (bcells l)) (j : Nat) (b : UInt8) (hg : D ≤ g) :
    (w.setCell ⟨g, j, none⟩ (.int .u8 (b.toNat : Int))).ownsRow base 5 1 (.slice (some ⟨g, 0, none⟩) n c) n (bcells (l.set j b)) ∧ Below D w (w.setCell ⟨g, j, none⟩ (.int .u8 (b.toNat : Int))) := by
  refine ⟨?_, (Below.refl _ _).setCell hg _⟩
  have := (h.stored j (byteCell b)).1
  rw [bcells_set] at this
  exact this
theorem made_zeros (n : Nat) : (madeCells (Value.int .u8 0).cells (n * 1)).toList = bcells (List.replicate n 0) := by
  rw [Nat.mul_one]
  show (madeCells #[Value.int .u8 0] n).toList = _
  rw [toList_madeCells_one]
  unfold bcells
  rw [List.map_replicate]
  rfl
set_option maxHeartbeats 1000000 in
theorem forceAny (B1 B2 : Nat) (A1 A2 : Option Addr) (n1 n2 c1 c2 : Nat) (a b : List UInt8) (w : World) (h1 : Txt w B1 A1 n1 c1 a) (h2 : Txt w B2 A2 n2 c2 b) (hB1 : B1 ≤ w.heap.size) (hB2 : B2 ≤ w.heap.size) (hn : n1 ≤ 140737488355328) :
    Calls Try.prog 14 #[.slice A1 n1 c1, .slice A2 n2 c2] w (TextErr w (forceR a b)) := by
  obtain ⟨i0, hi0, hz0, hz1, hz2⟩ := info_parts info5
  have l1 := h1.len
  have l2 := h2.len
  unfold forceR
  by_cases hnn : n1 = n2
  · subst hnn
    rw [if_pos (l1.trans l2.symm)]
    have T1 := Lib.hid h1
    have T2 := Lib.hid h2
    have L1 := Lib.hid l1
    have L2 := Lib.hid l2
    obtain ⟨Z, hZ⟩ : ∃ Z, Z = force a b := ⟨_, rfl⟩
    have LZ : Hid (Z.length = n1) := Lib.hid (by rw [hZ, force_length (l1.trans l2.symm), l1])
    have HZ := Lib.hid hZ
    rw [← hZ]
    clear hZ h1 h2 l1 l2
    go_enter Try.func14, Try.ntmps14
    go_wp2_with (at_make; refine wpList_make_full _ rfl _ _ 22 rfl w.heap.size 5 i0 (.int .u8 0) 1 Try.underlying22 hi0 hz0 hz1 .i64 .i64 _ _ n1 rfl rfl (by omega) (by omega) (by rw [hz2]; omega) (by simp only [maxLen]; omega) (Nat.le_refl _) ?_
                 intro w2 hown2 hg2)
    have hb2 : Below w.heap.size w w2 := (Below.refl _ _).grown hg2 (Nat.le_refl _) (fun k hk => by cases hk)
    rw [made_zeros] at hown2
    have O3 := Lib.hid hown2
    have B3 := Lib.hid hb2
    clear hown2 hb2 hg2
    go_loopw [19] (fun i wr => ∃ (k : Nat) (M : List UInt8), k ≤ n1 ∧ i = .int .i64 k ∧ M.length = n1 ∧ M.take k = Z.take k ∧ wr.ownsRow w.heap.size 5 1 (.slice (some ⟨w.heap.size, 0, none⟩) n1 n1) n1 (bcells M) ∧ Below w.heap.size w wr) (fun i _ => (n1 - intOf i).toNat)
    case atStart => exact ⟨0, _, by omega, rfl, List.length_replicate, rfl, O3.out, B3.out⟩
    case round =>
      obtain ⟨k, M, hk, rfl, hml, hmt, hown, hbel⟩ := hrel
      have O := Lib.hid hown
      have HML := Lib.hid hml
      have HMT := Lib.hid hmt
      have BW := Lib.hid hbel
      clear hown hml hmt
      by_cases hlt : k < n1
      · obtain ⟨b1, o1, rfl, _, _⟩ := Rd.row T1.out (by omega)
        obtain ⟨b2, o2, rfl, _, _⟩ := Rd.row T2.out (by omega)
        obtain ⟨p, hp0⟩ : ∃ p, a[k]? = some p := ⟨_, List.getElem?_eq_getElem (by rw [L1.out]; exact hlt)⟩
        obtain ⟨q, hq0⟩ : ∃ q, b[k]? = some q := ⟨_, List.getElem?_eq_getElem (by rw [L2.out]; exact hlt)⟩
        have d1 := Txt.cellAt (Rd.below T1.out hbel hB1) rfl hp0
        have d2 := Txt.cellAt (Rd.below T2.out hbel hB2) rfl hq0
        have f1 := O.out.frozenAt k
        obtain ⟨m0, hm0⟩ : ∃ m0, wr.cell? ⟨w.heap.size, k, none⟩ = some m0 := ⟨_, by rw [O.out.cellAt k (by omega), bcells_get, List.getElem?_eq_getElem (by rw [HML.out]; exact hlt)]; rfl⟩
        have HF : Hid (Z[k]? = some (p &&& q)) := Lib.hid (by rw [HZ.out]; exact force_get hp0 hq0)
        have ha := and8 p q
        clear hbel hp0 hq0
        go_wp2_with fail
        obtain ⟨O4, b4⟩ := stored_byte O.out k (p &&& q) (Nat.le_refl _)
        have HO4 := Lib.hid O4
        have HB4 := Lib.hid b4
        have HM4 : Hid ((M.set k (p &&& q)).take (k + 1) = Z.take (k + 1)) := Lib.hid (take_set_next (by rw [HML.out]; exact hlt) HMT.out HF.out)
        clear O4 b4 d1 d2 f1 hm0 ha
        go_roundw
        case rel => exact ⟨k + 1, M.set k (p &&& q), by omega, by go_num, by rw [List.length_set, HML.out], HM4.out, HO4.out, BW.out.trans HB4.out⟩
        case measure => simp [intOf]; omega
      · obtain rfl : k = n1 := by omega
        have hM : M = Z := by
          have h := HMT.out
          rwa [List.take_of_length_le (by rw [HML.out]; omega), List.take_of_length_le (by rw [LZ.out]; omega)] at h
        subst hM
        clear hbel
        go_wp2_with fail
        go_ret2
        exact made_one LZ.out rfl O.out BW.out
  · rw [if_neg (by omega)]
    have hne : ((n1 : Int) != (n2 : Int)) = true := by rw [bne_iff_ne]; omega
    clear h1 h2
    go_enter Try.func14, Try.ntmps14
    go_wp2_with fail
    go_ret2
    exact nil_text rfl (Below.refl _ _)

theorem shl_one : ∀ i : Nat, i < 8 → ((2 : Int) ^ i % 256) = ((UInt8.ofNat (2 ^ i)).toNat : Int) := by decide
theorem writtenAny (B : Nat) (A : Option Addr) (n c : Nat) (row : List Bool) (w : World) (h : Bts w B A n c row) (k : Nat) (hk : k ≤ 140737488355328) :
    Calls Try.prog 30 #[.slice A n c, .int .i64 k] w fun e w' => e = .returned (.int .u8 ((maskOf row k 8).toNat : Nat)) ∧ w = w' := by
  have H := Lib.hid h
  have L := Lib.hid h.len
  have hm : n ≤ 9223372036854775807 := by have := Rd.le h; have := Rd.max h; unfold maxLen at this; omega
  clear h
  go_enter Try.func30, Try.ntmps30
  go_wp2_with fail
  go_loop [5, 8] (fun x i => ∃ j : Nat, j ≤ 8 ∧ i = .int .i64 j ∧ x = .int .u8 ((maskOf row k j).toNat : Nat)) (fun _ i => (8 - intOf i).toNat)
  case atStart => exact ⟨0, by omega, rfl, rfl⟩
  case round =>
    obtain ⟨j, hj, rfl, rfl⟩ := hrel
    have HS : Hid (maskOf row k (j + 1) = if row.getD (8 * k + j) false then maskOf row k j ||| UInt8.ofNat (2 ^ j) else maskOf row k j) := Lib.hid rfl
    by_cases hlt : j < 8
    · by_cases hin : 8 * k + j < n
      · obtain ⟨b, o, rfl, _, _⟩ := Rd.row H.out (by omega)
        obtain ⟨p, hp⟩ : ∃ p, row[8 * k + j]? = some p := ⟨_, List.getElem?_eq_getElem (by rw [L.out]; exact hin)⟩
        have hc := H.out.cellAt rfl hp
        have HP : Hid (row.getD (8 * k + j) false = p) := Lib.hid (by rw [List.getD, hp]; rfl)
        clear hp
        rw [HP.out] at HS
        have ht : (8 * (k : Int) + (j : Int)).toNat = 8 * k + j := by omega
        cases p
        · have hS : maskOf row k (j + 1) = maskOf row k j := HS.out
          have HS := Lib.hid hS
          clear hS
          go_wp2_with fail
          go_round
          case rel => exact ⟨j + 1, by omega, by go_num, by rw [HS.out]⟩
          case measure => simp [intOf]; omega
        · have hS : maskOf row k (j + 1) = maskOf row k j ||| UInt8.ofNat (2 ^ j) := HS.out
          have HS := Lib.hid hS
          clear hS
          go_wp2_with fail
          go_round
          case rel => exact ⟨j + 1, by omega, by go_num, by rw [HS.out, ← or8, shl_one j hlt]⟩
          case measure => simp [intOf]; omega
      · have hS : maskOf row k (j + 1) = maskOf row k j := by
          rw [HS.out, if_neg]
          rw [List.getD, List.getElem?_eq_none (by rw [L.out]; omega)]
          exact Bool.false_ne_true
        have HS := Lib.hid hS
        clear hS
        have hd : decide (8 * (k : Int) + (j : Int) < (n : Int)) = false := by rw [decide_eq_false_iff_not]; omega
        go_wp2_with fail
        go_round
        case rel => exact ⟨j + 1, by omega, by go_num, by rw [HS.out]⟩
        case measure => simp [intOf]; omega
    · obtain rfl : j = 8 := by omega
      clear HS
      go_wp2_with fail
      go_ret
      exact ⟨rfl, rfl⟩

theorem mixed_val (x y m : UInt8) : bits BinOp.or IntKind.u8 (bits BinOp.andNot IntKind.u8 (x.toNat : Int) (m.toNat : Int)) (bits BinOp.and IntKind.u8 (y.toNat : Int) (m.toNat : Int)) = ((mixed x y m).toNat : Int) := by
  rw [andNot8, and8, or8]; rfl
set_option maxHeartbeats 1000000 in
theorem tornAny (B1 B2 B3 : Nat) (A1 A2 A3 : Option Addr) (n1 n2 n3 c1 c2 c3 : Nat) (a b : List UInt8) (row : List Bool) (w : World) (h1 : Txt w B1 A1 n1 c1 a) (h2 : Txt w B2 A2 n2 c2 b) (h3 : Bts w B3 A3 n3 c3 row)
    (hB1 : B1 ≤ w.heap.size) (hB2 : B2 ≤ w.heap.size) (hB3 : B3 ≤ w.heap.size) (hn : n1 ≤ 140737488355328) :
    Calls Try.prog 18 #[.slice A1 n1 c1, .slice A2 n2 c2, .slice A3 n3 c3] w (TextErr w (tornR a b row)) := by
  obtain ⟨i0, hi0, hz0, hz1, hz2⟩ := info_parts info5
  have HK := Lib.hid (checkAny _ _ _ _ _ _ _ _ _ _ _ h1 h2)
  have l1 := h1.len
  have l2 := h2.len
  have hcs := chk_cases a b
  unfold tornR
  by_cases h0 : chk a b = 0
  · rw [if_pos h0]
    rw [h0] at HK hcs
    have hab : a.length = b.length := by
      rcases hcs with ⟨_, _, h⟩ | ⟨h, _⟩ | ⟨h, _⟩
      · exact h
      · cases h
      · cases h
    obtain rfl : n1 = n2 := by omega
    clear h0 hcs
    have T1 := Lib.hid h1
    have T2 := Lib.hid h2
    have T3 := Lib.hid h3
    have L1 := Lib.hid l1
    have L2 := Lib.hid l2
    obtain ⟨Z, hZ⟩ : ∃ Z, Z = torn a b row := ⟨_, rfl⟩
    have LZ : Hid (Z.length = n1) := Lib.hid (by rw [hZ, torn_length hab, l1])
    have HZ := Lib.hid hZ
    rw [← hZ]
    clear hZ h1 h2 h3 l1 l2 hab
    go_enter Try.func18, Try.ntmps18
    go_wp2_with fail
    refine (HK.out).mono ?_; rintro e w' ⟨rfl, rfl⟩
    go_wp2_with (at_make; refine wpList_make_full _ rfl _ _ 22 rfl w.heap.size 5 i0 (.int .u8 0) 1 Try.underlying22 hi0 hz0 hz1 .i64 .i64 _ _ n1 rfl rfl (by omega) (by omega) (by rw [hz2]; omega) (by simp only [maxLen]; omega) (Nat.le_refl _) ?_
                 intro w2 hown2 hg2)
    have hb2 : Below w.heap.size w w2 := (Below.refl _ _).grown hg2 (Nat.le_refl _) (fun k hk => by cases hk)
    rw [made_zeros] at hown2
    have O3 := Lib.hid hown2
    have B3' := Lib.hid hb2
    clear hown2 hb2 hg2
    go_loopw [24] (fun i wr => ∃ (k : Nat) (M : List UInt8), k ≤ n1 ∧ i = .int .i64 k ∧ M.length = n1 ∧ M.take k = Z.take k ∧ wr.ownsRow w.heap.size 5 1 (.slice (some ⟨w.heap.size, 0, none⟩) n1 n1) n1 (bcells M) ∧ Below w.heap.size w wr) (fun i _ => (n1 - intOf i).toNat)
    case atStart => exact ⟨0, _, by omega, rfl, List.length_replicate, rfl, O3.out, B3'.out⟩
    case round =>
      obtain ⟨k, M, hk, rfl, hml, hmt, hown, hbel⟩ := hrel
      have O := Lib.hid hown
      have HML := Lib.hid hml
      have HMT := Lib.hid hmt
      have BW := Lib.hid hbel
      clear hown hml hmt
      by_cases hlt : k < n1
      · obtain ⟨b1, o1, rfl, _, _⟩ := Rd.row T1.out (by omega)
        obtain ⟨b2, o2, rfl, _, _⟩ := Rd.row T2.out (by omega)
        obtain ⟨p, hp0⟩ : ∃ p, a[k]? = some p := ⟨_, List.getElem?_eq_getElem (by rw [L1.out]; exact hlt)⟩
        obtain ⟨q, hq0⟩ : ∃ q, b[k]? = some q := ⟨_, List.getElem?_eq_getElem (by rw [L2.out]; exact hlt)⟩
        have d1 := Txt.cellAt (Rd.below T1.out hbel hB1) rfl hp0
        have d2 := Txt.cellAt (Rd.below T2.out hbel hB2) rfl hq0
        have HWr := Lib.hid (writtenAny _ _ _ _ row wr (Rd.below T3.out hbel hB3) k (by omega))
        have f1 := O.out.frozenAt k
        obtain ⟨m0, hm0⟩ : ∃ m0, wr.cell? ⟨w.heap.size, k, none⟩ = some m0 := ⟨_, by rw [O.out.cellAt k (by omega), bcells_get, List.getElem?_eq_getElem (by rw [HML.out]; exact hlt)]; rfl⟩
        have HF : Hid (Z[k]? = some (mixed p q (maskOf row k 8))) := Lib.hid (by rw [HZ.out]; exact torn_get hp0 hq0)
        generalize maskOf row k 8 = m at *
        have ha := mixed_val p q m
        clear hbel hp0 hq0
        go_wp2_with fail
        refine (HWr.out).mono ?_; rintro e w' ⟨rfl, rfl⟩
        go_wp2_with fail
        obtain ⟨O4, b4⟩ := stored_byte O.out k (mixed p q m) (Nat.le_refl _)
        have HO4 := Lib.hid O4
        have HB4 := Lib.hid b4
        have HM4 : Hid ((M.set k (mixed p q m)).take (k + 1) = Z.take (k + 1)) := Lib.hid (take_set_next (by rw [HML.out]; exact hlt) HMT.out HF.out)
        clear O4 b4 d1 d2 f1 hm0 ha
        go_roundw
        case rel => exact ⟨k + 1, M.set k (mixed p q m), by omega, by go_num, by rw [List.length_set, HML.out], HM4.out, HO4.out, BW.out.trans HB4.out⟩
        case measure => simp [intOf]; omega
      · obtain rfl : k = n1 := by omega
        have hM : M = Z := by
          have h := HMT.out
          rwa [List.take_of_length_le (by rw [HML.out]; omega), List.take_of_length_le (by rw [LZ.out]; omega)] at h
        subst hM
        clear hbel
        go_wp2_with fail
        go_ret2
        exact made_one LZ.out rfl O.out BW.out
  · rw [if_neg h0]
    have hne : (chk a b != 0) = true := by rw [bne_iff_ne]; exact h0
    clear h0 hcs h1 h2 h3
    generalize chk a b = r at *
    go_enter Try.func18, Try.ntmps18
    go_wp2_with fail
    refine (HK.out).mono ?_; rintro e w' ⟨rfl, rfl⟩
    go_wp2_with fail
    go_ret2
    exact nil_text rfl (Below.refl _ _)
end Go.Proofs.Ytaombamfglljaaa.Cell
