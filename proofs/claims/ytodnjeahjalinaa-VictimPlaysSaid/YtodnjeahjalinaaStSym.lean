/-
  What the library's merge in place leaves, whatever the two pieces' lengths.
-/
import Derived.Test.YtodnjeahjalinaaStSym3
namespace Go.Proofs.Ytodnjeahjalinaa.Stab
open Go.ChangeShapes Go.WideShapes Go.ChangeAt Go.RowKit Words Go.Sort
set_option linter.unusedVariables false

theorem symAll (f : Nat) (cb : Array Value) (cf : Int → Int → Int) (V : Int → Prop) (lt : Int → Int → Bool) (T : Tot lt) (ef : ∀ args w, (callFunc f args).run Try.prog w = .ok (.enter f args) w)
    (base g n c : Nat) (hn : n ≤ 1000000) : ∀ N, SymAt f cb cf V lt base g n c N := by
  intro N
  induction N with
  | zero => intro d a m b w hN h hbase M ham hmb hb; omega
  | succ N ih =>
    intro d a m b w hN h hbase M ham hmb hb
    by_cases e1 : m = a + 1
    · subst e1
      exact symOne f cb cf V lt T ef base g n c d a b w h hbase M hn hmb hb
    · by_cases e2 : b = m + 1
      · subst e2
        exact symLast f cb cf V lt T ef base g n c d a m w h hbase M hn (by omega) hb
      · exact symGen f cb cf V lt T ef base g n c N ih d a m b w hN h hbase M hn (by omega) (by omega) hb
/-- The merge in place: what stood between a and b stands there sorted. -/
theorem sym14 (f : Nat) (cb : Array Value) (cf : Int → Int → Int) (V : Int → Prop) (lt : Int → Int → Bool) (T : Tot lt) (ef : ∀ args w, (callFunc f args).run Try.prog w = .ok (.enter f args) w)
    (base g n c : Nat) (d : List Int) (a m b : Nat) (w : World) (h : OwnI w base (some ⟨g, 0, none⟩) n c d) (hbase : base ≤ w.heap.size) (M : Mrg f cb cf V lt d a m b base w) (hn : n ≤ 1000000) (ham : a < m) (hmb : m < b) (hb : b ≤ n) :
    Calls Try.prog 40 #[.slice (some ⟨g, 0, none⟩) n c, .int .i64 a, .int .i64 m, .int .i64 b, .func (.func f) #[] cb] w fun e w' => e = .returned (.tuple #[]) ∧ St w base g n c (srtd lt d a b) w' :=
  symAll f cb cf V lt T ef base g n c hn (b - a) d a m b w (Nat.le_refl _) h hbase M ham hmb hb
end Go.Proofs.Ytodnjeahjalinaa.Stab
