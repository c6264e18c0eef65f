/-
  How many gaps lie ahead is one number: the program's own.
-/
import Derived.Test.YtkhcaobmohppnaaDGive0
import Derived.Test.YtkhcaobmohppnaaDFind
namespace Go.Proofs.Ytkhcaobmohppnaa.Spc
open Go.ChangeShapes Go.WideShapes Go.ChangeAt Go.RowKit Words Go.Sort
set_option linter.unusedVariables false

theorem cnt_unique {l : List Gp} {a : Int} {i v : Nat} (h : Cnt l a i) (h2 : Cnt l a v) : i = v := by
  rcases Nat.lt_trichotomy i v with hlt | rfl | hlt
  · have := h.2.2 (by have := h2.1; omega)
    have := h2.2.1 i hlt
    omega
  · rfl
  · have := h2.2.2 (by have := h.1; omega)
    have := h.2.1 v hlt
    omega
end Go.Proofs.Ytkhcaobmohppnaa.Spc
