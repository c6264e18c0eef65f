/-
  What a step leaves fits an int.
-/
import Derived.Test.YtkhcaobmohppnaaSFacts
import Derived.Test.YtkhcaobmohppnaaSCon
namespace Go.Proofs.Ytkhcaobmohppnaa.Spc
set_option linter.unusedVariables false

theorem sgl_wf (s : Int) (l : List Gp) (o : Sp) : WfG (sgl s l o) := by
  by_cases h : ser s l o = 0
  · rw [(sgl_yes h).1]
    exact wf_ok (setR_ok (ok_parts h).1).1
  · rw [(sgl_no h).1]
    exact fun g hg => by cases hg
end Go.Proofs.Ytkhcaobmohppnaa.Spc
