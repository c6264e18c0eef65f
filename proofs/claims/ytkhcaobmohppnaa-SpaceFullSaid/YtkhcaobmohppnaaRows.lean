/-
  No cell of these rows narrows 'for every input' (looked for: loops, veiled, ifaces, maps, wideKeys, modest, calm, conditions, laid).
  DERIVED. THE GIVEN ROWS OF THIS SEAT. 6 by the template 'for every input the law returns true; each argument reads behind the call as it read before'; 0 by the template 'total and deterministic' (their statements: YtkhcaobmohppnaaTotals.lean).
  GIVEN WITH THE SEED: the statements are not yours to turn. If you find one false, say at which input.
  Laid BY PROGRAM, IN A SANDBOX (cutbox-rows.mjs): the forced cells as the released guide's own fill.sh prints them over the translation 67fbc23ec46bf80d… (all of the seat's roots in one cut). By AI agents, Wed Nov 11 2026. No macro, syntax, notation, axiom, sorry.
-/
import Derived.Test.YtkhcaobmohppnaaChecked
import GoSem.Claim
import GoSem.ClaimJoined
import GoSem.ClaimMapViews
import Derived.JoinedTies
import Derived.KernelRfl
namespace Go.Proofs.Ytkhcaobmohppnaa
/- THE CELL 'sum', in the pinned program and in every row, IS THE sha256 OF THE DUMP (.gsa) THAT YtkhcaobmohppnaaProg.lean LOADS. Nothing in Lean hashes anything: it is a label: what it is worth is what the hold of that sum in a sandbox is worth. -/
noncomputable def Try.pinned : Pinned := { name := "ytkhcaobmohppnaa", sum := "67fbc23ec46bf80d5e24dca72d8de8969059902b9bbf95edd6c3c3a9064ce3a2", checked := Try.checked }
namespace Rows
def none {H : Type} : Left H := { results := [], args := [] }

/-- 'flintstorelaw.SpaceSteps': WHATEVER THE INPUT: true; the input reads as it did. -/
def spaceStepsSpec : ChangeSpec := { name := "spaceSteps", fn := fun _ => fun
  | [d1, d2, d3] => { results := [.lit (.bool true)], args := [d1, d2, d3] }
  | _ => none }
def spaceStepsRow : OpenClaim := { program := "ytkhcaobmohppnaa", sum := "67fbc23ec46bf80d5e24dca72d8de8969059902b9bbf95edd6c3c3a9064ce3a2", func := "flintstore/flintstorelaw.SpaceSteps", spec := "spaceSteps", inPlace := ["slices.overlaps[flintstore/api.Gap]"], unfollowed := true, recurses := true, apart := false }
def SpaceStepsSaid : Prop := spaceStepsRow.holds Try.pinned (OpenSpec.ofChange spaceStepsSpec)

/-- ITS FALSE NEIGHBOUR: 'it returns false'. Refute it at one input. -/
def spaceStepsWrong : ChangeSpec := { name := "spaceSteps", fn := fun _ => fun
  | [d1, d2, d3] => { results := [.lit (.bool false)], args := [d1, d2, d3] }
  | _ => none }
def SpaceStepsWrongFalsely : Prop := spaceStepsRow.holds Try.pinned (OpenSpec.ofChange spaceStepsWrong)

/-- 'flintstorelaw.SpacePlays': WHATEVER THE INPUT: true; the input reads as it did. -/
def spacePlaysSpec : ChangeSpec := { name := "spacePlays", fn := fun _ => fun
  | [d1, d2] => { results := [.lit (.bool true)], args := [d1, d2] }
  | _ => none }
def spacePlaysRow : OpenClaim := { program := "ytkhcaobmohppnaa", sum := "67fbc23ec46bf80d5e24dca72d8de8969059902b9bbf95edd6c3c3a9064ce3a2", func := "flintstore/flintstorelaw.SpacePlays", spec := "spacePlays", inPlace := ["slices.overlaps[flintstore/api.Gap]"], unfollowed := true, recurses := true, apart := false }
def SpacePlaysSaid : Prop := spacePlaysRow.holds Try.pinned (OpenSpec.ofChange spacePlaysSpec)

/-- ITS FALSE NEIGHBOUR: 'it returns false'. Refute it at one input. -/
def spacePlaysWrong : ChangeSpec := { name := "spacePlays", fn := fun _ => fun
  | [d1, d2] => { results := [.lit (.bool false)], args := [d1, d2] }
  | _ => none }
def SpacePlaysWrongFalsely : Prop := spacePlaysRow.holds Try.pinned (OpenSpec.ofChange spacePlaysWrong)

/-- 'flintstorekeep.SpaceBack': WHATEVER THE INPUT: true; the input reads as it did. -/
def spaceBackSpec : ChangeSpec := { name := "spaceBack", fn := fun _ => fun
  | [d1, d2, d3, d4] => { results := [.lit (.bool true)], args := [d1, d2, d3, d4] }
  | _ => none }
def spaceBackRow : OpenClaim := { program := "ytkhcaobmohppnaa", sum := "67fbc23ec46bf80d5e24dca72d8de8969059902b9bbf95edd6c3c3a9064ce3a2", func := "flintstore/flintstorekeep.SpaceBack", spec := "spaceBack", inPlace := ["slices.overlaps[flintstore/api.Gap]"], unfollowed := true, recurses := true, apart := false }
def SpaceBackSaid : Prop := spaceBackRow.holds Try.pinned (OpenSpec.ofChange spaceBackSpec)

/-- ITS FALSE NEIGHBOUR: 'it returns false'. Refute it at one input. -/
def spaceBackWrong : ChangeSpec := { name := "spaceBack", fn := fun _ => fun
  | [d1, d2, d3, d4] => { results := [.lit (.bool false)], args := [d1, d2, d3, d4] }
  | _ => none }
def SpaceBackWrongFalsely : Prop := spaceBackRow.holds Try.pinned (OpenSpec.ofChange spaceBackWrong)

/-- 'flintstorekeep.SpaceSum': WHATEVER THE INPUT: true; the input reads as it did. -/
def spaceSumSpec : ChangeSpec := { name := "spaceSum", fn := fun _ => fun
  | [d1, d2] => { results := [.lit (.bool true)], args := [d1, d2] }
  | _ => none }
def spaceSumRow : OpenClaim := { program := "ytkhcaobmohppnaa", sum := "67fbc23ec46bf80d5e24dca72d8de8969059902b9bbf95edd6c3c3a9064ce3a2", func := "flintstore/flintstorekeep.SpaceSum", spec := "spaceSum", inPlace := ["slices.overlaps[flintstore/api.Gap]"], apart := false }
def SpaceSumSaid : Prop := spaceSumRow.holds Try.pinned (OpenSpec.ofChange spaceSumSpec)

/-- ITS FALSE NEIGHBOUR: 'it returns false'. Refute it at one input. -/
def spaceSumWrong : ChangeSpec := { name := "spaceSum", fn := fun _ => fun
  | [d1, d2] => { results := [.lit (.bool false)], args := [d1, d2] }
  | _ => none }
def SpaceSumWrongFalsely : Prop := spaceSumRow.holds Try.pinned (OpenSpec.ofChange spaceSumWrong)

/-- 'flintstorekeep.SpaceFull': WHATEVER THE INPUT: true; the input reads as it did. -/
def spaceFullSpec : ChangeSpec := { name := "spaceFull", fn := fun _ => fun
  | [d1, d2, d3] => { results := [.lit (.bool true)], args := [d1, d2, d3] }
  | _ => none }
def spaceFullRow : OpenClaim := { program := "ytkhcaobmohppnaa", sum := "67fbc23ec46bf80d5e24dca72d8de8969059902b9bbf95edd6c3c3a9064ce3a2", func := "flintstore/flintstorekeep.SpaceFull", spec := "spaceFull", inPlace := ["slices.overlaps[flintstore/api.Gap]"], unfollowed := true, recurses := true, apart := false }
def SpaceFullSaid : Prop := spaceFullRow.holds Try.pinned (OpenSpec.ofChange spaceFullSpec)

/-- ITS FALSE NEIGHBOUR: 'it returns false'. Refute it at one input. -/
def spaceFullWrong : ChangeSpec := { name := "spaceFull", fn := fun _ => fun
  | [d1, d2, d3] => { results := [.lit (.bool false)], args := [d1, d2, d3] }
  | _ => none }
def SpaceFullWrongFalsely : Prop := spaceFullRow.holds Try.pinned (OpenSpec.ofChange spaceFullWrong)

/-- 'flintstorekeep.SpaceOrder': WHATEVER THE INPUT: true; the input reads as it did. -/
def spaceOrderSpec : ChangeSpec := { name := "spaceOrder", fn := fun _ => fun
  | [d1, d2] => { results := [.lit (.bool true)], args := [d1, d2] }
  | _ => none }
def spaceOrderRow : OpenClaim := { program := "ytkhcaobmohppnaa", sum := "67fbc23ec46bf80d5e24dca72d8de8969059902b9bbf95edd6c3c3a9064ce3a2", func := "flintstore/flintstorekeep.SpaceOrder", spec := "spaceOrder", inPlace := ["slices.overlaps[flintstore/api.Gap]"], unfollowed := true, recurses := true, apart := false }
def SpaceOrderSaid : Prop := spaceOrderRow.holds Try.pinned (OpenSpec.ofChange spaceOrderSpec)

/-- ITS FALSE NEIGHBOUR: 'it returns false'. Refute it at one input. -/
def spaceOrderWrong : ChangeSpec := { name := "spaceOrder", fn := fun _ => fun
  | [d1, d2] => { results := [.lit (.bool false)], args := [d1, d2] }
  | _ => none }
def SpaceOrderWrongFalsely : Prop := spaceOrderRow.holds Try.pinned (OpenSpec.ofChange spaceOrderWrong)

/- THE SECOND FORM. 'bulk': how many values and letters a reading holds, each counted each time it is reached (what is shared counts as often as it is met; a slice's spare places count too). A statement '..UptoSaid' is the law's where the arguments, and the package variables that the reading takes, are together of bulk at most 1048576: NARROWER than '..Said'. Prove '..Said' where nothing that the law and all that it calls make is longer than what came in: it says more and counts as full. Else prove '..UptoSaid'. A law counts once. -/
mutual
def uptoBulk {H : Type} : DataW H → Nat
  | .lit (.string bytes) => bytes.length + 1
  | .lit _ => 1
  | .nil => 1
  | .ptr d => uptoBulk d + 1
  | .slice elems spare => uptoBulkAll elems + uptoBulkAll spare + 1
  | .agg parts => uptoBulkAll parts + 1
  | .iface _ d => uptoBulk d + 1
  | .map entries => uptoBulkEntries entries + 1
  | .held _ => 1
def uptoBulkAll {H : Type} : List (DataW H) → Nat
  | [] => 0
  | d :: r => uptoBulk d + uptoBulkAll r
def uptoBulkEntries {H : Type} : List (Lit × DataW H) → Nat
  | [] => 0
  | x :: r => uptoBulkEntry x + uptoBulkEntries r
def uptoBulkEntry {H : Type} : Lit × DataW H → Nat
  | (.string bytes, d) => bytes.length + uptoBulk d + 1
  | (_, d) => uptoBulk d + 1
 end
def uptoSmall : (H : Type) → List (DataW H) → Bool := fun _ ds => decide (uptoBulkAll ds ≤ 1048576)
def OpenSpec.upto (s : _root_.Go.ChangeSpec) : _root_.Go.OpenSpec := { _root_.Go.OpenSpec.ofChange s with cond := some uptoSmall }

/-- 'flintstorelaw.SpaceSteps', WHERE WHAT IT READS IS OF BULK AT MOST 1048576: true; the input reads as it did. -/
def spaceStepsUptoRow : OpenClaim := { program := "ytkhcaobmohppnaa", sum := "67fbc23ec46bf80d5e24dca72d8de8969059902b9bbf95edd6c3c3a9064ce3a2", func := "flintstore/flintstorelaw.SpaceSteps", spec := "spaceSteps", inPlace := ["slices.overlaps[flintstore/api.Gap]"], unfollowed := true, recurses := true, apart := false, narrowed := true }
def SpaceStepsUptoSaid : Prop := spaceStepsUptoRow.holds Try.pinned (OpenSpec.upto spaceStepsSpec)

/-- 'flintstorelaw.SpacePlays', WHERE WHAT IT READS IS OF BULK AT MOST 1048576: true; the input reads as it did. -/
def spacePlaysUptoRow : OpenClaim := { program := "ytkhcaobmohppnaa", sum := "67fbc23ec46bf80d5e24dca72d8de8969059902b9bbf95edd6c3c3a9064ce3a2", func := "flintstore/flintstorelaw.SpacePlays", spec := "spacePlays", inPlace := ["slices.overlaps[flintstore/api.Gap]"], unfollowed := true, recurses := true, apart := false, narrowed := true }
def SpacePlaysUptoSaid : Prop := spacePlaysUptoRow.holds Try.pinned (OpenSpec.upto spacePlaysSpec)

/-- 'flintstorekeep.SpaceBack', WHERE WHAT IT READS IS OF BULK AT MOST 1048576: true; the input reads as it did. -/
def spaceBackUptoRow : OpenClaim := { program := "ytkhcaobmohppnaa", sum := "67fbc23ec46bf80d5e24dca72d8de8969059902b9bbf95edd6c3c3a9064ce3a2", func := "flintstore/flintstorekeep.SpaceBack", spec := "spaceBack", inPlace := ["slices.overlaps[flintstore/api.Gap]"], unfollowed := true, recurses := true, apart := false, narrowed := true }
def SpaceBackUptoSaid : Prop := spaceBackUptoRow.holds Try.pinned (OpenSpec.upto spaceBackSpec)

/-- 'flintstorekeep.SpaceSum', WHERE WHAT IT READS IS OF BULK AT MOST 1048576: true; the input reads as it did. -/
def spaceSumUptoRow : OpenClaim := { program := "ytkhcaobmohppnaa", sum := "67fbc23ec46bf80d5e24dca72d8de8969059902b9bbf95edd6c3c3a9064ce3a2", func := "flintstore/flintstorekeep.SpaceSum", spec := "spaceSum", inPlace := ["slices.overlaps[flintstore/api.Gap]"], apart := false, narrowed := true }
def SpaceSumUptoSaid : Prop := spaceSumUptoRow.holds Try.pinned (OpenSpec.upto spaceSumSpec)

/-- 'flintstorekeep.SpaceFull', WHERE WHAT IT READS IS OF BULK AT MOST 1048576: true; the input reads as it did. -/
def spaceFullUptoRow : OpenClaim := { program := "ytkhcaobmohppnaa", sum := "67fbc23ec46bf80d5e24dca72d8de8969059902b9bbf95edd6c3c3a9064ce3a2", func := "flintstore/flintstorekeep.SpaceFull", spec := "spaceFull", inPlace := ["slices.overlaps[flintstore/api.Gap]"], unfollowed := true, recurses := true, apart := false, narrowed := true }
def SpaceFullUptoSaid : Prop := spaceFullUptoRow.holds Try.pinned (OpenSpec.upto spaceFullSpec)

/-- 'flintstorekeep.SpaceOrder', WHERE WHAT IT READS IS OF BULK AT MOST 1048576: true; the input reads as it did. -/
def spaceOrderUptoRow : OpenClaim := { program := "ytkhcaobmohppnaa", sum := "67fbc23ec46bf80d5e24dca72d8de8969059902b9bbf95edd6c3c3a9064ce3a2", func := "flintstore/flintstorekeep.SpaceOrder", spec := "spaceOrder", inPlace := ["slices.overlaps[flintstore/api.Gap]"], unfollowed := true, recurses := true, apart := false, narrowed := true }
def SpaceOrderUptoSaid : Prop := spaceOrderUptoRow.holds Try.pinned (OpenSpec.upto spaceOrderSpec)

end Rows
end Go.Proofs.Ytkhcaobmohppnaa
