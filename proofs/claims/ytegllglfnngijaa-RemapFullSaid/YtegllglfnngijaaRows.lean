/-
  No cell of these rows narrows 'for every input' (looked for: loops, veiled, ifaces, maps, wideKeys, modest, calm, conditions, laid).
  DERIVED. THE GIVEN ROWS OF THIS SEAT. 5 by the template 'for every input the law returns true; each argument reads behind the call as it read before'; 0 by the template 'total and deterministic' (their statements: YtegllglfnngijaaTotals.lean).
  GIVEN WITH THE SEED: the statements are not yours to turn. If you find one false, say at which input.
  Laid BY PROGRAM, IN A SANDBOX (cutbox-rows.mjs): the forced cells as the released guide's own fill.sh prints them over the translation 0c1ddd094d969712… (all of the seat's roots in one cut). By AI agents, Wed Nov 11 2026. No macro, syntax, notation, axiom, sorry.
-/
import Derived.Test.YtegllglfnngijaaChecked
import GoSem.Claim
import GoSem.ClaimJoined
import GoSem.ClaimMapViews
import Derived.JoinedTies
import Derived.KernelRfl
namespace Go.Proofs.Ytegllglfnngijaa
/- THE CELL 'sum', in the pinned program and in every row, IS THE sha256 OF THE DUMP (.gsa) THAT YtegllglfnngijaaProg.lean LOADS. Nothing in Lean hashes anything: it is a label: what it is worth is what the hold of that sum in a sandbox is worth. -/
noncomputable def Try.pinned : Pinned := { name := "ytegllglfnngijaa", sum := "0c1ddd094d969712a5797b922e7ffe6491c855fd7e6bf38073eee364ec930cde", checked := Try.checked }
namespace Rows
def none {H : Type} : Left H := { results := [], args := [] }

/-- 'flintstorelaw.RemapPlays': WHATEVER THE INPUT: true; the input reads as it did. -/
def remapPlaysSpec : ChangeSpec := { name := "remapPlays", fn := fun _ => fun
  | [d1, d2, d3] => { results := [.lit (.bool true)], args := [d1, d2, d3] }
  | _ => none }
def remapPlaysRow : OpenClaim := { program := "ytegllglfnngijaa", sum := "0c1ddd094d969712a5797b922e7ffe6491c855fd7e6bf38073eee364ec930cde", func := "flintstore/flintstorelaw.RemapPlays", spec := "remapPlays", unfollowed := true, recurses := true, apart := false }
def RemapPlaysSaid : Prop := remapPlaysRow.holds Try.pinned (OpenSpec.ofChange remapPlaysSpec)

/-- ITS FALSE NEIGHBOUR: 'it returns false'. Refute it at one input. -/
def remapPlaysWrong : ChangeSpec := { name := "remapPlays", fn := fun _ => fun
  | [d1, d2, d3] => { results := [.lit (.bool false)], args := [d1, d2, d3] }
  | _ => none }
def RemapPlaysWrongFalsely : Prop := remapPlaysRow.holds Try.pinned (OpenSpec.ofChange remapPlaysWrong)

/-- 'flintstorekeep.RemapBoth': WHATEVER THE INPUT: true; the input reads as it did. -/
def remapBothSpec : ChangeSpec := { name := "remapBoth", fn := fun _ => fun
  | [d1, d2] => { results := [.lit (.bool true)], args := [d1, d2] }
  | _ => none }
def remapBothRow : OpenClaim := { program := "ytegllglfnngijaa", sum := "0c1ddd094d969712a5797b922e7ffe6491c855fd7e6bf38073eee364ec930cde", func := "flintstore/flintstorekeep.RemapBoth", spec := "remapBoth", apart := false }
def RemapBothSaid : Prop := remapBothRow.holds Try.pinned (OpenSpec.ofChange remapBothSpec)

/-- ITS FALSE NEIGHBOUR: 'it returns false'. Refute it at one input. -/
def remapBothWrong : ChangeSpec := { name := "remapBoth", fn := fun _ => fun
  | [d1, d2] => { results := [.lit (.bool false)], args := [d1, d2] }
  | _ => none }
def RemapBothWrongFalsely : Prop := remapBothRow.holds Try.pinned (OpenSpec.ofChange remapBothWrong)

/-- 'flintstorekeep.RemapLast': WHATEVER THE INPUT: true; the input reads as it did. -/
def remapLastSpec : ChangeSpec := { name := "remapLast", fn := fun _ => fun
  | [d1, d2, d3] => { results := [.lit (.bool true)], args := [d1, d2, d3] }
  | _ => none }
def remapLastRow : OpenClaim := { program := "ytegllglfnngijaa", sum := "0c1ddd094d969712a5797b922e7ffe6491c855fd7e6bf38073eee364ec930cde", func := "flintstore/flintstorekeep.RemapLast", spec := "remapLast", apart := false }
def RemapLastSaid : Prop := remapLastRow.holds Try.pinned (OpenSpec.ofChange remapLastSpec)

/-- ITS FALSE NEIGHBOUR: 'it returns false'. Refute it at one input. -/
def remapLastWrong : ChangeSpec := { name := "remapLast", fn := fun _ => fun
  | [d1, d2, d3] => { results := [.lit (.bool false)], args := [d1, d2, d3] }
  | _ => none }
def RemapLastWrongFalsely : Prop := remapLastRow.holds Try.pinned (OpenSpec.ofChange remapLastWrong)

/-- 'flintstorekeep.RemapAgain': WHATEVER THE INPUT: true; the input reads as it did. -/
def remapAgainSpec : ChangeSpec := { name := "remapAgain", fn := fun _ => fun
  | [d1, d2] => { results := [.lit (.bool true)], args := [d1, d2] }
  | _ => none }
def remapAgainRow : OpenClaim := { program := "ytegllglfnngijaa", sum := "0c1ddd094d969712a5797b922e7ffe6491c855fd7e6bf38073eee364ec930cde", func := "flintstore/flintstorekeep.RemapAgain", spec := "remapAgain", apart := false }
def RemapAgainSaid : Prop := remapAgainRow.holds Try.pinned (OpenSpec.ofChange remapAgainSpec)

/-- ITS FALSE NEIGHBOUR: 'it returns false'. Refute it at one input. -/
def remapAgainWrong : ChangeSpec := { name := "remapAgain", fn := fun _ => fun
  | [d1, d2] => { results := [.lit (.bool false)], args := [d1, d2] }
  | _ => none }
def RemapAgainWrongFalsely : Prop := remapAgainRow.holds Try.pinned (OpenSpec.ofChange remapAgainWrong)

/-- 'flintstorekeep.RemapFull': WHATEVER THE INPUT: true; the input reads as it did. -/
def remapFullSpec : ChangeSpec := { name := "remapFull", fn := fun _ => fun
  | [d1, d2] => { results := [.lit (.bool true)], args := [d1, d2] }
  | _ => none }
def remapFullRow : OpenClaim := { program := "ytegllglfnngijaa", sum := "0c1ddd094d969712a5797b922e7ffe6491c855fd7e6bf38073eee364ec930cde", func := "flintstore/flintstorekeep.RemapFull", spec := "remapFull", apart := false }
def RemapFullSaid : Prop := remapFullRow.holds Try.pinned (OpenSpec.ofChange remapFullSpec)

/-- ITS FALSE NEIGHBOUR: 'it returns false'. Refute it at one input. -/
def remapFullWrong : ChangeSpec := { name := "remapFull", fn := fun _ => fun
  | [d1, d2] => { results := [.lit (.bool false)], args := [d1, d2] }
  | _ => none }
def RemapFullWrongFalsely : Prop := remapFullRow.holds Try.pinned (OpenSpec.ofChange remapFullWrong)

/- THE SECOND FORM. 'bulk': how many values and letters a reading holds, each counted each time it is reached (what is shared counts as often as it is met; a slice's spare places count too). A statement '..UptoSaid' is the law's where the arguments, and the package variables that the reading takes, are together of bulk at most 1048576: NARROWER than '..Said'. Prove '..Said' where nothing that the law and all that it calls make is longer than what came in: it says more and counts as full. Else prove '..UptoSaid'. A law counts once. -/
mutual
def uptoBulk {H : Type} : DataW H → Nat
  | .lit (.string bytes) => bytes.length + 1
  | .lit _ => 1
  | .nil => 1
  | .ptr d => uptoBulk d + 1
  | .slice elems spare => uptoBulkAll elems + uptoBulkAll spare + 1
  | .agg parts => uptoBulkAll parts + 1
  | .iface _ d => uptoBulk d + 1
  | .map entries => uptoBulkEntries entries + 1
  | .held _ => 1
def uptoBulkAll {H : Type} : List (DataW H) → Nat
  | [] => 0
  | d :: r => uptoBulk d + uptoBulkAll r
def uptoBulkEntries {H : Type} : List (Lit × DataW H) → Nat
  | [] => 0
  | x :: r => uptoBulkEntry x + uptoBulkEntries r
def uptoBulkEntry {H : Type} : Lit × DataW H → Nat
  | (.string bytes, d) => bytes.length + uptoBulk d + 1
  | (_, d) => uptoBulk d + 1
 end
def uptoSmall : (H : Type) → List (DataW H) → Bool := fun _ ds => decide (uptoBulkAll ds ≤ 1048576)
def OpenSpec.upto (s : _root_.Go.ChangeSpec) : _root_.Go.OpenSpec := { _root_.Go.OpenSpec.ofChange s with cond := some uptoSmall }

/-- 'flintstorelaw.RemapPlays', WHERE WHAT IT READS IS OF BULK AT MOST 1048576: true; the input reads as it did. -/
def remapPlaysUptoRow : OpenClaim := { program := "ytegllglfnngijaa", sum := "0c1ddd094d969712a5797b922e7ffe6491c855fd7e6bf38073eee364ec930cde", func := "flintstore/flintstorelaw.RemapPlays", spec := "remapPlays", unfollowed := true, recurses := true, apart := false, narrowed := true }
def RemapPlaysUptoSaid : Prop := remapPlaysUptoRow.holds Try.pinned (OpenSpec.upto remapPlaysSpec)

/-- 'flintstorekeep.RemapBoth', WHERE WHAT IT READS IS OF BULK AT MOST 1048576: true; the input reads as it did. -/
def remapBothUptoRow : OpenClaim := { program := "ytegllglfnngijaa", sum := "0c1ddd094d969712a5797b922e7ffe6491c855fd7e6bf38073eee364ec930cde", func := "flintstore/flintstorekeep.RemapBoth", spec := "remapBoth", apart := false, narrowed := true }
def RemapBothUptoSaid : Prop := remapBothUptoRow.holds Try.pinned (OpenSpec.upto remapBothSpec)

/-- 'flintstorekeep.RemapLast', WHERE WHAT IT READS IS OF BULK AT MOST 1048576: true; the input reads as it did. -/
def remapLastUptoRow : OpenClaim := { program := "ytegllglfnngijaa", sum := "0c1ddd094d969712a5797b922e7ffe6491c855fd7e6bf38073eee364ec930cde", func := "flintstore/flintstorekeep.RemapLast", spec := "remapLast", apart := false, narrowed := true }
def RemapLastUptoSaid : Prop := remapLastUptoRow.holds Try.pinned (OpenSpec.upto remapLastSpec)

/-- 'flintstorekeep.RemapAgain', WHERE WHAT IT READS IS OF BULK AT MOST 1048576: true; the input reads as it did. -/
def remapAgainUptoRow : OpenClaim := { program := "ytegllglfnngijaa", sum := "0c1ddd094d969712a5797b922e7ffe6491c855fd7e6bf38073eee364ec930cde", func := "flintstore/flintstorekeep.RemapAgain", spec := "remapAgain", apart := false, narrowed := true }
def RemapAgainUptoSaid : Prop := remapAgainUptoRow.holds Try.pinned (OpenSpec.upto remapAgainSpec)

/-- 'flintstorekeep.RemapFull', WHERE WHAT IT READS IS OF BULK AT MOST 1048576: true; the input reads as it did. -/
def remapFullUptoRow : OpenClaim := { program := "ytegllglfnngijaa", sum := "0c1ddd094d969712a5797b922e7ffe6491c855fd7e6bf38073eee364ec930cde", func := "flintstore/flintstorekeep.RemapFull", spec := "remapFull", apart := false, narrowed := true }
def RemapFullUptoSaid : Prop := remapFullUptoRow.holds Try.pinned (OpenSpec.upto remapFullSpec)

end Rows
end Go.Proofs.Ytegllglfnngijaa
