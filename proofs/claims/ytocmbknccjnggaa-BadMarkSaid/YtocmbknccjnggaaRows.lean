/-
  No cell of these rows narrows 'for every input' (looked for: loops, veiled, ifaces, maps, wideKeys, modest, calm, conditions, laid).
  DERIVED. THE GIVEN ROWS OF THIS SEAT. 4 by the template 'for every input the law returns true; each argument reads behind the call as it read before'; 0 by the template 'total and deterministic' (their statements: YtocmbknccjnggaaTotals.lean).
  GIVEN WITH THE SEED: the statements are not yours to turn. If you find one false, say at which input.
  Laid BY PROGRAM, IN A SANDBOX (cutbox-rows.mjs): the forced cells as the released guide's own fill.sh prints them over the translation d210f17ed214b122… (all of the seat's roots in one cut). By AI agents, Wed Nov 11 2026. No macro, syntax, notation, axiom, sorry.
-/
import Derived.Test.YtocmbknccjnggaaChecked
import GoSem.Claim
import GoSem.ClaimJoined
import GoSem.ClaimMapViews
import Derived.JoinedTies
import Derived.KernelRfl
namespace Go.Proofs.Ytocmbknccjnggaa
/- THE CELL 'sum', in the pinned program and in every row, IS THE sha256 OF THE DUMP (.gsa) THAT YtocmbknccjnggaaProg.lean LOADS. Nothing in Lean hashes anything: it is a label: what it is worth is what the hold of that sum in a sandbox is worth. -/
noncomputable def Try.pinned : Pinned := { name := "ytocmbknccjnggaa", sum := "d210f17ed214b12291f875ba2d295424fd1acb9703b2762c6f3ec1bc22579ffe", checked := Try.checked }
namespace Rows
def none {H : Type} : Left H := { results := [], args := [] }

/-- 'flintstorelaw.BadTells': WHATEVER THE INPUT: true; the input reads as it did. -/
def badTellsSpec : ChangeSpec := { name := "badTells", fn := fun _ => fun
  | [d1, d2, d3] => { results := [.lit (.bool true)], args := [d1, d2, d3] }
  | _ => none }
def badTellsRow : OpenClaim := { program := "ytocmbknccjnggaa", sum := "d210f17ed214b12291f875ba2d295424fd1acb9703b2762c6f3ec1bc22579ffe", func := "flintstore/flintstorelaw.BadTells", spec := "badTells", recurses := true, apart := false }
def BadTellsSaid : Prop := badTellsRow.holds Try.pinned (OpenSpec.ofChange badTellsSpec)

/-- ITS FALSE NEIGHBOUR: 'it returns false'. Refute it at one input. -/
def badTellsWrong : ChangeSpec := { name := "badTells", fn := fun _ => fun
  | [d1, d2, d3] => { results := [.lit (.bool false)], args := [d1, d2, d3] }
  | _ => none }
def BadTellsWrongFalsely : Prop := badTellsRow.holds Try.pinned (OpenSpec.ofChange badTellsWrong)

/-- 'flintstorekeep.BadBack': WHATEVER THE INPUT: true; the input reads as it did. -/
def badBackSpec : ChangeSpec := { name := "badBack", fn := fun _ => fun
  | [d1, d2, d3, d4] => { results := [.lit (.bool true)], args := [d1, d2, d3, d4] }
  | _ => none }
def badBackRow : OpenClaim := { program := "ytocmbknccjnggaa", sum := "d210f17ed214b12291f875ba2d295424fd1acb9703b2762c6f3ec1bc22579ffe", func := "flintstore/flintstorekeep.BadBack", spec := "badBack", apart := false }
def BadBackSaid : Prop := badBackRow.holds Try.pinned (OpenSpec.ofChange badBackSpec)

/-- ITS FALSE NEIGHBOUR: 'it returns false'. Refute it at one input. -/
def badBackWrong : ChangeSpec := { name := "badBack", fn := fun _ => fun
  | [d1, d2, d3, d4] => { results := [.lit (.bool false)], args := [d1, d2, d3, d4] }
  | _ => none }
def BadBackWrongFalsely : Prop := badBackRow.holds Try.pinned (OpenSpec.ofChange badBackWrong)

/-- 'flintstorekeep.BadMark': WHATEVER THE INPUT: true; the input reads as it did. -/
def badMarkSpec : ChangeSpec := { name := "badMark", fn := fun _ => fun
  | [d1, d2, d3, d4, d5] => { results := [.lit (.bool true)], args := [d1, d2, d3, d4, d5] }
  | _ => none }
def badMarkRow : OpenClaim := { program := "ytocmbknccjnggaa", sum := "d210f17ed214b12291f875ba2d295424fd1acb9703b2762c6f3ec1bc22579ffe", func := "flintstore/flintstorekeep.BadMark", spec := "badMark", apart := false }
def BadMarkSaid : Prop := badMarkRow.holds Try.pinned (OpenSpec.ofChange badMarkSpec)

/-- ITS FALSE NEIGHBOUR: 'it returns false'. Refute it at one input. -/
def badMarkWrong : ChangeSpec := { name := "badMark", fn := fun _ => fun
  | [d1, d2, d3, d4, d5] => { results := [.lit (.bool false)], args := [d1, d2, d3, d4, d5] }
  | _ => none }
def BadMarkWrongFalsely : Prop := badMarkRow.holds Try.pinned (OpenSpec.ofChange badMarkWrong)

/-- 'flintstorekeep.BadCount': WHATEVER THE INPUT: true; the input reads as it did. -/
def badCountSpec : ChangeSpec := { name := "badCount", fn := fun _ => fun
  | [d1, d2] => { results := [.lit (.bool true)], args := [d1, d2] }
  | _ => none }
def badCountRow : OpenClaim := { program := "ytocmbknccjnggaa", sum := "d210f17ed214b12291f875ba2d295424fd1acb9703b2762c6f3ec1bc22579ffe", func := "flintstore/flintstorekeep.BadCount", spec := "badCount", apart := false }
def BadCountSaid : Prop := badCountRow.holds Try.pinned (OpenSpec.ofChange badCountSpec)

/-- ITS FALSE NEIGHBOUR: 'it returns false'. Refute it at one input. -/
def badCountWrong : ChangeSpec := { name := "badCount", fn := fun _ => fun
  | [d1, d2] => { results := [.lit (.bool false)], args := [d1, d2] }
  | _ => none }
def BadCountWrongFalsely : Prop := badCountRow.holds Try.pinned (OpenSpec.ofChange badCountWrong)

/- THE SECOND FORM. 'bulk': how many values and letters a reading holds, each counted each time it is reached (what is shared counts as often as it is met; a slice's spare places count too). A statement '..UptoSaid' is the law's where the arguments, and the package variables that the reading takes, are together of bulk at most 1048576: NARROWER than '..Said'. Prove '..Said' where nothing that the law and all that it calls make is longer than what came in: it says more and counts as full. Else prove '..UptoSaid'. A law counts once. -/
mutual
def uptoBulk {H : Type} : DataW H → Nat
  | .lit (.string bytes) => bytes.length + 1
  | .lit _ => 1
  | .nil => 1
  | .ptr d => uptoBulk d + 1
  | .slice elems spare => uptoBulkAll elems + uptoBulkAll spare + 1
  | .agg parts => uptoBulkAll parts + 1
  | .iface _ d => uptoBulk d + 1
  | .map entries => uptoBulkEntries entries + 1
  | .held _ => 1
def uptoBulkAll {H : Type} : List (DataW H) → Nat
  | [] => 0
  | d :: r => uptoBulk d + uptoBulkAll r
def uptoBulkEntries {H : Type} : List (Lit × DataW H) → Nat
  | [] => 0
  | x :: r => uptoBulkEntry x + uptoBulkEntries r
def uptoBulkEntry {H : Type} : Lit × DataW H → Nat
  | (.string bytes, d) => bytes.length + uptoBulk d + 1
  | (_, d) => uptoBulk d + 1
 end
def uptoSmall : (H : Type) → List (DataW H) → Bool := fun _ ds => decide (uptoBulkAll ds ≤ 1048576)
def OpenSpec.upto (s : _root_.Go.ChangeSpec) : _root_.Go.OpenSpec := { _root_.Go.OpenSpec.ofChange s with cond := some uptoSmall }

/-- 'flintstorelaw.BadTells', WHERE WHAT IT READS IS OF BULK AT MOST 1048576: true; the input reads as it did. -/
def badTellsUptoRow : OpenClaim := { program := "ytocmbknccjnggaa", sum := "d210f17ed214b12291f875ba2d295424fd1acb9703b2762c6f3ec1bc22579ffe", func := "flintstore/flintstorelaw.BadTells", spec := "badTells", recurses := true, apart := false, narrowed := true }
def BadTellsUptoSaid : Prop := badTellsUptoRow.holds Try.pinned (OpenSpec.upto badTellsSpec)

/-- 'flintstorekeep.BadBack', WHERE WHAT IT READS IS OF BULK AT MOST 1048576: true; the input reads as it did. -/
def badBackUptoRow : OpenClaim := { program := "ytocmbknccjnggaa", sum := "d210f17ed214b12291f875ba2d295424fd1acb9703b2762c6f3ec1bc22579ffe", func := "flintstore/flintstorekeep.BadBack", spec := "badBack", apart := false, narrowed := true }
def BadBackUptoSaid : Prop := badBackUptoRow.holds Try.pinned (OpenSpec.upto badBackSpec)

/-- 'flintstorekeep.BadMark', WHERE WHAT IT READS IS OF BULK AT MOST 1048576: true; the input reads as it did. -/
def badMarkUptoRow : OpenClaim := { program := "ytocmbknccjnggaa", sum := "d210f17ed214b12291f875ba2d295424fd1acb9703b2762c6f3ec1bc22579ffe", func := "flintstore/flintstorekeep.BadMark", spec := "badMark", apart := false, narrowed := true }
def BadMarkUptoSaid : Prop := badMarkUptoRow.holds Try.pinned (OpenSpec.upto badMarkSpec)

/-- 'flintstorekeep.BadCount', WHERE WHAT IT READS IS OF BULK AT MOST 1048576: true; the input reads as it did. -/
def badCountUptoRow : OpenClaim := { program := "ytocmbknccjnggaa", sum := "d210f17ed214b12291f875ba2d295424fd1acb9703b2762c6f3ec1bc22579ffe", func := "flintstore/flintstorekeep.BadCount", spec := "badCount", apart := false, narrowed := true }
def BadCountUptoSaid : Prop := badCountUptoRow.holds Try.pinned (OpenSpec.upto badCountSpec)

end Rows
end Go.Proofs.Ytocmbknccjnggaa
