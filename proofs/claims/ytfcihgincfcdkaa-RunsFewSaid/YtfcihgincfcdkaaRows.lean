/-
  No cell of these rows narrows 'for every input' (looked for: loops, veiled, ifaces, maps, wideKeys, modest, calm, conditions, laid).
  DERIVED. THE GIVEN ROWS OF THIS SEAT. 7 by the template 'for every input the law returns true; each argument reads behind the call as it read before'; 0 by the template 'total and deterministic' (their statements: YtfcihgincfcdkaaTotals.lean).
  GIVEN WITH THE SEED: the statements are not yours to turn. If you find one false, say at which input.
  Laid BY PROGRAM, IN A SANDBOX (cutbox-rows.mjs): the forced cells as the released guide's own fill.sh prints them over the translation c7251f63e0d67dc3… (all of the seat's roots in one cut). By AI agents, Wed Nov 11 2026. No macro, syntax, notation, axiom, sorry.
-/
import Derived.Test.YtfcihgincfcdkaaChecked
import GoSem.Claim
import GoSem.ClaimJoined
import GoSem.ClaimMapViews
import Derived.JoinedTies
import Derived.KernelRfl
namespace Go.Proofs.Ytfcihgincfcdkaa
/- THE CELL 'sum', in the pinned program and in every row, IS THE sha256 OF THE DUMP (.gsa) THAT YtfcihgincfcdkaaProg.lean LOADS. Nothing in Lean hashes anything: it is a label: what it is worth is what the hold of that sum in a sandbox is worth. -/
noncomputable def Try.pinned : Pinned := { name := "ytfcihgincfcdkaa", sum := "c7251f63e0d67dc340b5dd08e0b6fa174d0cacf7bb1a91facf6edcef265454f3", checked := Try.checked }
namespace Rows
def none {H : Type} : Left H := { results := [], args := [] }

/-- 'flintstorelaw.RunsFind': WHATEVER THE INPUT: true; the input reads as it did. -/
def runsFindSpec : ChangeSpec := { name := "runsFind", fn := fun _ => fun
  | [d1, d2] => { results := [.lit (.bool true)], args := [d1, d2] }
  | _ => none }
def runsFindRow : OpenClaim := { program := "ytfcihgincfcdkaa", sum := "c7251f63e0d67dc340b5dd08e0b6fa174d0cacf7bb1a91facf6edcef265454f3", func := "flintstore/flintstorelaw.RunsFind", spec := "runsFind", apart := false }
def RunsFindSaid : Prop := runsFindRow.holds Try.pinned (OpenSpec.ofChange runsFindSpec)

/-- ITS FALSE NEIGHBOUR: 'it returns false'. Refute it at one input. -/
def runsFindWrong : ChangeSpec := { name := "runsFind", fn := fun _ => fun
  | [d1, d2] => { results := [.lit (.bool false)], args := [d1, d2] }
  | _ => none }
def RunsFindWrongFalsely : Prop := runsFindRow.holds Try.pinned (OpenSpec.ofChange runsFindWrong)

/-- 'flintstorelaw.RunsCut': WHATEVER THE INPUT: true; the input reads as it did. -/
def runsCutSpec : ChangeSpec := { name := "runsCut", fn := fun _ => fun
  | [d1, d2, d3] => { results := [.lit (.bool true)], args := [d1, d2, d3] }
  | _ => none }
def runsCutRow : OpenClaim := { program := "ytfcihgincfcdkaa", sum := "c7251f63e0d67dc340b5dd08e0b6fa174d0cacf7bb1a91facf6edcef265454f3", func := "flintstore/flintstorelaw.RunsCut", spec := "runsCut", apart := false }
def RunsCutSaid : Prop := runsCutRow.holds Try.pinned (OpenSpec.ofChange runsCutSpec)

/-- ITS FALSE NEIGHBOUR: 'it returns false'. Refute it at one input. -/
def runsCutWrong : ChangeSpec := { name := "runsCut", fn := fun _ => fun
  | [d1, d2, d3] => { results := [.lit (.bool false)], args := [d1, d2, d3] }
  | _ => none }
def RunsCutWrongFalsely : Prop := runsCutRow.holds Try.pinned (OpenSpec.ofChange runsCutWrong)

/-- 'flintstorelaw.RunsPut': WHATEVER THE INPUT: true; the input reads as it did. -/
def runsPutSpec : ChangeSpec := { name := "runsPut", fn := fun _ => fun
  | [d1, d2] => { results := [.lit (.bool true)], args := [d1, d2] }
  | _ => none }
def runsPutRow : OpenClaim := { program := "ytfcihgincfcdkaa", sum := "c7251f63e0d67dc340b5dd08e0b6fa174d0cacf7bb1a91facf6edcef265454f3", func := "flintstore/flintstorelaw.RunsPut", spec := "runsPut", apart := false }
def RunsPutSaid : Prop := runsPutRow.holds Try.pinned (OpenSpec.ofChange runsPutSpec)

/-- ITS FALSE NEIGHBOUR: 'it returns false'. Refute it at one input. -/
def runsPutWrong : ChangeSpec := { name := "runsPut", fn := fun _ => fun
  | [d1, d2] => { results := [.lit (.bool false)], args := [d1, d2] }
  | _ => none }
def RunsPutWrongFalsely : Prop := runsPutRow.holds Try.pinned (OpenSpec.ofChange runsPutWrong)

/-- 'flintstorekeep.RunsLast': WHATEVER THE INPUT: true; the input reads as it did. -/
def runsLastSpec : ChangeSpec := { name := "runsLast", fn := fun _ => fun
  | [d1, d2, d3] => { results := [.lit (.bool true)], args := [d1, d2, d3] }
  | _ => none }
def runsLastRow : OpenClaim := { program := "ytfcihgincfcdkaa", sum := "c7251f63e0d67dc340b5dd08e0b6fa174d0cacf7bb1a91facf6edcef265454f3", func := "flintstore/flintstorekeep.RunsLast", spec := "runsLast", apart := false }
def RunsLastSaid : Prop := runsLastRow.holds Try.pinned (OpenSpec.ofChange runsLastSpec)

/-- ITS FALSE NEIGHBOUR: 'it returns false'. Refute it at one input. -/
def runsLastWrong : ChangeSpec := { name := "runsLast", fn := fun _ => fun
  | [d1, d2, d3] => { results := [.lit (.bool false)], args := [d1, d2, d3] }
  | _ => none }
def RunsLastWrongFalsely : Prop := runsLastRow.holds Try.pinned (OpenSpec.ofChange runsLastWrong)

/-- 'flintstorekeep.RunsOne': WHATEVER THE INPUT: true; the input reads as it did. -/
def runsOneSpec : ChangeSpec := { name := "runsOne", fn := fun _ => fun
  | [d1, d2] => { results := [.lit (.bool true)], args := [d1, d2] }
  | _ => none }
def runsOneRow : OpenClaim := { program := "ytfcihgincfcdkaa", sum := "c7251f63e0d67dc340b5dd08e0b6fa174d0cacf7bb1a91facf6edcef265454f3", func := "flintstore/flintstorekeep.RunsOne", spec := "runsOne", apart := false }
def RunsOneSaid : Prop := runsOneRow.holds Try.pinned (OpenSpec.ofChange runsOneSpec)

/-- ITS FALSE NEIGHBOUR: 'it returns false'. Refute it at one input. -/
def runsOneWrong : ChangeSpec := { name := "runsOne", fn := fun _ => fun
  | [d1, d2] => { results := [.lit (.bool false)], args := [d1, d2] }
  | _ => none }
def RunsOneWrongFalsely : Prop := runsOneRow.holds Try.pinned (OpenSpec.ofChange runsOneWrong)

/-- 'flintstorekeep.RunsTwice': WHATEVER THE INPUT: true; the input reads as it did. -/
def runsTwiceSpec : ChangeSpec := { name := "runsTwice", fn := fun _ => fun
  | [d1, d2, d3] => { results := [.lit (.bool true)], args := [d1, d2, d3] }
  | _ => none }
def runsTwiceRow : OpenClaim := { program := "ytfcihgincfcdkaa", sum := "c7251f63e0d67dc340b5dd08e0b6fa174d0cacf7bb1a91facf6edcef265454f3", func := "flintstore/flintstorekeep.RunsTwice", spec := "runsTwice", apart := false }
def RunsTwiceSaid : Prop := runsTwiceRow.holds Try.pinned (OpenSpec.ofChange runsTwiceSpec)

/-- ITS FALSE NEIGHBOUR: 'it returns false'. Refute it at one input. -/
def runsTwiceWrong : ChangeSpec := { name := "runsTwice", fn := fun _ => fun
  | [d1, d2, d3] => { results := [.lit (.bool false)], args := [d1, d2, d3] }
  | _ => none }
def RunsTwiceWrongFalsely : Prop := runsTwiceRow.holds Try.pinned (OpenSpec.ofChange runsTwiceWrong)

/-- 'flintstorekeep.RunsFew': WHATEVER THE INPUT: true; the input reads as it did. -/
def runsFewSpec : ChangeSpec := { name := "runsFew", fn := fun _ => fun
  | [d1, d2] => { results := [.lit (.bool true)], args := [d1, d2] }
  | _ => none }
def runsFewRow : OpenClaim := { program := "ytfcihgincfcdkaa", sum := "c7251f63e0d67dc340b5dd08e0b6fa174d0cacf7bb1a91facf6edcef265454f3", func := "flintstore/flintstorekeep.RunsFew", spec := "runsFew", apart := false }
def RunsFewSaid : Prop := runsFewRow.holds Try.pinned (OpenSpec.ofChange runsFewSpec)

/-- ITS FALSE NEIGHBOUR: 'it returns false'. Refute it at one input. -/
def runsFewWrong : ChangeSpec := { name := "runsFew", fn := fun _ => fun
  | [d1, d2] => { results := [.lit (.bool false)], args := [d1, d2] }
  | _ => none }
def RunsFewWrongFalsely : Prop := runsFewRow.holds Try.pinned (OpenSpec.ofChange runsFewWrong)

/- THE SECOND FORM. 'bulk': how many values and letters a reading holds, each counted each time it is reached (what is shared counts as often as it is met; a slice's spare places count too). A statement '..UptoSaid' is the law's where the arguments, and the package variables that the reading takes, are together of bulk at most 1048576: NARROWER than '..Said'. Prove '..Said' where nothing that the law and all that it calls make is longer than what came in: it says more and counts as full. Else prove '..UptoSaid'. A law counts once. -/
mutual
def uptoBulk {H : Type} : DataW H → Nat
  | .lit (.string bytes) => bytes.length + 1
  | .lit _ => 1
  | .nil => 1
  | .ptr d => uptoBulk d + 1
  | .slice elems spare => uptoBulkAll elems + uptoBulkAll spare + 1
  | .agg parts => uptoBulkAll parts + 1
  | .iface _ d => uptoBulk d + 1
  | .map entries => uptoBulkEntries entries + 1
  | .held _ => 1
def uptoBulkAll {H : Type} : List (DataW H) → Nat
  | [] => 0
  | d :: r => uptoBulk d + uptoBulkAll r
def uptoBulkEntries {H : Type} : List (Lit × DataW H) → Nat
  | [] => 0
  | x :: r => uptoBulkEntry x + uptoBulkEntries r
def uptoBulkEntry {H : Type} : Lit × DataW H → Nat
  | (.string bytes, d) => bytes.length + uptoBulk d + 1
  | (_, d) => uptoBulk d + 1
 end
def uptoSmall : (H : Type) → List (DataW H) → Bool := fun _ ds => decide (uptoBulkAll ds ≤ 1048576)
def OpenSpec.upto (s : _root_.Go.ChangeSpec) : _root_.Go.OpenSpec := { _root_.Go.OpenSpec.ofChange s with cond := some uptoSmall }

/-- 'flintstorelaw.RunsFind', WHERE WHAT IT READS IS OF BULK AT MOST 1048576: true; the input reads as it did. -/
def runsFindUptoRow : OpenClaim := { program := "ytfcihgincfcdkaa", sum := "c7251f63e0d67dc340b5dd08e0b6fa174d0cacf7bb1a91facf6edcef265454f3", func := "flintstore/flintstorelaw.RunsFind", spec := "runsFind", apart := false, narrowed := true }
def RunsFindUptoSaid : Prop := runsFindUptoRow.holds Try.pinned (OpenSpec.upto runsFindSpec)

/-- 'flintstorelaw.RunsCut', WHERE WHAT IT READS IS OF BULK AT MOST 1048576: true; the input reads as it did. -/
def runsCutUptoRow : OpenClaim := { program := "ytfcihgincfcdkaa", sum := "c7251f63e0d67dc340b5dd08e0b6fa174d0cacf7bb1a91facf6edcef265454f3", func := "flintstore/flintstorelaw.RunsCut", spec := "runsCut", apart := false, narrowed := true }
def RunsCutUptoSaid : Prop := runsCutUptoRow.holds Try.pinned (OpenSpec.upto runsCutSpec)

/-- 'flintstorelaw.RunsPut', WHERE WHAT IT READS IS OF BULK AT MOST 1048576: true; the input reads as it did. -/
def runsPutUptoRow : OpenClaim := { program := "ytfcihgincfcdkaa", sum := "c7251f63e0d67dc340b5dd08e0b6fa174d0cacf7bb1a91facf6edcef265454f3", func := "flintstore/flintstorelaw.RunsPut", spec := "runsPut", apart := false, narrowed := true }
def RunsPutUptoSaid : Prop := runsPutUptoRow.holds Try.pinned (OpenSpec.upto runsPutSpec)

/-- 'flintstorekeep.RunsLast', WHERE WHAT IT READS IS OF BULK AT MOST 1048576: true; the input reads as it did. -/
def runsLastUptoRow : OpenClaim := { program := "ytfcihgincfcdkaa", sum := "c7251f63e0d67dc340b5dd08e0b6fa174d0cacf7bb1a91facf6edcef265454f3", func := "flintstore/flintstorekeep.RunsLast", spec := "runsLast", apart := false, narrowed := true }
def RunsLastUptoSaid : Prop := runsLastUptoRow.holds Try.pinned (OpenSpec.upto runsLastSpec)

/-- 'flintstorekeep.RunsOne', WHERE WHAT IT READS IS OF BULK AT MOST 1048576: true; the input reads as it did. -/
def runsOneUptoRow : OpenClaim := { program := "ytfcihgincfcdkaa", sum := "c7251f63e0d67dc340b5dd08e0b6fa174d0cacf7bb1a91facf6edcef265454f3", func := "flintstore/flintstorekeep.RunsOne", spec := "runsOne", apart := false, narrowed := true }
def RunsOneUptoSaid : Prop := runsOneUptoRow.holds Try.pinned (OpenSpec.upto runsOneSpec)

/-- 'flintstorekeep.RunsTwice', WHERE WHAT IT READS IS OF BULK AT MOST 1048576: true; the input reads as it did. -/
def runsTwiceUptoRow : OpenClaim := { program := "ytfcihgincfcdkaa", sum := "c7251f63e0d67dc340b5dd08e0b6fa174d0cacf7bb1a91facf6edcef265454f3", func := "flintstore/flintstorekeep.RunsTwice", spec := "runsTwice", apart := false, narrowed := true }
def RunsTwiceUptoSaid : Prop := runsTwiceUptoRow.holds Try.pinned (OpenSpec.upto runsTwiceSpec)

/-- 'flintstorekeep.RunsFew', WHERE WHAT IT READS IS OF BULK AT MOST 1048576: true; the input reads as it did. -/
def runsFewUptoRow : OpenClaim := { program := "ytfcihgincfcdkaa", sum := "c7251f63e0d67dc340b5dd08e0b6fa174d0cacf7bb1a91facf6edcef265454f3", func := "flintstore/flintstorekeep.RunsFew", spec := "runsFew", apart := false, narrowed := true }
def RunsFewUptoSaid : Prop := runsFewUptoRow.holds Try.pinned (OpenSpec.upto runsFewSpec)

end Rows
end Go.Proofs.Ytfcihgincfcdkaa
