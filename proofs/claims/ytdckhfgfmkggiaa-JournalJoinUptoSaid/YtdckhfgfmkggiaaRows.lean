/-
  No cell of these rows narrows 'for every input' (looked for: loops, veiled, ifaces, maps, wideKeys, modest, calm, conditions, laid).
  DERIVED. THE GIVEN ROWS OF THIS SEAT. 6 by the template 'for every input the law returns true; each argument reads behind the call as it read before'; 0 by the template 'total and deterministic' (their statements: YtdckhfgfmkggiaaTotals.lean).
  GIVEN WITH THE SEED: the statements are not yours to turn. If you find one false, say at which input.
  Laid BY PROGRAM, IN A SANDBOX (cutbox-rows.mjs): the forced cells as the released guide's own fill.sh prints them over the translation 206e70762b66e040… (all of the seat's roots in one cut). By AI agents, Wed Nov 11 2026. No macro, syntax, notation, axiom, sorry.
-/
import Derived.Test.YtdckhfgfmkggiaaChecked
import GoSem.Claim
import GoSem.ClaimJoined
import GoSem.ClaimMapViews
import Derived.JoinedTies
import Derived.KernelRfl
namespace Go.Proofs.Ytdckhfgfmkggiaa
/- THE CELL 'sum', in the pinned program and in every row, IS THE sha256 OF THE DUMP (.gsa) THAT YtdckhfgfmkggiaaProg.lean LOADS. Nothing in Lean hashes anything: it is a label: what it is worth is what the hold of that sum in a sandbox is worth. -/
noncomputable def Try.pinned : Pinned := { name := "ytdckhfgfmkggiaa", sum := "206e70762b66e040b9793ee60493f5b2ad14aa0b5d334c582ee12ad1aeb05cc3", checked := Try.checked }
namespace Rows
def none {H : Type} : Left H := { results := [], args := [] }

/-- 'flintstorelaw.JournalTells': WHATEVER THE INPUT: true; the input reads as it did. -/
def journalTellsSpec : ChangeSpec := { name := "journalTells", fn := fun _ => fun
  | [d1, d2] => { results := [.lit (.bool true)], args := [d1, d2] }
  | _ => none }
def journalTellsRow : OpenClaim := { program := "ytdckhfgfmkggiaa", sum := "206e70762b66e040b9793ee60493f5b2ad14aa0b5d334c582ee12ad1aeb05cc3", func := "flintstore/flintstorelaw.JournalTells", spec := "journalTells", apart := false }
def JournalTellsSaid : Prop := journalTellsRow.holds Try.pinned (OpenSpec.ofChange journalTellsSpec)

/-- ITS FALSE NEIGHBOUR: 'it returns false'. Refute it at one input. -/
def journalTellsWrong : ChangeSpec := { name := "journalTells", fn := fun _ => fun
  | [d1, d2] => { results := [.lit (.bool false)], args := [d1, d2] }
  | _ => none }
def JournalTellsWrongFalsely : Prop := journalTellsRow.holds Try.pinned (OpenSpec.ofChange journalTellsWrong)

/-- 'flintstorelaw.JournalFolds': WHATEVER THE INPUT: true; the input reads as it did. -/
def journalFoldsSpec : ChangeSpec := { name := "journalFolds", fn := fun _ => fun
  | [d] => { results := [.lit (.bool true)], args := [d] }
  | _ => none }
def journalFoldsRow : OpenClaim := { program := "ytdckhfgfmkggiaa", sum := "206e70762b66e040b9793ee60493f5b2ad14aa0b5d334c582ee12ad1aeb05cc3", func := "flintstore/flintstorelaw.JournalFolds", spec := "journalFolds", apart := false }
def JournalFoldsSaid : Prop := journalFoldsRow.holds Try.pinned (OpenSpec.ofChange journalFoldsSpec)

/-- ITS FALSE NEIGHBOUR: 'it returns false'. Refute it at one input. -/
def journalFoldsWrong : ChangeSpec := { name := "journalFolds", fn := fun _ => fun
  | [d] => { results := [.lit (.bool false)], args := [d] }
  | _ => none }
def JournalFoldsWrongFalsely : Prop := journalFoldsRow.holds Try.pinned (OpenSpec.ofChange journalFoldsWrong)

/-- 'flintstorekeep.JournalTorn': WHATEVER THE INPUT: true; the input reads as it did. -/
def journalTornSpec : ChangeSpec := { name := "journalTorn", fn := fun _ => fun
  | [d1, d2] => { results := [.lit (.bool true)], args := [d1, d2] }
  | _ => none }
def journalTornRow : OpenClaim := { program := "ytdckhfgfmkggiaa", sum := "206e70762b66e040b9793ee60493f5b2ad14aa0b5d334c582ee12ad1aeb05cc3", func := "flintstore/flintstorekeep.JournalTorn", spec := "journalTorn", apart := false }
def JournalTornSaid : Prop := journalTornRow.holds Try.pinned (OpenSpec.ofChange journalTornSpec)

/-- ITS FALSE NEIGHBOUR: 'it returns false'. Refute it at one input. -/
def journalTornWrong : ChangeSpec := { name := "journalTorn", fn := fun _ => fun
  | [d1, d2] => { results := [.lit (.bool false)], args := [d1, d2] }
  | _ => none }
def JournalTornWrongFalsely : Prop := journalTornRow.holds Try.pinned (OpenSpec.ofChange journalTornWrong)

/-- 'flintstorekeep.JournalSpoilt': WHATEVER THE INPUT: true; the input reads as it did. -/
def journalSpoiltSpec : ChangeSpec := { name := "journalSpoilt", fn := fun _ => fun
  | [d1, d2, d3, d4] => { results := [.lit (.bool true)], args := [d1, d2, d3, d4] }
  | _ => none }
def journalSpoiltRow : OpenClaim := { program := "ytdckhfgfmkggiaa", sum := "206e70762b66e040b9793ee60493f5b2ad14aa0b5d334c582ee12ad1aeb05cc3", func := "flintstore/flintstorekeep.JournalSpoilt", spec := "journalSpoilt", apart := false }
def JournalSpoiltSaid : Prop := journalSpoiltRow.holds Try.pinned (OpenSpec.ofChange journalSpoiltSpec)

/-- ITS FALSE NEIGHBOUR: 'it returns false'. Refute it at one input. -/
def journalSpoiltWrong : ChangeSpec := { name := "journalSpoilt", fn := fun _ => fun
  | [d1, d2, d3, d4] => { results := [.lit (.bool false)], args := [d1, d2, d3, d4] }
  | _ => none }
def JournalSpoiltWrongFalsely : Prop := journalSpoiltRow.holds Try.pinned (OpenSpec.ofChange journalSpoiltWrong)

/-- 'flintstorekeep.JournalOnly': WHATEVER THE INPUT: true; the input reads as it did. -/
def journalOnlySpec : ChangeSpec := { name := "journalOnly", fn := fun _ => fun
  | [d] => { results := [.lit (.bool true)], args := [d] }
  | _ => none }
def journalOnlyRow : OpenClaim := { program := "ytdckhfgfmkggiaa", sum := "206e70762b66e040b9793ee60493f5b2ad14aa0b5d334c582ee12ad1aeb05cc3", func := "flintstore/flintstorekeep.JournalOnly", spec := "journalOnly", apart := false }
def JournalOnlySaid : Prop := journalOnlyRow.holds Try.pinned (OpenSpec.ofChange journalOnlySpec)

/-- ITS FALSE NEIGHBOUR: 'it returns false'. Refute it at one input. -/
def journalOnlyWrong : ChangeSpec := { name := "journalOnly", fn := fun _ => fun
  | [d] => { results := [.lit (.bool false)], args := [d] }
  | _ => none }
def JournalOnlyWrongFalsely : Prop := journalOnlyRow.holds Try.pinned (OpenSpec.ofChange journalOnlyWrong)

/-- 'flintstorekeep.JournalJoin': WHATEVER THE INPUT: true; the input reads as it did. -/
def journalJoinSpec : ChangeSpec := { name := "journalJoin", fn := fun _ => fun
  | [d1, d2] => { results := [.lit (.bool true)], args := [d1, d2] }
  | _ => none }
def journalJoinRow : OpenClaim := { program := "ytdckhfgfmkggiaa", sum := "206e70762b66e040b9793ee60493f5b2ad14aa0b5d334c582ee12ad1aeb05cc3", func := "flintstore/flintstorekeep.JournalJoin", spec := "journalJoin", apart := false }
def JournalJoinSaid : Prop := journalJoinRow.holds Try.pinned (OpenSpec.ofChange journalJoinSpec)

/-- ITS FALSE NEIGHBOUR: 'it returns false'. Refute it at one input. -/
def journalJoinWrong : ChangeSpec := { name := "journalJoin", fn := fun _ => fun
  | [d1, d2] => { results := [.lit (.bool false)], args := [d1, d2] }
  | _ => none }
def JournalJoinWrongFalsely : Prop := journalJoinRow.holds Try.pinned (OpenSpec.ofChange journalJoinWrong)

/- THE SECOND FORM. 'bulk': how many values and letters a reading holds, each counted each time it is reached (what is shared counts as often as it is met; a slice's spare places count too). A statement '..UptoSaid' is the law's where the arguments, and the package variables that the reading takes, are together of bulk at most 1048576: NARROWER than '..Said'. Prove '..Said' where nothing that the law and all that it calls make is longer than what came in: it says more and counts as full. Else prove '..UptoSaid'. A law counts once. -/
mutual
def uptoBulk {H : Type} : DataW H → Nat
  | .lit (.string bytes) => bytes.length + 1
  | .lit _ => 1
  | .nil => 1
  | .ptr d => uptoBulk d + 1
  | .slice elems spare => uptoBulkAll elems + uptoBulkAll spare + 1
  | .agg parts => uptoBulkAll parts + 1
  | .iface _ d => uptoBulk d + 1
  | .map entries => uptoBulkEntries entries + 1
  | .held _ => 1
def uptoBulkAll {H : Type} : List (DataW H) → Nat
  | [] => 0
  | d :: r => uptoBulk d + uptoBulkAll r
def uptoBulkEntries {H : Type} : List (Lit × DataW H) → Nat
  | [] => 0
  | x :: r => uptoBulkEntry x + uptoBulkEntries r
def uptoBulkEntry {H : Type} : Lit × DataW H → Nat
  | (.string bytes, d) => bytes.length + uptoBulk d + 1
  | (_, d) => uptoBulk d + 1
 end
def uptoSmall : (H : Type) → List (DataW H) → Bool := fun _ ds => decide (uptoBulkAll ds ≤ 1048576)
def OpenSpec.upto (s : _root_.Go.ChangeSpec) : _root_.Go.OpenSpec := { _root_.Go.OpenSpec.ofChange s with cond := some uptoSmall }

/-- 'flintstorelaw.JournalTells', WHERE WHAT IT READS IS OF BULK AT MOST 1048576: true; the input reads as it did. -/
def journalTellsUptoRow : OpenClaim := { program := "ytdckhfgfmkggiaa", sum := "206e70762b66e040b9793ee60493f5b2ad14aa0b5d334c582ee12ad1aeb05cc3", func := "flintstore/flintstorelaw.JournalTells", spec := "journalTells", apart := false, narrowed := true }
def JournalTellsUptoSaid : Prop := journalTellsUptoRow.holds Try.pinned (OpenSpec.upto journalTellsSpec)

/-- 'flintstorelaw.JournalFolds', WHERE WHAT IT READS IS OF BULK AT MOST 1048576: true; the input reads as it did. -/
def journalFoldsUptoRow : OpenClaim := { program := "ytdckhfgfmkggiaa", sum := "206e70762b66e040b9793ee60493f5b2ad14aa0b5d334c582ee12ad1aeb05cc3", func := "flintstore/flintstorelaw.JournalFolds", spec := "journalFolds", apart := false, narrowed := true }
def JournalFoldsUptoSaid : Prop := journalFoldsUptoRow.holds Try.pinned (OpenSpec.upto journalFoldsSpec)

/-- 'flintstorekeep.JournalTorn', WHERE WHAT IT READS IS OF BULK AT MOST 1048576: true; the input reads as it did. -/
def journalTornUptoRow : OpenClaim := { program := "ytdckhfgfmkggiaa", sum := "206e70762b66e040b9793ee60493f5b2ad14aa0b5d334c582ee12ad1aeb05cc3", func := "flintstore/flintstorekeep.JournalTorn", spec := "journalTorn", apart := false, narrowed := true }
def JournalTornUptoSaid : Prop := journalTornUptoRow.holds Try.pinned (OpenSpec.upto journalTornSpec)

/-- 'flintstorekeep.JournalSpoilt', WHERE WHAT IT READS IS OF BULK AT MOST 1048576: true; the input reads as it did. -/
def journalSpoiltUptoRow : OpenClaim := { program := "ytdckhfgfmkggiaa", sum := "206e70762b66e040b9793ee60493f5b2ad14aa0b5d334c582ee12ad1aeb05cc3", func := "flintstore/flintstorekeep.JournalSpoilt", spec := "journalSpoilt", apart := false, narrowed := true }
def JournalSpoiltUptoSaid : Prop := journalSpoiltUptoRow.holds Try.pinned (OpenSpec.upto journalSpoiltSpec)

/-- 'flintstorekeep.JournalOnly', WHERE WHAT IT READS IS OF BULK AT MOST 1048576: true; the input reads as it did. -/
def journalOnlyUptoRow : OpenClaim := { program := "ytdckhfgfmkggiaa", sum := "206e70762b66e040b9793ee60493f5b2ad14aa0b5d334c582ee12ad1aeb05cc3", func := "flintstore/flintstorekeep.JournalOnly", spec := "journalOnly", apart := false, narrowed := true }
def JournalOnlyUptoSaid : Prop := journalOnlyUptoRow.holds Try.pinned (OpenSpec.upto journalOnlySpec)

/-- 'flintstorekeep.JournalJoin', WHERE WHAT IT READS IS OF BULK AT MOST 1048576: true; the input reads as it did. -/
def journalJoinUptoRow : OpenClaim := { program := "ytdckhfgfmkggiaa", sum := "206e70762b66e040b9793ee60493f5b2ad14aa0b5d334c582ee12ad1aeb05cc3", func := "flintstore/flintstorekeep.JournalJoin", spec := "journalJoin", apart := false, narrowed := true }
def JournalJoinUptoSaid : Prop := journalJoinUptoRow.holds Try.pinned (OpenSpec.upto journalJoinSpec)

end Rows
end Go.Proofs.Ytdckhfgfmkggiaa
