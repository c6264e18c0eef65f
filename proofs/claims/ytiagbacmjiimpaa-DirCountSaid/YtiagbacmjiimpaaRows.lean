/-
  No cell of these rows narrows 'for every input' (looked for: loops, veiled, ifaces, maps, wideKeys, modest, calm, conditions, laid).
  DERIVED. THE GIVEN ROWS OF THIS SEAT. 6 by the template 'for every input the law returns true; each argument reads behind the call as it read before'; 0 by the template 'total and deterministic' (their statements: YtiagbacmjiimpaaTotals.lean).
  GIVEN WITH THE SEED: the statements are not yours to turn. If you find one false, say at which input.
  Laid BY PROGRAM, IN A SANDBOX (cutbox-rows.mjs): the forced cells as the released guide's own fill.sh prints them over the translation bd6d15155caa90c8… (all of the seat's roots in one cut). By AI agents, Wed Nov 11 2026. No macro, syntax, notation, axiom, sorry.
-/
import Derived.Test.YtiagbacmjiimpaaChecked
import GoSem.Claim
import GoSem.ClaimJoined
import GoSem.ClaimMapViews
import Derived.JoinedTies
import Derived.KernelRfl
namespace Go.Proofs.Ytiagbacmjiimpaa
/- THE CELL 'sum', in the pinned program and in every row, IS THE sha256 OF THE DUMP (.gsa) THAT YtiagbacmjiimpaaProg.lean LOADS. Nothing in Lean hashes anything: it is a label: what it is worth is what the hold of that sum in a sandbox is worth. -/
noncomputable def Try.pinned : Pinned := { name := "ytiagbacmjiimpaa", sum := "bd6d15155caa90c8b71efcd4d87dc214e63b104fb385e66e3a4d679497c610ab", checked := Try.checked }
namespace Rows
def none {H : Type} : Left H := { results := [], args := [] }

/-- 'flintstorelaw.DirTells': WHATEVER THE INPUT: true; the input reads as it did. -/
def dirTellsSpec : ChangeSpec := { name := "dirTells", fn := fun _ => fun
  | [d1, d2] => { results := [.lit (.bool true)], args := [d1, d2] }
  | _ => none }
def dirTellsRow : OpenClaim := { program := "ytiagbacmjiimpaa", sum := "bd6d15155caa90c8b71efcd4d87dc214e63b104fb385e66e3a4d679497c610ab", func := "flintstore/flintstorelaw.DirTells", spec := "dirTells", inPlace := ["internal/bytealg.IndexByteString"], unfollowed := true, recurses := true, apart := false }
def DirTellsSaid : Prop := dirTellsRow.holds Try.pinned (OpenSpec.ofChange dirTellsSpec)

/-- ITS FALSE NEIGHBOUR: 'it returns false'. Refute it at one input. -/
def dirTellsWrong : ChangeSpec := { name := "dirTells", fn := fun _ => fun
  | [d1, d2] => { results := [.lit (.bool false)], args := [d1, d2] }
  | _ => none }
def DirTellsWrongFalsely : Prop := dirTellsRow.holds Try.pinned (OpenSpec.ofChange dirTellsWrong)

/-- 'flintstorelaw.DirRenames': WHATEVER THE INPUT: true; the input reads as it did. -/
def dirRenamesSpec : ChangeSpec := { name := "dirRenames", fn := fun _ => fun
  | [d1, d2, d3] => { results := [.lit (.bool true)], args := [d1, d2, d3] }
  | _ => none }
def dirRenamesRow : OpenClaim := { program := "ytiagbacmjiimpaa", sum := "bd6d15155caa90c8b71efcd4d87dc214e63b104fb385e66e3a4d679497c610ab", func := "flintstore/flintstorelaw.DirRenames", spec := "dirRenames", inPlace := ["internal/bytealg.IndexByteString"], unfollowed := true, recurses := true, apart := false }
def DirRenamesSaid : Prop := dirRenamesRow.holds Try.pinned (OpenSpec.ofChange dirRenamesSpec)

/-- ITS FALSE NEIGHBOUR: 'it returns false'. Refute it at one input. -/
def dirRenamesWrong : ChangeSpec := { name := "dirRenames", fn := fun _ => fun
  | [d1, d2, d3] => { results := [.lit (.bool false)], args := [d1, d2, d3] }
  | _ => none }
def DirRenamesWrongFalsely : Prop := dirRenamesRow.holds Try.pinned (OpenSpec.ofChange dirRenamesWrong)

/-- 'flintstorekeep.DirBack': WHATEVER THE INPUT: true; the input reads as it did. -/
def dirBackSpec : ChangeSpec := { name := "dirBack", fn := fun _ => fun
  | [d1, d2, d3] => { results := [.lit (.bool true)], args := [d1, d2, d3] }
  | _ => none }
def dirBackRow : OpenClaim := { program := "ytiagbacmjiimpaa", sum := "bd6d15155caa90c8b71efcd4d87dc214e63b104fb385e66e3a4d679497c610ab", func := "flintstore/flintstorekeep.DirBack", spec := "dirBack", inPlace := ["internal/bytealg.IndexByteString"], unfollowed := true, recurses := true, apart := false }
def DirBackSaid : Prop := dirBackRow.holds Try.pinned (OpenSpec.ofChange dirBackSpec)

/-- ITS FALSE NEIGHBOUR: 'it returns false'. Refute it at one input. -/
def dirBackWrong : ChangeSpec := { name := "dirBack", fn := fun _ => fun
  | [d1, d2, d3] => { results := [.lit (.bool false)], args := [d1, d2, d3] }
  | _ => none }
def DirBackWrongFalsely : Prop := dirBackRow.holds Try.pinned (OpenSpec.ofChange dirBackWrong)

/-- 'flintstorekeep.DirOrder': WHATEVER THE INPUT: true; the input reads as it did. -/
def dirOrderSpec : ChangeSpec := { name := "dirOrder", fn := fun _ => fun
  | [d1, d2, d3] => { results := [.lit (.bool true)], args := [d1, d2, d3] }
  | _ => none }
def dirOrderRow : OpenClaim := { program := "ytiagbacmjiimpaa", sum := "bd6d15155caa90c8b71efcd4d87dc214e63b104fb385e66e3a4d679497c610ab", func := "flintstore/flintstorekeep.DirOrder", spec := "dirOrder", inPlace := ["internal/bytealg.IndexByteString"], unfollowed := true, recurses := true, apart := false }
def DirOrderSaid : Prop := dirOrderRow.holds Try.pinned (OpenSpec.ofChange dirOrderSpec)

/-- ITS FALSE NEIGHBOUR: 'it returns false'. Refute it at one input. -/
def dirOrderWrong : ChangeSpec := { name := "dirOrder", fn := fun _ => fun
  | [d1, d2, d3] => { results := [.lit (.bool false)], args := [d1, d2, d3] }
  | _ => none }
def DirOrderWrongFalsely : Prop := dirOrderRow.holds Try.pinned (OpenSpec.ofChange dirOrderWrong)

/-- 'flintstorekeep.DirRename': WHATEVER THE INPUT: true; the input reads as it did. -/
def dirRenameSpec : ChangeSpec := { name := "dirRename", fn := fun _ => fun
  | [d1, d2, d3] => { results := [.lit (.bool true)], args := [d1, d2, d3] }
  | _ => none }
def dirRenameRow : OpenClaim := { program := "ytiagbacmjiimpaa", sum := "bd6d15155caa90c8b71efcd4d87dc214e63b104fb385e66e3a4d679497c610ab", func := "flintstore/flintstorekeep.DirRename", spec := "dirRename", inPlace := ["internal/bytealg.IndexByteString"], unfollowed := true, recurses := true, apart := false }
def DirRenameSaid : Prop := dirRenameRow.holds Try.pinned (OpenSpec.ofChange dirRenameSpec)

/-- ITS FALSE NEIGHBOUR: 'it returns false'. Refute it at one input. -/
def dirRenameWrong : ChangeSpec := { name := "dirRename", fn := fun _ => fun
  | [d1, d2, d3] => { results := [.lit (.bool false)], args := [d1, d2, d3] }
  | _ => none }
def DirRenameWrongFalsely : Prop := dirRenameRow.holds Try.pinned (OpenSpec.ofChange dirRenameWrong)

/-- 'flintstorekeep.DirCount': WHATEVER THE INPUT: true; the input reads as it did. -/
def dirCountSpec : ChangeSpec := { name := "dirCount", fn := fun _ => fun
  | [d1, d2] => { results := [.lit (.bool true)], args := [d1, d2] }
  | _ => none }
def dirCountRow : OpenClaim := { program := "ytiagbacmjiimpaa", sum := "bd6d15155caa90c8b71efcd4d87dc214e63b104fb385e66e3a4d679497c610ab", func := "flintstore/flintstorekeep.DirCount", spec := "dirCount", inPlace := ["internal/bytealg.IndexByteString"], unfollowed := true, recurses := true, apart := false }
def DirCountSaid : Prop := dirCountRow.holds Try.pinned (OpenSpec.ofChange dirCountSpec)

/-- ITS FALSE NEIGHBOUR: 'it returns false'. Refute it at one input. -/
def dirCountWrong : ChangeSpec := { name := "dirCount", fn := fun _ => fun
  | [d1, d2] => { results := [.lit (.bool false)], args := [d1, d2] }
  | _ => none }
def DirCountWrongFalsely : Prop := dirCountRow.holds Try.pinned (OpenSpec.ofChange dirCountWrong)

/- THE SECOND FORM. 'bulk': how many values and letters a reading holds, each counted each time it is reached (what is shared counts as often as it is met; a slice's spare places count too). A statement '..UptoSaid' is the law's where the arguments, and the package variables that the reading takes, are together of bulk at most 1048576: NARROWER than '..Said'. Prove '..Said' where nothing that the law and all that it calls make is longer than what came in: it says more and counts as full. Else prove '..UptoSaid'. A law counts once. -/
mutual
def uptoBulk {H : Type} : DataW H → Nat
  | .lit (.string bytes) => bytes.length + 1
  | .lit _ => 1
  | .nil => 1
  | .ptr d => uptoBulk d + 1
  | .slice elems spare => uptoBulkAll elems + uptoBulkAll spare + 1
  | .agg parts => uptoBulkAll parts + 1
  | .iface _ d => uptoBulk d + 1
  | .map entries => uptoBulkEntries entries + 1
  | .held _ => 1
def uptoBulkAll {H : Type} : List (DataW H) → Nat
  | [] => 0
  | d :: r => uptoBulk d + uptoBulkAll r
def uptoBulkEntries {H : Type} : List (Lit × DataW H) → Nat
  | [] => 0
  | x :: r => uptoBulkEntry x + uptoBulkEntries r
def uptoBulkEntry {H : Type} : Lit × DataW H → Nat
  | (.string bytes, d) => bytes.length + uptoBulk d + 1
  | (_, d) => uptoBulk d + 1
 end
def uptoSmall : (H : Type) → List (DataW H) → Bool := fun _ ds => decide (uptoBulkAll ds ≤ 1048576)
def OpenSpec.upto (s : _root_.Go.ChangeSpec) : _root_.Go.OpenSpec := { _root_.Go.OpenSpec.ofChange s with cond := some uptoSmall }

/-- 'flintstorelaw.DirTells', WHERE WHAT IT READS IS OF BULK AT MOST 1048576: true; the input reads as it did. -/
def dirTellsUptoRow : OpenClaim := { program := "ytiagbacmjiimpaa", sum := "bd6d15155caa90c8b71efcd4d87dc214e63b104fb385e66e3a4d679497c610ab", func := "flintstore/flintstorelaw.DirTells", spec := "dirTells", inPlace := ["internal/bytealg.IndexByteString"], unfollowed := true, recurses := true, apart := false, narrowed := true }
def DirTellsUptoSaid : Prop := dirTellsUptoRow.holds Try.pinned (OpenSpec.upto dirTellsSpec)

/-- 'flintstorelaw.DirRenames', WHERE WHAT IT READS IS OF BULK AT MOST 1048576: true; the input reads as it did. -/
def dirRenamesUptoRow : OpenClaim := { program := "ytiagbacmjiimpaa", sum := "bd6d15155caa90c8b71efcd4d87dc214e63b104fb385e66e3a4d679497c610ab", func := "flintstore/flintstorelaw.DirRenames", spec := "dirRenames", inPlace := ["internal/bytealg.IndexByteString"], unfollowed := true, recurses := true, apart := false, narrowed := true }
def DirRenamesUptoSaid : Prop := dirRenamesUptoRow.holds Try.pinned (OpenSpec.upto dirRenamesSpec)

/-- 'flintstorekeep.DirBack', WHERE WHAT IT READS IS OF BULK AT MOST 1048576: true; the input reads as it did. -/
def dirBackUptoRow : OpenClaim := { program := "ytiagbacmjiimpaa", sum := "bd6d15155caa90c8b71efcd4d87dc214e63b104fb385e66e3a4d679497c610ab", func := "flintstore/flintstorekeep.DirBack", spec := "dirBack", inPlace := ["internal/bytealg.IndexByteString"], unfollowed := true, recurses := true, apart := false, narrowed := true }
def DirBackUptoSaid : Prop := dirBackUptoRow.holds Try.pinned (OpenSpec.upto dirBackSpec)

/-- 'flintstorekeep.DirOrder', WHERE WHAT IT READS IS OF BULK AT MOST 1048576: true; the input reads as it did. -/
def dirOrderUptoRow : OpenClaim := { program := "ytiagbacmjiimpaa", sum := "bd6d15155caa90c8b71efcd4d87dc214e63b104fb385e66e3a4d679497c610ab", func := "flintstore/flintstorekeep.DirOrder", spec := "dirOrder", inPlace := ["internal/bytealg.IndexByteString"], unfollowed := true, recurses := true, apart := false, narrowed := true }
def DirOrderUptoSaid : Prop := dirOrderUptoRow.holds Try.pinned (OpenSpec.upto dirOrderSpec)

/-- 'flintstorekeep.DirRename', WHERE WHAT IT READS IS OF BULK AT MOST 1048576: true; the input reads as it did. -/
def dirRenameUptoRow : OpenClaim := { program := "ytiagbacmjiimpaa", sum := "bd6d15155caa90c8b71efcd4d87dc214e63b104fb385e66e3a4d679497c610ab", func := "flintstore/flintstorekeep.DirRename", spec := "dirRename", inPlace := ["internal/bytealg.IndexByteString"], unfollowed := true, recurses := true, apart := false, narrowed := true }
def DirRenameUptoSaid : Prop := dirRenameUptoRow.holds Try.pinned (OpenSpec.upto dirRenameSpec)

/-- 'flintstorekeep.DirCount', WHERE WHAT IT READS IS OF BULK AT MOST 1048576: true; the input reads as it did. -/
def dirCountUptoRow : OpenClaim := { program := "ytiagbacmjiimpaa", sum := "bd6d15155caa90c8b71efcd4d87dc214e63b104fb385e66e3a4d679497c610ab", func := "flintstore/flintstorekeep.DirCount", spec := "dirCount", inPlace := ["internal/bytealg.IndexByteString"], unfollowed := true, recurses := true, apart := false, narrowed := true }
def DirCountUptoSaid : Prop := dirCountUptoRow.holds Try.pinned (OpenSpec.upto dirCountSpec)

end Rows
end Go.Proofs.Ytiagbacmjiimpaa
