/-
  No cell of these rows narrows 'for every input' (looked for: loops, veiled, ifaces, maps, wideKeys, modest, calm, conditions, laid).
  DERIVED. THE GIVEN ROWS OF THIS SEAT. 6 by the template 'for every input the law returns true; each argument reads behind the call as it read before'; 0 by the template 'total and deterministic' (their statements: YtfohihdpohjmcaaTotals.lean).
  GIVEN WITH THE SEED: the statements are not yours to turn. If you find one false, say at which input.
  Laid BY PROGRAM, IN A SANDBOX (cutbox-rows.mjs): the forced cells as the released guide's own fill.sh prints them over the translation 9586560190a48d6f… (all of the seat's roots in one cut). By AI agents, Wed Nov 11 2026. No macro, syntax, notation, axiom, sorry.
-/
import Derived.Test.YtfohihdpohjmcaaChecked
import GoSem.Claim
import GoSem.ClaimJoined
import GoSem.ClaimMapViews
import Derived.JoinedTies
import Derived.KernelRfl
namespace Go.Proofs.Ytfohihdpohjmcaa
/- THE CELL 'sum', in the pinned program and in every row, IS THE sha256 OF THE DUMP (.gsa) THAT YtfohihdpohjmcaaProg.lean LOADS. Nothing in Lean hashes anything: it is a label: what it is worth is what the hold of that sum in a sandbox is worth. -/
noncomputable def Try.pinned : Pinned := { name := "ytfohihdpohjmcaa", sum := "9586560190a48d6f1bba2ec10d2630dc4d1ac8fb5ae257f377be0f3372838471", checked := Try.checked }
namespace Rows
def none {H : Type} : Left H := { results := [], args := [] }

/-- 'flintstorelaw.FtlPlays': WHATEVER THE INPUT: true; the input reads as it did. -/
def ftlPlaysSpec : ChangeSpec := { name := "ftlPlays", fn := fun _ => fun
  | [d] => { results := [.lit (.bool true)], args := [d] }
  | _ => none }
def ftlPlaysRow : OpenClaim := { program := "ytfohihdpohjmcaa", sum := "9586560190a48d6f1bba2ec10d2630dc4d1ac8fb5ae257f377be0f3372838471", func := "flintstore/flintstorelaw.FtlPlays", spec := "ftlPlays", unfollowed := true, recurses := true, apart := false }
def FtlPlaysSaid : Prop := ftlPlaysRow.holds Try.pinned (OpenSpec.ofChange ftlPlaysSpec)

/-- ITS FALSE NEIGHBOUR: 'it returns false'. Refute it at one input. -/
def ftlPlaysWrong : ChangeSpec := { name := "ftlPlays", fn := fun _ => fun
  | [d] => { results := [.lit (.bool false)], args := [d] }
  | _ => none }
def FtlPlaysWrongFalsely : Prop := ftlPlaysRow.holds Try.pinned (OpenSpec.ofChange ftlPlaysWrong)

/-- 'flintstorekeep.FtlWear': WHATEVER THE INPUT: true; the input reads as it did. -/
def ftlWearSpec : ChangeSpec := { name := "ftlWear", fn := fun _ => fun
  | [d] => { results := [.lit (.bool true)], args := [d] }
  | _ => none }
def ftlWearRow : OpenClaim := { program := "ytfohihdpohjmcaa", sum := "9586560190a48d6f1bba2ec10d2630dc4d1ac8fb5ae257f377be0f3372838471", func := "flintstore/flintstorekeep.FtlWear", spec := "ftlWear", unfollowed := true, recurses := true, apart := false }
def FtlWearSaid : Prop := ftlWearRow.holds Try.pinned (OpenSpec.ofChange ftlWearSpec)

/-- ITS FALSE NEIGHBOUR: 'it returns false'. Refute it at one input. -/
def ftlWearWrong : ChangeSpec := { name := "ftlWear", fn := fun _ => fun
  | [d] => { results := [.lit (.bool false)], args := [d] }
  | _ => none }
def FtlWearWrongFalsely : Prop := ftlWearRow.holds Try.pinned (OpenSpec.ofChange ftlWearWrong)

/-- 'flintstorekeep.FtlHot': WHATEVER THE INPUT: true; the input reads as it did. -/
def ftlHotSpec : ChangeSpec := { name := "ftlHot", fn := fun _ => fun
  | [d1, d2, d3] => { results := [.lit (.bool true)], args := [d1, d2, d3] }
  | _ => none }
def ftlHotRow : OpenClaim := { program := "ytfohihdpohjmcaa", sum := "9586560190a48d6f1bba2ec10d2630dc4d1ac8fb5ae257f377be0f3372838471", func := "flintstore/flintstorekeep.FtlHot", spec := "ftlHot", unfollowed := true, recurses := true, apart := false }
def FtlHotSaid : Prop := ftlHotRow.holds Try.pinned (OpenSpec.ofChange ftlHotSpec)

/-- ITS FALSE NEIGHBOUR: 'it returns false'. Refute it at one input. -/
def ftlHotWrong : ChangeSpec := { name := "ftlHot", fn := fun _ => fun
  | [d1, d2, d3] => { results := [.lit (.bool false)], args := [d1, d2, d3] }
  | _ => none }
def FtlHotWrongFalsely : Prop := ftlHotRow.holds Try.pinned (OpenSpec.ofChange ftlHotWrong)

/-- 'flintstorekeep.FtlEnough': WHATEVER THE INPUT: true; the input reads as it did. -/
def ftlEnoughSpec : ChangeSpec := { name := "ftlEnough", fn := fun _ => fun
  | [d] => { results := [.lit (.bool true)], args := [d] }
  | _ => none }
def ftlEnoughRow : OpenClaim := { program := "ytfohihdpohjmcaa", sum := "9586560190a48d6f1bba2ec10d2630dc4d1ac8fb5ae257f377be0f3372838471", func := "flintstore/flintstorekeep.FtlEnough", spec := "ftlEnough", unfollowed := true, recurses := true, apart := false }
def FtlEnoughSaid : Prop := ftlEnoughRow.holds Try.pinned (OpenSpec.ofChange ftlEnoughSpec)

/-- ITS FALSE NEIGHBOUR: 'it returns false'. Refute it at one input. -/
def ftlEnoughWrong : ChangeSpec := { name := "ftlEnough", fn := fun _ => fun
  | [d] => { results := [.lit (.bool false)], args := [d] }
  | _ => none }
def FtlEnoughWrongFalsely : Prop := ftlEnoughRow.holds Try.pinned (OpenSpec.ofChange ftlEnoughWrong)

/-- 'flintstorekeep.FtlApart': WHATEVER THE INPUT: true; the input reads as it did. -/
def ftlApartSpec : ChangeSpec := { name := "ftlApart", fn := fun _ => fun
  | [d1, d2] => { results := [.lit (.bool true)], args := [d1, d2] }
  | _ => none }
def ftlApartRow : OpenClaim := { program := "ytfohihdpohjmcaa", sum := "9586560190a48d6f1bba2ec10d2630dc4d1ac8fb5ae257f377be0f3372838471", func := "flintstore/flintstorekeep.FtlApart", spec := "ftlApart", unfollowed := true, recurses := true, apart := false }
def FtlApartSaid : Prop := ftlApartRow.holds Try.pinned (OpenSpec.ofChange ftlApartSpec)

/-- ITS FALSE NEIGHBOUR: 'it returns false'. Refute it at one input. -/
def ftlApartWrong : ChangeSpec := { name := "ftlApart", fn := fun _ => fun
  | [d1, d2] => { results := [.lit (.bool false)], args := [d1, d2] }
  | _ => none }
def FtlApartWrongFalsely : Prop := ftlApartRow.holds Try.pinned (OpenSpec.ofChange ftlApartWrong)

/-- 'flintstorekeep.FtlGone': WHATEVER THE INPUT: true; the input reads as it did. -/
def ftlGoneSpec : ChangeSpec := { name := "ftlGone", fn := fun _ => fun
  | [d1, d2, d3] => { results := [.lit (.bool true)], args := [d1, d2, d3] }
  | _ => none }
def ftlGoneRow : OpenClaim := { program := "ytfohihdpohjmcaa", sum := "9586560190a48d6f1bba2ec10d2630dc4d1ac8fb5ae257f377be0f3372838471", func := "flintstore/flintstorekeep.FtlGone", spec := "ftlGone", unfollowed := true, recurses := true, apart := false }
def FtlGoneSaid : Prop := ftlGoneRow.holds Try.pinned (OpenSpec.ofChange ftlGoneSpec)

/-- ITS FALSE NEIGHBOUR: 'it returns false'. Refute it at one input. -/
def ftlGoneWrong : ChangeSpec := { name := "ftlGone", fn := fun _ => fun
  | [d1, d2, d3] => { results := [.lit (.bool false)], args := [d1, d2, d3] }
  | _ => none }
def FtlGoneWrongFalsely : Prop := ftlGoneRow.holds Try.pinned (OpenSpec.ofChange ftlGoneWrong)

/- THE SECOND FORM. 'bulk': how many values and letters a reading holds, each counted each time it is reached (what is shared counts as often as it is met; a slice's spare places count too). A statement '..UptoSaid' is the law's where the arguments, and the package variables that the reading takes, are together of bulk at most 1048576: NARROWER than '..Said'. Prove '..Said' where nothing that the law and all that it calls make is longer than what came in: it says more and counts as full. Else prove '..UptoSaid'. A law counts once. -/
mutual
def uptoBulk {H : Type} : DataW H → Nat
  | .lit (.string bytes) => bytes.length + 1
  | .lit _ => 1
  | .nil => 1
  | .ptr d => uptoBulk d + 1
  | .slice elems spare => uptoBulkAll elems + uptoBulkAll spare + 1
  | .agg parts => uptoBulkAll parts + 1
  | .iface _ d => uptoBulk d + 1
  | .map entries => uptoBulkEntries entries + 1
  | .held _ => 1
def uptoBulkAll {H : Type} : List (DataW H) → Nat
  | [] => 0
  | d :: r => uptoBulk d + uptoBulkAll r
def uptoBulkEntries {H : Type} : List (Lit × DataW H) → Nat
  | [] => 0
  | x :: r => uptoBulkEntry x + uptoBulkEntries r
def uptoBulkEntry {H : Type} : Lit × DataW H → Nat
  | (.string bytes, d) => bytes.length + uptoBulk d + 1
  | (_, d) => uptoBulk d + 1
 end
def uptoSmall : (H : Type) → List (DataW H) → Bool := fun _ ds => decide (uptoBulkAll ds ≤ 1048576)
def OpenSpec.upto (s : _root_.Go.ChangeSpec) : _root_.Go.OpenSpec := { _root_.Go.OpenSpec.ofChange s with cond := some uptoSmall }

/-- 'flintstorelaw.FtlPlays', WHERE WHAT IT READS IS OF BULK AT MOST 1048576: true; the input reads as it did. -/
def ftlPlaysUptoRow : OpenClaim := { program := "ytfohihdpohjmcaa", sum := "9586560190a48d6f1bba2ec10d2630dc4d1ac8fb5ae257f377be0f3372838471", func := "flintstore/flintstorelaw.FtlPlays", spec := "ftlPlays", unfollowed := true, recurses := true, apart := false, narrowed := true }
def FtlPlaysUptoSaid : Prop := ftlPlaysUptoRow.holds Try.pinned (OpenSpec.upto ftlPlaysSpec)

/-- 'flintstorekeep.FtlWear', WHERE WHAT IT READS IS OF BULK AT MOST 1048576: true; the input reads as it did. -/
def ftlWearUptoRow : OpenClaim := { program := "ytfohihdpohjmcaa", sum := "9586560190a48d6f1bba2ec10d2630dc4d1ac8fb5ae257f377be0f3372838471", func := "flintstore/flintstorekeep.FtlWear", spec := "ftlWear", unfollowed := true, recurses := true, apart := false, narrowed := true }
def FtlWearUptoSaid : Prop := ftlWearUptoRow.holds Try.pinned (OpenSpec.upto ftlWearSpec)

/-- 'flintstorekeep.FtlHot', WHERE WHAT IT READS IS OF BULK AT MOST 1048576: true; the input reads as it did. -/
def ftlHotUptoRow : OpenClaim := { program := "ytfohihdpohjmcaa", sum := "9586560190a48d6f1bba2ec10d2630dc4d1ac8fb5ae257f377be0f3372838471", func := "flintstore/flintstorekeep.FtlHot", spec := "ftlHot", unfollowed := true, recurses := true, apart := false, narrowed := true }
def FtlHotUptoSaid : Prop := ftlHotUptoRow.holds Try.pinned (OpenSpec.upto ftlHotSpec)

/-- 'flintstorekeep.FtlEnough', WHERE WHAT IT READS IS OF BULK AT MOST 1048576: true; the input reads as it did. -/
def ftlEnoughUptoRow : OpenClaim := { program := "ytfohihdpohjmcaa", sum := "9586560190a48d6f1bba2ec10d2630dc4d1ac8fb5ae257f377be0f3372838471", func := "flintstore/flintstorekeep.FtlEnough", spec := "ftlEnough", unfollowed := true, recurses := true, apart := false, narrowed := true }
def FtlEnoughUptoSaid : Prop := ftlEnoughUptoRow.holds Try.pinned (OpenSpec.upto ftlEnoughSpec)

/-- 'flintstorekeep.FtlApart', WHERE WHAT IT READS IS OF BULK AT MOST 1048576: true; the input reads as it did. -/
def ftlApartUptoRow : OpenClaim := { program := "ytfohihdpohjmcaa", sum := "9586560190a48d6f1bba2ec10d2630dc4d1ac8fb5ae257f377be0f3372838471", func := "flintstore/flintstorekeep.FtlApart", spec := "ftlApart", unfollowed := true, recurses := true, apart := false, narrowed := true }
def FtlApartUptoSaid : Prop := ftlApartUptoRow.holds Try.pinned (OpenSpec.upto ftlApartSpec)

/-- 'flintstorekeep.FtlGone', WHERE WHAT IT READS IS OF BULK AT MOST 1048576: true; the input reads as it did. -/
def ftlGoneUptoRow : OpenClaim := { program := "ytfohihdpohjmcaa", sum := "9586560190a48d6f1bba2ec10d2630dc4d1ac8fb5ae257f377be0f3372838471", func := "flintstore/flintstorekeep.FtlGone", spec := "ftlGone", unfollowed := true, recurses := true, apart := false, narrowed := true }
def FtlGoneUptoSaid : Prop := ftlGoneUptoRow.holds Try.pinned (OpenSpec.upto ftlGoneSpec)

end Rows
end Go.Proofs.Ytfohihdpohjmcaa
