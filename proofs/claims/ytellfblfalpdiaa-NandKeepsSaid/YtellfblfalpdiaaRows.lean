/-
  No cell of these rows narrows 'for every input' (looked for: loops, veiled, ifaces, maps, wideKeys, modest, calm, conditions, laid).
  DERIVED. THE GIVEN ROWS OF THIS SEAT. 6 by the template 'for every input the law returns true; each argument reads behind the call as it read before'; 0 by the template 'total and deterministic' (their statements: YtellfblfalpdiaaTotals.lean).
  GIVEN WITH THE SEED: the statements are not yours to turn. If you find one false, say at which input.
  Laid BY PROGRAM, IN A SANDBOX (cutbox-rows.mjs): the forced cells as the released guide's own fill.sh prints them over the translation 942401801277d662… (all of the seat's roots in one cut). By AI agents, Wed Nov 11 2026. No macro, syntax, notation, axiom, sorry.
-/
import Derived.Test.YtellfblfalpdiaaChecked
import GoSem.Claim
import GoSem.ClaimJoined
import GoSem.ClaimMapViews
import Derived.JoinedTies
import Derived.KernelRfl
namespace Go.Proofs.Ytellfblfalpdiaa
/- THE CELL 'sum', in the pinned program and in every row, IS THE sha256 OF THE DUMP (.gsa) THAT YtellfblfalpdiaaProg.lean LOADS. Nothing in Lean hashes anything: it is a label: what it is worth is what the hold of that sum in a sandbox is worth. -/
noncomputable def Try.pinned : Pinned := { name := "ytellfblfalpdiaa", sum := "942401801277d662d2798b5898a959da647d3d21d6060f0989149a45f592c232", checked := Try.checked }
namespace Rows
def none {H : Type} : Left H := { results := [], args := [] }

/-- 'flintstorelaw.NandSteps': WHATEVER THE INPUT: true; the input reads as it did. -/
def nandStepsSpec : ChangeSpec := { name := "nandSteps", fn := fun _ => fun
  | [d1, d2] => { results := [.lit (.bool true)], args := [d1, d2] }
  | _ => none }
def nandStepsRow : OpenClaim := { program := "ytellfblfalpdiaa", sum := "942401801277d662d2798b5898a959da647d3d21d6060f0989149a45f592c232", func := "flintstore/flintstorelaw.NandSteps", spec := "nandSteps", unfollowed := true, recurses := true, apart := false }
def NandStepsSaid : Prop := nandStepsRow.holds Try.pinned (OpenSpec.ofChange nandStepsSpec)

/-- ITS FALSE NEIGHBOUR: 'it returns false'. Refute it at one input. -/
def nandStepsWrong : ChangeSpec := { name := "nandSteps", fn := fun _ => fun
  | [d1, d2] => { results := [.lit (.bool false)], args := [d1, d2] }
  | _ => none }
def NandStepsWrongFalsely : Prop := nandStepsRow.holds Try.pinned (OpenSpec.ofChange nandStepsWrong)

/-- 'flintstorelaw.NandPlays': WHATEVER THE INPUT: true; the input reads as it did. -/
def nandPlaysSpec : ChangeSpec := { name := "nandPlays", fn := fun _ => fun
  | [d] => { results := [.lit (.bool true)], args := [d] }
  | _ => none }
def nandPlaysRow : OpenClaim := { program := "ytellfblfalpdiaa", sum := "942401801277d662d2798b5898a959da647d3d21d6060f0989149a45f592c232", func := "flintstore/flintstorelaw.NandPlays", spec := "nandPlays", unfollowed := true, recurses := true, apart := false }
def NandPlaysSaid : Prop := nandPlaysRow.holds Try.pinned (OpenSpec.ofChange nandPlaysSpec)

/-- ITS FALSE NEIGHBOUR: 'it returns false'. Refute it at one input. -/
def nandPlaysWrong : ChangeSpec := { name := "nandPlays", fn := fun _ => fun
  | [d] => { results := [.lit (.bool false)], args := [d] }
  | _ => none }
def NandPlaysWrongFalsely : Prop := nandPlaysRow.holds Try.pinned (OpenSpec.ofChange nandPlaysWrong)

/-- 'flintstorekeep.NandKeeps': WHATEVER THE INPUT: true; the input reads as it did. -/
def nandKeepsSpec : ChangeSpec := { name := "nandKeeps", fn := fun _ => fun
  | [d1, d2] => { results := [.lit (.bool true)], args := [d1, d2] }
  | _ => none }
def nandKeepsRow : OpenClaim := { program := "ytellfblfalpdiaa", sum := "942401801277d662d2798b5898a959da647d3d21d6060f0989149a45f592c232", func := "flintstore/flintstorekeep.NandKeeps", spec := "nandKeeps", unfollowed := true, recurses := true, apart := false }
def NandKeepsSaid : Prop := nandKeepsRow.holds Try.pinned (OpenSpec.ofChange nandKeepsSpec)

/-- ITS FALSE NEIGHBOUR: 'it returns false'. Refute it at one input. -/
def nandKeepsWrong : ChangeSpec := { name := "nandKeeps", fn := fun _ => fun
  | [d1, d2] => { results := [.lit (.bool false)], args := [d1, d2] }
  | _ => none }
def NandKeepsWrongFalsely : Prop := nandKeepsRow.holds Try.pinned (OpenSpec.ofChange nandKeepsWrong)

/-- 'flintstorekeep.NandBack': WHATEVER THE INPUT: true; the input reads as it did. -/
def nandBackSpec : ChangeSpec := { name := "nandBack", fn := fun _ => fun
  | [d1, d2, d3] => { results := [.lit (.bool true)], args := [d1, d2, d3] }
  | _ => none }
def nandBackRow : OpenClaim := { program := "ytellfblfalpdiaa", sum := "942401801277d662d2798b5898a959da647d3d21d6060f0989149a45f592c232", func := "flintstore/flintstorekeep.NandBack", spec := "nandBack", unfollowed := true, recurses := true, apart := false }
def NandBackSaid : Prop := nandBackRow.holds Try.pinned (OpenSpec.ofChange nandBackSpec)

/-- ITS FALSE NEIGHBOUR: 'it returns false'. Refute it at one input. -/
def nandBackWrong : ChangeSpec := { name := "nandBack", fn := fun _ => fun
  | [d1, d2, d3] => { results := [.lit (.bool false)], args := [d1, d2, d3] }
  | _ => none }
def NandBackWrongFalsely : Prop := nandBackRow.holds Try.pinned (OpenSpec.ofChange nandBackWrong)

/-- 'flintstorekeep.NandCount': WHATEVER THE INPUT: true; the input reads as it did. -/
def nandCountSpec : ChangeSpec := { name := "nandCount", fn := fun _ => fun
  | [d] => { results := [.lit (.bool true)], args := [d] }
  | _ => none }
def nandCountRow : OpenClaim := { program := "ytellfblfalpdiaa", sum := "942401801277d662d2798b5898a959da647d3d21d6060f0989149a45f592c232", func := "flintstore/flintstorekeep.NandCount", spec := "nandCount", unfollowed := true, recurses := true, apart := false }
def NandCountSaid : Prop := nandCountRow.holds Try.pinned (OpenSpec.ofChange nandCountSpec)

/-- ITS FALSE NEIGHBOUR: 'it returns false'. Refute it at one input. -/
def nandCountWrong : ChangeSpec := { name := "nandCount", fn := fun _ => fun
  | [d] => { results := [.lit (.bool false)], args := [d] }
  | _ => none }
def NandCountWrongFalsely : Prop := nandCountRow.holds Try.pinned (OpenSpec.ofChange nandCountWrong)

/-- 'flintstorekeep.NandAgain': WHATEVER THE INPUT: true; the input reads as it did. -/
def nandAgainSpec : ChangeSpec := { name := "nandAgain", fn := fun _ => fun
  | [d1, d2, d3] => { results := [.lit (.bool true)], args := [d1, d2, d3] }
  | _ => none }
def nandAgainRow : OpenClaim := { program := "ytellfblfalpdiaa", sum := "942401801277d662d2798b5898a959da647d3d21d6060f0989149a45f592c232", func := "flintstore/flintstorekeep.NandAgain", spec := "nandAgain", unfollowed := true, recurses := true, apart := false }
def NandAgainSaid : Prop := nandAgainRow.holds Try.pinned (OpenSpec.ofChange nandAgainSpec)

/-- ITS FALSE NEIGHBOUR: 'it returns false'. Refute it at one input. -/
def nandAgainWrong : ChangeSpec := { name := "nandAgain", fn := fun _ => fun
  | [d1, d2, d3] => { results := [.lit (.bool false)], args := [d1, d2, d3] }
  | _ => none }
def NandAgainWrongFalsely : Prop := nandAgainRow.holds Try.pinned (OpenSpec.ofChange nandAgainWrong)

/- THE SECOND FORM. 'bulk': how many values and letters a reading holds, each counted each time it is reached (what is shared counts as often as it is met; a slice's spare places count too). A statement '..UptoSaid' is the law's where the arguments, and the package variables that the reading takes, are together of bulk at most 1048576: NARROWER than '..Said'. Prove '..Said' where nothing that the law and all that it calls make is longer than what came in: it says more and counts as full. Else prove '..UptoSaid'. A law counts once. -/
mutual
def uptoBulk {H : Type} : DataW H → Nat
  | .lit (.string bytes) => bytes.length + 1
  | .lit _ => 1
  | .nil => 1
  | .ptr d => uptoBulk d + 1
  | .slice elems spare => uptoBulkAll elems + uptoBulkAll spare + 1
  | .agg parts => uptoBulkAll parts + 1
  | .iface _ d => uptoBulk d + 1
  | .map entries => uptoBulkEntries entries + 1
  | .held _ => 1
def uptoBulkAll {H : Type} : List (DataW H) → Nat
  | [] => 0
  | d :: r => uptoBulk d + uptoBulkAll r
def uptoBulkEntries {H : Type} : List (Lit × DataW H) → Nat
  | [] => 0
  | x :: r => uptoBulkEntry x + uptoBulkEntries r
def uptoBulkEntry {H : Type} : Lit × DataW H → Nat
  | (.string bytes, d) => bytes.length + uptoBulk d + 1
  | (_, d) => uptoBulk d + 1
 end
def uptoSmall : (H : Type) → List (DataW H) → Bool := fun _ ds => decide (uptoBulkAll ds ≤ 1048576)
def OpenSpec.upto (s : _root_.Go.ChangeSpec) : _root_.Go.OpenSpec := { _root_.Go.OpenSpec.ofChange s with cond := some uptoSmall }

/-- 'flintstorelaw.NandSteps', WHERE WHAT IT READS IS OF BULK AT MOST 1048576: true; the input reads as it did. -/
def nandStepsUptoRow : OpenClaim := { program := "ytellfblfalpdiaa", sum := "942401801277d662d2798b5898a959da647d3d21d6060f0989149a45f592c232", func := "flintstore/flintstorelaw.NandSteps", spec := "nandSteps", unfollowed := true, recurses := true, apart := false, narrowed := true }
def NandStepsUptoSaid : Prop := nandStepsUptoRow.holds Try.pinned (OpenSpec.upto nandStepsSpec)

/-- 'flintstorelaw.NandPlays', WHERE WHAT IT READS IS OF BULK AT MOST 1048576: true; the input reads as it did. -/
def nandPlaysUptoRow : OpenClaim := { program := "ytellfblfalpdiaa", sum := "942401801277d662d2798b5898a959da647d3d21d6060f0989149a45f592c232", func := "flintstore/flintstorelaw.NandPlays", spec := "nandPlays", unfollowed := true, recurses := true, apart := false, narrowed := true }
def NandPlaysUptoSaid : Prop := nandPlaysUptoRow.holds Try.pinned (OpenSpec.upto nandPlaysSpec)

/-- 'flintstorekeep.NandKeeps', WHERE WHAT IT READS IS OF BULK AT MOST 1048576: true; the input reads as it did. -/
def nandKeepsUptoRow : OpenClaim := { program := "ytellfblfalpdiaa", sum := "942401801277d662d2798b5898a959da647d3d21d6060f0989149a45f592c232", func := "flintstore/flintstorekeep.NandKeeps", spec := "nandKeeps", unfollowed := true, recurses := true, apart := false, narrowed := true }
def NandKeepsUptoSaid : Prop := nandKeepsUptoRow.holds Try.pinned (OpenSpec.upto nandKeepsSpec)

/-- 'flintstorekeep.NandBack', WHERE WHAT IT READS IS OF BULK AT MOST 1048576: true; the input reads as it did. -/
def nandBackUptoRow : OpenClaim := { program := "ytellfblfalpdiaa", sum := "942401801277d662d2798b5898a959da647d3d21d6060f0989149a45f592c232", func := "flintstore/flintstorekeep.NandBack", spec := "nandBack", unfollowed := true, recurses := true, apart := false, narrowed := true }
def NandBackUptoSaid : Prop := nandBackUptoRow.holds Try.pinned (OpenSpec.upto nandBackSpec)

/-- 'flintstorekeep.NandCount', WHERE WHAT IT READS IS OF BULK AT MOST 1048576: true; the input reads as it did. -/
def nandCountUptoRow : OpenClaim := { program := "ytellfblfalpdiaa", sum := "942401801277d662d2798b5898a959da647d3d21d6060f0989149a45f592c232", func := "flintstore/flintstorekeep.NandCount", spec := "nandCount", unfollowed := true, recurses := true, apart := false, narrowed := true }
def NandCountUptoSaid : Prop := nandCountUptoRow.holds Try.pinned (OpenSpec.upto nandCountSpec)

/-- 'flintstorekeep.NandAgain', WHERE WHAT IT READS IS OF BULK AT MOST 1048576: true; the input reads as it did. -/
def nandAgainUptoRow : OpenClaim := { program := "ytellfblfalpdiaa", sum := "942401801277d662d2798b5898a959da647d3d21d6060f0989149a45f592c232", func := "flintstore/flintstorekeep.NandAgain", spec := "nandAgain", unfollowed := true, recurses := true, apart := false, narrowed := true }
def NandAgainUptoSaid : Prop := nandAgainUptoRow.holds Try.pinned (OpenSpec.upto nandAgainSpec)

end Rows
end Go.Proofs.Ytellfblfalpdiaa
