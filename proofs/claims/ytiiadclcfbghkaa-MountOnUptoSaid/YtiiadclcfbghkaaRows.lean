/-
  No cell of these rows narrows 'for every input' (looked for: loops, veiled, ifaces, maps, wideKeys, modest, calm, conditions, laid).
  DERIVED. THE GIVEN ROWS OF THIS SEAT. 4 by the template 'for every input the law returns true; each argument reads behind the call as it read before'; 0 by the template 'total and deterministic' (their statements: YtiiadclcfbghkaaTotals.lean).
  GIVEN WITH THE SEED: the statements are not yours to turn. If you find one false, say at which input.
  Laid BY PROGRAM, IN A SANDBOX (cutbox-rows.mjs): the forced cells as the released guide's own fill.sh prints them over the translation c43b1d0a93fb9895… (all of the seat's roots in one cut). By AI agents, Wed Nov 11 2026. No macro, syntax, notation, axiom, sorry.
-/
import Derived.Test.YtiiadclcfbghkaaChecked
import GoSem.Claim
import GoSem.ClaimJoined
import GoSem.ClaimMapViews
import Derived.JoinedTies
import Derived.KernelRfl
namespace Go.Proofs.Ytiiadclcfbghkaa
/- THE CELL 'sum', in the pinned program and in every row, IS THE sha256 OF THE DUMP (.gsa) THAT YtiiadclcfbghkaaProg.lean LOADS. Nothing in Lean hashes anything: it is a label: what it is worth is what the hold of that sum in a sandbox is worth. -/
noncomputable def Try.pinned : Pinned := { name := "ytiiadclcfbghkaa", sum := "c43b1d0a93fb9895b481509d3ba82eab79ed119d061ff901d196b85a0aeb2d36", checked := Try.checked }
namespace Rows
def none {H : Type} : Left H := { results := [], args := [] }

/-- 'flintstorelaw.MountTells': WHATEVER THE INPUT: true; the input reads as it did. -/
def mountTellsSpec : ChangeSpec := { name := "mountTells", fn := fun _ => fun
  | [d1, d2, d3] => { results := [.lit (.bool true)], args := [d1, d2, d3] }
  | _ => none }
def mountTellsRow : OpenClaim := { program := "ytiiadclcfbghkaa", sum := "c43b1d0a93fb9895b481509d3ba82eab79ed119d061ff901d196b85a0aeb2d36", func := "flintstore/flintstorelaw.MountTells", spec := "mountTells", apart := false }
def MountTellsSaid : Prop := mountTellsRow.holds Try.pinned (OpenSpec.ofChange mountTellsSpec)

/-- ITS FALSE NEIGHBOUR: 'it returns false'. Refute it at one input. -/
def mountTellsWrong : ChangeSpec := { name := "mountTells", fn := fun _ => fun
  | [d1, d2, d3] => { results := [.lit (.bool false)], args := [d1, d2, d3] }
  | _ => none }
def MountTellsWrongFalsely : Prop := mountTellsRow.holds Try.pinned (OpenSpec.ofChange mountTellsWrong)

/-- 'flintstorekeep.MountOrder': WHATEVER THE INPUT: true; the input reads as it did. -/
def mountOrderSpec : ChangeSpec := { name := "mountOrder", fn := fun _ => fun
  | [d1, d2, d3] => { results := [.lit (.bool true)], args := [d1, d2, d3] }
  | _ => none }
def mountOrderRow : OpenClaim := { program := "ytiiadclcfbghkaa", sum := "c43b1d0a93fb9895b481509d3ba82eab79ed119d061ff901d196b85a0aeb2d36", func := "flintstore/flintstorekeep.MountOrder", spec := "mountOrder", inPlace := ["slices.overlaps[flintstore/api.Page]"], apart := false }
def MountOrderSaid : Prop := mountOrderRow.holds Try.pinned (OpenSpec.ofChange mountOrderSpec)

/-- ITS FALSE NEIGHBOUR: 'it returns false'. Refute it at one input. -/
def mountOrderWrong : ChangeSpec := { name := "mountOrder", fn := fun _ => fun
  | [d1, d2, d3] => { results := [.lit (.bool false)], args := [d1, d2, d3] }
  | _ => none }
def MountOrderWrongFalsely : Prop := mountOrderRow.holds Try.pinned (OpenSpec.ofChange mountOrderWrong)

/-- 'flintstorekeep.MountPrefix': WHATEVER THE INPUT: true; the input reads as it did. -/
def mountPrefixSpec : ChangeSpec := { name := "mountPrefix", fn := fun _ => fun
  | [d1, d2] => { results := [.lit (.bool true)], args := [d1, d2] }
  | _ => none }
def mountPrefixRow : OpenClaim := { program := "ytiiadclcfbghkaa", sum := "c43b1d0a93fb9895b481509d3ba82eab79ed119d061ff901d196b85a0aeb2d36", func := "flintstore/flintstorekeep.MountPrefix", spec := "mountPrefix", apart := false }
def MountPrefixSaid : Prop := mountPrefixRow.holds Try.pinned (OpenSpec.ofChange mountPrefixSpec)

/-- ITS FALSE NEIGHBOUR: 'it returns false'. Refute it at one input. -/
def mountPrefixWrong : ChangeSpec := { name := "mountPrefix", fn := fun _ => fun
  | [d1, d2] => { results := [.lit (.bool false)], args := [d1, d2] }
  | _ => none }
def MountPrefixWrongFalsely : Prop := mountPrefixRow.holds Try.pinned (OpenSpec.ofChange mountPrefixWrong)

/-- 'flintstorekeep.MountOn': WHATEVER THE INPUT: true; the input reads as it did. -/
def mountOnSpec : ChangeSpec := { name := "mountOn", fn := fun _ => fun
  | [d1, d2] => { results := [.lit (.bool true)], args := [d1, d2] }
  | _ => none }
def mountOnRow : OpenClaim := { program := "ytiiadclcfbghkaa", sum := "c43b1d0a93fb9895b481509d3ba82eab79ed119d061ff901d196b85a0aeb2d36", func := "flintstore/flintstorekeep.MountOn", spec := "mountOn", apart := false }
def MountOnSaid : Prop := mountOnRow.holds Try.pinned (OpenSpec.ofChange mountOnSpec)

/-- ITS FALSE NEIGHBOUR: 'it returns false'. Refute it at one input. -/
def mountOnWrong : ChangeSpec := { name := "mountOn", fn := fun _ => fun
  | [d1, d2] => { results := [.lit (.bool false)], args := [d1, d2] }
  | _ => none }
def MountOnWrongFalsely : Prop := mountOnRow.holds Try.pinned (OpenSpec.ofChange mountOnWrong)

/- THE SECOND FORM. 'bulk': how many values and letters a reading holds, each counted each time it is reached (what is shared counts as often as it is met; a slice's spare places count too). A statement '..UptoSaid' is the law's where the arguments, and the package variables that the reading takes, are together of bulk at most 1048576: NARROWER than '..Said'. Prove '..Said' where nothing that the law and all that it calls make is longer than what came in: it says more and counts as full. Else prove '..UptoSaid'. A law counts once. -/
mutual
def uptoBulk {H : Type} : DataW H → Nat
  | .lit (.string bytes) => bytes.length + 1
  | .lit _ => 1
  | .nil => 1
  | .ptr d => uptoBulk d + 1
  | .slice elems spare => uptoBulkAll elems + uptoBulkAll spare + 1
  | .agg parts => uptoBulkAll parts + 1
  | .iface _ d => uptoBulk d + 1
  | .map entries => uptoBulkEntries entries + 1
  | .held _ => 1
def uptoBulkAll {H : Type} : List (DataW H) → Nat
  | [] => 0
  | d :: r => uptoBulk d + uptoBulkAll r
def uptoBulkEntries {H : Type} : List (Lit × DataW H) → Nat
  | [] => 0
  | x :: r => uptoBulkEntry x + uptoBulkEntries r
def uptoBulkEntry {H : Type} : Lit × DataW H → Nat
  | (.string bytes, d) => bytes.length + uptoBulk d + 1
  | (_, d) => uptoBulk d + 1
 end
def uptoSmall : (H : Type) → List (DataW H) → Bool := fun _ ds => decide (uptoBulkAll ds ≤ 1048576)
def OpenSpec.upto (s : _root_.Go.ChangeSpec) : _root_.Go.OpenSpec := { _root_.Go.OpenSpec.ofChange s with cond := some uptoSmall }

/-- 'flintstorelaw.MountTells', WHERE WHAT IT READS IS OF BULK AT MOST 1048576: true; the input reads as it did. -/
def mountTellsUptoRow : OpenClaim := { program := "ytiiadclcfbghkaa", sum := "c43b1d0a93fb9895b481509d3ba82eab79ed119d061ff901d196b85a0aeb2d36", func := "flintstore/flintstorelaw.MountTells", spec := "mountTells", apart := false, narrowed := true }
def MountTellsUptoSaid : Prop := mountTellsUptoRow.holds Try.pinned (OpenSpec.upto mountTellsSpec)

/-- 'flintstorekeep.MountOrder', WHERE WHAT IT READS IS OF BULK AT MOST 1048576: true; the input reads as it did. -/
def mountOrderUptoRow : OpenClaim := { program := "ytiiadclcfbghkaa", sum := "c43b1d0a93fb9895b481509d3ba82eab79ed119d061ff901d196b85a0aeb2d36", func := "flintstore/flintstorekeep.MountOrder", spec := "mountOrder", inPlace := ["slices.overlaps[flintstore/api.Page]"], apart := false, narrowed := true }
def MountOrderUptoSaid : Prop := mountOrderUptoRow.holds Try.pinned (OpenSpec.upto mountOrderSpec)

/-- 'flintstorekeep.MountPrefix', WHERE WHAT IT READS IS OF BULK AT MOST 1048576: true; the input reads as it did. -/
def mountPrefixUptoRow : OpenClaim := { program := "ytiiadclcfbghkaa", sum := "c43b1d0a93fb9895b481509d3ba82eab79ed119d061ff901d196b85a0aeb2d36", func := "flintstore/flintstorekeep.MountPrefix", spec := "mountPrefix", apart := false, narrowed := true }
def MountPrefixUptoSaid : Prop := mountPrefixUptoRow.holds Try.pinned (OpenSpec.upto mountPrefixSpec)

/-- 'flintstorekeep.MountOn', WHERE WHAT IT READS IS OF BULK AT MOST 1048576: true; the input reads as it did. -/
def mountOnUptoRow : OpenClaim := { program := "ytiiadclcfbghkaa", sum := "c43b1d0a93fb9895b481509d3ba82eab79ed119d061ff901d196b85a0aeb2d36", func := "flintstore/flintstorekeep.MountOn", spec := "mountOn", apart := false, narrowed := true }
def MountOnUptoSaid : Prop := mountOnUptoRow.holds Try.pinned (OpenSpec.upto mountOnSpec)

end Rows
end Go.Proofs.Ytiiadclcfbghkaa
