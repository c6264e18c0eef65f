/-
  No cell of these rows narrows 'for every input' (looked for: loops, veiled, ifaces, maps, wideKeys, modest, calm, conditions, laid).
  DERIVED. THE GIVEN ROWS OF THIS SEAT. 6 by the template 'for every input the law returns true; each argument reads behind the call as it read before'; 0 by the template 'total and deterministic' (their statements: YtaombamfglljaaaTotals.lean).
  GIVEN WITH THE SEED: the statements are not yours to turn. If you find one false, say at which input.
  Laid BY PROGRAM, IN A SANDBOX (cutbox-rows.mjs): the forced cells as the released guide's own fill.sh prints them over the translation 14244aaa2924d401… (all of the seat's roots in one cut). By AI agents, Wed Nov 11 2026. No macro, syntax, notation, axiom, sorry.
-/
import Derived.Test.YtaombamfglljaaaChecked
import GoSem.Claim
import GoSem.ClaimJoined
import GoSem.ClaimMapViews
import Derived.JoinedTies
import Derived.KernelRfl
namespace Go.Proofs.Ytaombamfglljaaa
/- THE CELL 'sum', in the pinned program and in every row, IS THE sha256 OF THE DUMP (.gsa) THAT YtaombamfglljaaaProg.lean LOADS. Nothing in Lean hashes anything: it is a label: what it is worth is what the hold of that sum in a sandbox is worth. -/
noncomputable def Try.pinned : Pinned := { name := "ytaombamfglljaaa", sum := "14244aaa2924d4019471bd5fe21e02391127a991573736c2fdbab35666f7e91c", checked := Try.checked }
namespace Rows
def none {H : Type} : Left H := { results := [], args := [] }

/-- 'flintstorelaw.CellWrites': WHATEVER THE INPUT: true; the input reads as it did. -/
def cellWritesSpec : ChangeSpec := { name := "cellWrites", fn := fun _ => fun
  | [d1, d2, d3] => { results := [.lit (.bool true)], args := [d1, d2, d3] }
  | _ => none }
def cellWritesRow : OpenClaim := { program := "ytaombamfglljaaa", sum := "14244aaa2924d4019471bd5fe21e02391127a991573736c2fdbab35666f7e91c", func := "flintstore/flintstorelaw.CellWrites", spec := "cellWrites", inPlace := ["internal/bytealg.MakeNoZero"], apart := false }
def CellWritesSaid : Prop := cellWritesRow.holds Try.pinned (OpenSpec.ofChange cellWritesSpec)

/-- ITS FALSE NEIGHBOUR: 'it returns false'. Refute it at one input. -/
def cellWritesWrong : ChangeSpec := { name := "cellWrites", fn := fun _ => fun
  | [d1, d2, d3] => { results := [.lit (.bool false)], args := [d1, d2, d3] }
  | _ => none }
def CellWritesWrongFalsely : Prop := cellWritesRow.holds Try.pinned (OpenSpec.ofChange cellWritesWrong)

/-- 'flintstorelaw.CellTears': WHATEVER THE INPUT: true; the input reads as it did. -/
def cellTearsSpec : ChangeSpec := { name := "cellTears", fn := fun _ => fun
  | [d1, d2, d3] => { results := [.lit (.bool true)], args := [d1, d2, d3] }
  | _ => none }
def cellTearsRow : OpenClaim := { program := "ytaombamfglljaaa", sum := "14244aaa2924d4019471bd5fe21e02391127a991573736c2fdbab35666f7e91c", func := "flintstore/flintstorelaw.CellTears", spec := "cellTears", apart := false }
def CellTearsSaid : Prop := cellTearsRow.holds Try.pinned (OpenSpec.ofChange cellTearsSpec)

/-- ITS FALSE NEIGHBOUR: 'it returns false'. Refute it at one input. -/
def cellTearsWrong : ChangeSpec := { name := "cellTears", fn := fun _ => fun
  | [d1, d2, d3] => { results := [.lit (.bool false)], args := [d1, d2, d3] }
  | _ => none }
def CellTearsWrongFalsely : Prop := cellTearsRow.holds Try.pinned (OpenSpec.ofChange cellTearsWrong)

/-- 'flintstorekeep.CellDown': WHATEVER THE INPUT: true; the input reads as it did. -/
def cellDownSpec : ChangeSpec := { name := "cellDown", fn := fun _ => fun
  | [d1, d2, d3] => { results := [.lit (.bool true)], args := [d1, d2, d3] }
  | _ => none }
def cellDownRow : OpenClaim := { program := "ytaombamfglljaaa", sum := "14244aaa2924d4019471bd5fe21e02391127a991573736c2fdbab35666f7e91c", func := "flintstore/flintstorekeep.CellDown", spec := "cellDown", inPlace := ["internal/bytealg.MakeNoZero"], apart := false }
def CellDownSaid : Prop := cellDownRow.holds Try.pinned (OpenSpec.ofChange cellDownSpec)

/-- ITS FALSE NEIGHBOUR: 'it returns false'. Refute it at one input. -/
def cellDownWrong : ChangeSpec := { name := "cellDown", fn := fun _ => fun
  | [d1, d2, d3] => { results := [.lit (.bool false)], args := [d1, d2, d3] }
  | _ => none }
def CellDownWrongFalsely : Prop := cellDownRow.holds Try.pinned (OpenSpec.ofChange cellDownWrong)

/-- 'flintstorekeep.CellForce': WHATEVER THE INPUT: true; the input reads as it did. -/
def cellForceSpec : ChangeSpec := { name := "cellForce", fn := fun _ => fun
  | [d1, d2, d3] => { results := [.lit (.bool true)], args := [d1, d2, d3] }
  | _ => none }
def cellForceRow : OpenClaim := { program := "ytaombamfglljaaa", sum := "14244aaa2924d4019471bd5fe21e02391127a991573736c2fdbab35666f7e91c", func := "flintstore/flintstorekeep.CellForce", spec := "cellForce", inPlace := ["internal/bytealg.MakeNoZero"], apart := false }
def CellForceSaid : Prop := cellForceRow.holds Try.pinned (OpenSpec.ofChange cellForceSpec)

/-- ITS FALSE NEIGHBOUR: 'it returns false'. Refute it at one input. -/
def cellForceWrong : ChangeSpec := { name := "cellForce", fn := fun _ => fun
  | [d1, d2, d3] => { results := [.lit (.bool false)], args := [d1, d2, d3] }
  | _ => none }
def CellForceWrongFalsely : Prop := cellForceRow.holds Try.pinned (OpenSpec.ofChange cellForceWrong)

/-- 'flintstorekeep.CellTorn': WHATEVER THE INPUT: true; the input reads as it did. -/
def cellTornSpec : ChangeSpec := { name := "cellTorn", fn := fun _ => fun
  | [d1, d2, d3] => { results := [.lit (.bool true)], args := [d1, d2, d3] }
  | _ => none }
def cellTornRow : OpenClaim := { program := "ytaombamfglljaaa", sum := "14244aaa2924d4019471bd5fe21e02391127a991573736c2fdbab35666f7e91c", func := "flintstore/flintstorekeep.CellTorn", spec := "cellTorn", inPlace := ["internal/bytealg.MakeNoZero"], apart := false }
def CellTornSaid : Prop := cellTornRow.holds Try.pinned (OpenSpec.ofChange cellTornSpec)

/-- ITS FALSE NEIGHBOUR: 'it returns false'. Refute it at one input. -/
def cellTornWrong : ChangeSpec := { name := "cellTorn", fn := fun _ => fun
  | [d1, d2, d3] => { results := [.lit (.bool false)], args := [d1, d2, d3] }
  | _ => none }
def CellTornWrongFalsely : Prop := cellTornRow.holds Try.pinned (OpenSpec.ofChange cellTornWrong)

/-- 'flintstorekeep.CellFold': WHATEVER THE INPUT: true; the input reads as it did. -/
def cellFoldSpec : ChangeSpec := { name := "cellFold", fn := fun _ => fun
  | [d1, d2] => { results := [.lit (.bool true)], args := [d1, d2] }
  | _ => none }
def cellFoldRow : OpenClaim := { program := "ytaombamfglljaaa", sum := "14244aaa2924d4019471bd5fe21e02391127a991573736c2fdbab35666f7e91c", func := "flintstore/flintstorekeep.CellFold", spec := "cellFold", inPlace := ["internal/bytealg.MakeNoZero"], apart := false }
def CellFoldSaid : Prop := cellFoldRow.holds Try.pinned (OpenSpec.ofChange cellFoldSpec)

/-- ITS FALSE NEIGHBOUR: 'it returns false'. Refute it at one input. -/
def cellFoldWrong : ChangeSpec := { name := "cellFold", fn := fun _ => fun
  | [d1, d2] => { results := [.lit (.bool false)], args := [d1, d2] }
  | _ => none }
def CellFoldWrongFalsely : Prop := cellFoldRow.holds Try.pinned (OpenSpec.ofChange cellFoldWrong)

/- THE SECOND FORM. 'bulk': how many values and letters a reading holds, each counted each time it is reached (what is shared counts as often as it is met; a slice's spare places count too). A statement '..UptoSaid' is the law's where the arguments, and the package variables that the reading takes, are together of bulk at most 1048576: NARROWER than '..Said'. Prove '..Said' where nothing that the law and all that it calls make is longer than what came in: it says more and counts as full. Else prove '..UptoSaid'. A law counts once. -/
mutual
def uptoBulk {H : Type} : DataW H → Nat
  | .lit (.string bytes) => bytes.length + 1
  | .lit _ => 1
  | .nil => 1
  | .ptr d => uptoBulk d + 1
  | .slice elems spare => uptoBulkAll elems + uptoBulkAll spare + 1
  | .agg parts => uptoBulkAll parts + 1
  | .iface _ d => uptoBulk d + 1
  | .map entries => uptoBulkEntries entries + 1
  | .held _ => 1
def uptoBulkAll {H : Type} : List (DataW H) → Nat
  | [] => 0
  | d :: r => uptoBulk d + uptoBulkAll r
def uptoBulkEntries {H : Type} : List (Lit × DataW H) → Nat
  | [] => 0
  | x :: r => uptoBulkEntry x + uptoBulkEntries r
def uptoBulkEntry {H : Type} : Lit × DataW H → Nat
  | (.string bytes, d) => bytes.length + uptoBulk d + 1
  | (_, d) => uptoBulk d + 1
 end
def uptoSmall : (H : Type) → List (DataW H) → Bool := fun _ ds => decide (uptoBulkAll ds ≤ 1048576)
def OpenSpec.upto (s : _root_.Go.ChangeSpec) : _root_.Go.OpenSpec := { _root_.Go.OpenSpec.ofChange s with cond := some uptoSmall }

/-- 'flintstorelaw.CellWrites', WHERE WHAT IT READS IS OF BULK AT MOST 1048576: true; the input reads as it did. -/
def cellWritesUptoRow : OpenClaim := { program := "ytaombamfglljaaa", sum := "14244aaa2924d4019471bd5fe21e02391127a991573736c2fdbab35666f7e91c", func := "flintstore/flintstorelaw.CellWrites", spec := "cellWrites", inPlace := ["internal/bytealg.MakeNoZero"], apart := false, narrowed := true }
def CellWritesUptoSaid : Prop := cellWritesUptoRow.holds Try.pinned (OpenSpec.upto cellWritesSpec)

/-- 'flintstorelaw.CellTears', WHERE WHAT IT READS IS OF BULK AT MOST 1048576: true; the input reads as it did. -/
def cellTearsUptoRow : OpenClaim := { program := "ytaombamfglljaaa", sum := "14244aaa2924d4019471bd5fe21e02391127a991573736c2fdbab35666f7e91c", func := "flintstore/flintstorelaw.CellTears", spec := "cellTears", apart := false, narrowed := true }
def CellTearsUptoSaid : Prop := cellTearsUptoRow.holds Try.pinned (OpenSpec.upto cellTearsSpec)

/-- 'flintstorekeep.CellDown', WHERE WHAT IT READS IS OF BULK AT MOST 1048576: true; the input reads as it did. -/
def cellDownUptoRow : OpenClaim := { program := "ytaombamfglljaaa", sum := "14244aaa2924d4019471bd5fe21e02391127a991573736c2fdbab35666f7e91c", func := "flintstore/flintstorekeep.CellDown", spec := "cellDown", inPlace := ["internal/bytealg.MakeNoZero"], apart := false, narrowed := true }
def CellDownUptoSaid : Prop := cellDownUptoRow.holds Try.pinned (OpenSpec.upto cellDownSpec)

/-- 'flintstorekeep.CellForce', WHERE WHAT IT READS IS OF BULK AT MOST 1048576: true; the input reads as it did. -/
def cellForceUptoRow : OpenClaim := { program := "ytaombamfglljaaa", sum := "14244aaa2924d4019471bd5fe21e02391127a991573736c2fdbab35666f7e91c", func := "flintstore/flintstorekeep.CellForce", spec := "cellForce", inPlace := ["internal/bytealg.MakeNoZero"], apart := false, narrowed := true }
def CellForceUptoSaid : Prop := cellForceUptoRow.holds Try.pinned (OpenSpec.upto cellForceSpec)

/-- 'flintstorekeep.CellTorn', WHERE WHAT IT READS IS OF BULK AT MOST 1048576: true; the input reads as it did. -/
def cellTornUptoRow : OpenClaim := { program := "ytaombamfglljaaa", sum := "14244aaa2924d4019471bd5fe21e02391127a991573736c2fdbab35666f7e91c", func := "flintstore/flintstorekeep.CellTorn", spec := "cellTorn", inPlace := ["internal/bytealg.MakeNoZero"], apart := false, narrowed := true }
def CellTornUptoSaid : Prop := cellTornUptoRow.holds Try.pinned (OpenSpec.upto cellTornSpec)

/-- 'flintstorekeep.CellFold', WHERE WHAT IT READS IS OF BULK AT MOST 1048576: true; the input reads as it did. -/
def cellFoldUptoRow : OpenClaim := { program := "ytaombamfglljaaa", sum := "14244aaa2924d4019471bd5fe21e02391127a991573736c2fdbab35666f7e91c", func := "flintstore/flintstorekeep.CellFold", spec := "cellFold", inPlace := ["internal/bytealg.MakeNoZero"], apart := false, narrowed := true }
def CellFoldUptoSaid : Prop := cellFoldUptoRow.holds Try.pinned (OpenSpec.upto cellFoldSpec)

end Rows
end Go.Proofs.Ytaombamfglljaaa
