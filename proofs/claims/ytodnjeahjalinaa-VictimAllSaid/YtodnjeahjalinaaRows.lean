/-
  No cell of these rows narrows 'for every input' (looked for: loops, veiled, ifaces, maps, wideKeys, modest, calm, conditions, laid).
  DERIVED. THE GIVEN ROWS OF THIS SEAT. 6 by the template 'for every input the law returns true; each argument reads behind the call as it read before'; 0 by the template 'total and deterministic' (their statements: YtodnjeahjalinaaTotals.lean).
  GIVEN WITH THE SEED: the statements are not yours to turn. If you find one false, say at which input.
  Laid BY PROGRAM, IN A SANDBOX (cutbox-rows.mjs): the forced cells as the released guide's own fill.sh prints them over the translation f49939e5ffe47dfc… (all of the seat's roots in one cut). By AI agents, Wed Nov 11 2026. No macro, syntax, notation, axiom, sorry.
-/
import Derived.Test.YtodnjeahjalinaaChecked
import GoSem.Claim
import GoSem.ClaimJoined
import GoSem.ClaimMapViews
import Derived.JoinedTies
import Derived.KernelRfl
namespace Go.Proofs.Ytodnjeahjalinaa
/- THE CELL 'sum', in the pinned program and in every row, IS THE sha256 OF THE DUMP (.gsa) THAT YtodnjeahjalinaaProg.lean LOADS. Nothing in Lean hashes anything: it is a label: what it is worth is what the hold of that sum in a sandbox is worth. -/
noncomputable def Try.pinned : Pinned := { name := "ytodnjeahjalinaa", sum := "f49939e5ffe47dfc3019ccf54cefbd68f86793666789b4cdf3fc1df40a1ac6fc", checked := Try.checked }
namespace Rows
def none {H : Type} : Left H := { results := [], args := [] }

/-- 'flintstorelaw.VictimTells': WHATEVER THE INPUT: true; the input reads as it did. -/
def victimTellsSpec : ChangeSpec := { name := "victimTells", fn := fun _ => fun
  | [d1, d2] => { results := [.lit (.bool true)], args := [d1, d2] }
  | _ => none }
def victimTellsRow : OpenClaim := { program := "ytodnjeahjalinaa", sum := "f49939e5ffe47dfc3019ccf54cefbd68f86793666789b4cdf3fc1df40a1ac6fc", func := "flintstore/flintstorelaw.VictimTells", spec := "victimTells", unfollowed := true, recurses := true, apart := false }
def VictimTellsSaid : Prop := victimTellsRow.holds Try.pinned (OpenSpec.ofChange victimTellsSpec)

/-- ITS FALSE NEIGHBOUR: 'it returns false'. Refute it at one input. -/
def victimTellsWrong : ChangeSpec := { name := "victimTells", fn := fun _ => fun
  | [d1, d2] => { results := [.lit (.bool false)], args := [d1, d2] }
  | _ => none }
def VictimTellsWrongFalsely : Prop := victimTellsRow.holds Try.pinned (OpenSpec.ofChange victimTellsWrong)

/-- 'flintstorelaw.VictimPlays': WHATEVER THE INPUT: true; the input reads as it did. -/
def victimPlaysSpec : ChangeSpec := { name := "victimPlays", fn := fun _ => fun
  | [d1, d2, d3] => { results := [.lit (.bool true)], args := [d1, d2, d3] }
  | _ => none }
def victimPlaysRow : OpenClaim := { program := "ytodnjeahjalinaa", sum := "f49939e5ffe47dfc3019ccf54cefbd68f86793666789b4cdf3fc1df40a1ac6fc", func := "flintstore/flintstorelaw.VictimPlays", spec := "victimPlays", unfollowed := true, recurses := true, apart := false }
def VictimPlaysSaid : Prop := victimPlaysRow.holds Try.pinned (OpenSpec.ofChange victimPlaysSpec)

/-- ITS FALSE NEIGHBOUR: 'it returns false'. Refute it at one input. -/
def victimPlaysWrong : ChangeSpec := { name := "victimPlays", fn := fun _ => fun
  | [d1, d2, d3] => { results := [.lit (.bool false)], args := [d1, d2, d3] }
  | _ => none }
def VictimPlaysWrongFalsely : Prop := victimPlaysRow.holds Try.pinned (OpenSpec.ofChange victimPlaysWrong)

/-- 'flintstorekeep.VictimLeast': WHATEVER THE INPUT: true; the input reads as it did. -/
def victimLeastSpec : ChangeSpec := { name := "victimLeast", fn := fun _ => fun
  | [d1, d2] => { results := [.lit (.bool true)], args := [d1, d2] }
  | _ => none }
def victimLeastRow : OpenClaim := { program := "ytodnjeahjalinaa", sum := "f49939e5ffe47dfc3019ccf54cefbd68f86793666789b4cdf3fc1df40a1ac6fc", func := "flintstore/flintstorekeep.VictimLeast", spec := "victimLeast", unfollowed := true, recurses := true, apart := false }
def VictimLeastSaid : Prop := victimLeastRow.holds Try.pinned (OpenSpec.ofChange victimLeastSpec)

/-- ITS FALSE NEIGHBOUR: 'it returns false'. Refute it at one input. -/
def victimLeastWrong : ChangeSpec := { name := "victimLeast", fn := fun _ => fun
  | [d1, d2] => { results := [.lit (.bool false)], args := [d1, d2] }
  | _ => none }
def VictimLeastWrongFalsely : Prop := victimLeastRow.holds Try.pinned (OpenSpec.ofChange victimLeastWrong)

/-- 'flintstorekeep.VictimEven': WHATEVER THE INPUT: true; the input reads as it did. -/
def victimEvenSpec : ChangeSpec := { name := "victimEven", fn := fun _ => fun
  | [d1, d2, d3] => { results := [.lit (.bool true)], args := [d1, d2, d3] }
  | _ => none }
def victimEvenRow : OpenClaim := { program := "ytodnjeahjalinaa", sum := "f49939e5ffe47dfc3019ccf54cefbd68f86793666789b4cdf3fc1df40a1ac6fc", func := "flintstore/flintstorekeep.VictimEven", spec := "victimEven", unfollowed := true, recurses := true, apart := false }
def VictimEvenSaid : Prop := victimEvenRow.holds Try.pinned (OpenSpec.ofChange victimEvenSpec)

/-- ITS FALSE NEIGHBOUR: 'it returns false'. Refute it at one input. -/
def victimEvenWrong : ChangeSpec := { name := "victimEven", fn := fun _ => fun
  | [d1, d2, d3] => { results := [.lit (.bool false)], args := [d1, d2, d3] }
  | _ => none }
def VictimEvenWrongFalsely : Prop := victimEvenRow.holds Try.pinned (OpenSpec.ofChange victimEvenWrong)

/-- 'flintstorekeep.VictimAll': WHATEVER THE INPUT: true; the input reads as it did. -/
def victimAllSpec : ChangeSpec := { name := "victimAll", fn := fun _ => fun
  | [d1, d2, d3] => { results := [.lit (.bool true)], args := [d1, d2, d3] }
  | _ => none }
def victimAllRow : OpenClaim := { program := "ytodnjeahjalinaa", sum := "f49939e5ffe47dfc3019ccf54cefbd68f86793666789b4cdf3fc1df40a1ac6fc", func := "flintstore/flintstorekeep.VictimAll", spec := "victimAll", unfollowed := true, recurses := true, apart := false }
def VictimAllSaid : Prop := victimAllRow.holds Try.pinned (OpenSpec.ofChange victimAllSpec)

/-- ITS FALSE NEIGHBOUR: 'it returns false'. Refute it at one input. -/
def victimAllWrong : ChangeSpec := { name := "victimAll", fn := fun _ => fun
  | [d1, d2, d3] => { results := [.lit (.bool false)], args := [d1, d2, d3] }
  | _ => none }
def VictimAllWrongFalsely : Prop := victimAllRow.holds Try.pinned (OpenSpec.ofChange victimAllWrong)

/-- 'flintstorekeep.VictimShift': WHATEVER THE INPUT: true; the input reads as it did. -/
def victimShiftSpec : ChangeSpec := { name := "victimShift", fn := fun _ => fun
  | [d1, d2, d3] => { results := [.lit (.bool true)], args := [d1, d2, d3] }
  | _ => none }
def victimShiftRow : OpenClaim := { program := "ytodnjeahjalinaa", sum := "f49939e5ffe47dfc3019ccf54cefbd68f86793666789b4cdf3fc1df40a1ac6fc", func := "flintstore/flintstorekeep.VictimShift", spec := "victimShift", unfollowed := true, recurses := true, apart := false }
def VictimShiftSaid : Prop := victimShiftRow.holds Try.pinned (OpenSpec.ofChange victimShiftSpec)

/-- ITS FALSE NEIGHBOUR: 'it returns false'. Refute it at one input. -/
def victimShiftWrong : ChangeSpec := { name := "victimShift", fn := fun _ => fun
  | [d1, d2, d3] => { results := [.lit (.bool false)], args := [d1, d2, d3] }
  | _ => none }
def VictimShiftWrongFalsely : Prop := victimShiftRow.holds Try.pinned (OpenSpec.ofChange victimShiftWrong)

/- THE SECOND FORM. 'bulk': how many values and letters a reading holds, each counted each time it is reached (what is shared counts as often as it is met; a slice's spare places count too). A statement '..UptoSaid' is the law's where the arguments, and the package variables that the reading takes, are together of bulk at most 1048576: NARROWER than '..Said'. Prove '..Said' where nothing that the law and all that it calls make is longer than what came in: it says more and counts as full. Else prove '..UptoSaid'. A law counts once. -/
mutual
def uptoBulk {H : Type} : DataW H → Nat
  | .lit (.string bytes) => bytes.length + 1
  | .lit _ => 1
  | .nil => 1
  | .ptr d => uptoBulk d + 1
  | .slice elems spare => uptoBulkAll elems + uptoBulkAll spare + 1
  | .agg parts => uptoBulkAll parts + 1
  | .iface _ d => uptoBulk d + 1
  | .map entries => uptoBulkEntries entries + 1
  | .held _ => 1
def uptoBulkAll {H : Type} : List (DataW H) → Nat
  | [] => 0
  | d :: r => uptoBulk d + uptoBulkAll r
def uptoBulkEntries {H : Type} : List (Lit × DataW H) → Nat
  | [] => 0
  | x :: r => uptoBulkEntry x + uptoBulkEntries r
def uptoBulkEntry {H : Type} : Lit × DataW H → Nat
  | (.string bytes, d) => bytes.length + uptoBulk d + 1
  | (_, d) => uptoBulk d + 1
 end
def uptoSmall : (H : Type) → List (DataW H) → Bool := fun _ ds => decide (uptoBulkAll ds ≤ 1048576)
def OpenSpec.upto (s : _root_.Go.ChangeSpec) : _root_.Go.OpenSpec := { _root_.Go.OpenSpec.ofChange s with cond := some uptoSmall }

/-- 'flintstorelaw.VictimTells', WHERE WHAT IT READS IS OF BULK AT MOST 1048576: true; the input reads as it did. -/
def victimTellsUptoRow : OpenClaim := { program := "ytodnjeahjalinaa", sum := "f49939e5ffe47dfc3019ccf54cefbd68f86793666789b4cdf3fc1df40a1ac6fc", func := "flintstore/flintstorelaw.VictimTells", spec := "victimTells", unfollowed := true, recurses := true, apart := false, narrowed := true }
def VictimTellsUptoSaid : Prop := victimTellsUptoRow.holds Try.pinned (OpenSpec.upto victimTellsSpec)

/-- 'flintstorelaw.VictimPlays', WHERE WHAT IT READS IS OF BULK AT MOST 1048576: true; the input reads as it did. -/
def victimPlaysUptoRow : OpenClaim := { program := "ytodnjeahjalinaa", sum := "f49939e5ffe47dfc3019ccf54cefbd68f86793666789b4cdf3fc1df40a1ac6fc", func := "flintstore/flintstorelaw.VictimPlays", spec := "victimPlays", unfollowed := true, recurses := true, apart := false, narrowed := true }
def VictimPlaysUptoSaid : Prop := victimPlaysUptoRow.holds Try.pinned (OpenSpec.upto victimPlaysSpec)

/-- 'flintstorekeep.VictimLeast', WHERE WHAT IT READS IS OF BULK AT MOST 1048576: true; the input reads as it did. -/
def victimLeastUptoRow : OpenClaim := { program := "ytodnjeahjalinaa", sum := "f49939e5ffe47dfc3019ccf54cefbd68f86793666789b4cdf3fc1df40a1ac6fc", func := "flintstore/flintstorekeep.VictimLeast", spec := "victimLeast", unfollowed := true, recurses := true, apart := false, narrowed := true }
def VictimLeastUptoSaid : Prop := victimLeastUptoRow.holds Try.pinned (OpenSpec.upto victimLeastSpec)

/-- 'flintstorekeep.VictimEven', WHERE WHAT IT READS IS OF BULK AT MOST 1048576: true; the input reads as it did. -/
def victimEvenUptoRow : OpenClaim := { program := "ytodnjeahjalinaa", sum := "f49939e5ffe47dfc3019ccf54cefbd68f86793666789b4cdf3fc1df40a1ac6fc", func := "flintstore/flintstorekeep.VictimEven", spec := "victimEven", unfollowed := true, recurses := true, apart := false, narrowed := true }
def VictimEvenUptoSaid : Prop := victimEvenUptoRow.holds Try.pinned (OpenSpec.upto victimEvenSpec)

/-- 'flintstorekeep.VictimAll', WHERE WHAT IT READS IS OF BULK AT MOST 1048576: true; the input reads as it did. -/
def victimAllUptoRow : OpenClaim := { program := "ytodnjeahjalinaa", sum := "f49939e5ffe47dfc3019ccf54cefbd68f86793666789b4cdf3fc1df40a1ac6fc", func := "flintstore/flintstorekeep.VictimAll", spec := "victimAll", unfollowed := true, recurses := true, apart := false, narrowed := true }
def VictimAllUptoSaid : Prop := victimAllUptoRow.holds Try.pinned (OpenSpec.upto victimAllSpec)

/-- 'flintstorekeep.VictimShift', WHERE WHAT IT READS IS OF BULK AT MOST 1048576: true; the input reads as it did. -/
def victimShiftUptoRow : OpenClaim := { program := "ytodnjeahjalinaa", sum := "f49939e5ffe47dfc3019ccf54cefbd68f86793666789b4cdf3fc1df40a1ac6fc", func := "flintstore/flintstorekeep.VictimShift", spec := "victimShift", unfollowed := true, recurses := true, apart := false, narrowed := true }
def VictimShiftUptoSaid : Prop := victimShiftUptoRow.holds Try.pinned (OpenSpec.upto victimShiftSpec)

end Rows
end Go.Proofs.Ytodnjeahjalinaa
