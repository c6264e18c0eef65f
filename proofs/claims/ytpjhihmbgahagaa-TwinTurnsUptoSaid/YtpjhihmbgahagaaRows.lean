/-
  No cell of these rows narrows 'for every input' (looked for: loops, veiled, ifaces, maps, wideKeys, modest, calm, conditions, laid).
  DERIVED. THE GIVEN ROWS OF THIS SEAT. 4 by the template 'for every input the law returns true; each argument reads behind the call as it read before'; 0 by the template 'total and deterministic' (their statements: YtpjhihmbgahagaaTotals.lean).
  GIVEN WITH THE SEED: the statements are not yours to turn. If you find one false, say at which input.
  Laid BY PROGRAM, IN A SANDBOX (cutbox-rows.mjs): the forced cells as the released guide's own fill.sh prints them over the translation 614a7ff673633a41… (all of the seat's roots in one cut). By AI agents, Wed Nov 11 2026. No macro, syntax, notation, axiom, sorry.
-/
import Derived.Test.YtpjhihmbgahagaaChecked
import GoSem.Claim
import GoSem.ClaimJoined
import GoSem.ClaimMapViews
import Derived.JoinedTies
import Derived.KernelRfl
namespace Go.Proofs.Ytpjhihmbgahagaa
/- THE CELL 'sum', in the pinned program and in every row, IS THE sha256 OF THE DUMP (.gsa) THAT YtpjhihmbgahagaaProg.lean LOADS. Nothing in Lean hashes anything: it is a label: what it is worth is what the hold of that sum in a sandbox is worth. -/
noncomputable def Try.pinned : Pinned := { name := "ytpjhihmbgahagaa", sum := "614a7ff673633a41c59c20f3f40ac7859341a7c240975dee56b6239c7d05c675", checked := Try.checked }
namespace Rows
def none {H : Type} : Left H := { results := [], args := [] }

/-- 'flintstorelaw.TwinTells': WHATEVER THE INPUT: true; the input reads as it did. -/
def twinTellsSpec : ChangeSpec := { name := "twinTells", fn := fun _ => fun
  | [d1, d2, d3] => { results := [.lit (.bool true)], args := [d1, d2, d3] }
  | _ => none }
def twinTellsRow : OpenClaim := { program := "ytpjhihmbgahagaa", sum := "614a7ff673633a41c59c20f3f40ac7859341a7c240975dee56b6239c7d05c675", func := "flintstore/flintstorelaw.TwinTells", spec := "twinTells", apart := false }
def TwinTellsSaid : Prop := twinTellsRow.holds Try.pinned (OpenSpec.ofChange twinTellsSpec)

/-- ITS FALSE NEIGHBOUR: 'it returns false'. Refute it at one input. -/
def twinTellsWrong : ChangeSpec := { name := "twinTells", fn := fun _ => fun
  | [d1, d2, d3] => { results := [.lit (.bool false)], args := [d1, d2, d3] }
  | _ => none }
def TwinTellsWrongFalsely : Prop := twinTellsRow.holds Try.pinned (OpenSpec.ofChange twinTellsWrong)

/-- 'flintstorekeep.TwinSafe': WHATEVER THE INPUT: true; the input reads as it did. -/
def twinSafeSpec : ChangeSpec := { name := "twinSafe", fn := fun _ => fun
  | [d1, d2, d3, d4] => { results := [.lit (.bool true)], args := [d1, d2, d3, d4] }
  | _ => none }
def twinSafeRow : OpenClaim := { program := "ytpjhihmbgahagaa", sum := "614a7ff673633a41c59c20f3f40ac7859341a7c240975dee56b6239c7d05c675", func := "flintstore/flintstorekeep.TwinSafe", spec := "twinSafe", apart := false }
def TwinSafeSaid : Prop := twinSafeRow.holds Try.pinned (OpenSpec.ofChange twinSafeSpec)

/-- ITS FALSE NEIGHBOUR: 'it returns false'. Refute it at one input. -/
def twinSafeWrong : ChangeSpec := { name := "twinSafe", fn := fun _ => fun
  | [d1, d2, d3, d4] => { results := [.lit (.bool false)], args := [d1, d2, d3, d4] }
  | _ => none }
def TwinSafeWrongFalsely : Prop := twinSafeRow.holds Try.pinned (OpenSpec.ofChange twinSafeWrong)

/-- 'flintstorekeep.TwinEither': WHATEVER THE INPUT: true; the input reads as it did. -/
def twinEitherSpec : ChangeSpec := { name := "twinEither", fn := fun _ => fun
  | [d1, d2, d3] => { results := [.lit (.bool true)], args := [d1, d2, d3] }
  | _ => none }
def twinEitherRow : OpenClaim := { program := "ytpjhihmbgahagaa", sum := "614a7ff673633a41c59c20f3f40ac7859341a7c240975dee56b6239c7d05c675", func := "flintstore/flintstorekeep.TwinEither", spec := "twinEither", apart := false }
def TwinEitherSaid : Prop := twinEitherRow.holds Try.pinned (OpenSpec.ofChange twinEitherSpec)

/-- ITS FALSE NEIGHBOUR: 'it returns false'. Refute it at one input. -/
def twinEitherWrong : ChangeSpec := { name := "twinEither", fn := fun _ => fun
  | [d1, d2, d3] => { results := [.lit (.bool false)], args := [d1, d2, d3] }
  | _ => none }
def TwinEitherWrongFalsely : Prop := twinEitherRow.holds Try.pinned (OpenSpec.ofChange twinEitherWrong)

/-- 'flintstorekeep.TwinTurns': WHATEVER THE INPUT: true; the input reads as it did. -/
def twinTurnsSpec : ChangeSpec := { name := "twinTurns", fn := fun _ => fun
  | [d] => { results := [.lit (.bool true)], args := [d] }
  | _ => none }
def twinTurnsRow : OpenClaim := { program := "ytpjhihmbgahagaa", sum := "614a7ff673633a41c59c20f3f40ac7859341a7c240975dee56b6239c7d05c675", func := "flintstore/flintstorekeep.TwinTurns", spec := "twinTurns", apart := false }
def TwinTurnsSaid : Prop := twinTurnsRow.holds Try.pinned (OpenSpec.ofChange twinTurnsSpec)

/-- ITS FALSE NEIGHBOUR: 'it returns false'. Refute it at one input. -/
def twinTurnsWrong : ChangeSpec := { name := "twinTurns", fn := fun _ => fun
  | [d] => { results := [.lit (.bool false)], args := [d] }
  | _ => none }
def TwinTurnsWrongFalsely : Prop := twinTurnsRow.holds Try.pinned (OpenSpec.ofChange twinTurnsWrong)

/- THE SECOND FORM. 'bulk': how many values and letters a reading holds, each counted each time it is reached (what is shared counts as often as it is met; a slice's spare places count too). A statement '..UptoSaid' is the law's where the arguments, and the package variables that the reading takes, are together of bulk at most 1048576: NARROWER than '..Said'. Prove '..Said' where nothing that the law and all that it calls make is longer than what came in: it says more and counts as full. Else prove '..UptoSaid'. A law counts once. -/
mutual
def uptoBulk {H : Type} : DataW H → Nat
  | .lit (.string bytes) => bytes.length + 1
  | .lit _ => 1
  | .nil => 1
  | .ptr d => uptoBulk d + 1
  | .slice elems spare => uptoBulkAll elems + uptoBulkAll spare + 1
  | .agg parts => uptoBulkAll parts + 1
  | .iface _ d => uptoBulk d + 1
  | .map entries => uptoBulkEntries entries + 1
  | .held _ => 1
def uptoBulkAll {H : Type} : List (DataW H) → Nat
  | [] => 0
  | d :: r => uptoBulk d + uptoBulkAll r
def uptoBulkEntries {H : Type} : List (Lit × DataW H) → Nat
  | [] => 0
  | x :: r => uptoBulkEntry x + uptoBulkEntries r
def uptoBulkEntry {H : Type} : Lit × DataW H → Nat
  | (.string bytes, d) => bytes.length + uptoBulk d + 1
  | (_, d) => uptoBulk d + 1
 end
def uptoSmall : (H : Type) → List (DataW H) → Bool := fun _ ds => decide (uptoBulkAll ds ≤ 1048576)
def OpenSpec.upto (s : _root_.Go.ChangeSpec) : _root_.Go.OpenSpec := { _root_.Go.OpenSpec.ofChange s with cond := some uptoSmall }

/-- 'flintstorelaw.TwinTells', WHERE WHAT IT READS IS OF BULK AT MOST 1048576: true; the input reads as it did. -/
def twinTellsUptoRow : OpenClaim := { program := "ytpjhihmbgahagaa", sum := "614a7ff673633a41c59c20f3f40ac7859341a7c240975dee56b6239c7d05c675", func := "flintstore/flintstorelaw.TwinTells", spec := "twinTells", apart := false, narrowed := true }
def TwinTellsUptoSaid : Prop := twinTellsUptoRow.holds Try.pinned (OpenSpec.upto twinTellsSpec)

/-- 'flintstorekeep.TwinSafe', WHERE WHAT IT READS IS OF BULK AT MOST 1048576: true; the input reads as it did. -/
def twinSafeUptoRow : OpenClaim := { program := "ytpjhihmbgahagaa", sum := "614a7ff673633a41c59c20f3f40ac7859341a7c240975dee56b6239c7d05c675", func := "flintstore/flintstorekeep.TwinSafe", spec := "twinSafe", apart := false, narrowed := true }
def TwinSafeUptoSaid : Prop := twinSafeUptoRow.holds Try.pinned (OpenSpec.upto twinSafeSpec)

/-- 'flintstorekeep.TwinEither', WHERE WHAT IT READS IS OF BULK AT MOST 1048576: true; the input reads as it did. -/
def twinEitherUptoRow : OpenClaim := { program := "ytpjhihmbgahagaa", sum := "614a7ff673633a41c59c20f3f40ac7859341a7c240975dee56b6239c7d05c675", func := "flintstore/flintstorekeep.TwinEither", spec := "twinEither", apart := false, narrowed := true }
def TwinEitherUptoSaid : Prop := twinEitherUptoRow.holds Try.pinned (OpenSpec.upto twinEitherSpec)

/-- 'flintstorekeep.TwinTurns', WHERE WHAT IT READS IS OF BULK AT MOST 1048576: true; the input reads as it did. -/
def twinTurnsUptoRow : OpenClaim := { program := "ytpjhihmbgahagaa", sum := "614a7ff673633a41c59c20f3f40ac7859341a7c240975dee56b6239c7d05c675", func := "flintstore/flintstorekeep.TwinTurns", spec := "twinTurns", apart := false, narrowed := true }
def TwinTurnsUptoSaid : Prop := twinTurnsUptoRow.holds Try.pinned (OpenSpec.upto twinTurnsSpec)

end Rows
end Go.Proofs.Ytpjhihmbgahagaa
