/-
  No cell of these rows narrows 'for every input' (looked for: loops, veiled, ifaces, maps, wideKeys, modest, calm, conditions, laid).
  DERIVED. THE GIVEN ROWS OF THIS SEAT. 5 by the template 'for every input the law returns true; each argument reads behind the call as it read before'; 0 by the template 'total and deterministic' (their statements: YtdabkoconolclaaTotals.lean).
  GIVEN WITH THE SEED: the statements are not yours to turn. If you find one false, say at which input.
  Laid BY PROGRAM, IN A SANDBOX (cutbox-rows.mjs): the forced cells as the released guide's own fill.sh prints them over the translation 04362547e9db0406… (all of the seat's roots in one cut). By AI agents, Wed Nov 11 2026. No macro, syntax, notation, axiom, sorry.
-/
import Derived.Test.YtdabkoconolclaaChecked
import GoSem.Claim
import GoSem.ClaimJoined
import GoSem.ClaimMapViews
import Derived.JoinedTies
import Derived.KernelRfl
namespace Go.Proofs.Ytdabkoconolclaa
/- THE CELL 'sum', in the pinned program and in every row, IS THE sha256 OF THE DUMP (.gsa) THAT YtdabkoconolclaaProg.lean LOADS. Nothing in Lean hashes anything: it is a label: what it is worth is what the hold of that sum in a sandbox is worth. -/
noncomputable def Try.pinned : Pinned := { name := "ytdabkoconolclaa", sum := "04362547e9db0406c84417e6c28968cc93b6ac5a02b553e7969137f4337c7547", checked := Try.checked }
namespace Rows
def none {H : Type} : Left H := { results := [], args := [] }

/-- 'flintstorelaw.EccTells': WHATEVER THE INPUT: true; the input reads as it did. -/
def eccTellsSpec : ChangeSpec := { name := "eccTells", fn := fun _ => fun
  | [d1, d2] => { results := [.lit (.bool true)], args := [d1, d2] }
  | _ => none }
def eccTellsRow : OpenClaim := { program := "ytdabkoconolclaa", sum := "04362547e9db0406c84417e6c28968cc93b6ac5a02b553e7969137f4337c7547", func := "flintstore/flintstorelaw.EccTells", spec := "eccTells", apart := false }
def EccTellsSaid : Prop := eccTellsRow.holds Try.pinned (OpenSpec.ofChange eccTellsSpec)

/-- ITS FALSE NEIGHBOUR: 'it returns false'. Refute it at one input. -/
def eccTellsWrong : ChangeSpec := { name := "eccTells", fn := fun _ => fun
  | [d1, d2] => { results := [.lit (.bool false)], args := [d1, d2] }
  | _ => none }
def EccTellsWrongFalsely : Prop := eccTellsRow.holds Try.pinned (OpenSpec.ofChange eccTellsWrong)

/-- 'flintstorekeep.EccOne': WHATEVER THE INPUT: true; the input reads as it did. -/
def eccOneSpec : ChangeSpec := { name := "eccOne", fn := fun _ => fun
  | [d1, d2] => { results := [.lit (.bool true)], args := [d1, d2] }
  | _ => none }
def eccOneRow : OpenClaim := { program := "ytdabkoconolclaa", sum := "04362547e9db0406c84417e6c28968cc93b6ac5a02b553e7969137f4337c7547", func := "flintstore/flintstorekeep.EccOne", spec := "eccOne", apart := false }
def EccOneSaid : Prop := eccOneRow.holds Try.pinned (OpenSpec.ofChange eccOneSpec)

/-- ITS FALSE NEIGHBOUR: 'it returns false'. Refute it at one input. -/
def eccOneWrong : ChangeSpec := { name := "eccOne", fn := fun _ => fun
  | [d1, d2] => { results := [.lit (.bool false)], args := [d1, d2] }
  | _ => none }
def EccOneWrongFalsely : Prop := eccOneRow.holds Try.pinned (OpenSpec.ofChange eccOneWrong)

/-- 'flintstorekeep.EccTwo': WHATEVER THE INPUT: true; the input reads as it did. -/
def eccTwoSpec : ChangeSpec := { name := "eccTwo", fn := fun _ => fun
  | [d1, d2, d3] => { results := [.lit (.bool true)], args := [d1, d2, d3] }
  | _ => none }
def eccTwoRow : OpenClaim := { program := "ytdabkoconolclaa", sum := "04362547e9db0406c84417e6c28968cc93b6ac5a02b553e7969137f4337c7547", func := "flintstore/flintstorekeep.EccTwo", spec := "eccTwo", apart := false }
def EccTwoSaid : Prop := eccTwoRow.holds Try.pinned (OpenSpec.ofChange eccTwoSpec)

/-- ITS FALSE NEIGHBOUR: 'it returns false'. Refute it at one input. -/
def eccTwoWrong : ChangeSpec := { name := "eccTwo", fn := fun _ => fun
  | [d1, d2, d3] => { results := [.lit (.bool false)], args := [d1, d2, d3] }
  | _ => none }
def EccTwoWrongFalsely : Prop := eccTwoRow.holds Try.pinned (OpenSpec.ofChange eccTwoWrong)

/-- 'flintstorekeep.EccMix': WHATEVER THE INPUT: true; the input reads as it did. -/
def eccMixSpec : ChangeSpec := { name := "eccMix", fn := fun _ => fun
  | [d1, d2] => { results := [.lit (.bool true)], args := [d1, d2] }
  | _ => none }
def eccMixRow : OpenClaim := { program := "ytdabkoconolclaa", sum := "04362547e9db0406c84417e6c28968cc93b6ac5a02b553e7969137f4337c7547", func := "flintstore/flintstorekeep.EccMix", spec := "eccMix", apart := false }
def EccMixSaid : Prop := eccMixRow.holds Try.pinned (OpenSpec.ofChange eccMixSpec)

/-- ITS FALSE NEIGHBOUR: 'it returns false'. Refute it at one input. -/
def eccMixWrong : ChangeSpec := { name := "eccMix", fn := fun _ => fun
  | [d1, d2] => { results := [.lit (.bool false)], args := [d1, d2] }
  | _ => none }
def EccMixWrongFalsely : Prop := eccMixRow.holds Try.pinned (OpenSpec.ofChange eccMixWrong)

/-- 'flintstorekeep.EccFar': WHATEVER THE INPUT: true; the input reads as it did. -/
def eccFarSpec : ChangeSpec := { name := "eccFar", fn := fun _ => fun
  | [d1, d2] => { results := [.lit (.bool true)], args := [d1, d2] }
  | _ => none }
def eccFarRow : OpenClaim := { program := "ytdabkoconolclaa", sum := "04362547e9db0406c84417e6c28968cc93b6ac5a02b553e7969137f4337c7547", func := "flintstore/flintstorekeep.EccFar", spec := "eccFar", apart := false }
def EccFarSaid : Prop := eccFarRow.holds Try.pinned (OpenSpec.ofChange eccFarSpec)

/-- ITS FALSE NEIGHBOUR: 'it returns false'. Refute it at one input. -/
def eccFarWrong : ChangeSpec := { name := "eccFar", fn := fun _ => fun
  | [d1, d2] => { results := [.lit (.bool false)], args := [d1, d2] }
  | _ => none }
def EccFarWrongFalsely : Prop := eccFarRow.holds Try.pinned (OpenSpec.ofChange eccFarWrong)

/- THE SECOND FORM. 'bulk': how many values and letters a reading holds, each counted each time it is reached (what is shared counts as often as it is met; a slice's spare places count too). A statement '..UptoSaid' is the law's where the arguments, and the package variables that the reading takes, are together of bulk at most 1048576: NARROWER than '..Said'. Prove '..Said' where nothing that the law and all that it calls make is longer than what came in: it says more and counts as full. Else prove '..UptoSaid'. A law counts once. -/
mutual
def uptoBulk {H : Type} : DataW H → Nat
  | .lit (.string bytes) => bytes.length + 1
  | .lit _ => 1
  | .nil => 1
  | .ptr d => uptoBulk d + 1
  | .slice elems spare => uptoBulkAll elems + uptoBulkAll spare + 1
  | .agg parts => uptoBulkAll parts + 1
  | .iface _ d => uptoBulk d + 1
  | .map entries => uptoBulkEntries entries + 1
  | .held _ => 1
def uptoBulkAll {H : Type} : List (DataW H) → Nat
  | [] => 0
  | d :: r => uptoBulk d + uptoBulkAll r
def uptoBulkEntries {H : Type} : List (Lit × DataW H) → Nat
  | [] => 0
  | x :: r => uptoBulkEntry x + uptoBulkEntries r
def uptoBulkEntry {H : Type} : Lit × DataW H → Nat
  | (.string bytes, d) => bytes.length + uptoBulk d + 1
  | (_, d) => uptoBulk d + 1
 end
def uptoSmall : (H : Type) → List (DataW H) → Bool := fun _ ds => decide (uptoBulkAll ds ≤ 1048576)
def OpenSpec.upto (s : _root_.Go.ChangeSpec) : _root_.Go.OpenSpec := { _root_.Go.OpenSpec.ofChange s with cond := some uptoSmall }

/-- 'flintstorelaw.EccTells', WHERE WHAT IT READS IS OF BULK AT MOST 1048576: true; the input reads as it did. -/
def eccTellsUptoRow : OpenClaim := { program := "ytdabkoconolclaa", sum := "04362547e9db0406c84417e6c28968cc93b6ac5a02b553e7969137f4337c7547", func := "flintstore/flintstorelaw.EccTells", spec := "eccTells", apart := false, narrowed := true }
def EccTellsUptoSaid : Prop := eccTellsUptoRow.holds Try.pinned (OpenSpec.upto eccTellsSpec)

/-- 'flintstorekeep.EccOne', WHERE WHAT IT READS IS OF BULK AT MOST 1048576: true; the input reads as it did. -/
def eccOneUptoRow : OpenClaim := { program := "ytdabkoconolclaa", sum := "04362547e9db0406c84417e6c28968cc93b6ac5a02b553e7969137f4337c7547", func := "flintstore/flintstorekeep.EccOne", spec := "eccOne", apart := false, narrowed := true }
def EccOneUptoSaid : Prop := eccOneUptoRow.holds Try.pinned (OpenSpec.upto eccOneSpec)

/-- 'flintstorekeep.EccTwo', WHERE WHAT IT READS IS OF BULK AT MOST 1048576: true; the input reads as it did. -/
def eccTwoUptoRow : OpenClaim := { program := "ytdabkoconolclaa", sum := "04362547e9db0406c84417e6c28968cc93b6ac5a02b553e7969137f4337c7547", func := "flintstore/flintstorekeep.EccTwo", spec := "eccTwo", apart := false, narrowed := true }
def EccTwoUptoSaid : Prop := eccTwoUptoRow.holds Try.pinned (OpenSpec.upto eccTwoSpec)

/-- 'flintstorekeep.EccMix', WHERE WHAT IT READS IS OF BULK AT MOST 1048576: true; the input reads as it did. -/
def eccMixUptoRow : OpenClaim := { program := "ytdabkoconolclaa", sum := "04362547e9db0406c84417e6c28968cc93b6ac5a02b553e7969137f4337c7547", func := "flintstore/flintstorekeep.EccMix", spec := "eccMix", apart := false, narrowed := true }
def EccMixUptoSaid : Prop := eccMixUptoRow.holds Try.pinned (OpenSpec.upto eccMixSpec)

/-- 'flintstorekeep.EccFar', WHERE WHAT IT READS IS OF BULK AT MOST 1048576: true; the input reads as it did. -/
def eccFarUptoRow : OpenClaim := { program := "ytdabkoconolclaa", sum := "04362547e9db0406c84417e6c28968cc93b6ac5a02b553e7969137f4337c7547", func := "flintstore/flintstorekeep.EccFar", spec := "eccFar", apart := false, narrowed := true }
def EccFarUptoSaid : Prop := eccFarUptoRow.holds Try.pinned (OpenSpec.upto eccFarSpec)

end Rows
end Go.Proofs.Ytdabkoconolclaa
