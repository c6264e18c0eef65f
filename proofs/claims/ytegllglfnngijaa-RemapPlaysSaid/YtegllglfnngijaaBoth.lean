/-
  What the document's own Play returns.
-/
import Derived.Test.YtegllglfnngijaaRefP
import Derived.Test.YtegllglfnngijaaHAgainW
namespace Go.Proofs.Ytegllglfnngijaa.Rem
open Go.ChangeShapes Go.WideShapes Go.ChangeAt Go.RowKit Words

theorem hplay9 (B : Nat) (A : Option Addr) (n c : Nat) (l : List Mop) (pages : Int) (w : World) (h : Ops w B A n c l) (hB : B ≤ w.heap.size) (hn : n ≤ 8796093022208) :
    Calls Try.prog 9 #[.int .i64 pages, .slice A n c] w (Played w pages l) := by
  by_cases hp : 0 ≤ pages ∧ pages ≤ 4096
  · obtain ⟨P, rfl⟩ : ∃ P : Nat, pages = P := ⟨pages.toNat, by omega⟩
    exact hplay_ok B A n c l P w h hB hn (by omega)
  · exact hplay_bad B A n c l pages w h hB hp
end Go.Proofs.Ytegllglfnngijaa.Rem
