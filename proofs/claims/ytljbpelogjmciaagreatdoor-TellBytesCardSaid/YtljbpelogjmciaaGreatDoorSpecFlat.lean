/-
 Labels and containers in rows of a call's own, cell by cell; blocks from one on; blocks that may be written. No condition.
-/
import Derived.Test.YtljbpelogjmciaaGreatDoorSpecAhead
import Derived.Laws.OwnMore
namespace Go.Proofs.YtljbpelogjmciaaGreatDoor
open Go.RowKit
open Sd Lists
namespace SpecOwn
def From (B : Nat) (A : Option Addr) : Prop := ∀ a, A = some a → B ≤ a.block
end SpecOwn
end Go.Proofs.YtljbpelogjmciaaGreatDoor
