/-
  The contract of a reader's Big. Condition: as WireReads.
-/
import Derived.Test.YtaegknpijgjioaaGreatDoorWireAll
namespace Go.Proofs.YtaegknpijgjioaaGreatDoor
open Go.ChangeShapes Go.WideShapes Go.ChangeAt Go.RowKit Go.Lib
open LebMath WirePure
namespace Wire

end Wire
end Go.Proofs.YtaegknpijgjioaaGreatDoor
