/-
  What reads a pod (tell.takePod): the pod of the bytes, in memory of the call's own; the reader behind. What was there, but the reader, is left as it was. Condition: the bytes are few (PackTake).
-/
import Derived.Test.YtaegknpijgjioaaGreatDoorTellMem
set_option linter.unusedVariables false
set_option linter.unusedSimpArgs false
namespace Go.Proofs.YtaegknpijgjioaaGreatDoor
open Go.ChangeShapes Go.WideShapes Go.ChangeAt Go.RowKit Go.Lib
open LebMath WirePure Sd Wire SpecOwn SpecRef Book Pk
namespace Tl
end Tl
end Go.Proofs.YtaegknpijgjioaaGreatDoor
