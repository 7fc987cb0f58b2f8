/-
 What comes in as a pod, and as a list of pods: its value, its lists in memory. Condition: the types can be read.
-/
import Derived.Test.YtljbpelogjmciaaGreatDoorLaidTAll
import Derived.Test.YtljbpelogjmciaaGreatDoorTellA
set_option linter.unusedVariables false
namespace Go.Proofs.YtljbpelogjmciaaGreatDoor
open Go.ChangeShapes Go.WideShapes Go.ChangeAt Go.RowKit Go.ChangeMaps Go.Deep
namespace LaidTell
open Sd Lists LawKit Tl
section
variable {H : Type} {enc : TypeId × Value → H} {W : World}
end
end LaidTell
end Go.Proofs.YtljbpelogjmciaaGreatDoor
