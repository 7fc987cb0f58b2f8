/-
  The shelf at this seat: slices.Sort at whole numbers stands in Shelf5. No condition.
-/
import Derived.Test.YtbichomjpmmjmaaGreatDoorShelf5
namespace Go.Proofs.YtbichomjpmmjmaaGreatDoor
end Go.Proofs.YtbichomjpmmjmaaGreatDoor
