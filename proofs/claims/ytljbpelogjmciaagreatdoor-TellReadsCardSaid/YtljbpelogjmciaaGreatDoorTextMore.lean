/-
 What follows of what names, keys and images are: an image is put together again of its parts, and is of one repository with itself; a name is a key, a value and a repository; two names make a key; cut where no - is, a name is two names. Plain facts; no condition.
-/
import Derived.Test.YtljbpelogjmciaaGreatDoorTextAll
namespace Go.Proofs.YtljbpelogjmciaaGreatDoor
open TextPure
namespace Text
end Text
end Go.Proofs.YtljbpelogjmciaaGreatDoor
