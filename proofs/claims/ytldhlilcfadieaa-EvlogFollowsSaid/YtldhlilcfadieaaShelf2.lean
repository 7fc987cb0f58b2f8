/-
  The library contract of sort.Search, as the shelf lays it at this translation, in plain words. Conditions: as it says.
-/
import Derived.Shelf.SlSorted.Search
import Derived.Test.YtldhlilcfadieaaProg
namespace Go.Proofs
open Go.Shelf
def Try.searchL_ren : Go.Shelf.Ren := ⟨fun | 16 => 25 | n => n, fun | 3 => 3 | 35 => 68 | 4 => 4 | 38 => 75 | n => n, fun | n => n⟩
theorem Try.searchL : Go.Proofs.SlLaysO.n16 Try.prog Try.searchL_ren := {
  mixed := by kernel_rfl
  f16 := Try.func25.trans (congrArg some (by kernel_rfl))
  t3 := Try.underlying3
  a3 := Try.isAgg3
  z3 := Try.sizeOf3
  v3 := Try.zeroValue3
  t4 := Try.underlying4
  a4 := Try.isAgg4
  z4 := Try.sizeOf4
  v4 := Try.zeroValue4
  t35 := Try.underlying68
  a35 := Try.isAgg68
  z35 := Try.sizeOf68
  v35 := Try.zeroValue68
  t38 := Try.underlying75
  a38 := Try.isAgg75
  z38 := Try.sizeOf75
  v38 := Try.zeroValue75 }
end Go.Proofs
