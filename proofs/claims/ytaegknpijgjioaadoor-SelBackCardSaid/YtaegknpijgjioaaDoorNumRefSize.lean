/-
  The contract of the document's size of a number: its magnitude as a 64-bit number without sign; the world is left alone. Condition: the argument is a 64-bit integer.
-/
import Derived.Test.YtaegknpijgjioaaDoorChecked
import Derived.Test.YtaegknpijgjioaaDoorNumMath
import Derived.WalkKit
import Derived.ProofKit
import Derived.Lib.Hide
namespace Go.Proofs.YtaegknpijgjioaaDoor
open Go.ChangeShapes Go.WideShapes Go.ChangeAt Go.RowKit
open NumMath
namespace NumRefSize

theorem size_any (a : Int) (w : World) (ha : fits a = true) :
    Calls Tryd.prog 56 #[.int .i64 a] w fun e w' => e = .returned (.int .u64 (a.natAbs : Int)) ∧ w = w' := by
  have hA := fits_iff.1 ha
  clear ha
  by_cases hs : a < 0
  · go_enter Tryd.func56, Tryd.ntmps56
    go_wp2
    go_ret
    refine ⟨congrArg (fun n => Ending.returned (.int .u64 n)) ?_, rfl⟩
    rw [IntKind.wrap_u64, IntKind.wrap_u64]
    omega
  · go_enter Tryd.func56, Tryd.ntmps56
    go_wp2
    go_ret
    refine ⟨congrArg (fun n => Ending.returned (.int .u64 n)) ?_, rfl⟩
    omega
end NumRefSize
end Go.Proofs.YtaegknpijgjioaaDoor
