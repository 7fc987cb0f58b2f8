/-
  The contract of the document's size of a number: its magnitude as a 64-bit number without sign; the world is left alone. Condition: the argument is a 64-bit integer.
-/
import Derived.Test.YtpllcnpmjnmcfaaDoorChecked
import Derived.Test.YtpllcnpmjnmcfaaDoorNumMath
import Derived.WalkKit
import Derived.ProofKit
import Derived.Lib.Hide
namespace Go.Proofs.YtpllcnpmjnmcfaaDoor
open Go.ChangeShapes Go.WideShapes Go.ChangeAt Go.RowKit
open NumMath
namespace NumRefSize

theorem size_any (a : Int) (w : World) (ha : fits a = true) :
    Calls Tryd.prog 52 #[.int .i64 a] w fun e w' => e = .returned (.int .u64 (a.natAbs : Int)) ∧ w = w' := by
  have hA := fits_iff.1 ha
  clear ha
  by_cases hs : a < 0
  · go_enter Tryd.func52, Tryd.ntmps52
    go_wp2
    go_ret
    refine ⟨congrArg (fun n => Ending.returned (.int .u64 n)) ?_, rfl⟩
    rw [IntKind.wrap_u64, IntKind.wrap_u64]
    omega
  · go_enter Tryd.func52, Tryd.ntmps52
    go_wp2
    go_ret
    refine ⟨congrArg (fun n => Ending.returned (.int .u64 n)) ?_, rfl⟩
    omega
end NumRefSize
end Go.Proofs.YtpllcnpmjnmcfaaDoor
