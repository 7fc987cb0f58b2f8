/-
  The walk of the law NumReckons: it returns true, and leaves all that was there as it was. Condition: both arguments are 64-bit integers.
-/
import Derived.Test.YtalbbkbjfopooaaNumWorks
import Derived.Test.YtalbbkbjfopooaaNumRefArith
namespace Go.Proofs.Ytalbbkbjfopooaa.NumReckonsWalk
open Go.ChangeShapes Go.WideShapes Go.ChangeAt Go.RowKit
open NumMath

theorem walk (a b : Int) (w0 : (Lit.int .i64 a).wf = true) (w1 : (Lit.int .i64 b).wf = true) (w : World) :
    Calls Try.prog 3 #[.int .i64 a, .int .i64 b] w fun e w' => e = .returned (.bool true) ∧ Below w.heap.size w w' := by
  have ha := fits_wf w0
  have hb := fits_wf w1
  clear w0 w1
  go_enter Try.func3, Try.ntmps3
  go_wp2_with fail
  refine (NumAdd.add_any a b _ ha hb).mono ?_
  rintro e w' ⟨rfl, rfl⟩
  go_wp2_with fail
  refine (NumMul.mul_any a b _ ha hb).mono ?_
  rintro e w' ⟨rfl, rfl⟩
  go_wp2_with fail
  refine (NumRefArith.refAdd_any a b _ ha hb).mono ?_
  rintro e w' ⟨rfl, rfl⟩
  go_wp2_with fail
  refine (NumRefArith.refMul_any a b _ ha hb).mono ?_
  rintro e w' ⟨rfl, rfl⟩
  go_wp2_with (go_at_call 11; refine (NumWorks.works_any _).mono ?_; rintro e w' ⟨rfl, hbl⟩)
  go_ret
  exact ⟨rfl, hbl⟩
end Go.Proofs.Ytalbbkbjfopooaa.NumReckonsWalk
