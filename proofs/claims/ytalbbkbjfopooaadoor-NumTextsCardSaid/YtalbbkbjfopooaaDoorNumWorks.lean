/-
  The contract of the statements' own examples of layer 1 (works): they hold, and all that was there is left as it was. No condition.
-/
import Derived.Test.YtalbbkbjfopooaaDoorNumAdd
import Derived.Test.YtalbbkbjfopooaaDoorNumMul
import Derived.Test.YtalbbkbjfopooaaDoorNumTake
import Derived.Test.YtalbbkbjfopooaaDoorNumPut
namespace Go.Proofs.YtalbbkbjfopooaaDoor
open Go.ChangeShapes Go.WideShapes Go.ChangeAt Go.RowKit
open NumMath LebMath
namespace NumWorks

theorem leb_300 : leb 300 = [172, 2] := by rw [leb_big (by omega), leb_small (by omega)]; decide
theorem take_300 : takeV [172, 2, 120] = (300, 2) := by
  have := takeV_leb (n := 300) (by omega) [120]
  rw [leb_300] at this
  exact this

theorem take_300' (w : World) : Calls Tryd.prog 13 #[.string ⟨#[172, 2, 120]⟩] w fun e w' => e = .returned (.tuple #[.int .u64 300, .int .i64 2]) ∧ w = w' := by
  have h := NumTake.take_lim ⟨#[172, 2, 120]⟩ w (by unfold maxLen; decide)
  refine h.mono fun e w' ⟨he, hw⟩ => ⟨?_, hw⟩
  rw [he]
  show Ending.returned (.tuple #[.int .u64 ((takeV [172, 2, 120]).1 : Nat), .int .i64 ((takeV [172, 2, 120]).2 : Nat)]) = _
  rw [take_300]; rfl

theorem mul_big (w : World) : Calls Tryd.prog 14 #[.int .i64 4611686018427387904, .int .i64 2] w fun e w' => e = .returned (.tuple #[.int .i64 0, .bool false]) ∧ w = w' := by
  have h := NumMul.mul_any 4611686018427387904 2 w (fits_yes (by omega) (by omega)) (fits_yes (by omega) (by omega))
  have e1 : fits (4611686018427387904 * 2) = false := fits_no (by omega)
  rw [val_no e1, e1] at h
  exact h

theorem add_small (w : World) : Calls Tryd.prog 15 #[.int .i64 2, .int .i64 3] w fun e w' => e = .returned (.tuple #[.int .i64 5, .bool true]) ∧ w = w' :=
  NumAdd.add_yes 2 3 w (by omega) (by omega) (by omega) (by omega) (by omega) (by omega)

theorem put_300 (w : World) : Calls Tryd.prog 16 #[.int .u64 300] w fun e w' => e = .returned (.string ⟨#[172, 2]⟩) ∧ Below w.heap.size w w' := by
  have h := NumPut.put_any 300 w (by omega)
  rw [leb_300] at h
  exact h

theorem works_any (w : World) : Calls Tryd.prog 9 #[] w fun e w' => e = .returned (.bool true) ∧ Below w.heap.size w w' := by
  go_enter Tryd.func9, Tryd.ntmps9
  go_wp2_with (first
    | (go_at_call 13; refine (take_300' _).mono ?_; rintro e w' ⟨rfl, rfl⟩)
    | (go_at_call 14; refine (mul_big _).mono ?_; rintro e w' ⟨rfl, rfl⟩)
    | (go_at_call 15; refine (add_small _).mono ?_; rintro e w' ⟨rfl, rfl⟩)
    | (go_at_call 16; refine (put_300 _).mono ?_; rintro e w' ⟨rfl, hb⟩))
  go_ret
  exact ⟨rfl, hb⟩
end NumWorks
end Go.Proofs.YtalbbkbjfopooaaDoor
