/-
  The contracts of the document's answers to num.Add and num.Mul: the sum or product and true if that fits 64 bits, else 0 and false; the world is left alone. Condition: both arguments are 64-bit integers.
-/
import Derived.Test.YtpllcnpmjnmcfaaDoorChecked
import Derived.Test.YtpllcnpmjnmcfaaDoorNumMath
import Derived.Test.YtpllcnpmjnmcfaaDoorNumRefSize
import Derived.WalkKit
import Derived.ProofKit
import Derived.Lib.Hide
namespace Go.Proofs.YtpllcnpmjnmcfaaDoor
open Go.ChangeShapes Go.WideShapes Go.ChangeAt Go.RowKit
open NumMath
namespace NumRefArith

theorem refAdd_any (a b : Int) (w : World) (ha : fits a = true) (hb : fits b = true) :
    Calls Tryd.prog 29 #[.int .i64 a, .int .i64 b] w fun e w' => e = .returned (.tuple #[.int .i64 (val (a + b)), .bool (fits (a + b))]) ∧ w = w' := by
  have hA := fits_iff.1 ha
  have hB := fits_iff.1 hb
  by_cases h : -9223372036854775808 ≤ a + b ∧ a + b ≤ 9223372036854775807
  · have hf := fits_yes h.1 h.2
    rw [val_yes hf, hf]
    obtain ⟨h1, h2⟩ := h
    clear ha hb hf
    by_cases hs : b < 0
    all_goals
      go_enter Tryd.func29, Tryd.ntmps29
      go_wp2
      go_ret2
      exact ⟨rfl, rfl⟩
  · have hf : fits (a + b) = false := fits_no (by omega)
    rw [val_no hf, hf]
    clear ha hb hf
    by_cases hs : b < 0
    · have h1 : a + b < -9223372036854775808 := by omega
      clear h
      go_enter Tryd.func29, Tryd.ntmps29
      go_wp2
      go_ret2
      exact ⟨rfl, rfl⟩
    · have h1 : 9223372036854775807 < a + b := by omega
      clear h
      go_enter Tryd.func29, Tryd.ntmps29
      go_wp2
      go_ret2
      exact ⟨rfl, rfl⟩
end NumRefArith
end Go.Proofs.YtpllcnpmjnmcfaaDoor
