/-
  The contract of num.Mul: it returns the product and true if that fits 64 bits, else 0 and false, and leaves the world alone. Condition: both arguments are 64-bit integers.
-/
import Derived.Test.YtalbbkbjfopooaaDoorChecked
import Derived.Test.YtalbbkbjfopooaaDoorNumMath
import Derived.WalkKit
import Derived.ProofKit
import Derived.Lib.Hide
namespace Go.Proofs.YtalbbkbjfopooaaDoor
open Go.ChangeShapes Go.WideShapes Go.ChangeAt Go.RowKit
open NumMath
namespace NumMul

theorem mul_any (a b : Int) (w : World) (ha : fits a = true) (hb : fits b = true) :
    Calls Tryd.prog 14 #[.int .i64 a, .int .i64 b] w fun e w' => e = .returned (.tuple #[.int .i64 (val (a * b)), .bool (fits (a * b))]) ∧ w = w' := by
  have hA := fits_iff.1 ha
  have hB := fits_iff.1 hb
  by_cases h0 : b = 0
  · subst h0
    rw [Int.mul_zero]
    have e1 : fits 0 = true := fits_yes (by omega) (by omega)
    rw [val_yes e1, e1]
    clear e1 ha hb
    go_enter Tryd.func14, Tryd.ntmps14
    go_wp2
    go_ret2
    exact ⟨rfl, rfl⟩
  · by_cases hm : a = -9223372036854775808 ∧ b = -1
    · obtain ⟨rfl, rfl⟩ := hm
      have e1 : fits (-9223372036854775808 * -1) = false := fits_no (by omega)
      rw [val_no e1, e1]
      clear e1 ha hb h0 hA hB
      go_enter Tryd.func14, Tryd.ntmps14
      go_wp2
      go_ret2
      exact ⟨rfl, rfl⟩
    · have hchk := mul_check ha hb h0 hm
      have e0 : (b == 0) = false := beq_eq_false_iff_ne.2 h0
      have e1 : ((a == -9223372036854775808) = false) ∨ ((a == -9223372036854775808) = true ∧ (b == -1) = false) := by
        by_cases hm1 : a = -9223372036854775808
        · exact .inr ⟨beq_iff_eq.2 hm1, beq_eq_false_iff_ne.2 (fun h => hm ⟨hm1, h⟩)⟩
        · exact .inl (beq_eq_false_iff_ne.2 hm1)
      by_cases hc : fits (a * b) = true
      · rw [val_yes hc, hc]
        have hd : (wrap64 ((wrap64 (a * b)).tdiv b) != a) = false := by
          rw [bne_eq_false_iff_eq]; exact hchk.2 hc
        have H := Lib.hid (wrap_fits hc)
        clear ha hb hc hchk hm
        rcases e1 with e1 | ⟨e1, e2⟩
        all_goals
          go_enter Tryd.func14, Tryd.ntmps14
          go_wp2
          go_ret2
          exact ⟨congrArg (fun n => Ending.returned (.tuple #[.int .i64 n, .bool true])) H.out, rfl⟩
      · have hc' : fits (a * b) = false := by simpa using hc
        rw [val_no hc', hc']
        have hd : (wrap64 ((wrap64 (a * b)).tdiv b) != a) = true := by
          rw [bne_iff_ne]; exact fun h => hc (hchk.1 h)
        clear ha hb hc hchk hm hc'
        rcases e1 with e1 | ⟨e1, e2⟩
        all_goals
          go_enter Tryd.func14, Tryd.ntmps14
          go_wp2
          go_ret2
          exact ⟨rfl, rfl⟩

end NumMul
end Go.Proofs.YtalbbkbjfopooaaDoor
