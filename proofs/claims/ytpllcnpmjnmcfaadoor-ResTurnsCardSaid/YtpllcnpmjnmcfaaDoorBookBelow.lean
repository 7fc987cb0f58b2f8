/-
  The contract of the laws' own helper Below: a number from 0 to below another. Condition: the other is a length.
-/
import Derived.Test.YtpllcnpmjnmcfaaDoorChecked
import Derived.Test.YtpllcnpmjnmcfaaDoorKit
import Derived.WalkKit
import Derived.ProofKit
import Derived.Lib.Hide
import Derived.IntWalk
import Derived.OpenShut
namespace Go.Proofs.YtpllcnpmjnmcfaaDoor
open Go.ChangeShapes Go.WideShapes Go.ChangeAt Go.RowKit
namespace Book

theorem below_any (x : Int) (m : Nat) (hm : 0 < m) (hm2 : m ≤ 1000000000) (w : World) :
    Calls Tryd.prog 23 #[.int .i64 x, .int .i64 m] w fun e w' => (∃ b : Nat, b < m ∧ e = .returned (.int .i64 b)) ∧ w = w' := by
  obtain ⟨t, ht⟩ : ∃ t, Int.tmod x m = t := ⟨_, rfl⟩
  have h1 : -(m : Int) < t := by rw [← ht]; exact Int.lt_tmod_of_pos x (by omega)
  have h2 : t < m := by rw [← ht]; exact Int.tmod_lt_of_pos x (by omega)
  have hz : ((m : Int) == 0) = false := by simp; omega
  by_cases h0 : t < 0
  · obtain ⟨b, hb⟩ := Int.eq_ofNat_of_zero_le (show 0 ≤ t + m by omega)
    have HB := Lib.hid (show b < m by omega)
    have HE := Lib.hid hb
    clear hb
    go_enter Tryd.func23, Tryd.ntmps23
    go_wp2
    go_ret
    exact ⟨⟨b, HB.out, congrArg (fun x => Ending.returned (.int .i64 x)) HE.out⟩, rfl⟩
  · obtain ⟨b, rfl⟩ := Int.eq_ofNat_of_zero_le (show 0 ≤ t by omega)
    go_enter Tryd.func23, Tryd.ntmps23
    go_wp2
    go_ret
    exact ⟨⟨b, by omega, rfl⟩, rfl⟩
end Book
end Go.Proofs.YtpllcnpmjnmcfaaDoor
