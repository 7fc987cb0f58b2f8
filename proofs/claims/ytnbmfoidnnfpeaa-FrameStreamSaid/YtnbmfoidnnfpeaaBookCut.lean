/-
  The contracts of the laws' own helpers Cut and Below: a text of at most so many bytes; a number from 0 to below another. Condition: the other is a length.
-/
import Derived.Test.YtnbmfoidnnfpeaaChecked
import Derived.Test.YtnbmfoidnnfpeaaKit
import Derived.WalkKit
import Derived.ProofKit
import Derived.Lib.Hide
import Derived.IntWalk
import Derived.OpenShut
namespace Go.Proofs.Ytnbmfoidnnfpeaa
open Go.ChangeShapes Go.WideShapes Go.ChangeAt Go.RowKit
namespace Book

/-- a text, cut -/
def cutB (n : Nat) (s : ByteArray) : ByteArray := if n < s.size then s.extract 0 n else s
theorem cutB_size (n : Nat) (s : ByteArray) : (cutB n s).size ≤ n := by
  unfold cutB
  split
  · rw [ByteArray.size_extract]; omega
  · omega

theorem cut_any (s : ByteArray) (n : Nat) (hn : n ≤ maxLen) (w : World) :
    Calls Try.prog 10 #[.string s, .int .i64 n] w fun e w' => e = .returned (.string (cutB n s)) ∧ w = w' := by
  unfold maxLen at hn
  by_cases h : n < s.size
  · have E := Lib.hid (show s.extract 0 n = cutB n s by unfold cutB; rw [if_pos h])
    go_enter Try.func10, Try.ntmps10
    go_wp2
    go_ret
    exact ⟨congrArg (fun x => Ending.returned (.string x)) E.out, rfl⟩
  · have E := Lib.hid (show s = cutB n s by unfold cutB; rw [if_neg h])
    go_enter Try.func10, Try.ntmps10
    go_wp2
    go_ret
    exact ⟨congrArg (fun x => Ending.returned (.string x)) E.out, rfl⟩

theorem below_any (x : Int) (m : Nat) (hm : 0 < m) (hm2 : m ≤ 1000000000) (w : World) :
    Calls Try.prog 11 #[.int .i64 x, .int .i64 m] w fun e w' => (∃ b : Nat, b < m ∧ e = .returned (.int .i64 b)) ∧ w = w' := by
  obtain ⟨t, ht⟩ : ∃ t, Int.tmod x m = t := ⟨_, rfl⟩
  have h1 : -(m : Int) < t := by rw [← ht]; exact Int.lt_tmod_of_pos x (by omega)
  have h2 : t < m := by rw [← ht]; exact Int.tmod_lt_of_pos x (by omega)
  have hz : ((m : Int) == 0) = false := by simp; omega
  by_cases h0 : t < 0
  · obtain ⟨b, hb⟩ := Int.eq_ofNat_of_zero_le (show 0 ≤ t + m by omega)
    have HB := Lib.hid (show b < m by omega)
    have HE := Lib.hid hb
    clear hb
    go_enter Try.func11, Try.ntmps11
    go_wp2
    go_ret
    exact ⟨⟨b, HB.out, congrArg (fun x => Ending.returned (.int .i64 x)) HE.out⟩, rfl⟩
  · obtain ⟨b, rfl⟩ := Int.eq_ofNat_of_zero_le (show 0 ≤ t by omega)
    go_enter Try.func11, Try.ntmps11
    go_wp2
    go_ret
    exact ⟨⟨b, by omega, rfl⟩, rfl⟩
end Book
end Go.Proofs.Ytnbmfoidnnfpeaa
