/-
  The contract of provostbook.SameTexts at two lists that hold the same texts: true; all that was there is left as it was. Conditions: the lists hold those texts; there are fewer than 2^63 of them.
-/
import Derived.Test.YtikaghinkpcknaaDoorErr
import Derived.Deep.QuietTactic
import Derived.BigQuiet
namespace Go.Proofs.YtikaghinkpcknaaDoor
open Go.RowKit
namespace Err

theorem same_texts (A B : Option Addr) (c d : Nat) (xs : List ByteArray) (w : World) (hA : Texts w A xs) (hB : Texts w B xs) (hn : xs.length ≤ 9223372036854775806) :
    Calls Tryd.prog 14 #[.slice A xs.length c, .slice B xs.length d] w fun e w' => e = .returned (.bool true) ∧ Below w.heap.size w w' := by
  have HA := Lib.hid hA
  have HB := Lib.hid hB
  clear hA hB
  have hl : ((xs.length : Int) == (xs.length : Int)) = true := beq_self_eq_true _
  go_enter Tryd.func14, Tryd.ntmps14
  go_wp2
  go_loopw [5, 6] (fun s i wl => ∃ k m : Nat, k ≤ xs.length ∧ s = .bool true ∧ i = .int .i64 k ∧ wl = w.drewN m) (fun _ i _ => xs.length - (intOf i).toNat)
  case atStart => exact ⟨0, 0, Nat.zero_le _, rfl, rfl, rfl⟩
  case round =>
    obtain ⟨k, m, hk, rfl, rfl, rfl⟩ := hrel
    by_cases hlt : k < xs.length
    · obtain ⟨a, rfl, ha⟩ := HA.out k xs[k] (List.getElem?_eq_getElem hlt)
      obtain ⟨b, rfl, hb⟩ := HB.out k xs[k] (List.getElem?_eq_getElem hlt)
      have h1 : decide ((k : Int) < (xs.length : Int)) = true := decide_eq_true (by omega)
      have h2 : (0 : Int) ≤ k ∧ (k : Int) < (xs.length : Int) := ⟨by omega, by omega⟩
      go_wp2_with fail
      go_quiet (fail)
      all_goals
        go_wp2_with fail
        go_roundw
        case rel => exact ⟨k + 1, m + nq, by omega, by simp, by go_num, by simp⟩
        case measure => simp [intOf]; omega
    · have h1 : decide ((k : Int) < (xs.length : Int)) = false := decide_eq_false (by omega)
      go_wp2
      go_ret
      exact ⟨rfl, Kit.below_drewN _ _ _⟩
end Err
end Go.Proofs.YtikaghinkpcknaaDoor
