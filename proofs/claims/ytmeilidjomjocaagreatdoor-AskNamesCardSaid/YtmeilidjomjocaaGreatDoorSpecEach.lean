/-
  Each container of a list that may be may be by itself. No condition.
-/
import Derived.Test.YtmeilidjomjocaaGreatDoorSpecPartsPure
set_option linter.unusedVariables false
set_option linter.unusedSimpArgs false
namespace Go.Proofs.YtmeilidjomjocaaGreatDoor
open TextPure Sd
namespace SpecOwn

theorem ctrs_each {name : ByteArray} {init : Bool} : ∀ (l : List Ctr) (i : Nat) {a : List Ctr}, (ctrsFrom name init i a l).1 = 0 → ∀ x ∈ l, ∃ a', (oneV x a' init).1 = 0
  | [], _, _, _, x, hx => by cases hx
  | y :: l, i, a, h, x, hx => by
    rw [ctrsFrom] at h
    split at h
    · rename_i h1
      exact absurd h h1
    · rename_i h1
      rcases List.mem_cons.1 hx with rfl | hx
      · exact ⟨a, by simpa using h1⟩
      · exact ctrs_each l (i + 1) h x hx
end SpecOwn
end Go.Proofs.YtmeilidjomjocaaGreatDoor
