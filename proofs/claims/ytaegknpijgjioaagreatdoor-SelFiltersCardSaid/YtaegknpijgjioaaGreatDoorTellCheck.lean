/-
  The contracts of package tell's own tests: which pods, replies, events and messages may be. All that was there is left as it was. Condition: what is tested is not too much.
-/
import Derived.Test.YtaegknpijgjioaaGreatDoorTellData
import Derived.Test.YtaegknpijgjioaaGreatDoorSpecSameAll
import Derived.Test.YtaegknpijgjioaaGreatDoorSpecMine
set_option linter.unusedVariables false
set_option linter.unusedSimpArgs false
namespace Go.Proofs.YtaegknpijgjioaaGreatDoor
open Go.ChangeShapes Go.WideShapes Go.ChangeAt Go.RowKit Go.Lib
open LebMath WirePure Sd Wire SpecOwn SpecRef Book Pk
namespace Tl

/-- a pod that is not too much -/
structure LightP (p : Pd) : Prop where
  spec : Book.Light p.spec
  rs : p.rs.length ≤ 20
structure LightR (y : Rp) : Prop where
  data : y.data.size ≤ 300
  np : y.pods.length ≤ 20
  nu : y.use.length ≤ 20
  pods : ∀ p ∈ y.pods, LightP p
structure LightM (m : Mg) : Prop where
  reply : LightR m.reply
  pod : LightP m.event.pod
theorem text_empty (s : ByteArray) : s.toList.isEmpty = decide (s = ⟨#[]⟩) := by
  by_cases h : s = ⟨#[]⟩
  · subst h; rw [text_nil (show (⟨#[]⟩ : ByteArray).size = 0 from rfl)]; simp
  · rw [decide_eq_false h, text_some (fun h0 => h (ByteArray.ext (Array.eq_empty_of_size_eq_zero h0)))]
theorem len_zero (n : Nat) : ((n : Int) == 0) = decide (n = 0) := by
  by_cases h : n = 0
  · subst h; rfl
  · rw [decide_eq_false h, beq_eq_false_iff_ne]; omega
theorem len_eq (n m : Nat) : ((n : Int) == (m : Int)) = decide (n = m) := by
  by_cases h : n = m
  · subst h; simp
  · rw [decide_eq_false h, beq_eq_false_iff_ne]; omega
theorem le_32 (n : Nat) : decide ((n : Int) ≤ 32) = decide (n ≤ 32) := by
  have : ((n : Int) ≤ 32) ↔ n ≤ 32 := by omega
  simp only [this]
theorem le_16 (n : Nat) : decide ((n : Int) ≤ 16) = decide (n ≤ 16) := by
  have : ((n : Int) ≤ 16) ↔ n ≤ 16 := by omega
  simp only [this]
theorem le_4 (n : Nat) : decide ((n : Int) ≤ 4) = decide (n ≤ 4) := by
  have : ((n : Int) ≤ 4) ↔ n ≤ 4 := by omega
  simp only [this]
theorem rev_zero (n : Nat) : ((n : Int) == 0) = (n == 0) := by
  rw [len_zero]
  rfl
theorem zs_in (w : World) : zeroS.In w none 0 none 0 none 0 :=
  ⟨fun k x hk => by simp [zeroS] at hk, fun k x hk => by simp [zeroS] at hk, fun k x hk => by simp [zeroS] at hk, by simp [zeroS], by simp [zeroS], by simp [zeroS], by unfold I64 zeroS; decide, by unfold I64 zeroS; decide, by unfold I64 zeroS; decide⟩
theorem all_next {α : Type} (f : α → Bool) (l : List α) (k : Nat) (hk : k < l.length) (h : (l.take k).all f = true) : f l[k] = true → (l.take (k + 1)).all f = true := by
  intro h1
  rw [List.take_succ_eq_append_getElem hk, List.all_append, h]
  simp [h1]
theorem all_not {α : Type} (f : α → Bool) (l : List α) (k : Nat) (hk : k < l.length) : f l[k] = false → l.all f = false := by
  intro h1
  rw [List.all_eq_false]
  exact ⟨l[k], List.getElem_mem hk, by rw [h1]; decide⟩
end Tl
end Go.Proofs.YtaegknpijgjioaaGreatDoor
