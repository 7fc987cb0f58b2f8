/-
  The contracts of provostlaw09's own tests: is a pod, a message not too much; OK or ErrShape. All that was there is left as it was. No condition.
-/
import Derived.Test.YtaegknpijgjioaaGreatDoorTellCheck
import Derived.Test.YtaegknpijgjioaaGreatDoorSpecDataAll
set_option linter.unusedVariables false
set_option linter.unusedSimpArgs false
namespace Go.Proofs.YtaegknpijgjioaaGreatDoor
open Go.ChangeShapes Go.WideShapes Go.ChangeAt Go.RowKit Go.Lib
open LebMath WirePure Sd Wire SpecOwn SpecRef Book Pk
namespace Tl
theorem le_20 (n : Nat) : decide ((n : Int) ≤ 20) = decide (n ≤ 20) := by
  have : ((n : Int) ≤ 20) ↔ n ≤ 20 := by omega
  simp only [this]
def lightPB (p : Pd) : Bool := LightB p.spec && decide (p.rs.length ≤ 20)
theorem lightPB_iff {p : Pd} : lightPB p = true ↔ LightP p := by
  unfold lightPB
  rw [Bool.and_eq_true, LightB_iff, decide_eq_true_eq]
  exact ⟨fun h => ⟨h.1, h.2⟩, fun h => ⟨h.spec, h.rs⟩⟩
def lightMB (m : Mg) : Bool := decide (m.reply.data.size ≤ 300) && decide (m.reply.pods.length ≤ 20) && decide (m.reply.use.length ≤ 20) && lightPB m.event.pod && m.reply.pods.all lightPB
theorem lightMB_iff {m : Mg} : lightMB m = true ↔ LightM m := by
  unfold lightMB
  simp only [Bool.and_eq_true, decide_eq_true_eq, lightPB_iff, List.all_eq_true]
  exact ⟨fun ⟨⟨⟨⟨h1, h2⟩, h3⟩, h4⟩, h5⟩ => ⟨⟨h1, h2, h3, h5⟩, h4⟩, fun h => ⟨⟨⟨⟨h.reply.data, h.reply.np⟩, h.reply.nu⟩, h.pod⟩, h.reply.pods⟩⟩
end Tl
end Go.Proofs.YtaegknpijgjioaaGreatDoor
