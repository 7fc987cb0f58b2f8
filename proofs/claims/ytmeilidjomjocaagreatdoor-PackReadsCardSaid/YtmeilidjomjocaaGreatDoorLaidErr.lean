/-
  From a row's list of variables to what errors.As asks (errors.errorType holds the type error), and one world that fits the list. Condition: the list, which is errors.errorType alone, is met.
-/
import Derived.Test.YtmeilidjomjocaaGreatDoorRows
import Derived.Test.YtmeilidjomjocaaGreatDoorErrAll
import Derived.LaidLaws
import Derived.LaidHandle
namespace Go.Proofs.YtmeilidjomjocaaGreatDoor
open Go.ChangeShapes Go.WideShapes Go.ChangeAt Go.RowKit
namespace LaidErr

theorem gType : Tryz.prog.globalNamed "errors.errorType" = some 1 := by kernel_rfl
theorem rType : (Tryz.prog.cutTypes.find? (·.1 == "internal/reflectlite.rtype")).map (·.2) = some 224 := by kernel_rfl
theorem oneRow : ((List.range 302).filter fun t => Tryz.prog.rowNamed t [101, 114, 114, 111, 114]) = [40] := by kernel_rfl
theorem nTypes : Tryz.prog.types.size = 302 := by kernel_rfl
theorem handle : typeHandle Tryz.prog 40 = .pointer (some ⟨9, 40, none⟩) := by kernel_rfl

theorem laid_of {W : World} {l : List (String × DataW Unit)} (h : laidMetH Tryz.prog l W) (hm : ("errors.errorType", Rows.laid_errors_errorType) ∈ l) : Err.Laid W := by
  have hin : ("errors.errorType", Rows.laid_errors_errorType) ∈ l.filter fun x => x.2.handleName?.isSome := List.mem_filter.2 ⟨hm, rfl⟩
  unfold laidMetH at h
  split at h
  · rename_i hf; rw [hf] at hin; cases hin
  rename_i x xs hf
  rw [hf] at hin
  obtain ⟨name, u, ty, e1, e2, e3, e4, e5⟩ := h.2 _ hin
  have en : name = [101, 114, 114, 111, 114] := (Option.some.inj e1).symm
  subst en
  obtain rfl := Option.some.inj (rType.symm.trans e2)
  have hty : ty ∈ (List.range 302).filter fun t => Tryz.prog.rowNamed t [101, 114, 114, 111, 114] := List.mem_filter.2 ⟨List.mem_range.2 (by rw [← nTypes]; exact e3), e4⟩
  rw [oneRow] at hty
  obtain rfl := List.mem_singleton.1 hty
  rw [handle] at e5
  unfold Err.Laid
  simpa using World.var?_cell gType e5 0

/-- the settled world, the variable laid -/
noncomputable def laidWorld (os : Os) : World :=
  let w0 := World.holding Tryz.prog os ⟨#[], #[], []⟩
  { w0 with heap := w0.heap.modify 1 fun
      | .cells _ t frozen => .cells #[.iface 224 (.agg #[.pointer (some ⟨9, 40, none⟩)])] t frozen
      | o => o }
end LaidErr
end Go.Proofs.YtmeilidjomjocaaGreatDoor
