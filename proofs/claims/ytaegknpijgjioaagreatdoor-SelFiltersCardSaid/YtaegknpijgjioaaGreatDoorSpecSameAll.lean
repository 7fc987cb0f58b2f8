/-
  The contracts of slices.Equal on labels and of spec.Same: whether labels, whether specs are the same. All that was there is left as it was. No condition.
-/
import Derived.Test.YtaegknpijgjioaaGreatDoorSpecSameG
namespace Go.Proofs.YtaegknpijgjioaaGreatDoor
open Go.ChangeShapes Go.WideShapes Go.ChangeAt Go.RowKit Go.Lib
open Sd Lists Book
namespace SpecOwn

theorem neq_label (x y : Lbl) (v : World) : (binOp BinOp.neq 49 (.agg #[.string x.key, .string x.val]) (.agg #[.string y.key, .string y.val])).run Tryz.prog v = .ok (.bool (!sameL x y)) v := by
  have h := eql_label x y v
  simp only [binOp, Sem.run_bind] at h ⊢
  cases hq : (Op.equal 49 (.agg #[.string x.key, .string x.val]) (.agg #[.string y.key, .string y.val])).run Tryz.prog v with
  | ok b w' =>
    rw [hq] at h
    simp at h ⊢
    obtain ⟨rfl, rfl⟩ := h
    simp
  | _ => rw [hq] at h; simp at h
end SpecOwn
end Go.Proofs.YtaegknpijgjioaaGreatDoor
