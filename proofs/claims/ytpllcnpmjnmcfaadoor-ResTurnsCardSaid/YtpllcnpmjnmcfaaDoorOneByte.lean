/-
  A text of one byte out of a slice of one, and such a text ahead of another. Condition: the byte's cell holds it.
-/
import Derived.Test.YtpllcnpmjnmcfaaDoorChecked
import Derived.WalkKit
import Derived.ProofKit
import Derived.Laws.BytesArg
import Derived.Lib.Hide
namespace Go.Proofs.YtpllcnpmjnmcfaaDoor
open Go.ChangeShapes Go.WideShapes Go.ChangeAt Go.RowKit
namespace OneByte

set_option maxRecDepth 100000 in
theorem run_one (v : Int) (c : UInt8) (hv : v = c.toNat) (W : World) (b : Nat) (h : W.cell? ⟨b, 0, none⟩ = some (.int .u8 v)) :
    (convert 79 9 (.slice (some ⟨b, 0, none⟩) 1 1)).run Tryd.prog W = .ok (.string ⟨[c].toArray⟩) W := by
  subst hv
  have := run_convert_bytes_arg (P := Tryd.prog) W 79 5 Tryd.underlying79 Tryd.underlying5 b 0 1 1 [(c.toNat : Int)] (by simp)
    (fun i hi => by
      obtain rfl : i = 0 := by omega
      simpa using h) 9 Tryd.underlying9
  rw [this]
  congr 3
  unfold strOfNums
  simp
theorem ret_cat {c : UInt8} {l m : List UInt8} (h : m = [c] ++ l) : Ending.returned (.string (ByteArray.mk #[c] ++ ByteArray.mk l.toArray)) = .returned (.string ⟨m.toArray⟩) := by
  have e := ByteArray.mk_append_mk [c] l
  rw [h, ← e]
end OneByte
end Go.Proofs.YtpllcnpmjnmcfaaDoor
