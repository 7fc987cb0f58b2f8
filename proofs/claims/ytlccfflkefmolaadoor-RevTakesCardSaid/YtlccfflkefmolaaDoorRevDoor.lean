/-
  The contracts of rev.Text and rev.Parse: a number's decimal digits; the number of 64 bits whose text it is, and true, else 0 and false. Conditions: strconv's table of powers and its two errors hold what the program's text lays (Tab, Errs), and the text is within the form's reach.
-/
import Derived.Test.YtlccfflkefmolaaDoorFormatUint
import Derived.Test.YtlccfflkefmolaaDoorRevMath
import Derived.WalkSpells
import Derived.LaidEql
namespace Go.Proofs.YtlccfflkefmolaaDoor
open Go.ChangeShapes Go.WideShapes Go.ChangeAt Go.RowKit Go.Sort
open Go.Lib TextMath RevMath
namespace Rv
open Fu

theorem text_any (u : Nat) (w : World) (h : u < 18446744073709551616) (hT : Tab w) :
    Calls Tryd.prog 14 #[.int .u64 u] w fun e w' => e = .returned (.string ⟨(decDigits u).toArray⟩) ∧ Below w.heap.size w w' := by
  go_enter Tryd.func14, Tryd.ntmps14
  go_wp2_with fail
  refine (format_any u _ h hT).mono ?_
  rintro e w' ⟨rfl, hb⟩
  go_wp2_with fail
  go_ret
  exact ⟨rfl, hb⟩
end Rv
end Go.Proofs.YtlccfflkefmolaaDoor
