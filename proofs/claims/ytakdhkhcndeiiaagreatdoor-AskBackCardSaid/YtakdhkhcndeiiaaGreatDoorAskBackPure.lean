/-
 The walk of the law AskBack: it returns true, and leaves all that was there as it was. Condition: as AskCheck.
-/
import Derived.Test.YtakdhkhcndeiiaaGreatDoorAskWorks
import Derived.Test.YtakdhkhcndeiiaaGreatDoorAskOfY
import Derived.Test.YtakdhkhcndeiiaaGreatDoorAskSame
set_option linter.unusedVariables false
set_option linter.unusedSimpArgs false
namespace Go.Proofs.YtakdhkhcndeiiaaGreatDoor.AskBackWalk
open Go.ChangeShapes Go.WideShapes Go.ChangeAt Go.RowKit Go.Lib
open LebMath WirePure Sd Wire SpecOwn SpecRef Book Pk Ak

theorem put_len {c : Cal} (h : (checkC c).1 = 0) (hr : c.rev < 18446744073709551616) : (putC c).length ≤ 10 + 3 * 3000000 := by
 obtain ⟨hk, hf, _⟩ := check_fine.1 h
 have h1 : (kindC.put c.kind).length ≤ 10 := int_put_len (show (intC 12 (by decide)).ok c.kind from int_ok (by omega) (by omega))
 have h2 := take_len (c := c) (l := fieldsV c.kind) (fun f hm => checkF_ok (hf f hm) hr)
 have h3 := Nat.mul_le_mul_right 3000000 (fields_len c.kind)
 unfold putC
 rw [List.length_append]
 omega
theorem put_few {c : Cal} (h : (checkC c).1 = 0) (hr : c.rev < 18446744073709551616) : Few (putC c) := by
 have := put_len h hr
 show (putC c).length ≤ 281474976710656
 omega
theorem put_some (c : Cal) : putC c ≠ [] := by
 intro h
 have h1 : kindC.put c.kind = [] := (List.append_eq_nil_iff.1 h).1
 have h2 : leb c.kind.toNat = [] := h1
 have h3 := leb_pos c.kind.toNat
 rw [h2] at h3
 exact absurd h3 (by decide)


end Go.Proofs.YtakdhkhcndeiiaaGreatDoor.AskBackWalk
