/-
  The chapter's example of package rev holds. Condition: strconv's table of powers holds what the program's text lays (Tab).
-/
import Derived.Test.YtlccfflkefmolaaDoorRevBox
import Derived.Test.YtlccfflkefmolaaDoorRevDoor
namespace Go.Proofs.YtlccfflkefmolaaDoor
open Go.ChangeShapes Go.WideShapes Go.ChangeAt Go.RowKit Go.Sort
open Go.Lib
namespace Rv
open Fu

theorem dec120 : decDigits 120 = [49, 50, 48] := by decide +kernel

set_option maxRecDepth 20000 in
theorem works_any (w : World) (hT : Tab w) :
    Calls Tryd.prog 11 #[] w fun e w' => e = .returned (.bool true) ∧ Below w.heap.size w w' := by
  have HT := Lib.hid hT
  clear hT
  go_enter Tryd.func11, Tryd.ntmps11
  go_wp2_with fail
  refine (new_any 2 _).mono ?_
  rintro e w1 ⟨rfl, hR1, hb1⟩
  have B1 := Lib.hid hb1
  have R1 := Lib.hid hR1
  clear hR1 hb1
  go_wp2_with fail
  refine (next_any _ _ _ _ R1.out (by omega) (by omega)).mono ?_
  rintro e w2 ⟨rfl, hR2, hb2⟩
  have R2 := Lib.hid hR2
  have B2 := Lib.hid (B1.out.trans hb2)
  clear hR2 hb2 R1 B1
  go_wp2_with fail
  refine (next_any _ _ _ _ R2.out (by decide) (by omega)).mono ?_
  rintro e w3 ⟨rfl, hR3, hb3⟩
  have R3 := Lib.hid hR3
  have B3 := Lib.hid (B2.out.trans hb3)
  clear hR3 hb3 R2 B2
  go_wp2_with fail
  refine (next_any _ _ _ _ R3.out (by decide) (by omega)).mono ?_
  rintro e w4 ⟨rfl, hR4, hb4⟩
  have B4 := Lib.hid (B3.out.trans hb4)
  clear hR4 hb4 R3 B3
  go_wp2_with fail
  refine (text_any 120 _ (by omega) (HT.out.below B4.out)).mono ?_
  rw [dec120]
  rintro e w5 ⟨rfl, hb5⟩
  go_wp2_with fail
  go_ret
  exact ⟨rfl, B4.out.trans (hb5.mono B4.out.size)⟩
end Rv
end Go.Proofs.YtlccfflkefmolaaDoor
