/-
  The walk of the law NumTexts: it returns true, and leaves all that was there as it was. Conditions: strconv's variables hold what the program's text lays (Laid); the text is within the form's reach.
-/
import Derived.Test.YtalbbkbjfopooaaDoorNumWorks
import Derived.Test.YtalbbkbjfopooaaDoorNumParseDoor
import Derived.Test.YtalbbkbjfopooaaDoorNumRefParse
namespace Go.Proofs.YtalbbkbjfopooaaDoor.NumTextsWalk
open Go.ChangeShapes Go.WideShapes Go.ChangeAt Go.RowKit
open TextMath Go.Lib NumText

theorem walk (n : Int) (s : ByteArray) (most : Int) (w0 : (Lit.int .i64 n).wf = true) (w1 : s.size ≤ maxLen) (w2 : (Lit.int .i64 most).wf = true) (z1 : s.size ≤ 140737488351232) (w : World) (hL : Laid w) :
    Calls Tryd.prog 3 #[.int .i64 n, .string s, .int .i64 most] w fun e w' => e = .returned (.bool true) ∧ Below w.heap.size w w' := by
  have hn := bounds_i64 w0
  have hm := bounds_i64 w2
  have W1 := Lib.hid w1
  have HL := Lib.hid hL
  clear w0 w1 w2 hL
  go_enter Tryd.func3, Tryd.ntmps3
  go_wp2_with fail
  refine (parse_any s most _ z1 HL.out hm.2).mono ?_
  rintro e w1 ⟨rfl, hb1⟩
  go_wp2_with fail
  refine (NumRefParse.refParse_any s most _ W1.out hm.1 hm.2).mono ?_
  rintro e w2 ⟨rfl, hb2⟩
  have h12 := hb1.trans (hb2.mono hb1.size)
  go_wp2_with fail
  refine (text_any n _ hn.1 hn.2 (HL.out.below h12)).mono ?_
  rintro e w3 ⟨rfl, hb3⟩
  have h13 := h12.trans (hb3.mono h12.size)
  go_wp2_with fail
  refine (NumRefText.refText_any n _ hn.1 hn.2).mono ?_
  rintro e w4 ⟨rfl, hb4⟩
  have h14 := h13.trans (hb4.mono h13.size)
  go_wp2_with (go_at_call 9; refine (NumWorks.works_any _).mono ?_; rintro e w5 ⟨rfl, hb5⟩)
  go_ret
  exact ⟨rfl, h14.trans (hb5.mono h14.size)⟩
end Go.Proofs.YtalbbkbjfopooaaDoor.NumTextsWalk
