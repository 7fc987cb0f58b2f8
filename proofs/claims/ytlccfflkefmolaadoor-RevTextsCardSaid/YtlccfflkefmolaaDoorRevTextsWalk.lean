/-
  The walk of the law RevTexts: it returns true, and leaves all that was there as it was. Conditions: strconv's variables hold what the program's text lays (Laid); the text is within the form's reach.
-/
import Derived.Test.YtlccfflkefmolaaDoorRevWorks
import Derived.Test.YtlccfflkefmolaaDoorRevParse
import Derived.Test.YtlccfflkefmolaaDoorRevRef
namespace Go.Proofs.YtlccfflkefmolaaDoor.RevTextsWalk
open Go.ChangeShapes Go.WideShapes Go.ChangeAt Go.RowKit
open TextMath Go.Lib RevMath Rv

theorem bounds_u64 {n : Int} (h : (Lit.int .u64 n).wf = true) : 0 ≤ n ∧ n < 18446744073709551616 := by
  simp only [Lit.wf, IntKind.min, IntKind.max, Bool.and_eq_true] at h
  simp [IntKind.signed, IntKind.bits] at h
  omega

set_option maxRecDepth 20000 in
theorem walk (n : Int) (s : ByteArray) (w0 : (Lit.int .u64 n).wf = true) (w1 : s.size ≤ maxLen) (z1 : s.size ≤ 140737488351232) (w : World) (hL : Laid w) :
    Calls Tryd.prog 4 #[.int .u64 n, .string s] w fun e w' => e = .returned (.bool true) ∧ Below w.heap.size w w' := by
  have hn := bounds_u64 w0
  obtain ⟨u, rfl⟩ : ∃ u : Nat, n = u := ⟨n.toNat, by omega⟩
  have hu : u < 18446744073709551616 := by omega
  have W1 := Lib.hid w1
  have HL := Lib.hid hL
  obtain ⟨V, hV⟩ : ∃ V, revV s.data.toList = V := ⟨_, rfl⟩
  have HV := Lib.hid hV
  clear w0 w1 hL hn hV
  go_enter Tryd.func4, Tryd.ntmps4
  go_wp2_with fail
  refine (parse_any s _ z1 HL.out).mono ?_
  rw [HV.out]
  rintro e w1 ⟨rfl, hb1⟩
  have B1 := Lib.hid hb1
  clear hb1
  go_wp2_with fail
  refine (refparse_any s _ W1.out).mono ?_
  rw [HV.out]
  rintro e w2 ⟨rfl, hb2⟩
  have B2 := Lib.hid (B1.out.trans (hb2.mono B1.out.size))
  clear hb2 B1
  go_wp2_with fail
  refine (text_any u _ hu (HL.out.below B2.out).tab).mono ?_
  rintro e w3 ⟨rfl, hb3⟩
  have B3 := Lib.hid (B2.out.trans (hb3.mono B2.out.size))
  clear hb3 B2
  go_wp2_with fail
  refine (parse_any ⟨(decDigits u).toArray⟩ _ (by show (decDigits u).toArray.size ≤ _; rw [List.size_toArray, decDigits_length]; have := nDigits_le20 u hu; omega) (HL.out.below B3.out)).mono ?_
  rw [show revV (ByteArray.mk (decDigits u).toArray).data.toList = (u, true) from revV_text hu]
  rintro e w4 ⟨rfl, hb4⟩
  have B4 := Lib.hid (B3.out.trans (hb4.mono B3.out.size))
  clear hb4 B3
  go_wp2_with fail
  refine (text_any u _ hu (HL.out.below B4.out).tab).mono ?_
  rintro e w5 ⟨rfl, hb5⟩
  have B5 := Lib.hid (B4.out.trans (hb5.mono B4.out.size))
  clear hb5 B4
  go_wp2_with fail
  refine (reftext_any u _ hu).mono ?_
  rintro e w6 ⟨rfl, hb6⟩
  have B6 := Lib.hid (B5.out.trans (hb6.mono B5.out.size))
  clear hb6 B5
  go_wp2_with fail
  refine (works_any _ (HL.out.below B6.out).tab).mono ?_
  rintro e w7 ⟨rfl, hb7⟩
  go_wp2_with fail
  go_ret
  exact ⟨rfl, B6.out.trans (hb7.mono B6.out.size)⟩
end Go.Proofs.YtlccfflkefmolaaDoor.RevTextsWalk
