/-
  The walk of the law SelTexts: it returns true, and leaves all that was there as it was. Condition: the listed variables hold what the program's text lays (SLaid).
-/
import Derived.Test.YtaegknpijgjioaaGreatDoorSelAll
import Derived.Test.YtaegknpijgjioaaGreatDoorSelRefParse
import Derived.Test.YtaegknpijgjioaaGreatDoorSpecDataAll
set_option linter.unusedVariables false
set_option linter.unusedSimpArgs false
namespace Go.Proofs.YtaegknpijgjioaaGreatDoor.SelTextsWalk
open Go.ChangeShapes Go.WideShapes Go.ChangeAt Go.RowKit Go.Lib
open Sd Lists SpecOwn Book Sl

theorem parse_few {s : List UInt8} : (parseV s).1.length ≤ 4 := by
  by_cases h : (parseV s).2 = 0
  · exact (right_of ((text_parse h).2 ⟨#[]⟩)).few
  · rw [parse_none h]; decide
set_option maxRecDepth 100000 in
set_option maxHeartbeats 4000000 in
theorem walk (A : Option Addr) (c : Nat) (l : List Lbl) (s : ByteArray) (hl : l.length ≤ 9223372036854775807) (w : World) (hL : SLaid w) (hA : Lbls w A l) :
    Calls Tryz.prog 5 #[.slice A l.length c, .string s] w fun e w' => e = .returned (.bool true) ∧ Below w.heap.size w w' := by
  have HL := Lib.hid hL
  have HA := Lib.hid hA
  clear hL hA
  go_enter Tryz.func5, Tryz.ntmps5
  go_wp2_with fail
  refine (lightl_any A c l hl w HA.out).mono ?_
  rintro e w1 ⟨rfl, hb1⟩
  have B1 := Lib.hid hb1
  clear hb1
  cases ga : lightLL l with
  | false =>
    go_wp2_with fail
    refine (works_any w1 (HL.out.below B1.out)).mono ?_
    rintro e w2 ⟨rfl, hb2⟩
    have B2 := Lib.hid (B1.out.trans (hb2.mono B1.out.size))
    clear hb2
    go_wp2_with fail
    go_ret
    exact ⟨rfl, B2.out⟩
  | true =>
    have HSH := Lib.hid (Short.of_light ga)
    clear ga
    by_cases hs : s.size ≤ 2000
    · have hs' : ¬ (2000 : Int) < (s.size : Int) := by omega
      go_wp2_with fail
      refine (parse_any s hs w1 (HL.out.below B1.out)).mono ?_
      rintro e w2 ⟨A2, c2, rfl, hA2, _, hb2⟩
      have B2 := Lib.hid (B1.out.trans (hb2.mono B1.out.size))
      have H2 := Lib.hid hA2
      clear hb2 hA2
      have hfew := parse_few (s := s.data.toList)
      have HPR := Lib.hid (parse_ref s hs w2)
      unfold Parsed at HPR
      obtain ⟨y, hy⟩ : ∃ y, parseV s.data.toList = y := ⟨_, rfl⟩
      rw [hy] at H2 HPR hfew ⊢
      clear hy
      obtain ⟨m, z⟩ := y
      go_wp2_with fail
      refine HPR.out.mono ?_
      rintro e w3 ⟨A3, c3, rfl, hA3, _, hb3⟩
      have B3 := Lib.hid (B2.out.trans (hb3.mono B2.out.size))
      have H3 := Lib.hid hA3
      have H23 := Lib.hid (H2.out.below hb3)
      clear hb3 hA3 HPR H2
      obtain ⟨T, hT⟩ : ∃ T : ByteArray, (⟨(textL l).toArray⟩ : ByteArray) = T := ⟨_, rfl⟩
      have HTX := Lib.hid (text_any A c l HSH.out w3 (HA.out.below B3.out))
      have HTR := Lib.hid (fun w' h => text_ref A c l HSH.out w' (HA.out.below h))
      rw [hT] at HTX HTR
      clear hT
      go_wp2_with fail
      refine HTX.out.mono ?_
      rintro e w4 ⟨rfl, hb4⟩
      have B4 := Lib.hid (B3.out.trans (hb4.mono B3.out.size))
      have HTR4 := Lib.hid (HTR.out w4 B4.out)
      have H34 := Lib.hid (H3.out.below hb4)
      have H24 := Lib.hid (H23.out.below hb4)
      clear hb4 HTX HTR
      go_wp2_with fail
      refine HTR4.out.mono ?_
      rintro e w5 ⟨rfl, hb5⟩
      have B5 := Lib.hid (B4.out.trans (hb5.mono B4.out.size))
      have HSM := Lib.hid (sameLabels_any A2 c2 m A3 c3 m (by show m.length ≤ _; have : m.length ≤ 4 := hfew; omega) (by show m.length ≤ _; have : m.length ≤ 4 := hfew; omega) w5 (H24.out.below hb5) (H34.out.below hb5))
      rw [sameLs_iff.2 rfl] at HSM
      clear hb5 HTR4
      go_wp2_with fail
      refine HSM.out.mono ?_
      rintro e w6 ⟨rfl, hb6⟩
      have B6 := Lib.hid (B5.out.trans (hb6.mono B5.out.size))
      clear hb6 HSM
      go_wp2_with fail
      refine (works_any w6 (HL.out.below B6.out)).mono ?_
      rintro e w7 ⟨rfl, hb7⟩
      have B7 := Lib.hid (B6.out.trans (hb7.mono B6.out.size))
      clear hb7
      go_wp2_with fail
      go_ret
      exact ⟨rfl, B7.out⟩
    · have hs' : (2000 : Int) < (s.size : Int) := by omega
      go_wp2_with fail
      refine (works_any w1 (HL.out.below B1.out)).mono ?_
      rintro e w2 ⟨rfl, hb2⟩
      have B2 := Lib.hid (B1.out.trans (hb2.mono B1.out.size))
      clear hb2
      go_wp2_with fail
      go_ret
      exact ⟨rfl, B2.out⟩
end Go.Proofs.YtaegknpijgjioaaGreatDoor.SelTextsWalk
