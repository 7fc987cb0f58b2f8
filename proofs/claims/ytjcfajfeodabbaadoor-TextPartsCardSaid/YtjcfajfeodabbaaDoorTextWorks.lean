/-
  The contract of the statements' own examples of layer 3 (works): they hold, and all that was there is left as it was. Condition: the table and internal/bytealg.MaxLen hold what they may (Laid).
-/
import Derived.Test.YtjcfajfeodabbaaDoorTextDoor
namespace Go.Proofs.YtjcfajfeodabbaaDoor
open Go.ChangeShapes Go.WideShapes Go.ChangeAt Go.RowKit
open TextPure
namespace Text

theorem name_is (s : ByteArray) (c : Int) (hs : s.size ≤ 100) (hc : codeN (nameL s.data.toList) 30 = c) (w : World) (hL : Laid w) :
    Calls Tryd.prog 9 #[.string s] w fun e w' => e = .returned (.int .i64 c) ∧ w = w' := by
  subst hc
  exact name_any s (by unfold maxLen; omega) w hL
theorem val_is (s : ByteArray) (c : Int) (hs : s.size ≤ 100) (hc : codeN (valL s.data.toList) 32 = c) (w : World) (hL : Laid w) :
    Calls Tryd.prog 14 #[.string s] w fun e w' => e = .returned (.int .i64 c) ∧ w = w' := by
  subst hc
  exact val_any s (by unfold maxLen; omega) w hL
theorem key_is (s : ByteArray) (c : Int) (hs : s.size ≤ 100) (hc : codeN (keyL s.data.toList) 31 = c) (w : World) (hL : Laid w) :
    Calls Tryd.prog 12 #[.string s] w fun e w' => e = .returned (.int .i64 c) ∧ Below w.heap.size w w' := by
  subst hc
  exact key_any s (by omega) w hL
theorem image_is (s : ByteArray) (c : Int) (hs : s.size ≤ 100) (hc : codeN (imageB s) 33 = c) (w : World) (hL : Laid w) :
    Calls Tryd.prog 16 #[.string s] w fun e w' => e = .returned (.int .i64 c) ∧ Below w.heap.size w w' := by
  subst hc
  exact image_any s (by omega) w hL

theorem split_lib (w : World) (hL : Laid w) : Calls Tryd.prog 17 #[.string ⟨#[108, 105, 98, 47, 119, 101, 98, 58, 49, 46, 48]⟩] w fun e w' =>
    e = .returned (.tuple #[.string ⟨#[108, 105, 98, 47, 119, 101, 98]⟩, .string ⟨#[49, 46, 48]⟩]) ∧ Below w.heap.size w w' := by
  have h := textsplit_any ⟨#[108, 105, 98, 47, 119, 101, 98, 58, 49, 46, 48]⟩ (by decide) w hL
  rw [show repoB ⟨#[108, 105, 98, 47, 119, 101, 98, 58, 49, 46, 48]⟩ = ⟨#[108, 105, 98, 47, 119, 101, 98]⟩ by decide +kernel,
    show tagB' ⟨#[108, 105, 98, 47, 119, 101, 98, 58, 49, 46, 48]⟩ = ⟨#[49, 46, 48]⟩ by decide +kernel] at h
  exact h

set_option maxRecDepth 100000 in
theorem works_any (w : World) (hL : Laid w) : Calls Tryd.prog 7 #[] w fun e w' => e = .returned (.bool true) ∧ Below w.heap.size w w' := by
  have HL := Lib.hid hL
  clear hL
  go_enter Tryd.func7, Tryd.ntmps7
  go_wp2_with fail
  refine (split_lib _ HL.out).mono ?_
  rintro e w1 ⟨rfl, hb⟩
  have HB := Lib.hid hb
  have HL1 := Lib.hid (HL.out.below hb)
  clear hb HL
  go_wp2_with fail
  refine (name_is _ 0 (by decide) (by decide +kernel) _ HL1.out).mono ?_
  rintro e w' ⟨rfl, rfl⟩
  go_wp2_with fail
  refine (name_is _ 30 (by decide) (by decide +kernel) _ HL1.out).mono ?_
  rintro e w' ⟨rfl, rfl⟩
  go_wp2_with fail
  refine (image_is _ 0 (by decide) (by decide +kernel) _ HL1.out).mono ?_
  rintro e w2 ⟨rfl, hb⟩
  have HB2 := Lib.hid (HB.out.trans (hb.mono HB.out.size))
  have HL2 := Lib.hid (HL1.out.below hb)
  clear hb HB HL1
  go_wp2_with fail
  refine (image_is _ 33 (by decide) (by decide +kernel) _ HL2.out).mono ?_
  rintro e w3 ⟨rfl, hb⟩
  have HB3 := Lib.hid (HB2.out.trans (hb.mono HB2.out.size))
  have HL3 := Lib.hid (HL2.out.below hb)
  clear hb HB2 HL2
  go_wp2_with fail
  refine (key_is _ 0 (by decide) (by decide +kernel) _ HL3.out).mono ?_
  rintro e w4 ⟨rfl, hb⟩
  have HB4 := Lib.hid (HB3.out.trans (hb.mono HB3.out.size))
  have HL4 := Lib.hid (HL3.out.below hb)
  clear hb HB3 HL3
  go_wp2_with fail
  refine (val_is _ 0 (by decide) (by decide +kernel) _ HL4.out).mono ?_
  rintro e w' ⟨rfl, rfl⟩
  go_wp2_with fail
  go_ret
  exact ⟨rfl, HB4.out⟩
end Text
end Go.Proofs.YtjcfajfeodabbaaDoor
