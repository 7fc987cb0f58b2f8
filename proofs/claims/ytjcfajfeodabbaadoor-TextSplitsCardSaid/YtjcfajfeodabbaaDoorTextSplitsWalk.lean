/-
  The walk of the law provost/provostlaw03.TextSplits: it answers true, and leaves all that was there as it was. Conditions: the table and internal/bytealg.MaxLen hold what they may (Laid); the texts are no longer than a Go string may be.
-/
import Derived.Test.YtjcfajfeodabbaaDoorTextWorks
import Derived.Test.YtjcfajfeodabbaaDoorTextRefSplit
namespace Go.Proofs.YtjcfajfeodabbaaDoor
open Go.ChangeShapes Go.WideShapes Go.ChangeAt Go.RowKit
open TextPure
namespace Text

theorem repoB_yes {s : ByteArray} (h : imageB s = true) : repoB s = fstB s 58 := by unfold repoB; rw [h]; rfl
theorem sameB_left {a b : ByteArray} (h : imageB a = false) : sameB a b = false := by unfold sameB; rw [h]; rfl
theorem sameB_right {a b : ByteArray} (h : imageB b = false) : sameB a b = false := by unfold sameB; rw [h]; simp
theorem sameB_both {a b : ByteArray} (h : imageB a = true) (h' : imageB b = true) : sameB a b = ((repoB a).toList == (repoB b).toList) := by
  rw [repoB_yes h, repoB_yes h']; unfold sameB; rw [h, h']; rfl

set_option maxRecDepth 100000 in
set_option maxHeartbeats 2000000 in
theorem textSplits_walk (a b : ByteArray) (ha : a.size ≤ maxLen) (hb : b.size ≤ maxLen) (w : World) (hL : Laid w) :
    Calls Tryd.prog 4 #[.string a, .string b] w fun e w' => e = .returned (.bool true) ∧ Below w.heap.size w w' := by
  have HL := Lib.hid hL
  clear hL
  unfold maxLen at ha hb
  by_cases h1 : a.size ≤ 2000
  rotate_left
  · have h' : (2000 : Int) < a.size := by omega
    go_enter Tryd.func4, Tryd.ntmps4
    go_wp2_with fail
    refine (works_any _ HL.out).mono ?_
    rintro e w5 ⟨rfl, hb⟩
    go_wp2_with fail
    go_ret
    exact ⟨rfl, hb⟩
  have h1' : ¬ (2000 : Int) < a.size := by omega
  by_cases h2 : b.size ≤ 2000
  rotate_left
  · have h' : (2000 : Int) < b.size := by omega
    go_enter Tryd.func4, Tryd.ntmps4
    go_wp2_with fail
    refine (works_any _ HL.out).mono ?_
    rintro e w5 ⟨rfl, hb⟩
    go_wp2_with fail
    go_ret
    exact ⟨rfl, hb⟩
  have h2' : ¬ (2000 : Int) < b.size := by omega
  go_enter Tryd.func4, Tryd.ntmps4
  go_wp2_with fail
  refine (textsplit_any a (by omega) _ HL.out).mono ?_
  rintro e w1 ⟨rfl, hb⟩
  have HB1 := Lib.hid hb
  have HL1 := Lib.hid (HL.out.below hb)
  clear hb HL
  go_wp2_with fail
  refine (split_ref a h1 _).mono ?_
  rintro e w2 ⟨rfl, hb⟩
  have HB2 := Lib.hid (HB1.out.trans (hb.mono HB1.out.size))
  have HL2 := Lib.hid (HL1.out.below hb)
  clear hb HB1 HL1
  go_wp2_with fail
  refine (split_ref b h2 _).mono ?_
  rintro e w3 ⟨rfl, hb⟩
  have HB3 := Lib.hid (HB2.out.trans (hb.mono HB2.out.size))
  have HL3 := Lib.hid (HL2.out.below hb)
  clear hb HB2 HL2
  go_wp2_with fail
  refine (same_any a b (by omega) (by omega) _ HL3.out).mono ?_
  rintro e w4 ⟨rfl, hb⟩
  have HB4 := Lib.hid (HB3.out.trans (hb.mono HB3.out.size))
  have HL4 := Lib.hid (HL3.out.below hb)
  clear hb HB3 HL3
  cases hi : imageB a with
  | false =>
    have hsb := sameB_left (b := b) hi
    go_wp2_with fail
    refine (works_any _ HL4.out).mono ?_
    rintro e w5 ⟨rfl, hb⟩
    have HB5 := Lib.hid (HB4.out.trans (hb.mono HB4.out.size))
    clear hb HB4 HL4
    go_wp2_with fail
    go_ret
    exact ⟨rfl, HB5.out⟩
  | true =>
    cases hj : imageB b with
    | false =>
      have hsb := sameB_right (a := a) hj
      go_wp2_with fail
      refine (works_any _ HL4.out).mono ?_
      rintro e w5 ⟨rfl, hb⟩
      have HB5 := Lib.hid (HB4.out.trans (hb.mono HB4.out.size))
      clear hb HB4 HL4
      go_wp2_with fail
      go_ret
      exact ⟨rfl, HB5.out⟩
    | true =>
      have hsb := sameB_both hi hj
      go_wp2_with fail
      refine (works_any _ HL4.out).mono ?_
      rintro e w5 ⟨rfl, hb⟩
      have HB5 := Lib.hid (HB4.out.trans (hb.mono HB4.out.size))
      clear hb HB4 HL4
      go_wp2_with fail
      go_ret
      exact ⟨rfl, HB5.out⟩
end Text
end Go.Proofs.YtjcfajfeodabbaaDoor
