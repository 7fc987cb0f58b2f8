/-
  The walk of the law provost/provostlaw03.TextParts: it answers true, and leaves all that was there as it was. Conditions: the table and internal/bytealg.MaxLen hold what they may (Laid); the texts are no longer than a Go string may be.
-/
import Derived.Test.YtjcfajfeodabbaaDoorTextWorks
import Derived.Test.YtjcfajfeodabbaaDoorTextMore
import Derived.Laws.Concat
namespace Go.Proofs.YtjcfajfeodabbaaDoor
open Go.ChangeShapes Go.WideShapes Go.ChangeAt Go.RowKit
open TextPure
namespace Text

theorem same_left {a b : ByteArray} (h : imageB a = false) : sameB a b = false := by unfold sameB; rw [h]; rfl
theorem same_right {a b : ByteArray} (h : imageB b = false) : sameB a b = false := by unfold sameB; rw [h]; simp
theorem repoB_no {s : ByteArray} (h : imageB s = false) : repoB s = ⟨#[]⟩ := by unfold repoB; rw [h]; rfl
theorem tagB_no {s : ByteArray} (h : imageB s = false) : tagB' s = ⟨#[]⟩ := by unfold tagB'; rw [h]; rfl
theorem repoB_size {s : ByteArray} : (repoB s).size ≤ s.size := by
  unfold repoB
  split
  · exact fstB_size s 58
  · exact Nat.zero_le _
theorem tagB_size {s : ByteArray} : (tagB' s).size ≤ s.size := by
  unfold tagB'
  split
  · exact sndB_size s 58
  · exact Nat.zero_le _

set_option maxRecDepth 100000 in
set_option maxHeartbeats 2000000 in
theorem textParts_walk (s t : ByteArray) (hs : s.size ≤ maxLen) (ht : t.size ≤ maxLen) (w : World) (hL : Laid w) :
    Calls Tryd.prog 5 #[.string s, .string t] w fun e w' => e = .returned (.bool true) ∧ Below w.heap.size w w' := by
  have HL := Lib.hid hL
  clear hL
  unfold maxLen at hs ht
  go_enter Tryd.func5, Tryd.ntmps5
  go_wp2_with fail
  refine (works_any _ HL.out).mono ?_
  rintro e w1 ⟨rfl, hb⟩
  have HB1 := Lib.hid hb
  have HL1 := Lib.hid (HL.out.below hb)
  clear hb HL
  by_cases h1 : s.size ≤ 2000
  rotate_left
  · have h' : (2000 : Int) < s.size := by omega
    go_wp2_with fail
    go_ret
    exact ⟨rfl, HB1.out⟩
  have h1' : ¬ (2000 : Int) < s.size := by omega
  by_cases h2 : t.size ≤ 2000
  rotate_left
  · have h' : (2000 : Int) < t.size := by omega
    go_wp2_with fail
    go_ret
    exact ⟨rfl, HB1.out⟩
  have h2' : ¬ (2000 : Int) < t.size := by omega
  go_wp2_with fail
  refine (textsplit_any s (by omega) _ HL1.out).mono ?_
  rintro e w2 ⟨rfl, hb⟩
  have HB2 := Lib.hid (HB1.out.trans (hb.mono HB1.out.size))
  have HL2 := Lib.hid (HL1.out.below hb)
  clear hb HB1 HL1
  go_wp2_with fail
  refine (image_any s (by omega) _ HL2.out).mono ?_
  rintro e w3 ⟨rfl, hb⟩
  have HB3 := Lib.hid (HB2.out.trans (hb.mono HB2.out.size))
  have HL3 := Lib.hid (HL2.out.below hb)
  clear hb HB2 HL2
  cases hi : imageB s with
  | false =>
    have e1 := repoB_no hi
    have e2 := tagB_no hi
    have e3 := same_left (b := t) hi
    have e4 := same_right (a := t) hi
    have e5 : codeN false 33 = 33 := rfl
    go_wp2_with fail
    refine (same_any s t (by omega) (by omega) _ HL3.out).mono ?_
    rintro e w4 ⟨rfl, hb⟩
    have HB4 := Lib.hid (HB3.out.trans (hb.mono HB3.out.size))
    have HL4 := Lib.hid (HL3.out.below hb)
    clear hb HB3 HL3
    go_wp2_with fail
    refine (same_any t s (by omega) (by omega) _ HL4.out).mono ?_
    rintro e w5 ⟨rfl, hb⟩
    have HB5 := Lib.hid (HB4.out.trans (hb.mono HB4.out.size))
    clear hb HB4 HL4
    go_wp2_with fail
    go_ret
    exact ⟨rfl, HB5.out⟩
  | true =>
    have e1 := image_join hi
    have e2 := same_self hi
    have e3 := same_x hi
    have e4 := same_comm s t
    have e5 : codeN true 33 = 0 := rfl
    have z1 := repoB_size (s := s)
    have z2 := tagB_size (s := s)
    have a1 : ∀ v, (Op.stringOp .add (repoB s) ⟨#[58]⟩).run Tryd.prog v = .ok (.string (repoB s ++ ⟨#[58]⟩)) v := fun v => run_string_add_sum v _ _ (by show _ + 1 ≤ _; omega)
    have a2 : ∀ v, (Op.stringOp .add (repoB s ++ ⟨#[58]⟩) (tagB' s)).run Tryd.prog v = .ok (.string (repoB s ++ ⟨#[58]⟩ ++ tagB' s)) v := fun v => run_string_add_sum v _ _ (by rw [ByteArray.size_append]; show _ + 1 + _ ≤ _; omega)
    have a3 : ∀ v, (Op.stringOp .add (repoB s) ⟨#[58, 120]⟩).run Tryd.prog v = .ok (.string (repoB s ++ ⟨#[58, 120]⟩)) v := fun v => run_string_add_sum v _ _ (by show _ + 2 ≤ _; omega)
    have z3 := Lib.hid (show (repoB s ++ ⟨#[58, 120]⟩).size < 4294967281 by rw [ByteArray.size_append]; show _ + 2 < _; omega)
    go_wp2_with fail
    refine (same_any s s (by omega) (by omega) _ HL3.out).mono ?_
    rintro e w4 ⟨rfl, hb⟩
    have HB4 := Lib.hid (HB3.out.trans (hb.mono HB3.out.size))
    have HL4 := Lib.hid (HL3.out.below hb)
    clear hb HB3 HL3
    go_wp2_with fail
    refine (same_any s _ (by omega) ?zz _ HL4.out).mono ?_
    case zz => exact z3.out
    rintro e w5 ⟨rfl, hb⟩
    have HB5 := Lib.hid (HB4.out.trans (hb.mono HB4.out.size))
    have HL5 := Lib.hid (HL4.out.below hb)
    clear hb HB4 HL4
    go_wp2_with fail
    refine (same_any s t (by omega) (by omega) _ HL5.out).mono ?_
    rintro e w6 ⟨rfl, hb⟩
    have HB6 := Lib.hid (HB5.out.trans (hb.mono HB5.out.size))
    have HL6 := Lib.hid (HL5.out.below hb)
    clear hb HB5 HL5
    go_wp2_with fail
    refine (same_any t s (by omega) (by omega) _ HL6.out).mono ?_
    rintro e w7 ⟨rfl, hb⟩
    have HB7 := Lib.hid (HB6.out.trans (hb.mono HB6.out.size))
    clear hb HB6 HL6
    go_wp2_with fail
    go_ret
    exact ⟨rfl, HB7.out⟩
end Text
end Go.Proofs.YtjcfajfeodabbaaDoor
