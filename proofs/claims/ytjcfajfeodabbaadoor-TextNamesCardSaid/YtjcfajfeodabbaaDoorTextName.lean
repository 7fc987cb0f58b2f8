/-
  The contracts of text's tests on names, values and tags: each tells whether the text is one, by the document's words; all is left as it was. Conditions: the table holds what the program's text lays (Laid); the text is no longer than a Go string may be.
-/
import Derived.Test.YtjcfajfeodabbaaDoorTextKind
namespace Go.Proofs.YtjcfajfeodabbaaDoor
open Go.ChangeShapes Go.WideShapes Go.ChangeAt Go.RowKit
open TextPure
namespace Text

def codeN (ok : Bool) (c : Int) : Int := if ok then 0 else c

theorem unless_any (ok : Bool) (c : Int) (w : World) :
    Calls Tryd.prog 22 #[.bool ok, .int .i64 c] w fun e w' => e = .returned (.int .i64 (codeN ok c)) ∧ w = w' := by
  cases ok
  all_goals
    go_enter Tryd.func22, Tryd.ntmps22
    go_wp2_with fail
    go_ret
    exact ⟨rfl, rfl⟩

theorem size_list (s : ByteArray) : s.data.toList.length = s.size := by rw [Array.length_toList]; rfl

theorem nameL_false {l : List UInt8} (h : ¬ (1 ≤ l.length ∧ l.length ≤ 16)) : nameL l = false := by
  cases hx : nameL l with
  | false => rfl
  | true => exact absurd (nameL_len hx) h

theorem nameL_eq {l : List UInt8} (h1 : 1 ≤ l.length) (h2 : l.length ≤ 16) : nameL l = (standN 8 (at' l 0) && standN 8 (at' l (l.length - 1)) && allN 4 l) := by
  unfold nameL
  rw [decide_eq_true h1, decide_eq_true h2]
  rfl

theorem list_empty {s : ByteArray} (h : 0 < s.size) : s.toList.isEmpty = false := by
  rw [ByteArray.toList_eq]
  have := size_list s
  cases hl : s.data.toList with
  | nil => rw [hl] at this; simp at this; omega
  | cons a b => rfl

set_option maxRecDepth 100000 in
theorem isName_any (s : ByteArray) (hs : s.size ≤ maxLen) (w : World) (hL : Laid w) :
    Calls Tryd.prog 23 #[.string s] w fun e w' => e = .returned (.bool (nameL s.data.toList)) ∧ w = w' := by
  unfold maxLen at hs
  have HL := Lib.hid hL
  have HN := Lib.hid (size_list s)
  clear hL
  by_cases h0 : s.size = 0
  · obtain rfl : s = ⟨#[]⟩ := by cases s with | mk d => simp [ByteArray.size] at h0; simp [h0]
    go_enter Tryd.func23, Tryd.ntmps23
    go_wp2_with fail
    go_ret
    exact ⟨rfl, rfl⟩
  · have hpos : 0 < s.size := by omega
    have hne := list_empty hpos
    by_cases h16 : s.size ≤ 16
    · have HE := Lib.hid (nameL_eq (l := s.data.toList) (by rw [HN.out]; exact hpos) (by rw [HN.out]; exact h16))
      have HB0 := Lib.hid (at_byte s 0 hpos)
      have HB1 := Lib.hid (at_byte s (s.size - 1) (by omega))
      have hi : (((s.size : Int) - 1).toNat) = s.size - 1 := by omega
      have hlt : s.size - 1 < s.size := by omega
      have hn0 : (0 : Int) ≤ (s.size : Int) - 1 := by omega
      have hn1 : (s.size : Int) - 1 < s.size := by omega
      have hw1 : IntKind.i64.wrap ((s.size : Int) - 1) = (s.size : Int) - 1 := IntWalk.i64_in _ (by omega)
      go_enter Tryd.func23, Tryd.ntmps23
      go_wp2_with fail
      refine (may_any s[0].toNat 8 s[0].toNat_lt (by omega) _ HL.out).mono ?_
      rintro e w' ⟨rfl, rfl⟩
      rw [HN.out, ← HB0.out, ← HB1.out] at HE
      cases hb0 : standN 8 s[0].toNat with
      | false =>
        go_wp2_with fail
        go_ret
        exact ⟨by rw [HE.out, hb0]; rfl, rfl⟩
      | true =>
        go_wp2_with fail
        refine (may_any s[s.size - 1].toNat 8 s[s.size - 1].toNat_lt (by omega) _ HL.out).mono ?_
        rintro e w' ⟨rfl, rfl⟩
        cases hb1 : standN 8 s[s.size - 1].toNat with
        | false =>
          go_wp2_with fail
          go_ret
          exact ⟨by rw [HE.out, hb0, hb1]; rfl, rfl⟩
        | true =>
          go_wp2_with fail
          refine (all_any s 4 (by omega) (by omega) _ HL.out).mono ?_
          rintro e w' ⟨rfl, rfl⟩
          go_wp2_with fail
          go_ret
          exact ⟨by rw [HE.out, hb0, hb1]; rfl, rfl⟩
    · have hgt : (16 : Int) < s.size := by omega
      go_enter Tryd.func23, Tryd.ntmps23
      go_wp2_with fail
      go_ret
      exact ⟨by rw [nameL_false (by rw [HN.out]; omega)]; rfl, rfl⟩

theorem valL_eq (l : List UInt8) : valL l = (decide (l.length ≤ 16) && allN 1 l) := rfl
theorem tagL_eq (l : List UInt8) : tagL l = (decide (1 ≤ l.length) && decide (l.length ≤ 8) && allN 2 l) := rfl

set_option maxRecDepth 100000 in
theorem isVal_any (s : ByteArray) (hs : s.size ≤ maxLen) (w : World) (hL : Laid w) :
    Calls Tryd.prog 25 #[.string s] w fun e w' => e = .returned (.bool (valL s.data.toList)) ∧ w = w' := by
  unfold maxLen at hs
  have HL := Lib.hid hL
  have HN := Lib.hid (size_list s)
  clear hL
  have HE := Lib.hid (valL_eq s.data.toList)
  rw [HN.out] at HE
  by_cases h16 : s.size ≤ 16
  · have hgt : (s.size : Int) ≤ 16 := by omega
    go_enter Tryd.func25, Tryd.ntmps25
    go_wp2_with fail
    refine (all_any s 1 (by omega) (by omega) _ HL.out).mono ?_
    rintro e w' ⟨rfl, rfl⟩
    go_wp2_with fail
    go_ret
    exact ⟨by rw [HE.out, decide_eq_true h16]; rfl, rfl⟩
  · have hgt : ¬ (s.size : Int) ≤ 16 := by omega
    go_enter Tryd.func25, Tryd.ntmps25
    go_wp2_with fail
    go_ret
    exact ⟨by rw [HE.out, decide_eq_false h16]; rfl, rfl⟩

set_option maxRecDepth 100000 in
theorem isTag_any (s : ByteArray) (hs : s.size ≤ maxLen) (w : World) (hL : Laid w) :
    Calls Tryd.prog 32 #[.string s] w fun e w' => e = .returned (.bool (tagL s.data.toList)) ∧ w = w' := by
  unfold maxLen at hs
  have HL := Lib.hid hL
  have HN := Lib.hid (size_list s)
  clear hL
  have HE := Lib.hid (tagL_eq s.data.toList)
  rw [HN.out] at HE
  by_cases h0 : s.size = 0
  · obtain rfl : s = ⟨#[]⟩ := by cases s with | mk d => simp [ByteArray.size] at h0; simp [h0]
    go_enter Tryd.func32, Tryd.ntmps32
    go_wp2_with fail
    go_ret
    exact ⟨rfl, rfl⟩
  · have hpos : 0 < s.size := by omega
    have hne := list_empty hpos
    by_cases h16 : s.size ≤ 8
    · have hgt : (s.size : Int) ≤ 8 := by omega
      go_enter Tryd.func32, Tryd.ntmps32
      go_wp2_with fail
      refine (all_any s 2 (by omega) (by omega) _ HL.out).mono ?_
      rintro e w' ⟨rfl, rfl⟩
      go_wp2_with fail
      go_ret
      exact ⟨by rw [HE.out, decide_eq_true h16, decide_eq_true (show 1 ≤ s.size by omega)]; rfl, rfl⟩
    · have hgt : ¬ (s.size : Int) ≤ 8 := by omega
      go_enter Tryd.func32, Tryd.ntmps32
      go_wp2_with fail
      go_ret
      exact ⟨by rw [HE.out, decide_eq_false h16, Bool.and_false]; rfl, rfl⟩
end Text
end Go.Proofs.YtjcfajfeodabbaaDoor
