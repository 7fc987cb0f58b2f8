/-
  The contract of num.Parse: the number from 0 to most whose text it is, and true, else 0 and false; all that was there is left as it was. Conditions: strconv's variables hold what the program's text lays (Laid); the text is within the form's reach; most is an int.
-/
import Derived.Test.YtalbbkbjfopooaaDoorNumTextDoor
import Derived.WalkSpells
import Derived.LaidEql
namespace Go.Proofs.YtalbbkbjfopooaaDoor
open Go.ChangeShapes Go.WideShapes Go.ChangeAt Go.RowKit Go.Sort
open TextMath Go.Lib
namespace NumText

theorem parse_bad (s : ByteArray) (most : Int) (w : World) (hs : s.size ≤ 140737488351232) (hL : Laid w) (h : ∀ v, atoiAll s.data.toList ≠ .ok v) :
    Calls Tryd.prog 5 #[.string s, .int .i64 most] w fun e w' => e = .returned (.tuple #[.int .i64 0, .bool false]) ∧ Below w.heap.size w w' := by
  have HL := Lib.hid hL
  have H := Lib.hid h
  clear hL h
  go_enter Tryd.func5, Tryd.ntmps5
  go_wp2_with fail
  refine (atoi_bad s _ (by omega) HL.out H.out).mono ?_
  rintro e w1 ⟨⟨n, t, N, rfl⟩, hb⟩
  go_wp2_with fail
  go_ret2
  exact ⟨rfl, hb⟩

theorem parse_out (s : ByteArray) (most v : Int) (w : World) (hs : s.size ≤ 140737488351232) (h : atoiAll s.data.toList = .ok v) (ho : v < 0 ∨ most < v) :
    Calls Tryd.prog 5 #[.string s, .int .i64 most] w fun e w' => e = .returned (.tuple #[.int .i64 0, .bool false]) ∧ Below w.heap.size w w' := by
  have H := Lib.hid h
  clear h
  by_cases hv : v < 0
  all_goals
    go_enter Tryd.func5, Tryd.ntmps5
    go_wp2_with fail
    refine (atoi_ok s v _ (by omega) H.out).mono ?_
    rintro e w1 ⟨rfl, hb⟩
    go_wp2_with fail
    go_ret2
    exact ⟨rfl, hb⟩

theorem parse_in (s : ByteArray) (most v : Int) (f : Bool) (w : World) (hs : s.size ≤ 140737488351232) (hL : Laid w) (h : atoiAll s.data.toList = .ok v) (h0 : 0 ≤ v) (h1 : v ≤ most) (hm : most ≤ 9223372036854775807)
    (hf : (itoa v == s.toList) = f) :
    Calls Tryd.prog 5 #[.string s, .int .i64 most] w fun e w' => e = .returned (.tuple #[.int .i64 (if f then v else 0), .bool f]) ∧ Below w.heap.size w w' := by
  have H := Lib.hid h
  have HL := Lib.hid hL
  clear h hL
  cases f
  all_goals
    go_enter Tryd.func5, Tryd.ntmps5
    go_wp2_with fail
    refine (atoi_ok s v _ (by omega) H.out).mono ?_
    rintro e w1 ⟨rfl, hb⟩
    go_wp2_with fail
    refine (text_any v _ (by omega) (by omega) (HL.out.below hb)).mono ?_
    rintro e w2 ⟨rfl, hb2⟩
    go_wp2_with fail
    go_ret2
    exact ⟨rfl, hb.trans (hb2.mono hb.size)⟩

theorem parse_any (s : ByteArray) (most : Int) (w : World) (hs : s.size ≤ 140737488351232) (hL : Laid w) (hm : most ≤ 9223372036854775807) :
    Calls Tryd.prog 5 #[.string s, .int .i64 most] w fun e w' => e = .returned (.tuple #[.int .i64 (parseV s.data.toList most).1, .bool (parseV s.data.toList most).2]) ∧ Below w.heap.size w w' := by
  by_cases hx : ∃ v, atoiAll s.data.toList = .ok v
  · obtain ⟨v, hv⟩ := hx
    have hp : parseV s.data.toList most = if 0 ≤ v ∧ v ≤ most ∧ itoa v = s.data.toList then (v, true) else (0, false) := by
      unfold parseV; rw [hv]
    by_cases hr : 0 ≤ v ∧ v ≤ most
    · have := parse_in s most v _ w hs hL hv hr.1 hr.2 hm rfl
      rw [ByteArray.toList_eq] at this
      by_cases he : itoa v = s.data.toList
      · rw [hp, if_pos ⟨hr.1, hr.2, he⟩]
        rw [he] at this
        simpa using this
      · rw [hp, if_neg (fun h => he h.2.2)]
        have hb : (itoa v == s.data.toList) = false := by simpa using he
        rw [hb] at this
        exact this
    · rw [hp, if_neg (fun h => hr ⟨h.1, h.2.1⟩)]
      exact parse_out s most v w hs hv (by omega)
  · have hp : parseV s.data.toList most = (0, false) := by
      unfold parseV
      split
      · rename_i v hv; exact absurd ⟨v, hv⟩ hx
      · rfl
    rw [hp]
    exact parse_bad s most w hs hL (fun v hv => hx ⟨v, hv⟩)
end NumText
end Go.Proofs.YtalbbkbjfopooaaDoor
