/-
  The walk of the law NumReads: it returns true, and leaves all that was there as it was. Conditions: strconv's variables hold what the program's text lays (Laid); both arguments are 64-bit integers.
-/
import Derived.Test.YtalbbkbjfopooaaDoorNumWorks
import Derived.Test.YtalbbkbjfopooaaDoorNumParseDoor
import Derived.ShutString
import Derived.Lib.ItoaLen
namespace Go.Proofs.YtalbbkbjfopooaaDoor.NumReadsWalk
open Go.ChangeShapes Go.WideShapes Go.ChangeAt Go.RowKit
open TextMath Go.Lib NumText

theorem parse_itoa (a most v : Int) (f : Bool) (w : World) (h0 : -9223372036854775808 ≤ a) (h1 : a ≤ 9223372036854775807) (hL : Laid w) (hm : most ≤ 9223372036854775807) (hp : parseV (itoa a) most = (v, f)) :
    Calls Tryd.prog 5 #[.string ⟨(itoa a).toArray⟩, .int .i64 most] w fun e w' => e = .returned (.tuple #[.int .i64 v, .bool f]) ∧ Below w.heap.size w w' := by
  have h := parse_any ⟨(itoa a).toArray⟩ most w (by rw [size_of_list]; have := itoa_length_le a h0 h1; omega) hL hm
  have e : parseV (ByteArray.mk (itoa a).toArray).data.toList most = (v, f) := hp
  rw [e] at h
  exact h

set_option maxHeartbeats 2000000 in
theorem walk_as (a b v : Int) (f g : Bool) (w : World) (ha0 : -9223372036854775808 ≤ a) (ha1 : a ≤ 9223372036854775807) (hb0 : -9223372036854775808 ≤ b) (hb1 : b ≤ 9223372036854775807) (HL : Hid (Laid w))
    (hp : Hid (parseV (itoa a) (max a b) = (v, f))) (hf : decide (0 ≤ a) = f) (hv : (f = true → v = a) ∧ (f = false → v = 0)) (hg : (itoa a == itoa b) = g) (hg2 : (a == b) = g) :
    Calls Tryd.prog 4 #[.int .i64 a, .int .i64 b] w fun e w' => e = .returned (.bool true) ∧ Below w.heap.size w w' := by
  cases f
  · obtain rfl : v = 0 := hv.2 rfl
    have hneg : a < 0 := by simpa using hf
    have e0 : ((0 : Int) == a) = false := beq_eq_false_iff_ne.2 (by omega)
    clear hv
    cases g
    all_goals
      go_enter Tryd.func4, Tryd.ntmps4
      go_wp2_with fail
      refine (NumWorks.works_any _).mono ?_
      rintro e w1 ⟨rfl, h1⟩
      go_wp2_with fail
      refine (text_any a _ ha0 ha1 (HL.out.below h1)).mono ?_
      rintro e w2 ⟨rfl, hb2⟩
      have h2 := h1.trans (hb2.mono h1.size)
      go_wp2_with fail
      refine (text_any b _ hb0 hb1 (HL.out.below h2)).mono ?_
      rintro e w3 ⟨rfl, hb3⟩
      have h3 := h2.trans (hb3.mono h2.size)
      go_wp2_with fail
      refine (text_any a _ ha0 ha1 (HL.out.below h3)).mono ?_
      rintro e w4 ⟨rfl, hb4⟩
      have h4 := h3.trans (hb4.mono h3.size)
      go_wp2_with fail
      refine (parse_itoa a (max a b) _ _ _ ha0 ha1 (HL.out.below h4) (by omega) hp.out).mono ?_
      rintro e w5 ⟨rfl, hb5⟩
      have h5 := h4.trans (hb5.mono h4.size)
      go_wp2_with fail
      go_ret
      exact ⟨rfl, h5⟩
  · obtain rfl : a = v := (hv.1 rfl).symm
    have hpos : 0 ≤ a := by simpa using hf
    clear hv
    cases g
    all_goals
      go_enter Tryd.func4, Tryd.ntmps4
      go_wp2_with fail
      refine (NumWorks.works_any _).mono ?_
      rintro e w1 ⟨rfl, h1⟩
      go_wp2_with fail
      refine (text_any a _ ha0 ha1 (HL.out.below h1)).mono ?_
      rintro e w2 ⟨rfl, hb2⟩
      have h2 := h1.trans (hb2.mono h1.size)
      go_wp2_with fail
      refine (text_any b _ hb0 hb1 (HL.out.below h2)).mono ?_
      rintro e w3 ⟨rfl, hb3⟩
      have h3 := h2.trans (hb3.mono h2.size)
      go_wp2_with fail
      refine (text_any a _ ha0 ha1 (HL.out.below h3)).mono ?_
      rintro e w4 ⟨rfl, hb4⟩
      have h4 := h3.trans (hb4.mono h3.size)
      go_wp2_with fail
      refine (parse_itoa a (max a b) _ _ _ ha0 ha1 (HL.out.below h4) (by omega) hp.out).mono ?_
      rintro e w5 ⟨rfl, hb5⟩
      have h5 := h4.trans (hb5.mono h4.size)
      go_wp2_with fail
      go_ret
      exact ⟨rfl, h5⟩

theorem walk (a b : Int) (w0 : (Lit.int .i64 a).wf = true) (w1 : (Lit.int .i64 b).wf = true) (w : World) (hL : Laid w) :
    Calls Tryd.prog 4 #[.int .i64 a, .int .i64 b] w fun e w' => e = .returned (.bool true) ∧ Below w.heap.size w w' := by
  have ha := bounds_i64 w0
  have hb := bounds_i64 w1
  have hg : (itoa a == itoa b) = (a == b) := by
    by_cases h : a = b
    · subst h; simp
    · have : itoa a ≠ itoa b := fun e => h (itoa_inj e)
      rw [beq_eq_false_iff_ne.2 this, beq_eq_false_iff_ne.2 h]
  by_cases h0 : 0 ≤ a
  · exact walk_as a b a true _ w ha.1 ha.2 hb.1 hb.2 hL (parseV_itoa h0 ha.2 (by omega)) (decide_eq_true h0) ⟨fun _ => rfl, fun h => by cases h⟩ hg rfl
  · exact walk_as a b 0 false _ w ha.1 ha.2 hb.1 hb.2 hL (parseV_neg (by omega)) (decide_eq_false h0) ⟨(fun h => by cases h), fun _ => rfl⟩ hg rfl
end Go.Proofs.YtalbbkbjfopooaaDoor.NumReadsWalk
