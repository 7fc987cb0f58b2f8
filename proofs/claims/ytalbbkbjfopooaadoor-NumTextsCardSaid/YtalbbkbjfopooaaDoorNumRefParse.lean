/-
  The contract of the document's number of a text: the number from 0 to most whose text it is, and true, else 0 and false; all that was there is left as it was. Conditions: most is an int, the text no longer than a Go string may be.
-/
import Derived.Test.YtalbbkbjfopooaaDoorNumRefText
namespace Go.Proofs.YtalbbkbjfopooaaDoor
open Go.ChangeShapes Go.WideShapes Go.ChangeAt Go.RowKit
open NumMath TextMath OneByte Go.Lib
namespace NumRefParse

theorem getD_byte (s : ByteArray) (k : Nat) (h : k < s.size) : s.data.toList.take (k + 1) = s.data.toList.take k ++ [s[k]] := by
  rw [List.take_succ_eq_append_getElem (by simpa using h)]; rfl

theorem val_step (s : ByteArray) (k : Nat) (h : k < s.size) : decVal 0 (s.data.toList.take (k + 1)) = decVal 0 (s.data.toList.take k) * 10 + (s[k].toNat - 48) := by
  rw [getD_byte s k h, decVal_append, decVal_cons, decVal_nil]

theorem val_bound (s : ByteArray) (k : Nat) (hk : k ≤ 18) (h : ∀ c ∈ s.data.toList.take k, digit c = true) : (decVal 0 (s.data.toList.take k) : Int) < 1000000000000000000 := by
  have h1 := decVal_lt (s.data.toList.take k) 0 0 (by decide) h
  have h2 : (s.data.toList.take k).length ≤ 18 := by rw [List.length_take]; omega
  have h3 : (10 : Nat) ^ (0 + (s.data.toList.take k).length) ≤ 10 ^ 18 := Nat.pow_le_pow_right (by omega) (by omega)
  have h4 : (10 : Nat) ^ 18 = 1000000000000000000 := by decide
  omega

theorem ret_no {l : List UInt8} {most : Int} (h : parseV l most = (0, false)) :
    Ending.returned (.tuple #[.int .i64 0, .bool false]) = .returned (.tuple #[.int .i64 (parseV l most).1, .bool (parseV l most).2]) := by rw [h]
theorem ret_yes {l : List UInt8} {most u : Int} (h : parseV l most = (u, true)) :
    Ending.returned (.tuple #[.int .i64 u, .bool true]) = .returned (.tuple #[.int .i64 (parseV l most).1, .bool (parseV l most).2]) := by rw [h]

set_option maxRecDepth 20000 in
set_option maxHeartbeats 4000000 in
theorem refParse_any (s : ByteArray) (most : Int) (w : World) (hs : s.size ≤ maxLen) (hm0 : -9223372036854775808 ≤ most) (hm : most ≤ 9223372036854775807) :
    Calls Tryd.prog 6 #[.string s, .int .i64 most] w fun e w' => e = .returned (.tuple #[.int .i64 (parseV s.data.toList most).1, .bool (parseV s.data.toList most).2]) ∧ Below w.heap.size w w' := by
  unfold maxLen at hs
  have hlen : s.data.toList.length = s.size := by rw [Array.length_toList]; rfl
  have HL := Lib.hid hlen
  clear hlen
  by_cases hz : s.size = 0
  · have HP : Hid (parseV s.data.toList most = (0, false)) := parseV_no (.inl (List.eq_nil_of_length_eq_zero (by rw [HL.out]; exact hz)))
    have e0 : ((s.size : Int) == 0) = true := beq_iff_eq.2 (by omega)
    clear hz
    go_enter Tryd.func6, Tryd.ntmps6
    go_wp2_with fail
    go_ret2
    exact ⟨ret_no HP.out, Below.refl _ _⟩
  have e0 : ((s.size : Int) == 0) = false := beq_eq_false_iff_ne.2 (by omega)
  by_cases h19 : 19 < s.size
  · have HP : Hid (parseV s.data.toList most = (0, false)) := parseV_no (.inr (.inl (by rw [HL.out]; exact h19)))
    go_enter Tryd.func6, Tryd.ntmps6
    go_wp2_with fail
    go_ret2
    exact ⟨ret_no HP.out, Below.refl _ _⟩
  go_enter Tryd.func6, Tryd.ntmps6
  go_wp2_with fail
  go_loop [6, 7] (fun u i => ∃ k : Nat, k ≤ s.size ∧ i = .int .i64 k ∧ Hid (∀ c ∈ s.data.toList.take k, digit c = true) ∧ u = .int .u64 (decVal 0 (s.data.toList.take k) : Nat)) (fun _ i => s.size - (intOf i).toNat)
  case atStart => exact ⟨0, Nat.zero_le _, rfl, (fun c h => by simp at h), rfl⟩
  case round =>
    obtain ⟨k, hk, rfl, HA, rfl⟩ := hrel
    by_cases hlt : k < s.size
    · have hb : (s[k].toNat : Int) < 256 := by have := s[k].toNat_lt; omega
      have HS := Lib.hid (val_step s k hlt)
      have HG := Lib.hid (getD_byte s k hlt)
      by_cases hd : 48 ≤ (s[k].toNat : Int) ∧ (s[k].toNat : Int) ≤ 57
      · obtain ⟨hd1, hd2⟩ := hd
        go_wp2_with fail
        go_round
        case rel =>
          refine ⟨k + 1, by omega, by go_num, ?_, congrArg (Value.int .u64) ?_⟩
          · intro c hc
            rw [HG.out, List.mem_append] at hc
            rcases hc with hc | hc
            · exact HA.out c hc
            · simp only [List.mem_singleton] at hc
              rw [hc, digit_iff]; omega
          · rw [HS.out, IntKind.wrap_u64, IntKind.wrap_u64, IntKind.wrap_u64]
            have := val_bound s k (by omega) HA.out
            omega
        case measure => simp [intOf]; omega
      · have HP : Hid (parseV s.data.toList most = (0, false)) := parseV_no (.inr (.inr ⟨s[k], by
            rw [← List.take_append_drop (k + 1) s.data.toList, List.mem_append, HG.out]; left; simp, by
            rw [Bool.eq_false_iff]; intro h; have := digit_iff.1 h; omega⟩))
        have hd' : (s[k].toNat : Int) < 48 ∨ (48 ≤ (s[k].toNat : Int) ∧ 57 < (s[k].toNat : Int)) := by omega
        clear hd
        rcases hd' with hd | ⟨hd1, hd2⟩
        all_goals
          go_wp2_with fail
          go_ret2
          exact ⟨ret_no HP.out, Below.refl _ _⟩
    · obtain rfl : k = s.size := by omega
      have htake : s.data.toList.take s.size = s.data.toList := List.take_of_length_le (by rw [HL.out]; omega)
      rw [htake] at HA ⊢
      have hne : s.data.toList ≠ [] := fun h => by have := HL.out; rw [h] at this; simp at this; omega
      have HP := Lib.hid (parseV_digits (most := most) hne (by rw [HL.out]; omega) HA.out)
      have hub : decVal 0 s.data.toList < 10000000000000000000 := by
        have h1 := decVal_lt s.data.toList 0 0 (by decide) HA.out
        have h3 : (10 : Nat) ^ (0 + s.data.toList.length) ≤ 10 ^ 19 := Nat.pow_le_pow_right (by omega) (by rw [HL.out]; omega)
        have h4 : (10 : Nat) ^ 19 = 10000000000000000000 := by decide
        omega
      clear htake hne HA
      generalize decVal 0 s.data.toList = U at *
      by_cases hbig : 9223372036854775807 < U
      · have HQ : Hid (parseV s.data.toList most = (0, false)) := by show _ = _; rw [HP.out, if_neg (by omega)]
        go_wp2_with fail
        go_ret2
        exact ⟨ret_no HQ.out, Below.refl _ _⟩
      · have hU : U ≤ 9223372036854775807 := by omega
        by_cases heq : itoa (U : Int) = s.data.toList
        · have ec : (itoa (U : Int) == s.toList) = true := by rw [ByteArray.toList_eq, heq]; simp
          by_cases hneg : most < 0
          · have HQ : Hid (parseV s.data.toList most = (0, false)) := by show _ = _; rw [HP.out, if_neg (by omega)]
            clear heq
            go_wp2_with fail
            refine (NumRefText.refText_any U _ (by omega) (by omega)).mono ?_
            rintro e w1 ⟨rfl, hb1⟩
            go_wp2_with fail
            go_ret2
            exact ⟨ret_no HQ.out, hb1⟩
          · by_cases hle : (U : Int) ≤ most
            · have HQ : Hid (parseV s.data.toList most = ((U : Int), true)) := by show _ = _; rw [HP.out, if_pos ⟨hU, heq, by omega, hle⟩]
              clear heq
              go_wp2_with fail
              refine (NumRefText.refText_any U _ (by omega) (by omega)).mono ?_
              rintro e w1 ⟨rfl, hb1⟩
              go_wp2_with fail
              go_ret2
              exact ⟨ret_yes HQ.out, hb1⟩
            · have HQ : Hid (parseV s.data.toList most = (0, false)) := by show _ = _; rw [HP.out, if_neg (by omega)]
              clear heq
              go_wp2_with fail
              refine (NumRefText.refText_any U _ (by omega) (by omega)).mono ?_
              rintro e w1 ⟨rfl, hb1⟩
              go_wp2_with fail
              go_ret2
              exact ⟨ret_no HQ.out, hb1⟩
        · have ec : (itoa (U : Int) == s.toList) = false := by rw [ByteArray.toList_eq]; simpa using heq
          have HQ : Hid (parseV s.data.toList most = (0, false)) := by show _ = _; rw [HP.out, if_neg (fun h => heq h.2.1)]
          clear heq
          go_wp2_with fail
          refine (NumRefText.refText_any U _ (by omega) (by omega)).mono ?_
          rintro e w1 ⟨rfl, hb1⟩
          go_wp2_with fail
          go_ret2
          exact ⟨ret_no HQ.out, hb1⟩
end NumRefParse
end Go.Proofs.YtalbbkbjfopooaaDoor
