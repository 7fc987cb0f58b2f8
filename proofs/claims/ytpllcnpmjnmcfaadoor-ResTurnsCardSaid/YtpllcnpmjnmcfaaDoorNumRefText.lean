/-
  The contract of the document's text of a number: its decimal digits, with a - ahead if it is below 0; all that was there is left as it was. Condition: the argument is a 64-bit integer.
-/
import Derived.Test.YtpllcnpmjnmcfaaDoorNumRefSize
import Derived.Test.YtpllcnpmjnmcfaaDoorOneByte
import Derived.Test.YtpllcnpmjnmcfaaDoorTextMath
import Derived.Test.YtpllcnpmjnmcfaaDoorKit
import Derived.ShutString
import Derived.Lib.ItoaLen
namespace Go.Proofs.YtpllcnpmjnmcfaaDoor
open Go.ChangeShapes Go.WideShapes Go.ChangeAt Go.RowKit
open NumMath TextMath OneByte Go.Lib
namespace NumRefText

/-- what stands ahead of the digits that were told: those of the rest, if there is one -/
def rest (m : Nat) : List UInt8 := if m = 0 then [] else decDigits m
theorem rest_step (m : Nat) (h : m ≠ 0) : rest m = rest (m / 10) ++ [UInt8.ofNat (48 + m % 10)] := by
  unfold rest
  rw [if_neg h]
  by_cases h1 : m < 10
  · rw [decDigits_one h1, if_pos (by omega)]
    rw [show m % 10 = m by omega]; rfl
  · rw [decDigits, dif_neg h1, if_neg (by omega)]
/-- what holds behind k rounds -/
def Inv (u : Nat) (k : Nat) (t : List UInt8) (m : Nat) : Prop :=
  (k = 0 ∧ t = [] ∧ m = u) ∨ (1 ≤ k ∧ k = t.length ∧ decDigits u = rest m ++ t)
theorem Inv.step {u k m : Nat} {t : List UInt8} (h : Inv u k t m) (hm : k = 0 ∨ m ≠ 0) (c : UInt8) (hc : c = UInt8.ofNat (48 + m % 10)) : Inv u (k + 1) ([c] ++ t) (m / 10) := by
  subst hc
  rcases h with ⟨rfl, rfl, rfl⟩ | ⟨h1, h2, h3⟩
  · refine .inr ⟨by omega, by simp, ?_⟩
    by_cases h0 : m = 0
    · subst h0
      rw [decDigits_one (by omega)]; rfl
    · have := rest_step m h0
      unfold rest at this
      rw [if_neg h0] at this
      unfold rest
      simpa using this
  · refine .inr ⟨by omega, by simp; omega, ?_⟩
    rw [h3, rest_step m (by omega)]
    simp
theorem Inv.done {u k : Nat} {t : List UInt8} (h : Inv u k t 0) (hk : 1 ≤ k) : t = decDigits u := by
  rcases h with ⟨rfl, _, _⟩ | ⟨_, _, h3⟩
  · omega
  · rw [h3]; rfl
theorem Inv.le {u k m : Nat} {t : List UInt8} (h : Inv u k t m) (hu : u ≤ 9223372036854775808) : t.length ≤ 20 ∧ k = t.length ∧ (1 ≤ k → m ≠ 0 → k < 20) := by
  have hl : (decDigits u).length ≤ 20 := by rw [decDigits_length]; exact nDigits_le20 u (by omega)
  rcases h with ⟨rfl, rfl, rfl⟩ | ⟨h1, h2, h3⟩
  · simp
  · rw [h3, List.length_append] at hl
    refine ⟨by omega, h2, fun _ hm => ?_⟩
    unfold rest at hl
    rw [if_neg hm, decDigits_length] at hl
    have := nDigits_pos m
    omega
set_option maxRecDepth 20000 in
set_option maxHeartbeats 2000000 in
theorem refText_any (n : Int) (w : World) (h0 : -9223372036854775808 ≤ n) (h1 : n ≤ 9223372036854775807) :
    Calls Tryd.prog 40 #[.int .i64 n] w fun e w' => e = .returned (.string ⟨(itoa n).toArray⟩) ∧ Below w.heap.size w w' := by
  have hn : n.natAbs ≤ 9223372036854775808 := by omega
  go_enter Tryd.func40, Tryd.ntmps40
  go_wp2_with fail
  refine (NumRefSize.size_any n _ (fits_yes h0 h1)).mono ?_
  rintro e w' ⟨rfl, rfl⟩
  go_wp2_with fail
  go_loopw [3, 4, 5] (fun s u i wr => ∃ (k : Nat) (t : List UInt8) (m : Nat), s = .string ⟨t.toArray⟩ ∧ u = .int .u64 (m : Nat) ∧ i = .int .i64 (k : Nat) ∧ Hid (Inv n.natAbs k t m) ∧ m ≤ 9223372036854775808 ∧ Hid (Below w.heap.size w wr)) (fun _ _ i _ => 21 - (intOf i).toNat)
  case atStart => exact ⟨0, [], n.natAbs, rfl, rfl, rfl, .inl ⟨rfl, rfl, rfl⟩, hn, Below.refl _ _⟩
  case round =>
    obtain ⟨k, t, m, rfl, rfl, rfl, HI, hm, HB⟩ := hrel
    have hle := HI.out.le hn
    have hlen := hle.1
    have hkl : k ≤ 20 := by omega
    by_cases hgo : k = 0 ∨ m ≠ 0
    · obtain ⟨c, hc⟩ : ∃ c : UInt8, c = UInt8.ofNat (48 + m % 10) := ⟨_, rfl⟩
      have hone := run_one (48 + (m : Int) % 10) c (by rw [hc, toNat_digit (by omega)]; push_cast; rfl)
      have HS := Lib.hid (HI.out.step hgo c hc)
      have hgo' : (k = 0 ∧ ((k : Int) == 0) = true) ∨ (((k : Int) == 0) = false ∧ (0 : Int) < (m : Int) ∧ (k : Int) < 20) := by
        by_cases hk : k = 0
        · exact .inl ⟨hk, beq_iff_eq.2 (by omega)⟩
        · have := hle.2.2 (by omega) (by omega)
          exact .inr ⟨beq_eq_false_iff_ne.2 (by omega), by omega, by omega⟩
      clear hc hgo hle
      rcases hgo' with ⟨hk, e0⟩ | ⟨e0, e1, e2⟩
      all_goals
        try clear hk
        go_wp2_with fail
        go_roundw
        case rel => exact ⟨k + 1, [c] ++ t, m / 10, congrArg Value.string (ByteArray.mk_append_mk [c] t), by push_cast; rfl, by go_num, HS, by omega, HB.out.alloc HB.out.size _⟩
        case measure => simp [intOf]; omega
    · obtain rfl : m = 0 := by omega
      have hk1 : 1 ≤ k := by omega
      have e0 : ((k : Int) == 0) = false := beq_eq_false_iff_ne.2 (by omega)
      have HD := Lib.hid (HI.out.done hk1)
      clear hgo hle
      by_cases hneg : n < 0
      · have HR : Hid (itoa n = [45] ++ t) := by show _ = _; rw [itoa_neg hneg, HD.out]; rfl
        go_wp2_with fail
        go_ret
        exact ⟨ret_cat HR.out, HB.out⟩
      · have HR : Hid (itoa n = t) := by
          show _ = _
          rw [itoa_pos (by omega), HD.out, show n.toNat = n.natAbs by omega]
        go_wp2_with fail
        go_ret
        exact ⟨by rw [HR.out]; rfl, HB.out⟩
end NumRefText
end Go.Proofs.YtpllcnpmjnmcfaaDoor
