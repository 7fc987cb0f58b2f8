/-
  The contracts of the document's answers to num.Add and num.Mul: the sum or product and true if that fits 64 bits, else 0 and false; the world is left alone. Condition: both arguments are 64-bit integers.
-/
import Derived.Test.YtalbbkbjfopooaaChecked
import Derived.Test.YtalbbkbjfopooaaNumMath
import Derived.Test.YtalbbkbjfopooaaNumRefSize
import Derived.WalkKit
import Derived.ProofKit
import Derived.Lib.Hide
namespace Go.Proofs.Ytalbbkbjfopooaa
open Go.ChangeShapes Go.WideShapes Go.ChangeAt Go.RowKit
open NumMath
namespace NumRefArith

theorem refAdd_any (a b : Int) (w : World) (ha : fits a = true) (hb : fits b = true) :
    Calls Try.prog 9 #[.int .i64 a, .int .i64 b] w fun e w' => e = .returned (.tuple #[.int .i64 (val (a + b)), .bool (fits (a + b))]) ∧ w = w' := by
  have hA := fits_iff.1 ha
  have hB := fits_iff.1 hb
  by_cases h : -9223372036854775808 ≤ a + b ∧ a + b ≤ 9223372036854775807
  · have hf := fits_yes h.1 h.2
    rw [val_yes hf, hf]
    obtain ⟨h1, h2⟩ := h
    clear ha hb hf
    by_cases hs : b < 0
    all_goals
      go_enter Try.func9, Try.ntmps9
      go_wp2
      go_ret2
      exact ⟨rfl, rfl⟩
  · have hf : fits (a + b) = false := fits_no (by omega)
    rw [val_no hf, hf]
    clear ha hb hf
    by_cases hs : b < 0
    · have h1 : a + b < -9223372036854775808 := by omega
      clear h
      go_enter Try.func9, Try.ntmps9
      go_wp2
      go_ret2
      exact ⟨rfl, rfl⟩
    · have h1 : 9223372036854775807 < a + b := by omega
      clear h
      go_enter Try.func9, Try.ntmps9
      go_wp2
      go_ret2
      exact ⟨rfl, rfl⟩

theorem refMul_no (a b : Int) (w : World) (ha : fits a = true) (hb : fits b = true) (h0 : a ≠ 0)
    (h : ((if decide (a < 0) = decide (b < 0) then 9223372036854775807 else 9223372036854775808 : Nat) : Int) / (a.natAbs : Int) < (b.natAbs : Int)) :
    Calls Try.prog 10 #[.int .i64 a, .int .i64 b] w fun e w' => e = .returned (.tuple #[.int .i64 0, .bool false]) ∧ w = w' := by
  have hA := fits_iff.1 ha
  have hB := fits_iff.1 hb
  by_cases h1 : a < 0 <;> by_cases h2 : b < 0
  · have d1 : decide (a < 0) = true := decide_eq_true h1
    have d2 : decide (b < 0) = true := decide_eq_true h2
    rw [d1, d2, if_pos (by decide)] at h
    have hq : decide ((9223372036854775807 : Int) / (a.natAbs : Int) < (b.natAbs : Int)) = true := decide_eq_true h
    clear h
    go_enter Try.func10, Try.ntmps10
    go_wp2_with (go_at_call 16; refine (NumRefSize.size_any _ _ (by assumption)).mono ?_; rintro e w' ⟨rfl, rfl⟩)
    go_ret2
    exact ⟨rfl, rfl⟩
  · have d1 : decide (a < 0) = true := decide_eq_true h1
    have d2 : decide (b < 0) = false := decide_eq_false h2
    rw [d1, d2, if_neg (by decide)] at h
    have hq : decide ((9223372036854775808 : Int) / (a.natAbs : Int) < (b.natAbs : Int)) = true := decide_eq_true h
    clear h
    go_enter Try.func10, Try.ntmps10
    go_wp2_with (go_at_call 16; refine (NumRefSize.size_any _ _ (by assumption)).mono ?_; rintro e w' ⟨rfl, rfl⟩)
    go_ret2
    exact ⟨rfl, rfl⟩
  · have d1 : decide (a < 0) = false := decide_eq_false h1
    have d2 : decide (b < 0) = true := decide_eq_true h2
    rw [d1, d2, if_neg (by decide)] at h
    have hq : decide ((9223372036854775808 : Int) / (a.natAbs : Int) < (b.natAbs : Int)) = true := decide_eq_true h
    clear h
    go_enter Try.func10, Try.ntmps10
    go_wp2_with (go_at_call 16; refine (NumRefSize.size_any _ _ (by assumption)).mono ?_; rintro e w' ⟨rfl, rfl⟩)
    go_ret2
    exact ⟨rfl, rfl⟩
  · have d1 : decide (a < 0) = false := decide_eq_false h1
    have d2 : decide (b < 0) = false := decide_eq_false h2
    rw [d1, d2, if_pos (by decide)] at h
    have hq : decide ((9223372036854775807 : Int) / (a.natAbs : Int) < (b.natAbs : Int)) = true := decide_eq_true h
    clear h
    go_enter Try.func10, Try.ntmps10
    go_wp2_with (go_at_call 16; refine (NumRefSize.size_any _ _ (by assumption)).mono ?_; rintro e w' ⟨rfl, rfl⟩)
    go_ret2
    exact ⟨rfl, rfl⟩

theorem refMul_yes (a b : Int) (w : World) (ha : fits a = true) (hb : fits b = true) (h0 : a ≠ 0)
    (h : (b.natAbs : Int) ≤ ((if decide (a < 0) = decide (b < 0) then 9223372036854775807 else 9223372036854775808 : Nat) : Int) / (a.natAbs : Int)) :
    Calls Try.prog 10 #[.int .i64 a, .int .i64 b] w fun e w' => e = .returned (.tuple #[.int .i64 (wrap64 (a * b)), .bool true]) ∧ w = w' := by
  have hA := fits_iff.1 ha
  have hB := fits_iff.1 hb
  by_cases h1 : a < 0 <;> by_cases h2 : b < 0
  · have d1 : decide (a < 0) = true := decide_eq_true h1
    have d2 : decide (b < 0) = true := decide_eq_true h2
    rw [d1, d2, if_pos (by decide)] at h
    have hq : decide ((9223372036854775807 : Int) / (a.natAbs : Int) < (b.natAbs : Int)) = false := decide_eq_false (Int.not_lt.2 h)
    clear h
    go_enter Try.func10, Try.ntmps10
    go_wp2_with (go_at_call 16; refine (NumRefSize.size_any _ _ (by assumption)).mono ?_; rintro e w' ⟨rfl, rfl⟩)
    go_ret2
    exact ⟨rfl, rfl⟩
  · have d1 : decide (a < 0) = true := decide_eq_true h1
    have d2 : decide (b < 0) = false := decide_eq_false h2
    rw [d1, d2, if_neg (by decide)] at h
    have hq : decide ((9223372036854775808 : Int) / (a.natAbs : Int) < (b.natAbs : Int)) = false := decide_eq_false (Int.not_lt.2 h)
    clear h
    go_enter Try.func10, Try.ntmps10
    go_wp2_with (go_at_call 16; refine (NumRefSize.size_any _ _ (by assumption)).mono ?_; rintro e w' ⟨rfl, rfl⟩)
    go_ret2
    exact ⟨rfl, rfl⟩
  · have d1 : decide (a < 0) = false := decide_eq_false h1
    have d2 : decide (b < 0) = true := decide_eq_true h2
    rw [d1, d2, if_neg (by decide)] at h
    have hq : decide ((9223372036854775808 : Int) / (a.natAbs : Int) < (b.natAbs : Int)) = false := decide_eq_false (Int.not_lt.2 h)
    clear h
    go_enter Try.func10, Try.ntmps10
    go_wp2_with (go_at_call 16; refine (NumRefSize.size_any _ _ (by assumption)).mono ?_; rintro e w' ⟨rfl, rfl⟩)
    go_ret2
    exact ⟨rfl, rfl⟩
  · have d1 : decide (a < 0) = false := decide_eq_false h1
    have d2 : decide (b < 0) = false := decide_eq_false h2
    rw [d1, d2, if_pos (by decide)] at h
    have hq : decide ((9223372036854775807 : Int) / (a.natAbs : Int) < (b.natAbs : Int)) = false := decide_eq_false (Int.not_lt.2 h)
    clear h
    go_enter Try.func10, Try.ntmps10
    go_wp2_with (go_at_call 16; refine (NumRefSize.size_any _ _ (by assumption)).mono ?_; rintro e w' ⟨rfl, rfl⟩)
    go_ret2
    exact ⟨rfl, rfl⟩

theorem refMul_nought (b : Int) (w : World) (hb : fits b = true) :
    Calls Try.prog 10 #[.int .i64 0, .int .i64 b] w fun e w' => e = .returned (.tuple #[.int .i64 0, .bool true]) ∧ w = w' := by
  have ha : fits 0 = true := fits_yes (by omega) (by omega)
  have hB := fits_iff.1 hb
  have H : decide (b < 0) = true ∨ decide (b < 0) = false := by cases decide (b < 0) <;> simp
  rcases H with d2 | d2
  all_goals
    go_enter Try.func10, Try.ntmps10
    go_wp2_with (go_at_call 16; refine (NumRefSize.size_any _ _ (by assumption)).mono ?_; rintro e w' ⟨rfl, rfl⟩)
    go_ret2
    exact ⟨rfl, rfl⟩

theorem refMul_any (a b : Int) (w : World) (ha : fits a = true) (hb : fits b = true) :
    Calls Try.prog 10 #[.int .i64 a, .int .i64 b] w fun e w' => e = .returned (.tuple #[.int .i64 (val (a * b)), .bool (fits (a * b))]) ∧ w = w' := by
  by_cases h0 : a = 0
  · subst h0
    have e1 : fits (0 * b) = true := by rw [Int.zero_mul]; exact fits_yes (by omega) (by omega)
    rw [val_yes e1, e1, Int.zero_mul]
    exact refMul_nought b w hb
  · have hsz := mul_sizes a b
    unfold mostSize at hsz
    by_cases hc : fits (a * b) = true
    · rw [val_yes hc, hc]
      have hle : ¬ (0 < a.natAbs ∧ (if decide (a < 0) = decide (b < 0) then 9223372036854775807 else 9223372036854775808) / a.natAbs < b.natAbs) := fun h => by
        rw [hsz.1 h] at hc; exact absurd hc (by decide)
      have hle' : b.natAbs ≤ (if decide (a < 0) = decide (b < 0) then 9223372036854775807 else 9223372036854775808) / a.natAbs := by
        refine Nat.le_of_not_lt fun h => hle ⟨by omega, h⟩
      have := refMul_yes a b w ha hb h0 (by rw [← Int.natCast_ediv]; exact Int.ofNat_le.2 hle')
      rw [wrap_fits hc] at this
      exact this
    · have hc' : fits (a * b) = false := by simpa using hc
      rw [val_no hc', hc']
      exact refMul_no a b w ha hb h0 (by rw [← Int.natCast_ediv]; exact Int.ofNat_lt.2 (hsz.2 hc').2)
end NumRefArith
end Go.Proofs.Ytalbbkbjfopooaa
