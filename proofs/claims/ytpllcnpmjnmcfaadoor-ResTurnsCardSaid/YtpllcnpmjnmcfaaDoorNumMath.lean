/-
  Plain arithmetic for layer 1 (num): when a sum or a product of two 64-bit integers fits, and what Go's checks by division and by sizes say of it. No condition.
-/
import Derived.WalkKit
import Derived.OpenShut
namespace Go.Proofs.YtpllcnpmjnmcfaaDoor.NumMath
open Go.RowKit (wrap64)

/-- 'an int can be that' -/
def fits (n : Int) : Bool := decide (-9223372036854775808 ≤ n ∧ n ≤ 9223372036854775807)
theorem fits_yes {n : Int} (h1 : -9223372036854775808 ≤ n) (h2 : n ≤ 9223372036854775807) : fits n = true := by
  unfold fits; exact decide_eq_true ⟨h1, h2⟩
theorem fits_no {n : Int} (h : n < -9223372036854775808 ∨ 9223372036854775807 < n) : fits n = false := by
  unfold fits; exact decide_eq_false (by omega)
theorem fits_iff {n : Int} : fits n = true ↔ (-9223372036854775808 ≤ n ∧ n ≤ 9223372036854775807) := by
  unfold fits; exact decide_eq_true_iff
theorem fits_wf {a : Int} (h : (Lit.int .i64 a).wf = true) : fits a = true := by
  have := bounds_i64 h
  exact fits_yes this.1 this.2
/-- the value beside the answer -/
def val (n : Int) : Int := if fits n = true then n else 0
theorem val_yes {n : Int} (h : fits n = true) : val n = n := by unfold val; rw [if_pos h]
theorem val_no {n : Int} (h : fits n = false) : val n = 0 := by unfold val; rw [if_neg (by simp [h])]
theorem wrap_fits {n : Int} (h : fits n = true) : wrap64 n = n := by
  have := fits_iff.1 h; exact IntWalk.wrap64_in n this
theorem abs_lt_of_tdiv {x b a : Int} (hb : b ≠ 0) (h : x.tdiv b = a) : (x - a * b).natAbs < b.natAbs := by
  have h1 : x - a * b = x.tmod b := by
    have := Int.tmod_add_mul_tdiv x b
    rw [h] at this
    rw [Int.mul_comm a b]; omega
  rw [h1, Int.natAbs_tmod]
  exact Nat.mod_lt _ (by omega)
/-- Go's check of a product by division is exact. -/
theorem mul_check {a b : Int} (ha : fits a = true) (hb : fits b = true) (h0 : b ≠ 0) (hm : ¬ (a = -9223372036854775808 ∧ b = -1)) :
    (wrap64 ((wrap64 (a * b)).tdiv b) = a) ↔ fits (a * b) = true := by
  have hA := fits_iff.1 ha
  have hB := fits_iff.1 hb
  constructor
  · intro h
    have hw : -9223372036854775808 ≤ wrap64 (a * b) ∧ wrap64 (a * b) ≤ 9223372036854775807 := by unfold wrap64; omega
    have hmod : ∃ k : Int, a * b = wrap64 (a * b) + 18446744073709551616 * k := by
      unfold wrap64
      refine ⟨(a * b + 9223372036854775808) / 18446744073709551616, ?_⟩
      omega
    obtain ⟨k, hk⟩ := hmod
    generalize wrap64 (a * b) = w at *
    have hq : (w.tdiv b).natAbs ≤ w.natAbs := by rw [Int.natAbs_tdiv]; exact Nat.div_le_self _ _
    by_cases hbig : w.tdiv b = 9223372036854775808
    · exfalso
      rw [hbig] at h
      have ha' : a = -9223372036854775808 := by rw [← h]; unfold wrap64; omega
      have hl := abs_lt_of_tdiv h0 hbig
      have hb1 : b = -1 := by
        by_cases hbp : 0 < b
        · have : 9223372036854775808 * 1 ≤ 9223372036854775808 * b := Int.mul_le_mul_of_nonneg_left (by omega) (by omega)
          omega
        · by_cases hb2 : b = -1
          · exact hb2
          · have : 9223372036854775808 * b ≤ 9223372036854775808 * (-2) := Int.mul_le_mul_of_nonneg_left (by omega) (by omega)
            omega
      exact hm ⟨ha', hb1⟩
    · have h' : w.tdiv b = a := by
        rw [IntWalk.wrap64_in _ (by omega)] at h; exact h
      have hl := abs_lt_of_tdiv h0 h'
      have : a * b = w := by omega
      rw [this]; exact fits_yes hw.1 hw.2
  · intro h
    rw [wrap_fits h, Int.mul_tdiv_cancel _ h0]
    exact IntWalk.wrap64_in _ hA
/-- the greatest size that a product of these signs may have -/
def mostSize (a b : Int) : Nat := if decide (a < 0) = decide (b < 0) then 9223372036854775807 else 9223372036854775808
theorem mul_sizes (a b : Int) : (0 < a.natAbs ∧ mostSize a b / a.natAbs < b.natAbs) ↔ fits (a * b) = false := by
  by_cases h0 : a.natAbs = 0
  · have : a = 0 := by omega
    subst this
    simp [fits]
  · have hx : 0 < a.natAbs := by omega
    rw [Nat.div_lt_iff_lt_mul hx]
    have key : (a * b).natAbs = b.natAbs * a.natAbs := by rw [Int.natAbs_mul, Nat.mul_comm]
    rw [← key]
    have hs : (0 ≤ a ∧ 0 ≤ b ∧ 0 ≤ a * b) ∨ (a < 0 ∧ b < 0 ∧ 0 ≤ a * b) ∨ (0 ≤ a ∧ b < 0 ∧ a * b ≤ 0) ∨ (a < 0 ∧ 0 ≤ b ∧ a * b ≤ 0) := by
      rcases Int.lt_or_le a 0 with h1 | h1 <;> rcases Int.lt_or_le b 0 with h2 | h2
      · exact .inr (.inl ⟨h1, h2, Int.mul_nonneg_of_nonpos_of_nonpos (by omega) (by omega)⟩)
      · exact .inr (.inr (.inr ⟨h1, h2, Int.mul_nonpos_of_nonpos_of_nonneg (by omega) h2⟩))
      · exact .inr (.inr (.inl ⟨h1, h2, Int.mul_nonpos_of_nonneg_of_nonpos h1 (by omega)⟩))
      · exact .inl ⟨h1, h2, Int.mul_nonneg h1 h2⟩
    generalize a * b = p at *
    unfold fits mostSize
    rcases hs with ⟨h1, h2, h3⟩ | ⟨h1, h2, h3⟩ | ⟨h1, h2, h3⟩ | ⟨h1, h2, h3⟩
    · have e1 : decide (a < 0) = false := decide_eq_false (by omega)
      have e2 : decide (b < 0) = false := decide_eq_false (by omega)
      rw [e1, e2, if_pos rfl, decide_eq_false_iff_not]; omega
    · have e1 : decide (a < 0) = true := decide_eq_true (by omega)
      have e2 : decide (b < 0) = true := decide_eq_true (by omega)
      rw [e1, e2, if_pos rfl, decide_eq_false_iff_not]; omega
    · have e1 : decide (a < 0) = false := decide_eq_false (by omega)
      have e2 : decide (b < 0) = true := decide_eq_true (by omega)
      rw [e1, e2, if_neg (by simp), decide_eq_false_iff_not]
      have : p.natAbs ≠ 0 ∨ p = 0 := by omega
      omega
    · have e1 : decide (a < 0) = true := decide_eq_true (by omega)
      have e2 : decide (b < 0) = false := decide_eq_false (by omega)
      rw [e1, e2, if_neg (by simp), decide_eq_false_iff_not]
      omega
end Go.Proofs.YtpllcnpmjnmcfaaDoor.NumMath
