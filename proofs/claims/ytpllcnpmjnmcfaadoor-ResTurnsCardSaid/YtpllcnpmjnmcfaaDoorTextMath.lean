/-
  Plain facts on numbers as text: the decimal text of a number, the number of a text (parseV), and how a reader from the left comes to it. No condition.
-/
import Derived.Lib.ItoaNum
import Derived.Lib.AtoiAll
import Derived.WalkKit
namespace Go.Proofs.YtpllcnpmjnmcfaaDoor.TextMath
open Go.Lib

/-- the number of digits -/
def dv : List UInt8 → Nat → Nat
  | [], acc => acc
  | c :: r, acc => dv r (acc * 10 + (c.toNat - 48))
def decVal (acc : Nat) (l : List UInt8) : Nat := dv l acc
theorem decVal_nil (acc : Nat) : decVal acc [] = acc := by unfold decVal; rw [dv]
theorem decVal_cons (acc : Nat) (c : UInt8) (r : List UInt8) : decVal acc (c :: r) = decVal (acc * 10 + (c.toNat - 48)) r := by unfold decVal; rw [dv]
def digit (c : UInt8) : Bool := decide (48 ≤ c.toNat) && decide (c.toNat ≤ 57)
theorem digit_iff {c : UInt8} : digit c = true ↔ (48 ≤ c.toNat ∧ c.toNat ≤ 57) := by simp [digit]
theorem decVal_append (a b : List UInt8) : ∀ acc, decVal acc (a ++ b) = decVal (decVal acc a) b := by
  induction a with
  | nil => intro acc; rw [List.nil_append, decVal_nil]
  | cons x a ih => intro acc; rw [List.cons_append, decVal_cons, decVal_cons]; exact ih _
theorem toNat_digit {d : Nat} (h : d < 10) : (UInt8.ofNat (48 + d)).toNat = 48 + d := by
  simp [UInt8.toNat_ofNat']; omega
theorem decVal_dec (u : Nat) : decVal 0 (decDigits u) = u := by
  induction u using Nat.strongRecOn with
  | _ u ih =>
    by_cases h : u < 10
    · rw [decDigits_one h]; simp only [decVal_nil, decVal_cons]; rw [toNat_digit h]; omega
    · rw [decDigits, dif_neg h, decVal_append, ih (u / 10) (by omega)]
      simp only [decVal_nil, decVal_cons]; rw [toNat_digit (by omega)]; omega
theorem digits_dec (u : Nat) : ∀ c ∈ decDigits u, digit c = true := by
  induction u using Nat.strongRecOn with
  | _ u ih =>
    intro c hc
    by_cases h : u < 10
    · rw [decDigits_one h] at hc; simp only [List.mem_singleton] at hc; rw [hc, digit_iff, toNat_digit h]; omega
    · rw [decDigits, dif_neg h, List.mem_append] at hc
      rcases hc with hc | hc
      · exact ih _ (by omega) c hc
      · simp only [List.mem_singleton] at hc; rw [hc, digit_iff, toNat_digit (by omega)]; omega
theorem decVal_lt (l : List UInt8) : ∀ acc k, acc < 10 ^ k → (∀ c ∈ l, digit c = true) → decVal acc l < 10 ^ (k + l.length) := by
  induction l with
  | nil => intro acc k h _; simpa [decVal_nil] using h
  | cons c l ih =>
    intro acc k h hd
    have hc := digit_iff.1 (hd c (by simp))
    simp only [decVal_cons, List.length_cons]
    have := ih (acc * 10 + (c.toNat - 48)) (k + 1) (by rw [Nat.pow_succ]; omega) (fun x hx => hd x (by simp [hx]))
    rw [show k + (l.length + 1) = k + 1 + l.length by omega]; exact this
/-- the text of a number -/
theorem itoa_pos {n : Int} (h : 0 ≤ n) : itoa n = decDigits n.toNat := by unfold itoa; rw [if_neg (by omega)]
theorem itoa_neg {n : Int} (h : n < 0) : itoa n = 45 :: decDigits n.natAbs := by unfold itoa; rw [if_pos h]
theorem dec_ne_nil (u : Nat) : decDigits u ≠ [] := by
  intro h; have := decDigits_length u; rw [h] at this; have := nDigits_pos u; simp at *; omega
theorem itoa_inj {a b : Int} (h : itoa a = itoa b) : a = b := by
  by_cases ha : a < 0
  · by_cases hb : b < 0
    · rw [itoa_neg ha, itoa_neg hb] at h
      injection h with _ h
      have e1 := decVal_dec a.natAbs
      rw [h, decVal_dec] at e1
      omega
    · exfalso
      rw [itoa_neg ha, itoa_pos (by omega)] at h
      have := digits_dec b.toNat 45 (by rw [← h]; simp)
      simp [digit] at this
  · by_cases hb : b < 0
    · exfalso
      rw [itoa_neg hb, itoa_pos (by omega)] at h
      have := digits_dec a.toNat 45 (by rw [h]; simp)
      simp [digit] at this
    · rw [itoa_pos (by omega), itoa_pos (by omega)] at h
      have e1 := decVal_dec a.toNat
      rw [h, decVal_dec] at e1
      omega
/-- a text of at most nineteen digits, read from the left -/
theorem parse_digits (l : List UInt8) : ∀ acc k, acc < 10 ^ k → k + l.length ≤ 19 → (∀ c ∈ l, digit c = true) → parseUint10 acc l = .ok (decVal acc l) := by
  induction l with
  | nil => intro acc k _ _ _; rfl
  | cons c l ih =>
    intro acc k h hk hd
    have hc := digit_iff.1 (hd c (by simp))
    simp only [List.length_cons] at hk
    have h18 : 10 ^ k ≤ (10 : Nat) ^ 18 := Nat.pow_le_pow_right (by omega) (by omega)
    have e18 : (10 : Nat) ^ 18 = 1000000000000000000 := by decide
    simp only [parseUint10, decVal_cons]
    rw [if_pos hc, if_neg (by omega), if_neg (by omega)]
    exact ih _ (k + 1) (by rw [Nat.pow_succ]; omega) (by omega) (fun x hx => hd x (by simp [hx]))
theorem atoi_digits {l : List UInt8} (h0 : l ≠ []) (hl : l.length ≤ 19) (hd : ∀ c ∈ l, digit c = true) :
    atoiAll l = if 9223372036854775808 ≤ decVal 0 l then .range else .ok (decVal 0 l : Int) := by
  cases l with
  | nil => exact absurd rfl h0
  | cons c r =>
    have hc := digit_iff.1 (hd c (by simp))
    have hp := parse_digits (c :: r) 0 0 (by decide) (by omega) hd
    have e1 : ¬ (c.toNat = 43 ∨ c.toNat = 45) := by omega
    have e2 : ¬ c.toNat = 45 := by omega
    have hmag : parseMag (if c.toNat = 43 ∨ c.toNat = 45 then r else c :: r) = .ok (decVal 0 (c :: r)) := by
      rw [if_neg e1]; unfold parseMag; rw [if_neg h0, hp]
    unfold atoiAll
    simp only [hmag]
    simp only [e2, not_false_eq_true, true_and, false_and, if_false]
/-- the number from 0 to most whose text it is -/
def parseV (l : List UInt8) (most : Int) : Int × Bool :=
  match atoiAll l with
  | .ok v => if 0 ≤ v ∧ v ≤ most ∧ itoa v = l then (v, true) else (0, false)
  | _ => (0, false)
theorem dec_len_le {u : Nat} (h : u < 9223372036854775808) : (decDigits u).length ≤ 19 := by
  rw [decDigits_length]
  by_cases h0 : u < 10
  · rw [nDigits_small h0]; omega
  · have key : ∀ k u, u < 10 ^ (k + 1) → nDigits u ≤ k + 1 := by
      intro k
      induction k with
      | zero => intro u h; rw [nDigits_small (by simpa using h)]; omega
      | succ k ih =>
        intro u h
        by_cases hu : u < 10
        · rw [nDigits_small hu]; omega
        · rw [nDigits_big hu]
          have := ih (u / 10) (by rw [Nat.div_lt_iff_lt_mul (by omega)]; rw [Nat.pow_succ] at h; exact h)
          omega
    exact key 18 u (Nat.lt_of_lt_of_le h (by decide))
/-- what is the text of a number that is not below 0 -/
theorem itoa_facts {v : Int} {l : List UInt8} (h0 : 0 ≤ v) (h1 : v ≤ 9223372036854775807) (h : itoa v = l) :
    l ≠ [] ∧ l.length ≤ 19 ∧ (∀ c ∈ l, digit c = true) ∧ decVal 0 l = v.toNat := by
  rw [itoa_pos h0] at h
  subst h
  exact ⟨dec_ne_nil _, dec_len_le (by omega), digits_dec _, decVal_dec _⟩
theorem parseV_itoa {n most : Int} (h0 : 0 ≤ n) (h1 : n ≤ 9223372036854775807) (hm : n ≤ most) : parseV (itoa n) most = (n, true) := by
  obtain ⟨h2, h3, h4, h5⟩ := itoa_facts h0 h1 rfl
  have e := atoi_digits h2 h3 h4
  rw [h5, if_neg (by omega), Int.toNat_of_nonneg h0] at e
  unfold parseV
  rw [e]
  simp [h0, hm]
theorem ok_le {l : List UInt8} {v : Int} (h : atoiAll l = .ok v) : -9223372036854775808 ≤ v ∧ v ≤ 9223372036854775807 := by
  unfold atoiAll at h
  split at h
  · cases h
  · simp only at h
    split at h
    · cases h
    · cases h
    · split at h
      · cases h
      · split at h
        · cases h
        · rename_i h1 h2
          injection h with h
          subst h
          split <;> omega
theorem parseV_neg {n most : Int} (h : n < 0) : parseV (itoa n) most = (0, false) := by
  unfold parseV
  split
  · rename_i v hv
    rw [if_neg]
    rintro ⟨h0, _, h2⟩
    have := itoa_inj h2
    omega
  · rfl
theorem parseV_no {l : List UInt8} {most : Int} (h : l = [] ∨ 19 < l.length ∨ ∃ c ∈ l, digit c = false) : parseV l most = (0, false) := by
  unfold parseV
  split
  · rename_i v hv
    rw [if_neg]
    rintro ⟨h0, _, h2⟩
    obtain ⟨f1, f2, f3, _⟩ := itoa_facts h0 (ok_le hv).2 h2
    rcases h with h | h | ⟨c, hc, hd⟩
    · exact f1 h
    · omega
    · rw [f3 c hc] at hd; cases hd
  · rfl
theorem parseV_digits {l : List UInt8} {most : Int} (h0 : l ≠ []) (hl : l.length ≤ 19) (hd : ∀ c ∈ l, digit c = true) :
    parseV l most = if decVal 0 l ≤ 9223372036854775807 ∧ itoa (decVal 0 l : Int) = l ∧ 0 ≤ most ∧ (decVal 0 l : Int) ≤ most then ((decVal 0 l : Int), true) else (0, false) := by
  have e := atoi_digits h0 hl hd
  unfold parseV
  rw [e]
  by_cases hb : 9223372036854775808 ≤ decVal 0 l
  · rw [if_pos hb, if_neg (by omega)]
  · rw [if_neg hb]
    simp only
    by_cases hc : itoa (decVal 0 l : Int) = l ∧ (decVal 0 l : Int) ≤ most
    · rw [if_pos ⟨by omega, hc.2, hc.1⟩, if_pos ⟨by omega, hc.1, by omega, hc.2⟩]
    · rw [if_neg (fun h => hc ⟨h.2.2, h.2.1⟩), if_neg (fun h => hc ⟨h.2.1, h.2.2.2⟩)]
theorem parseV_bounds (l : List UInt8) (most : Int) : 0 ≤ (parseV l most).1 ∧ (parseV l most).1 ≤ 9223372036854775807 := by
  unfold parseV
  split
  · rename_i v hv
    split
    · rename_i h; exact ⟨h.1, (ok_le hv).2⟩
    · simp
  · simp
end Go.Proofs.YtpllcnpmjnmcfaaDoor.TextMath
