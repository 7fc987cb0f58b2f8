/-
  Plain facts on a number of 64 bits and its text: revV, the number whose text it is; how strconv's reader and the document's come to it. No condition.
-/
import Derived.Test.YtlccfflkefmolaaDoorTextMath
import Derived.Lib.ParseIntB
import Derived.Lib.ParseIntBCases
import Derived.Lib.ItoaLen
namespace Go.Proofs.YtlccfflkefmolaaDoor.RevMath
open Go.Lib TextMath

/-- the number of 64 bits whose text it is -/
def revV (l : List UInt8) : Nat × Bool := if decDigits (decVal 0 l) = l ∧ decVal 0 l < 18446744073709551616 then (decVal 0 l, true) else (0, false)

theorem le_val (l : List UInt8) : ∀ acc, acc ≤ decVal acc l := by
  induction l with
  | nil => intro acc; rw [decVal_nil]; exact Nat.le_refl _
  | cons c l ih => intro acc; rw [decVal_cons]; have := ih (acc * 10 + (c.toNat - 48)); omega

theorem mag_ok (M : Nat) : ∀ (l : List UInt8) (acc v : Nat), parseUintM M acc l = .ok v → v = decVal acc l
  | [], acc, v, h => by
    simp only [parseUintM] at h
    injection h with h
    rw [decVal_nil, h]
  | c :: r, acc, v, h => by
    simp only [parseUintM] at h
    split at h
    · split at h
      · cases h
      · split at h
        · cases h
        · rw [decVal_cons]; exact mag_ok M r _ _ h
    · cases h

theorem mag_yes : ∀ (l : List UInt8) (acc : Nat), decVal acc l < 18446744073709551616 → (∀ c ∈ l, digit c = true) → parseUintM (2 ^ 64 - 1) acc l = .ok (decVal acc l)
  | [], acc, _, _ => by rw [decVal_nil]; rfl
  | c :: r, acc, h, hd => by
    have hc := digit_iff.1 (hd c (by simp))
    rw [decVal_cons] at h
    have := le_val r (acc * 10 + (c.toNat - 48))
    simp only [parseUintM, decVal_cons]
    rw [if_pos hc, if_neg (by omega), if_neg (by omega)]
    exact mag_yes r _ h (fun x hx => hd x (by simp [hx]))

theorem ok_facts {l : List UInt8} {v : Nat} (h : parseUintB 64 l = .ok v) : v = decVal 0 l ∧ v < 18446744073709551616 := by
  unfold parseUintB at h
  split at h
  · cases h
  · have := parseUintM_le _ _ _ _ (Nat.zero_le _) h
    exact ⟨mag_ok _ _ _ _ h, by omega⟩

theorem revV_ok {l : List UInt8} {v : Nat} (h : parseUintB 64 l = .ok v) (hd : decDigits v = l) : revV l = (v, true) := by
  obtain ⟨h1, h2⟩ := ok_facts h
  subst h1
  unfold revV
  rw [if_pos ⟨hd, h2⟩]

theorem revV_other {l : List UInt8} {v : Nat} (h : parseUintB 64 l = .ok v) (hd : decDigits v ≠ l) : revV l = (0, false) := by
  obtain ⟨h1, h2⟩ := ok_facts h
  subst h1
  unfold revV
  rw [if_neg (fun x => hd x.1)]

theorem revV_bad {l : List UInt8} (h : ∀ v, parseUintB 64 l ≠ .ok v) : revV l = (0, false) := by
  unfold revV
  rw [if_neg]
  rintro ⟨h1, h2⟩
  refine h (decVal 0 l) ?_
  unfold parseUintB
  have hd : ∀ c ∈ l, digit c = true := fun c hc => digits_dec (decVal 0 l) c (by rw [h1]; exact hc)
  rw [if_neg (fun hn => dec_ne_nil (decVal 0 l) (by rw [h1]; exact hn))]
  exact mag_yes l 0 h2 hd

theorem revV_no {l : List UInt8} (h : l = [] ∨ 20 < l.length ∨ ∃ c ∈ l, digit c = false) : revV l = (0, false) := by
  unfold revV
  rw [if_neg]
  rintro ⟨h1, h2⟩
  rcases h with h | h | ⟨c, hc, hd⟩
  · exact dec_ne_nil (decVal 0 l) (by rw [h1]; exact h)
  · have := nDigits_le20 _ h2
    rw [← decDigits_length, h1] at this
    omega
  · rw [digits_dec (decVal 0 l) c (by rw [h1]; exact hc)] at hd; cases hd

theorem revV_mod {l : List UInt8} (h : decDigits (decVal 0 l % 18446744073709551616) = l) : revV l = (decVal 0 l % 18446744073709551616, true) := by
  have e := decVal_dec (decVal 0 l % 18446744073709551616)
  rw [h] at e
  unfold revV
  rw [← e] at h
  rw [if_pos ⟨h, by omega⟩, ← e]

theorem revV_unlike {l : List UInt8} (h : decDigits (decVal 0 l % 18446744073709551616) ≠ l) : revV l = (0, false) := by
  unfold revV
  rw [if_neg]
  rintro ⟨h1, h2⟩
  exact h (by rw [Nat.mod_eq_of_lt h2]; exact h1)

theorem revV_text {n : Nat} (h : n < 18446744073709551616) : revV (decDigits n) = (n, true) := by
  unfold revV
  rw [decVal_dec, if_pos ⟨rfl, h⟩]

/-- the number of the first bytes, as a reader of 64 bits has it -/
def headV (l : List UInt8) (k : Nat) : Nat := decVal 0 (l.take k) % 18446744073709551616
end Go.Proofs.YtlccfflkefmolaaDoor.RevMath
