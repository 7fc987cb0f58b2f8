/-
  Plain facts on numbers as bytes of seven bits each, the lowest first: the bytes of a number (leb), the number of bytes (lebVal), and what a text begins with (takeV). No condition.
-/
import Derived.WalkKit
namespace Go.Proofs.YtmeilidjomjocaaGreatDoor.LebMath

/-- a number's bytes -/
def leb (n : Nat) : List UInt8 := if n < 128 then [UInt8.ofNat n] else UInt8.ofNat (n % 128 + 128) :: leb (n / 128)
  termination_by n
  decreasing_by omega

theorem leb_small {n : Nat} (h : n < 128) : leb n = [UInt8.ofNat n] := by rw [leb, if_pos h]
theorem leb_big {n : Nat} (h : 128 ≤ n) : leb n = UInt8.ofNat (n % 128 + 128) :: leb (n / 128) := by rw [leb, if_neg (by omega)]

theorem leb_pos (n : Nat) : 1 ≤ (leb n).length := by
  by_cases h : n < 128
  · rw [leb_small h]; simp
  · rw [leb_big (by omega)]; simp

theorem leb_le (k : Nat) : ∀ n : Nat, n < 128 ^ (k + 1) → (leb n).length ≤ k + 1 := by
  induction k with
  | zero => intro n h; rw [leb_small (by simpa using h)]; simp
  | succ k ih =>
    intro n h
    by_cases h1 : n < 128
    · rw [leb_small h1]; simp
    · rw [leb_big (by omega)]
      have : n / 128 < 128 ^ (k + 1) := by
        rw [Nat.div_lt_iff_lt_mul (by omega)]
        rw [Nat.pow_succ] at h; exact h
      have := ih _ this
      simp; omega

theorem leb_le_ten {n : Nat} (h : n < 18446744073709551616) : (leb n).length ≤ 10 :=
  leb_le 9 n (Nat.lt_of_lt_of_le h (by decide))

/-- the number of bytes -/
def lebVal : List UInt8 → Nat
  | [] => 0
  | b :: r => b.toNat % 128 + 128 * lebVal r

/-- just the bytes that some number has -/
def isLeb : List UInt8 → Bool
  | [] => false
  | [b] => decide (b.toNat < 128)
  | b :: c :: r => decide (128 ≤ b.toNat) && isLeb (c :: r) && !(decide (r = []) && decide (c.toNat = 0))

theorem toNat_ofNat {n : Nat} (h : n < 256) : (UInt8.ofNat n).toNat = n := by
  simp [UInt8.toNat_ofNat']; omega

theorem lebVal_leb (n : Nat) : lebVal (leb n) = n := by
  induction n using Nat.strongRecOn with
  | _ n ih =>
    by_cases h : n < 128
    · rw [leb_small h]; simp only [lebVal]; rw [toNat_ofNat (by omega)]; omega
    · rw [leb_big (by omega)]; simp only [lebVal]; rw [toNat_ofNat (by omega), ih (n / 128) (by omega)]; omega

theorem leb_nought {n : Nat} (h : leb n = [0]) : n = 0 := by
  have := lebVal_leb n; rw [h] at this; simp [lebVal] at this; omega

theorem isLeb_leb (n : Nat) : isLeb (leb n) = true := by
  induction n using Nat.strongRecOn with
  | _ n ih =>
    by_cases h : n < 128
    · rw [leb_small h]; simp only [isLeb]; rw [toNat_ofNat (by omega)]; exact decide_eq_true h
    · rw [leb_big (by omega)]
      have hi := ih (n / 128) (by omega)
      have hv := lebVal_leb (n / 128)
      cases hl : leb (n / 128) with
      | nil => have := leb_pos (n / 128); rw [hl] at this; simp at this
      | cons c r =>
        rw [hl] at hi hv
        simp only [isLeb]
        rw [toNat_ofNat (by omega), hi]
        simp only [Bool.and_true, Bool.and_eq_true, decide_eq_true_eq, Bool.not_eq_true', Bool.and_eq_false_iff, decide_eq_false_iff_not]
        refine ⟨by omega, ?_⟩
        by_cases hr : r = []
        · right
          subst hr
          simp only [lebVal] at hv
          intro hc
          rw [hc] at hv
          omega
        · left; exact hr

theorem leb_lebVal : ∀ l : List UInt8, isLeb l = true → leb (lebVal l) = l := by
  intro l
  induction l with
  | nil => intro h; simp [isLeb] at h
  | cons b r ih =>
    intro h
    cases r with
    | nil =>
      simp only [isLeb, decide_eq_true_eq] at h
      simp only [lebVal]
      rw [leb_small (by omega)]
      have : b.toNat % 128 + 128 * 0 = b.toNat := by omega
      rw [this]
      simp
    | cons c r =>
      simp only [isLeb, Bool.and_eq_true, decide_eq_true_eq, Bool.not_eq_true', Bool.and_eq_false_iff, decide_eq_false_iff_not] at h
      obtain ⟨⟨h1, h2⟩, h3⟩ := h
      have hi := ih h2
      have hpos : 1 ≤ lebVal (c :: r) := by
        rcases Nat.eq_zero_or_pos (lebVal (c :: r)) with h0 | h0
        · rw [h0] at hi
          rw [leb_small (by omega)] at hi
          injection hi with hc hr
          rcases h3 with h3 | h3
          · exact absurd hr.symm h3
          · exfalso; apply h3; rw [← hc]; rfl
        · exact h0
      have hb := b.toNat_lt
      have e : lebVal (b :: c :: r) = b.toNat % 128 + 128 * lebVal (c :: r) := rfl
      rw [e, leb_big (by omega)]
      have e1 : (b.toNat % 128 + 128 * lebVal (c :: r)) % 128 + 128 = b.toNat := by omega
      have e2 : (b.toNat % 128 + 128 * lebVal (c :: r)) / 128 = lebVal (c :: r) := by omega
      rw [e1, e2, hi]
      simp

theorem lebVal_append : ∀ (a b : List UInt8), lebVal (a ++ b) = lebVal a + 128 ^ a.length * lebVal b := by
  intro a b
  induction a with
  | nil => simp [lebVal]
  | cons x a ih => simp only [List.cons_append, lebVal, ih, List.length_cons, Nat.pow_succ]; rw [Nat.mul_add, ← Nat.mul_assoc, Nat.mul_comm 128 (128 ^ a.length)]; omega

theorem lebVal_lt (l : List UInt8) : lebVal l < 128 ^ l.length := by
  induction l with
  | nil => simp [lebVal]
  | cons x l ih =>
    simp only [lebVal, List.length_cons, Nat.pow_succ]
    have := Nat.mul_le_mul_left 128 (Nat.succ_le_of_lt ih)
    have h128 := Nat.mod_lt x.toNat (show 0 < 128 by omega)
    rw [Nat.mul_comm (128 ^ l.length)]
    omega

/-- how many bytes ahead have 128 added -/
def lead : List UInt8 → Nat
  | [] => 0
  | b :: r => if 128 ≤ b.toNat then lead r + 1 else 0

/-- the number that a text begins with, and how many bytes it has; 0 and 0 of others -/
def takeV (l : List UInt8) : Nat × Nat :=
  if isLeb (l.take (lead l + 1)) = true ∧ lebVal (l.take (lead l + 1)) < 18446744073709551616 then (lebVal (l.take (lead l + 1)), lead l + 1) else (0, 0)

theorem lead_le (l : List UInt8) : lead l ≤ l.length := by
  induction l with
  | nil => simp [lead]
  | cons b r ih => simp only [lead]; split <;> simp <;> omega

/-- 'lead' by its bytes -/
theorem lead_of {l : List UInt8} : ∀ {k : Nat}, (∀ j, j < k → 128 ≤ (l.getD j 0).toNat) → (k < l.length → (l.getD k 0).toNat < 128) → k ≤ l.length → lead l = k := by
  induction l with
  | nil => intro k _ _ h; simp [lead] at *; omega
  | cons b r ih =>
    intro k h1 h2 h3
    cases k with
    | zero => have := h2 (by simp); simp at this; simp only [lead]; rw [if_neg (by omega)]
    | succ k =>
      have := h1 0 (by omega)
      simp at this
      simp only [lead]
      rw [if_pos this, ih (k := k) (fun j hj => by have := h1 (j + 1) (by omega); simpa using this) (fun hk => by have := h2 (by simp; omega); simpa using this) (by simp at h3; omega)]

theorem isLeb_lead : ∀ {l : List UInt8}, isLeb l = true → lead l + 1 = l.length := by
  intro l
  induction l with
  | nil => intro h; simp [isLeb] at h
  | cons b r ih =>
    intro h
    cases r with
    | nil => simp only [isLeb, decide_eq_true_eq] at h; simp only [lead]; rw [if_neg (by omega)]; simp
    | cons c r =>
      simp only [isLeb, Bool.and_eq_true, decide_eq_true_eq] at h
      have := ih h.1.2
      simp only [lead] at this ⊢
      rw [if_pos h.1.1]
      simp only [List.length_cons] at this ⊢
      omega

theorem lead_append {l : List UInt8} (h : isLeb l = true) (r : List UInt8) : lead (l ++ r) + 1 = l.length := by
  induction l with
  | nil => simp [isLeb] at h
  | cons b t ih =>
    cases t with
    | nil => simp only [isLeb, decide_eq_true_eq] at h; simp only [List.cons_append, lead]; rw [if_neg (by omega)]; simp
    | cons c t =>
      simp only [isLeb, Bool.and_eq_true, decide_eq_true_eq] at h
      have := ih h.1.2
      simp only [List.cons_append, lead] at this ⊢
      rw [if_pos h.1.1]
      simp only [List.length_cons] at this ⊢
      omega

/-- what is put is taken, whatever stands behind -/
theorem takeV_leb {n : Nat} (h : n < 18446744073709551616) (r : List UInt8) : takeV (leb n ++ r) = (n, (leb n).length) := by
  have hl := lead_append (isLeb_leb n) r
  unfold takeV
  rw [hl, List.take_left' rfl, lebVal_leb, if_pos ⟨isLeb_leb n, h⟩]

/-- what is taken is put again -/
theorem takeV_some {l : List UInt8} (h : (takeV l).2 ≠ 0) :
    (takeV l).2 ≤ l.length ∧ (takeV l).2 ≤ 10 ∧ (takeV l).1 < 18446744073709551616 ∧ leb (takeV l).1 = l.take (takeV l).2 := by
  unfold takeV at h ⊢
  split at h
  · rename_i hc
    rw [if_pos hc]
    have h1 := leb_lebVal _ hc.1
    have h2 := leb_le_ten hc.2
    have h3 := isLeb_lead hc.1
    rw [h1] at h2
    have h4 : (l.take (lead l + 1)).length ≤ l.length := List.length_take_le' _ _
    have h5 := lead_le l
    refine ⟨?_, ?_, hc.2, h1⟩
    · by_cases hl : lead l + 1 ≤ l.length
      · exact hl
      · exfalso
        have : l.take (lead l + 1) = l := List.take_of_length_le (by omega)
        rw [this] at h3
        omega
    · by_cases hl : lead l + 1 ≤ l.length
      · rw [List.length_take_of_le hl] at h2; exact h2
      · exfalso
        have : l.take (lead l + 1) = l := List.take_of_length_le (by omega)
        rw [this] at h3
        omega
  · simp at h

theorem takeV_none {l : List UInt8} (h : (takeV l).2 = 0) : (takeV l).1 = 0 := by
  unfold takeV at h ⊢
  split at h
  · simp at h
  · rename_i hc; rw [if_neg hc]

theorem takeV_lt (l : List UInt8) : (takeV l).1 < 18446744073709551616 := by
  by_cases h : (takeV l).2 = 0
  · rw [takeV_none h]; omega
  · exact (takeV_some h).2.2.1

theorem takeV_le (l : List UInt8) : (takeV l).2 ≤ 10 := by
  by_cases h : (takeV l).2 = 0
  · omega
  · exact (takeV_some h).2.1
end Go.Proofs.YtmeilidjomjocaaGreatDoor.LebMath
