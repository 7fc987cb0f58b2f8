/-
  Plain facts on what a text begins with (takeV), at each place where a reader of bytes stops. No condition.
-/
import Derived.Test.YtmeilidjomjocaaGreatDoorLebMath
namespace Go.Proofs.YtmeilidjomjocaaGreatDoor.LebMath

theorem isLeb_snoc : ∀ (pre : List UInt8) (b : UInt8), (∀ x ∈ pre, 128 ≤ x.toNat) → b.toNat < 128 → isLeb (pre ++ [b]) = decide (pre = [] ∨ b.toNat ≠ 0) := by
  intro pre b h hb
  induction pre with
  | nil => simp [isLeb, hb]
  | cons x pre ih =>
    have hx := h x (by simp)
    have ih' := ih (fun y hy => h y (by simp [hy]))
    cases pre with
    | nil =>
      simp only [List.cons_append, List.nil_append, isLeb]
      simp [hx, hb]
    | cons y pre =>
      simp only [List.cons_append] at ih' ⊢
      rw [isLeb, ih']
      simp [hx]

theorem mem_take_lead {l : List UInt8} {k : Nat} (h : ∀ j, j < k → 128 ≤ (l.getD j 0).toNat) (hk : k ≤ l.length) : ∀ x ∈ l.take k, 128 ≤ x.toNat := by
  intro x hx
  obtain ⟨j, hj, rfl⟩ := List.mem_iff_getElem.1 hx
  have hj' : j < k := by rw [List.length_take] at hj; omega
  have := h j hj'
  rw [List.getElem_take]
  rw [List.getD_eq_getElem?_getD, List.getElem?_eq_getElem (by omega)] at this
  exact this

theorem take_succ_getD {l : List UInt8} {k : Nat} (h : k < l.length) : l.take (k + 1) = l.take k ++ [l.getD k 0] := by
  rw [List.take_succ_eq_append_getElem h, List.getD_eq_getElem?_getD, List.getElem?_eq_getElem h]; rfl

/-- all bytes have 128 added: too few -/
theorem takeV_all {l : List UInt8} (h : ∀ j, j < l.length → 128 ≤ (l.getD j 0).toNat) : takeV l = (0, 0) := by
  have hl : lead l = l.length := lead_of h (fun h => by omega) (Nat.le_refl _)
  unfold takeV
  rw [if_neg]
  intro hc
  have := isLeb_lead hc.1
  rw [List.take_of_length_le (by omega)] at this
  omega

/-- the last byte is found -/
theorem takeV_at {l : List UInt8} {k : Nat} (hk : k < l.length) (h : ∀ j, j < k → 128 ≤ (l.getD j 0).toNat) (hb : (l.getD k 0).toNat < 128) :
    takeV l = if (k = 0 ∨ (l.getD k 0).toNat ≠ 0) ∧ lebVal (l.take (k + 1)) < 18446744073709551616 then (lebVal (l.take (k + 1)), k + 1) else (0, 0) := by
  have hl : lead l = k := lead_of h (fun _ => hb) (by omega)
  unfold takeV
  rw [hl]
  have e : (isLeb (l.take (k + 1)) = true) = (k = 0 ∨ (l.getD k 0).toNat ≠ 0) := by
    rw [take_succ_getD hk, isLeb_snoc _ _ (mem_take_lead h (by omega)) hb, decide_eq_true_eq]
    have : (l.take k = []) = (k = 0) := by
      rw [List.take_eq_nil_iff]
      apply propext
      constructor
      · intro h; rcases h with h | h
        · exact h
        · rw [h] at hk; simp at hk
      · intro h; exact .inl h
    rw [this]
  simp only [e]

theorem lebVal_take_succ {l : List UInt8} {k : Nat} (hk : k < l.length) : lebVal (l.take (k + 1)) = lebVal (l.take k) + 128 ^ k * ((l.getD k 0).toNat % 128) := by
  rw [take_succ_getD hk, lebVal_append, List.length_take_of_le (by omega)]
  simp [lebVal]

theorem lebVal_take_lt {l : List UInt8} {k : Nat} (hk : k ≤ l.length) : lebVal (l.take k) < 128 ^ k := by
  have := lebVal_lt (l.take k)
  rw [List.length_take_of_le hk] at this; exact this

/-- ten bytes with 128 added: more than 64 bits -/
theorem takeV_ten {l : List UInt8} (h : ∀ j, j < 10 → 128 ≤ (l.getD j 0).toNat) : takeV l = (0, 0) := by
  unfold takeV
  rw [if_neg]
  intro hc
  have h1 := isLeb_lead hc.1
  have h2 := leb_le_ten hc.2
  rw [leb_lebVal _ hc.1] at h2
  have h3 := lead_le l
  by_cases hle : lead l + 1 ≤ l.length
  · rw [List.length_take_of_le hle] at h2
    have h4 : lead l < 10 := by omega
    have h5 := h (lead l) h4
    have key : ∀ (l : List UInt8), lead l < l.length → (l.getD (lead l) 0).toNat < 128 := by
      intro l
      induction l with
      | nil => intro h; simp at h
      | cons b r ih =>
        intro h
        simp only [lead] at h ⊢
        split
        · rename_i hb
          rw [if_pos hb] at h
          have := ih (by simp at h; omega)
          simpa using this
        · simp; omega
    have := key l (by omega)
    omega
  · rw [List.take_of_length_le (by omega)] at h1
    omega

/-- the tenth byte is above 1: more than 64 bits -/
theorem takeV_tenth {l : List UInt8} (hl : 9 < l.length) (h : ∀ j, j < 9 → 128 ≤ (l.getD j 0).toNat) (hb : 1 < (l.getD 9 0).toNat) : takeV l = (0, 0) := by
  by_cases hb' : (l.getD 9 0).toNat < 128
  · rw [takeV_at hl h hb', if_neg]
    intro hc
    have h1 := lebVal_take_succ hl
    have h2 := hc.2
    rw [h1] at h2
    have : 128 ^ 9 * 2 ≤ 128 ^ 9 * ((l.getD 9 0).toNat % 128) := Nat.mul_le_mul_left _ (by omega)
    have e : (128 : Nat) ^ 9 * 2 = 18446744073709551616 := by decide
    omega
  · refine takeV_ten (fun j hj => ?_)
    by_cases hj9 : j = 9
    · subst hj9; omega
    · exact h j (by omega)

/-- the place of one byte more -/
theorem lebVal_fits {l : List UInt8} {k : Nat} (hk : k < l.length) (h10 : k < 10) (hb : k = 9 → (l.getD k 0).toNat ≤ 1) : lebVal (l.take (k + 1)) < 18446744073709551616 := by
  by_cases h9 : k = 9
  · subst h9
    have h1 := lebVal_take_succ hk
    have h2 := lebVal_take_lt (l := l) (k := 9) (by omega)
    have h3 := hb rfl
    have : 128 ^ 9 * ((l.getD 9 0).toNat % 128) ≤ 128 ^ 9 * 1 := Nat.mul_le_mul_left _ (by omega)
    have e : (128 : Nat) ^ 9 * 1 = 9223372036854775808 := by decide
    have e' : (128 : Nat) ^ 9 = 9223372036854775808 := by decide
    omega
  · have h2 := lebVal_take_lt (l := l) (k := k + 1) (by omega)
    have h3 : 128 ^ (k + 1) ≤ (128 : Nat) ^ 9 := Nat.pow_le_pow_right (by omega) (by omega)
    have e' : (128 : Nat) ^ 9 = 9223372036854775808 := by decide
    omega
end Go.Proofs.YtmeilidjomjocaaGreatDoor.LebMath
