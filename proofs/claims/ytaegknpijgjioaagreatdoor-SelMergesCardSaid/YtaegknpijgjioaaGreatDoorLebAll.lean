/-
  Plain facts on numbers as bytes of seven bits each, the lowest first: the bytes of a number (leb), the number of bytes (lebVal), and what a text begins with (takeV). No condition. And what follows of it, part by part, each with its conditions.
-/
import Derived.Test.YtaegknpijgjioaaGreatDoorChecked
import Derived.WalkKit
import Derived.ProofKit
import Derived.Lib.Hide
import Derived.Laws.BytesArg
import Derived.OpenShut
import Derived.Lib.ItoaNum
import Derived.Lib.AtoiAll
/- Plain facts on numbers as bytes of seven bits each, the lowest first: the bytes of a number (leb), the number of bytes (lebVal), and what a text begins with (takeV). No condition. -/
namespace Go.Proofs.YtaegknpijgjioaaGreatDoor.LebMath

/-- a number's bytes -/
def leb (n : Nat) : List UInt8 := if n < 128 then [UInt8.ofNat n] else UInt8.ofNat (n % 128 + 128) :: leb (n / 128)
  termination_by n
  decreasing_by omega
theorem leb_small {n : Nat} (h : n < 128) : leb n = [UInt8.ofNat n] := by rw [leb, if_pos h]
theorem leb_big {n : Nat} (h : 128 ≤ n) : leb n = UInt8.ofNat (n % 128 + 128) :: leb (n / 128) := by rw [leb, if_neg (by omega)]
theorem leb_pos (n : Nat) : 1 ≤ (leb n).length := by
  by_cases h : n < 128
  · rw [leb_small h]; simp
  · rw [leb_big (by omega)]; simp
theorem leb_le (k : Nat) : ∀ n : Nat, n < 128 ^ (k + 1) → (leb n).length ≤ k + 1 := by
  induction k with
  | zero => intro n h; rw [leb_small (by simpa using h)]; simp
  | succ k ih =>
    intro n h
    by_cases h1 : n < 128
    · rw [leb_small h1]; simp
    · rw [leb_big (by omega)]
      have : n / 128 < 128 ^ (k + 1) := by
        rw [Nat.div_lt_iff_lt_mul (by omega)]
        rw [Nat.pow_succ] at h; exact h
      have := ih _ this
      simp; omega
theorem leb_le_ten {n : Nat} (h : n < 18446744073709551616) : (leb n).length ≤ 10 :=
  leb_le 9 n (Nat.lt_of_lt_of_le h (by decide))
/-- the number of bytes -/
def lebVal : List UInt8 → Nat
  | [] => 0
  | b :: r => b.toNat % 128 + 128 * lebVal r
/-- just the bytes that some number has -/
def isLeb : List UInt8 → Bool
  | [] => false
  | [b] => decide (b.toNat < 128)
  | b :: c :: r => decide (128 ≤ b.toNat) && isLeb (c :: r) && !(decide (r = []) && decide (c.toNat = 0))
theorem toNat_ofNat {n : Nat} (h : n < 256) : (UInt8.ofNat n).toNat = n := by
  simp [UInt8.toNat_ofNat']; omega
theorem lebVal_leb (n : Nat) : lebVal (leb n) = n := by
  induction n using Nat.strongRecOn with
  | _ n ih =>
    by_cases h : n < 128
    · rw [leb_small h]; simp only [lebVal]; rw [toNat_ofNat (by omega)]; omega
    · rw [leb_big (by omega)]; simp only [lebVal]; rw [toNat_ofNat (by omega), ih (n / 128) (by omega)]; omega
theorem leb_nought {n : Nat} (h : leb n = [0]) : n = 0 := by
  have := lebVal_leb n; rw [h] at this; simp [lebVal] at this; omega
theorem isLeb_leb (n : Nat) : isLeb (leb n) = true := by
  induction n using Nat.strongRecOn with
  | _ n ih =>
    by_cases h : n < 128
    · rw [leb_small h]; simp only [isLeb]; rw [toNat_ofNat (by omega)]; exact decide_eq_true h
    · rw [leb_big (by omega)]
      have hi := ih (n / 128) (by omega)
      have hv := lebVal_leb (n / 128)
      cases hl : leb (n / 128) with
      | nil => have := leb_pos (n / 128); rw [hl] at this; simp at this
      | cons c r =>
        rw [hl] at hi hv
        simp only [isLeb]
        rw [toNat_ofNat (by omega), hi]
        simp only [Bool.and_true, Bool.and_eq_true, decide_eq_true_eq, Bool.not_eq_true', Bool.and_eq_false_iff, decide_eq_false_iff_not]
        refine ⟨by omega, ?_⟩
        by_cases hr : r = []
        · right
          subst hr
          simp only [lebVal] at hv
          intro hc
          rw [hc] at hv
          omega
        · left; exact hr
theorem leb_lebVal : ∀ l : List UInt8, isLeb l = true → leb (lebVal l) = l := by
  intro l
  induction l with
  | nil => intro h; simp [isLeb] at h
  | cons b r ih =>
    intro h
    cases r with
    | nil =>
      simp only [isLeb, decide_eq_true_eq] at h
      simp only [lebVal]
      rw [leb_small (by omega)]
      have : b.toNat % 128 + 128 * 0 = b.toNat := by omega
      rw [this]
      simp
    | cons c r =>
      simp only [isLeb, Bool.and_eq_true, decide_eq_true_eq, Bool.not_eq_true', Bool.and_eq_false_iff, decide_eq_false_iff_not] at h
      obtain ⟨⟨h1, h2⟩, h3⟩ := h
      have hi := ih h2
      have hpos : 1 ≤ lebVal (c :: r) := by
        rcases Nat.eq_zero_or_pos (lebVal (c :: r)) with h0 | h0
        · rw [h0] at hi
          rw [leb_small (by omega)] at hi
          injection hi with hc hr
          rcases h3 with h3 | h3
          · exact absurd hr.symm h3
          · exfalso; apply h3; rw [← hc]; rfl
        · exact h0
      have hb := b.toNat_lt
      have e : lebVal (b :: c :: r) = b.toNat % 128 + 128 * lebVal (c :: r) := rfl
      rw [e, leb_big (by omega)]
      have e1 : (b.toNat % 128 + 128 * lebVal (c :: r)) % 128 + 128 = b.toNat := by omega
      have e2 : (b.toNat % 128 + 128 * lebVal (c :: r)) / 128 = lebVal (c :: r) := by omega
      rw [e1, e2, hi]
      simp
theorem lebVal_append : ∀ (a b : List UInt8), lebVal (a ++ b) = lebVal a + 128 ^ a.length * lebVal b := by
  intro a b
  induction a with
  | nil => simp [lebVal]
  | cons x a ih => simp only [List.cons_append, lebVal, ih, List.length_cons, Nat.pow_succ]; rw [Nat.mul_add, ← Nat.mul_assoc, Nat.mul_comm 128 (128 ^ a.length)]; omega
theorem lebVal_lt (l : List UInt8) : lebVal l < 128 ^ l.length := by
  induction l with
  | nil => simp [lebVal]
  | cons x l ih =>
    simp only [lebVal, List.length_cons, Nat.pow_succ]
    have := Nat.mul_le_mul_left 128 (Nat.succ_le_of_lt ih)
    have h128 := Nat.mod_lt x.toNat (show 0 < 128 by omega)
    rw [Nat.mul_comm (128 ^ l.length)]
    omega
/-- how many bytes ahead have 128 added -/
def lead : List UInt8 → Nat
  | [] => 0
  | b :: r => if 128 ≤ b.toNat then lead r + 1 else 0
/-- the number that a text begins with, and how many bytes it has; 0 and 0 of others -/
def takeV (l : List UInt8) : Nat × Nat :=
  if isLeb (l.take (lead l + 1)) = true ∧ lebVal (l.take (lead l + 1)) < 18446744073709551616 then (lebVal (l.take (lead l + 1)), lead l + 1) else (0, 0)
theorem lead_le (l : List UInt8) : lead l ≤ l.length := by
  induction l with
  | nil => simp [lead]
  | cons b r ih => simp only [lead]; split <;> simp <;> omega
/-- 'lead' by its bytes -/
theorem lead_of {l : List UInt8} : ∀ {k : Nat}, (∀ j, j < k → 128 ≤ (l.getD j 0).toNat) → (k < l.length → (l.getD k 0).toNat < 128) → k ≤ l.length → lead l = k := by
  induction l with
  | nil => intro k _ _ h; simp [lead] at *; omega
  | cons b r ih =>
    intro k h1 h2 h3
    cases k with
    | zero => have := h2 (by simp); simp at this; simp only [lead]; rw [if_neg (by omega)]
    | succ k =>
      have := h1 0 (by omega)
      simp at this
      simp only [lead]
      rw [if_pos this, ih (k := k) (fun j hj => by have := h1 (j + 1) (by omega); simpa using this) (fun hk => by have := h2 (by simp; omega); simpa using this) (by simp at h3; omega)]
theorem isLeb_lead : ∀ {l : List UInt8}, isLeb l = true → lead l + 1 = l.length := by
  intro l
  induction l with
  | nil => intro h; simp [isLeb] at h
  | cons b r ih =>
    intro h
    cases r with
    | nil => simp only [isLeb, decide_eq_true_eq] at h; simp only [lead]; rw [if_neg (by omega)]; simp
    | cons c r =>
      simp only [isLeb, Bool.and_eq_true, decide_eq_true_eq] at h
      have := ih h.1.2
      simp only [lead] at this ⊢
      rw [if_pos h.1.1]
      simp only [List.length_cons] at this ⊢
      omega
theorem lead_append {l : List UInt8} (h : isLeb l = true) (r : List UInt8) : lead (l ++ r) + 1 = l.length := by
  induction l with
  | nil => simp [isLeb] at h
  | cons b t ih =>
    cases t with
    | nil => simp only [isLeb, decide_eq_true_eq] at h; simp only [List.cons_append, lead]; rw [if_neg (by omega)]; simp
    | cons c t =>
      simp only [isLeb, Bool.and_eq_true, decide_eq_true_eq] at h
      have := ih h.1.2
      simp only [List.cons_append, lead] at this ⊢
      rw [if_pos h.1.1]
      simp only [List.length_cons] at this ⊢
      omega
/-- what is put is taken, whatever stands behind -/
theorem takeV_leb {n : Nat} (h : n < 18446744073709551616) (r : List UInt8) : takeV (leb n ++ r) = (n, (leb n).length) := by
  have hl := lead_append (isLeb_leb n) r
  unfold takeV
  rw [hl, List.take_left' rfl, lebVal_leb, if_pos ⟨isLeb_leb n, h⟩]
/-- what is taken is put again -/
theorem takeV_some {l : List UInt8} (h : (takeV l).2 ≠ 0) :
    (takeV l).2 ≤ l.length ∧ (takeV l).2 ≤ 10 ∧ (takeV l).1 < 18446744073709551616 ∧ leb (takeV l).1 = l.take (takeV l).2 := by
  unfold takeV at h ⊢
  split at h
  · rename_i hc
    rw [if_pos hc]
    have h1 := leb_lebVal _ hc.1
    have h2 := leb_le_ten hc.2
    have h3 := isLeb_lead hc.1
    rw [h1] at h2
    have h4 : (l.take (lead l + 1)).length ≤ l.length := List.length_take_le' _ _
    have h5 := lead_le l
    refine ⟨?_, ?_, hc.2, h1⟩
    · by_cases hl : lead l + 1 ≤ l.length
      · exact hl
      · exfalso
        have : l.take (lead l + 1) = l := List.take_of_length_le (by omega)
        rw [this] at h3
        omega
    · by_cases hl : lead l + 1 ≤ l.length
      · rw [List.length_take_of_le hl] at h2; exact h2
      · exfalso
        have : l.take (lead l + 1) = l := List.take_of_length_le (by omega)
        rw [this] at h3
        omega
  · simp at h
theorem takeV_none {l : List UInt8} (h : (takeV l).2 = 0) : (takeV l).1 = 0 := by
  unfold takeV at h ⊢
  split at h
  · simp at h
  · rename_i hc; rw [if_neg hc]
theorem takeV_lt (l : List UInt8) : (takeV l).1 < 18446744073709551616 := by
  by_cases h : (takeV l).2 = 0
  · rw [takeV_none h]; omega
  · exact (takeV_some h).2.2.1
theorem takeV_le (l : List UInt8) : (takeV l).2 ≤ 10 := by
  by_cases h : (takeV l).2 = 0
  · omega
  · exact (takeV_some h).2.1
end Go.Proofs.YtaegknpijgjioaaGreatDoor.LebMath

/- Plain facts on what a text begins with (takeV), at each place where a reader of bytes stops. No condition. -/
namespace Go.Proofs.YtaegknpijgjioaaGreatDoor.LebMath

theorem isLeb_snoc : ∀ (pre : List UInt8) (b : UInt8), (∀ x ∈ pre, 128 ≤ x.toNat) → b.toNat < 128 → isLeb (pre ++ [b]) = decide (pre = [] ∨ b.toNat ≠ 0) := by
  intro pre b h hb
  induction pre with
  | nil => simp [isLeb, hb]
  | cons x pre ih =>
    have hx := h x (by simp)
    have ih' := ih (fun y hy => h y (by simp [hy]))
    cases pre with
    | nil =>
      simp only [List.cons_append, List.nil_append, isLeb]
      simp [hx, hb]
    | cons y pre =>
      simp only [List.cons_append] at ih' ⊢
      rw [isLeb, ih']
      simp [hx]
theorem mem_take_lead {l : List UInt8} {k : Nat} (h : ∀ j, j < k → 128 ≤ (l.getD j 0).toNat) (hk : k ≤ l.length) : ∀ x ∈ l.take k, 128 ≤ x.toNat := by
  intro x hx
  obtain ⟨j, hj, rfl⟩ := List.mem_iff_getElem.1 hx
  have hj' : j < k := by rw [List.length_take] at hj; omega
  have := h j hj'
  rw [List.getElem_take]
  rw [List.getD_eq_getElem?_getD, List.getElem?_eq_getElem (by omega)] at this
  exact this
theorem take_succ_getD {l : List UInt8} {k : Nat} (h : k < l.length) : l.take (k + 1) = l.take k ++ [l.getD k 0] := by
  rw [List.take_succ_eq_append_getElem h, List.getD_eq_getElem?_getD, List.getElem?_eq_getElem h]; rfl
/-- all bytes have 128 added: too few -/
theorem takeV_all {l : List UInt8} (h : ∀ j, j < l.length → 128 ≤ (l.getD j 0).toNat) : takeV l = (0, 0) := by
  have hl : lead l = l.length := lead_of h (fun h => by omega) (Nat.le_refl _)
  unfold takeV
  rw [if_neg]
  intro hc
  have := isLeb_lead hc.1
  rw [List.take_of_length_le (by omega)] at this
  omega
/-- the last byte is found -/
theorem takeV_at {l : List UInt8} {k : Nat} (hk : k < l.length) (h : ∀ j, j < k → 128 ≤ (l.getD j 0).toNat) (hb : (l.getD k 0).toNat < 128) :
    takeV l = if (k = 0 ∨ (l.getD k 0).toNat ≠ 0) ∧ lebVal (l.take (k + 1)) < 18446744073709551616 then (lebVal (l.take (k + 1)), k + 1) else (0, 0) := by
  have hl : lead l = k := lead_of h (fun _ => hb) (by omega)
  unfold takeV
  rw [hl]
  have e : (isLeb (l.take (k + 1)) = true) = (k = 0 ∨ (l.getD k 0).toNat ≠ 0) := by
    rw [take_succ_getD hk, isLeb_snoc _ _ (mem_take_lead h (by omega)) hb, decide_eq_true_eq]
    have : (l.take k = []) = (k = 0) := by
      rw [List.take_eq_nil_iff]
      apply propext
      constructor
      · intro h; rcases h with h | h
        · exact h
        · rw [h] at hk; simp at hk
      · intro h; exact .inl h
    rw [this]
  simp only [e]
theorem lebVal_take_succ {l : List UInt8} {k : Nat} (hk : k < l.length) : lebVal (l.take (k + 1)) = lebVal (l.take k) + 128 ^ k * ((l.getD k 0).toNat % 128) := by
  rw [take_succ_getD hk, lebVal_append, List.length_take_of_le (by omega)]
  simp [lebVal]
theorem lebVal_take_lt {l : List UInt8} {k : Nat} (hk : k ≤ l.length) : lebVal (l.take k) < 128 ^ k := by
  have := lebVal_lt (l.take k)
  rw [List.length_take_of_le hk] at this; exact this
/-- ten bytes with 128 added: more than 64 bits -/
theorem takeV_ten {l : List UInt8} (h : ∀ j, j < 10 → 128 ≤ (l.getD j 0).toNat) : takeV l = (0, 0) := by
  unfold takeV
  rw [if_neg]
  intro hc
  have h1 := isLeb_lead hc.1
  have h2 := leb_le_ten hc.2
  rw [leb_lebVal _ hc.1] at h2
  have h3 := lead_le l
  by_cases hle : lead l + 1 ≤ l.length
  · rw [List.length_take_of_le hle] at h2
    have h4 : lead l < 10 := by omega
    have h5 := h (lead l) h4
    have key : ∀ (l : List UInt8), lead l < l.length → (l.getD (lead l) 0).toNat < 128 := by
      intro l
      induction l with
      | nil => intro h; simp at h
      | cons b r ih =>
        intro h
        simp only [lead] at h ⊢
        split
        · rename_i hb
          rw [if_pos hb] at h
          have := ih (by simp at h; omega)
          simpa using this
        · simp; omega
    have := key l (by omega)
    omega
  · rw [List.take_of_length_le (by omega)] at h1
    omega
/-- the tenth byte is above 1: more than 64 bits -/
theorem takeV_tenth {l : List UInt8} (hl : 9 < l.length) (h : ∀ j, j < 9 → 128 ≤ (l.getD j 0).toNat) (hb : 1 < (l.getD 9 0).toNat) : takeV l = (0, 0) := by
  by_cases hb' : (l.getD 9 0).toNat < 128
  · rw [takeV_at hl h hb', if_neg]
    intro hc
    have h1 := lebVal_take_succ hl
    have h2 := hc.2
    rw [h1] at h2
    have : 128 ^ 9 * 2 ≤ 128 ^ 9 * ((l.getD 9 0).toNat % 128) := Nat.mul_le_mul_left _ (by omega)
    have e : (128 : Nat) ^ 9 * 2 = 18446744073709551616 := by decide
    omega
  · refine takeV_ten (fun j hj => ?_)
    by_cases hj9 : j = 9
    · subst hj9; omega
    · exact h j (by omega)
/-- the place of one byte more -/
theorem lebVal_fits {l : List UInt8} {k : Nat} (hk : k < l.length) (h10 : k < 10) (hb : k = 9 → (l.getD k 0).toNat ≤ 1) : lebVal (l.take (k + 1)) < 18446744073709551616 := by
  by_cases h9 : k = 9
  · subst h9
    have h1 := lebVal_take_succ hk
    have h2 := lebVal_take_lt (l := l) (k := 9) (by omega)
    have h3 := hb rfl
    have : 128 ^ 9 * ((l.getD 9 0).toNat % 128) ≤ 128 ^ 9 * 1 := Nat.mul_le_mul_left _ (by omega)
    have e : (128 : Nat) ^ 9 * 1 = 9223372036854775808 := by decide
    have e' : (128 : Nat) ^ 9 = 9223372036854775808 := by decide
    omega
  · have h2 := lebVal_take_lt (l := l) (k := k + 1) (by omega)
    have h3 : 128 ^ (k + 1) ≤ (128 : Nat) ^ 9 := Nat.pow_le_pow_right (by omega) (by omega)
    have e' : (128 : Nat) ^ 9 = 9223372036854775808 := by decide
    omega
end Go.Proofs.YtaegknpijgjioaaGreatDoor.LebMath

/- The contract of num.Put: it returns the bytes of a number, makes one block of its own, and leaves all that was there as it was. Condition: the number has 64 bits. -/
namespace Go.Proofs.YtaegknpijgjioaaGreatDoor
open Go.ChangeShapes Go.WideShapes Go.ChangeAt Go.RowKit
open LebMath
namespace NumPut

/-- ten places, the first of them filled -/
def arrOf (bs : List UInt8) : Array Value := (bs.map (fun b => Value.int .u8 (b.toNat : Int)) ++ List.replicate (10 - bs.length) (Value.int .u8 0)).toArray
theorem arrOf_next {bs : List UInt8} (h : bs.length < 10) : (arrOf bs)[bs.length]? = some (.int .u8 0) := by
  unfold arrOf
  simp only [List.getElem?_toArray]
  rw [List.getElem?_append_right (by simp)]
  obtain ⟨k, hk⟩ : ∃ k, 10 - bs.length = k + 1 := ⟨9 - bs.length, by omega⟩
  rw [hk, List.replicate_succ]
  simp
theorem arrOf_size {bs : List UInt8} (h : bs.length ≤ 10) : (arrOf bs).size = 10 := by
  unfold arrOf; simp; omega
theorem arrOf_set {bs : List UInt8} (h : bs.length < 10) (c : UInt8) (v : Int) (hv : v = c.toNat) : (arrOf bs).setIfInBounds bs.length (.int .u8 v) = arrOf (bs ++ [c]) := by
  subst hv
  unfold arrOf
  simp only [List.setIfInBounds_toArray]
  congr 1
  rw [List.set_append_right _ _ (by simp)]
  obtain ⟨k, hk⟩ : ∃ k, 10 - bs.length = k + 1 := ⟨9 - bs.length, by omega⟩
  rw [hk, List.replicate_succ]
  simp
  omega
theorem arrOf_at {bs : List UInt8} {i : Nat} (h : i < bs.length) : (arrOf bs)[i]? = some (.int .u8 ((bs.map (fun b => (b.toNat : Int))).getD i 0)) := by
  unfold arrOf
  simp only [List.getElem?_toArray]
  rw [List.getElem?_append_left (by simpa using h)]
  simp [List.getElem?_eq_getElem h]
theorem ret_str {l l' : List UInt8} (h : l' = l) : Ending.returned (.string ⟨l.toArray⟩) = .returned (.string ⟨l'.toArray⟩) := by rw [h]
end NumPut
end Go.Proofs.YtaegknpijgjioaaGreatDoor

/- The contract of num.Take: it returns the number whose bytes a text begins with, and how many they are (0 and 0 of others), and leaves the world alone. Condition: the text is no longer than a Go string may be. -/
namespace Go.Proofs.YtaegknpijgjioaaGreatDoor
open Go.ChangeShapes Go.WideShapes Go.ChangeAt Go.RowKit
open LebMath
namespace NumTake

theorem getD_byte (s : ByteArray) (k : Nat) (h : k < s.size) : s.data.toList.getD k 0 = s[k] := by
  rw [List.getD_eq_getElem?_getD, List.getElem?_eq_getElem (by simpa using h)]; rfl
theorem ret_take {l : List UInt8} {n m : Int} (h1 : n = (takeV l).1) (h2 : m = (takeV l).2) :
    Ending.returned (.tuple #[.int .u64 n, .int .i64 m]) = .returned (.tuple #[.int .u64 (takeV l).1, .int .i64 (takeV l).2]) := by rw [h1, h2]
theorem ret_nought {l : List UInt8} (h : takeV l = (0, 0)) :
    Ending.returned (.tuple #[.int .u64 0, .int .i64 0]) = .returned (.tuple #[.int .u64 (takeV l).1, .int .i64 (takeV l).2]) := by rw [h]; rfl
theorem step_val (s : ByteArray) (k : Nat) (hk : k < s.size) (h10 : k < 10) (hb : k = 9 → s[k].toNat ≤ 1) :
    IntKind.u64.wrap (↑(lebVal (List.take k s.data.toList)) + IntKind.u64.wrap ((s[k].toNat : Int) % 128 * 2 ^ (7 * k))) = ↑(lebVal (List.take (k + 1) s.data.toList)) := by
  have hl : k < s.data.toList.length := by rw [Array.length_toList]; exact hk
  have hd := getD_byte s k hk
  have h1 := lebVal_take_succ hl
  have h2 := lebVal_fits hl h10 (fun h => by rw [hd]; exact hb h)
  rw [hd] at h1
  have e : ((s[k].toNat : Int) % 128 * 2 ^ (7 * k)) = ((128 ^ k * (s[k].toNat % 128) : Nat) : Int) := by
    have : (128 : Nat) ^ k = 2 ^ (7 * k) := by rw [Nat.pow_mul]
    rw [this, Nat.mul_comm (2 ^ (7 * k))]
    push_cast
    rfl
  rw [e]
  generalize 128 ^ k * (s[k].toNat % 128) = x at *
  rw [IntWalk.u64_in (x : Int) (by omega), IntWalk.u64_in _ (by omega), h1]
  push_cast
  rfl
theorem step_val_nought (s : ByteArray) (k : Nat) (hk : k < s.size) (h10 : k < 10) (hz : s[k].toNat = 0) :
    IntKind.u64.wrap (↑(lebVal (List.take k s.data.toList)) + IntKind.u64.wrap 0) = ↑(lebVal (List.take (k + 1) s.data.toList)) := by
  have h := step_val s k hk h10 (fun _ => by omega)
  rw [hz] at h
  simpa using h
end NumTake
end Go.Proofs.YtaegknpijgjioaaGreatDoor

/- What chapter 4 says of a reader's calls, as plain functions of the first error and the bytes that are left. No condition. -/
namespace Go.Proofs.YtaegknpijgjioaaGreatDoor.WirePure
open LebMath

/-- the first error -/
def fst (c d : Int) : Int := if c = 0 then d else c
theorem fst_no (d : Int) : fst 0 d = d := by simp [fst]
theorem fst_yes {c : Int} (h : c ≠ 0) (d : Int) : fst c d = c := by simp [fst, h]
theorem fst_ne {c d : Int} (h : d ≠ 0) : fst c d ≠ 0 := by unfold fst; split <;> assumption
/-- why no number stands at the beginning -/
def why (l : List UInt8) : Int := if 10 ≤ l.length then 3 else if l.any (fun b => decide (b.toNat < 128)) = true then 3 else 40
theorem why_ne (l : List UInt8) : why l ≠ 0 := by unfold why; split; · decide
                                                  split <;> decide
/-- a number up to m: the error behind it, the number, the bytes left -/
def numE (m : Nat) (c : Int) (l : List UInt8) : Int := if (takeV l).2 = 0 then fst c (why l) else if m < (takeV l).1 then fst c 2 else c
def numV (m : Nat) (c : Int) (l : List UInt8) : Nat := if numE m c l = 0 then (takeV l).1 else 0
def numL (m : Nat) (c : Int) (l : List UInt8) : List UInt8 := if numE m c l = 0 then l.drop (takeV l).2 else l
/-- so many bytes -/
def takeE (n : Nat) (c : Int) (l : List UInt8) : Int := if l.length < n then fst c 40 else c
def takeS (n : Nat) (c : Int) (l : List UInt8) : List UInt8 := if takeE n c l = 0 then l.take n else []
def takeL (n : Nat) (c : Int) (l : List UInt8) : List UInt8 := if takeE n c l = 0 then l.drop n else l
/-- a text of up to m bytes -/
def textE (m : Nat) (c : Int) (l : List UInt8) : Int := takeE (numV m c l) (numE m c l) (numL m c l)
def textS (m : Nat) (c : Int) (l : List UInt8) : List UInt8 := takeS (numV m c l) (numE m c l) (numL m c l)
def textL (m : Nat) (c : Int) (l : List UInt8) : List UInt8 := takeL (numV m c l) (numE m c l) (numL m c l)
/-- a truth -/
def boolE (c : Int) (l : List UInt8) : Int := if takeS 1 c l = [1] ∨ takeS 1 c l = [0] then takeE 1 c l else fst (takeE 1 c l) 3
def boolV (c : Int) (l : List UInt8) : Bool := decide (takeS 1 c l = [1])
def boolL (c : Int) (l : List UInt8) : List UInt8 := takeL 1 c l
/-- the end -/
def endE (c : Int) (l : List UInt8) : Int := if l = [] then c else fst c 3
theorem numL_len (m : Nat) (c : Int) (l : List UInt8) : (numL m c l).length ≤ l.length := by unfold numL; split <;> simp
theorem takeL_len (n : Nat) (c : Int) (l : List UInt8) : (takeL n c l).length ≤ l.length := by unfold takeL; split <;> simp
theorem takeS_len (n : Nat) (c : Int) (l : List UInt8) : (takeS n c l).length ≤ l.length := by unfold takeS; split <;> simp <;> omega
theorem textL_len (m : Nat) (c : Int) (l : List UInt8) : (textL m c l).length ≤ l.length := Nat.le_trans (takeL_len _ _ _) (numL_len _ _ _)
theorem boolL_len (c : Int) (l : List UInt8) : (boolL c l).length ≤ l.length := takeL_len _ _ _
theorem numV_lt (m : Nat) (c : Int) (l : List UInt8) : numV m c l < 18446744073709551616 := by
  unfold numV; split
  · exact takeV_lt l
  · omega
theorem numV_le (m : Nat) (c : Int) (l : List UInt8) : numV m c l ≤ m := by
  unfold numV
  split
  · rename_i h
    unfold numE at h
    split at h
    · rename_i h2
      rw [takeV_none h2]; omega
    · split at h
      · exact absurd h (fst_ne (by decide))
      · omega
  · omega
/-- behind an error all stays -/
theorem numE_err {c : Int} (h : c ≠ 0) (m : Nat) (l : List UInt8) : numE m c l = c := by
  unfold numE; split
  · exact fst_yes h _
  · split
    · exact fst_yes h _
    · rfl
theorem numV_err {c : Int} (h : c ≠ 0) (m : Nat) (l : List UInt8) : numV m c l = 0 := by unfold numV; rw [numE_err h, if_neg h]
theorem numL_err {c : Int} (h : c ≠ 0) (m : Nat) (l : List UInt8) : numL m c l = l := by unfold numL; rw [numE_err h, if_neg h]
theorem takeE_err {c : Int} (h : c ≠ 0) (n : Nat) (l : List UInt8) : takeE n c l = c := by
  unfold takeE; split
  · exact fst_yes h _
  · rfl
theorem takeS_err {c : Int} (h : c ≠ 0) (n : Nat) (l : List UInt8) : takeS n c l = [] := by unfold takeS; rw [takeE_err h, if_neg h]
theorem takeL_err {c : Int} (h : c ≠ 0) (n : Nat) (l : List UInt8) : takeL n c l = l := by unfold takeL; rw [takeE_err h, if_neg h]
theorem textE_err {c : Int} (h : c ≠ 0) (m : Nat) (l : List UInt8) : textE m c l = c := by unfold textE; rw [numE_err h, numV_err h, numL_err h, takeE_err h]
theorem textS_err {c : Int} (h : c ≠ 0) (m : Nat) (l : List UInt8) : textS m c l = [] := by unfold textS; rw [numE_err h, takeS_err h]
theorem textL_err {c : Int} (h : c ≠ 0) (m : Nat) (l : List UInt8) : textL m c l = l := by unfold textL; rw [numE_err h, numV_err h, numL_err h, takeL_err h]
theorem boolE_err {c : Int} (h : c ≠ 0) (l : List UInt8) : boolE c l = c := by
  unfold boolE; rw [takeE_err h]; split
  · rfl
  · exact fst_yes h _
theorem boolV_err {c : Int} (h : c ≠ 0) (l : List UInt8) : boolV c l = false := by unfold boolV; rw [takeS_err h]; rfl
theorem boolL_err {c : Int} (h : c ≠ 0) (l : List UInt8) : boolL c l = l := takeL_err h _ _
/-- what was written is read -/
theorem numE_put {n m : Nat} (h : n < 18446744073709551616) (hm : n ≤ m) (r : List UInt8) : numE m 0 (leb n ++ r) = 0 := by
  unfold numE
  have hp := leb_pos n
  rw [takeV_leb h, if_neg (by omega), if_neg (by omega)]
theorem numV_put {n m : Nat} (h : n < 18446744073709551616) (hm : n ≤ m) (r : List UInt8) : numV m 0 (leb n ++ r) = n := by
  unfold numV; rw [numE_put h hm, if_pos rfl, takeV_leb h]
theorem numL_put {n m : Nat} (h : n < 18446744073709551616) (hm : n ≤ m) (r : List UInt8) : numL m 0 (leb n ++ r) = r := by
  unfold numL; rw [numE_put h hm, if_pos rfl, takeV_leb h]; simp
theorem takeE_put (a r : List UInt8) : takeE a.length 0 (a ++ r) = 0 := by unfold takeE; rw [if_neg (by simp)]
theorem takeS_put (a r : List UInt8) : takeS a.length 0 (a ++ r) = a := by unfold takeS; rw [takeE_put, if_pos rfl]; simp
theorem takeL_put (a r : List UInt8) : takeL a.length 0 (a ++ r) = r := by unfold takeL; rw [takeE_put, if_pos rfl]; simp
theorem text_put {a : List UInt8} {m : Nat} (h : a.length < 18446744073709551616) (hm : a.length ≤ m) (r : List UInt8) :
    textE m 0 (leb a.length ++ (a ++ r)) = 0 ∧ textS m 0 (leb a.length ++ (a ++ r)) = a ∧ textL m 0 (leb a.length ++ (a ++ r)) = r := by
  unfold textE textS textL
  rw [numE_put h hm, numV_put h hm, numL_put h hm]
  exact ⟨takeE_put _ _, takeS_put _ _, takeL_put _ _⟩
theorem bool_put (b : UInt8) (hb : b = 0 ∨ b = 1) (r : List UInt8) : boolE 0 (b :: r) = 0 ∧ boolV 0 (b :: r) = decide (b = 1) ∧ boolL 0 (b :: r) = r := by
  have e1 : takeE 1 0 (b :: r) = 0 := by unfold takeE; rw [if_neg (by simp)]
  have e2 : takeS 1 0 (b :: r) = [b] := by unfold takeS; rw [e1]; simp
  have e3 : takeL 1 0 (b :: r) = r := by unfold takeL; rw [e1]; simp
  refine ⟨?_, ?_, e3⟩
  · unfold boolE
    rw [e2, e1]
    rcases hb with rfl | rfl <;> simp
  · unfold boolV
    rw [e2]
    simp
/-- what was read without an error is what is written of it -/
theorem num_canon {m : Nat} {l : List UInt8} (h : numE m 0 l = 0) : l = leb (numV m 0 l) ++ numL m 0 l := by
  have h' := h
  unfold numE at h
  split at h
  · exact absurd h (fst_ne (why_ne l))
  · rename_i h2
    have := takeV_some h2
    unfold numV numL
    rw [h', if_pos rfl, if_pos rfl, this.2.2.2, List.take_append_drop]
theorem take_canon {n : Nat} {l : List UInt8} (h : takeE n 0 l = 0) : l = takeS n 0 l ++ takeL n 0 l ∧ (takeS n 0 l).length = n := by
  have h' := h
  unfold takeE at h
  split at h
  · exact absurd h (fst_ne (by decide))
  · unfold takeS takeL
    rw [h', if_pos rfl, if_pos rfl, List.take_append_drop]
    refine ⟨rfl, ?_⟩
    rw [List.length_take]; omega
theorem text_canon {m : Nat} {l : List UInt8} (h : textE m 0 l = 0) : l = leb (textS m 0 l).length ++ (textS m 0 l ++ textL m 0 l) := by
  unfold textE at h
  unfold textS textL
  by_cases h0 : numE m 0 l = 0
  · rw [h0] at h ⊢
    obtain ⟨h1, h2⟩ := take_canon h
    rw [h2, ← h1]
    exact num_canon h0
  · rw [takeE_err h0] at h; exact absurd h h0
theorem bool_canon {l : List UInt8} (h : boolE 0 l = 0) : l = (if boolV 0 l = true then 1 else 0) :: boolL 0 l := by
  unfold boolE at h
  split at h
  · rename_i h2
    obtain ⟨h1, _⟩ := take_canon h
    unfold boolV boolL
    rcases h2 with h2 | h2
    · rw [h2] at h1 ⊢; simpa using h1
    · rw [h2] at h1 ⊢; simpa using h1
  · exact absurd h (fst_ne (by decide))
end Go.Proofs.YtaegknpijgjioaaGreatDoor.WirePure

/- A text of one byte out of a slice of one, and such a text ahead of another. Condition: the byte's cell holds it. -/
namespace Go.Proofs.YtaegknpijgjioaaGreatDoor
open Go.ChangeShapes Go.WideShapes Go.ChangeAt Go.RowKit
namespace OneByte

set_option maxRecDepth 100000 in
theorem run_one (v : Int) (c : UInt8) (hv : v = c.toNat) (W : World) (b : Nat) (h : W.cell? ⟨b, 0, none⟩ = some (.int .u8 v)) :
    (convert 96 9 (.slice (some ⟨b, 0, none⟩) 1 1)).run Tryz.prog W = .ok (.string ⟨[c].toArray⟩) W := by
  subst hv
  have := run_convert_bytes_arg (P := Tryz.prog) W 96 5 Tryz.underlying96 Tryz.underlying5 b 0 1 1 [(c.toNat : Int)] (by simp)
    (fun i hi => by
      obtain rfl : i = 0 := by omega
      simpa using h) 9 Tryz.underlying9
  rw [this]
  congr 3
  unfold strOfNums
  simp
theorem ret_cat {c : UInt8} {l m : List UInt8} (h : m = [c] ++ l) : Ending.returned (.string (ByteArray.mk #[c] ++ ByteArray.mk l.toArray)) = .returned (.string ⟨m.toArray⟩) := by
  have e := ByteArray.mk_append_mk [c] l
  rw [h, ← e]
end OneByte
end Go.Proofs.YtaegknpijgjioaaGreatDoor

/- Plain arithmetic for layer 1 (num): when a sum or a product of two 64-bit integers fits, and what Go's checks by division and by sizes say of it. No condition. -/
namespace Go.Proofs.YtaegknpijgjioaaGreatDoor.NumMath
open Go.RowKit (wrap64)

/-- 'an int can be that' -/
def fits (n : Int) : Bool := decide (-9223372036854775808 ≤ n ∧ n ≤ 9223372036854775807)
theorem fits_yes {n : Int} (h1 : -9223372036854775808 ≤ n) (h2 : n ≤ 9223372036854775807) : fits n = true := by
  unfold fits; exact decide_eq_true ⟨h1, h2⟩
theorem fits_no {n : Int} (h : n < -9223372036854775808 ∨ 9223372036854775807 < n) : fits n = false := by
  unfold fits; exact decide_eq_false (by omega)
theorem fits_iff {n : Int} : fits n = true ↔ (-9223372036854775808 ≤ n ∧ n ≤ 9223372036854775807) := by
  unfold fits; exact decide_eq_true_iff
theorem fits_wf {a : Int} (h : (Lit.int .i64 a).wf = true) : fits a = true := by
  have := bounds_i64 h
  exact fits_yes this.1 this.2
/-- the value beside the answer -/
def val (n : Int) : Int := if fits n = true then n else 0
theorem val_yes {n : Int} (h : fits n = true) : val n = n := by unfold val; rw [if_pos h]
theorem val_no {n : Int} (h : fits n = false) : val n = 0 := by unfold val; rw [if_neg (by simp [h])]
theorem wrap_fits {n : Int} (h : fits n = true) : wrap64 n = n := by
  have := fits_iff.1 h; exact IntWalk.wrap64_in n this
theorem abs_lt_of_tdiv {x b a : Int} (hb : b ≠ 0) (h : x.tdiv b = a) : (x - a * b).natAbs < b.natAbs := by
  have h1 : x - a * b = x.tmod b := by
    have := Int.tmod_add_mul_tdiv x b
    rw [h] at this
    rw [Int.mul_comm a b]; omega
  rw [h1, Int.natAbs_tmod]
  exact Nat.mod_lt _ (by omega)
/-- Go's check of a product by division is exact. -/
theorem mul_check {a b : Int} (ha : fits a = true) (hb : fits b = true) (h0 : b ≠ 0) (hm : ¬ (a = -9223372036854775808 ∧ b = -1)) :
    (wrap64 ((wrap64 (a * b)).tdiv b) = a) ↔ fits (a * b) = true := by
  have hA := fits_iff.1 ha
  have hB := fits_iff.1 hb
  constructor
  · intro h
    have hw : -9223372036854775808 ≤ wrap64 (a * b) ∧ wrap64 (a * b) ≤ 9223372036854775807 := by unfold wrap64; omega
    have hmod : ∃ k : Int, a * b = wrap64 (a * b) + 18446744073709551616 * k := by
      unfold wrap64
      refine ⟨(a * b + 9223372036854775808) / 18446744073709551616, ?_⟩
      omega
    obtain ⟨k, hk⟩ := hmod
    generalize wrap64 (a * b) = w at *
    have hq : (w.tdiv b).natAbs ≤ w.natAbs := by rw [Int.natAbs_tdiv]; exact Nat.div_le_self _ _
    by_cases hbig : w.tdiv b = 9223372036854775808
    · exfalso
      rw [hbig] at h
      have ha' : a = -9223372036854775808 := by rw [← h]; unfold wrap64; omega
      have hl := abs_lt_of_tdiv h0 hbig
      have hb1 : b = -1 := by
        by_cases hbp : 0 < b
        · have : 9223372036854775808 * 1 ≤ 9223372036854775808 * b := Int.mul_le_mul_of_nonneg_left (by omega) (by omega)
          omega
        · by_cases hb2 : b = -1
          · exact hb2
          · have : 9223372036854775808 * b ≤ 9223372036854775808 * (-2) := Int.mul_le_mul_of_nonneg_left (by omega) (by omega)
            omega
      exact hm ⟨ha', hb1⟩
    · have h' : w.tdiv b = a := by
        rw [IntWalk.wrap64_in _ (by omega)] at h; exact h
      have hl := abs_lt_of_tdiv h0 h'
      have : a * b = w := by omega
      rw [this]; exact fits_yes hw.1 hw.2
  · intro h
    rw [wrap_fits h, Int.mul_tdiv_cancel _ h0]
    exact IntWalk.wrap64_in _ hA
/-- the greatest size that a product of these signs may have -/
def mostSize (a b : Int) : Nat := if decide (a < 0) = decide (b < 0) then 9223372036854775807 else 9223372036854775808
theorem mul_sizes (a b : Int) : (0 < a.natAbs ∧ mostSize a b / a.natAbs < b.natAbs) ↔ fits (a * b) = false := by
  by_cases h0 : a.natAbs = 0
  · have : a = 0 := by omega
    subst this
    simp [fits]
  · have hx : 0 < a.natAbs := by omega
    rw [Nat.div_lt_iff_lt_mul hx]
    have key : (a * b).natAbs = b.natAbs * a.natAbs := by rw [Int.natAbs_mul, Nat.mul_comm]
    rw [← key]
    have hs : (0 ≤ a ∧ 0 ≤ b ∧ 0 ≤ a * b) ∨ (a < 0 ∧ b < 0 ∧ 0 ≤ a * b) ∨ (0 ≤ a ∧ b < 0 ∧ a * b ≤ 0) ∨ (a < 0 ∧ 0 ≤ b ∧ a * b ≤ 0) := by
      rcases Int.lt_or_le a 0 with h1 | h1 <;> rcases Int.lt_or_le b 0 with h2 | h2
      · exact .inr (.inl ⟨h1, h2, Int.mul_nonneg_of_nonpos_of_nonpos (by omega) (by omega)⟩)
      · exact .inr (.inr (.inr ⟨h1, h2, Int.mul_nonpos_of_nonpos_of_nonneg (by omega) h2⟩))
      · exact .inr (.inr (.inl ⟨h1, h2, Int.mul_nonpos_of_nonneg_of_nonpos h1 (by omega)⟩))
      · exact .inl ⟨h1, h2, Int.mul_nonneg h1 h2⟩
    generalize a * b = p at *
    unfold fits mostSize
    rcases hs with ⟨h1, h2, h3⟩ | ⟨h1, h2, h3⟩ | ⟨h1, h2, h3⟩ | ⟨h1, h2, h3⟩
    · have e1 : decide (a < 0) = false := decide_eq_false (by omega)
      have e2 : decide (b < 0) = false := decide_eq_false (by omega)
      rw [e1, e2, if_pos rfl, decide_eq_false_iff_not]; omega
    · have e1 : decide (a < 0) = true := decide_eq_true (by omega)
      have e2 : decide (b < 0) = true := decide_eq_true (by omega)
      rw [e1, e2, if_pos rfl, decide_eq_false_iff_not]; omega
    · have e1 : decide (a < 0) = false := decide_eq_false (by omega)
      have e2 : decide (b < 0) = true := decide_eq_true (by omega)
      rw [e1, e2, if_neg (by simp), decide_eq_false_iff_not]
      have : p.natAbs ≠ 0 ∨ p = 0 := by omega
      omega
    · have e1 : decide (a < 0) = true := decide_eq_true (by omega)
      have e2 : decide (b < 0) = false := decide_eq_false (by omega)
      rw [e1, e2, if_neg (by simp), decide_eq_false_iff_not]
      omega
end Go.Proofs.YtaegknpijgjioaaGreatDoor.NumMath

/- The contract of the document's size of a number: its magnitude as a 64-bit number without sign; the world is left alone. Condition: the argument is a 64-bit integer. -/
namespace Go.Proofs.YtaegknpijgjioaaGreatDoor
open Go.ChangeShapes Go.WideShapes Go.ChangeAt Go.RowKit
open NumMath
namespace NumRefSize

theorem size_any (a : Int) (w : World) (ha : fits a = true) :
    Calls Tryz.prog 93 #[.int .i64 a] w fun e w' => e = .returned (.int .u64 (a.natAbs : Int)) ∧ w = w' := by
  have hA := fits_iff.1 ha
  clear ha
  by_cases hs : a < 0
  · go_enter Tryz.func93, Tryz.ntmps93
    go_wp2
    go_ret
    refine ⟨congrArg (fun n => Ending.returned (.int .u64 n)) ?_, rfl⟩
    rw [IntKind.wrap_u64, IntKind.wrap_u64]
    omega
  · go_enter Tryz.func93, Tryz.ntmps93
    go_wp2
    go_ret
    refine ⟨congrArg (fun n => Ending.returned (.int .u64 n)) ?_, rfl⟩
    omega
end NumRefSize
end Go.Proofs.YtaegknpijgjioaaGreatDoor

/- Plain facts on numbers as text: the decimal text of a number, the number of a text (parseV), and how a reader from the left comes to it. No condition. -/
namespace Go.Proofs.YtaegknpijgjioaaGreatDoor.TextMath
open Go.Lib

/-- the number of digits -/
def dv : List UInt8 → Nat → Nat
  | [], acc => acc
  | c :: r, acc => dv r (acc * 10 + (c.toNat - 48))
def decVal (acc : Nat) (l : List UInt8) : Nat := dv l acc
theorem decVal_nil (acc : Nat) : decVal acc [] = acc := by unfold decVal; rw [dv]
theorem decVal_cons (acc : Nat) (c : UInt8) (r : List UInt8) : decVal acc (c :: r) = decVal (acc * 10 + (c.toNat - 48)) r := by unfold decVal; rw [dv]
def digit (c : UInt8) : Bool := decide (48 ≤ c.toNat) && decide (c.toNat ≤ 57)
theorem digit_iff {c : UInt8} : digit c = true ↔ (48 ≤ c.toNat ∧ c.toNat ≤ 57) := by simp [digit]
theorem decVal_append (a b : List UInt8) : ∀ acc, decVal acc (a ++ b) = decVal (decVal acc a) b := by
  induction a with
  | nil => intro acc; rw [List.nil_append, decVal_nil]
  | cons x a ih => intro acc; rw [List.cons_append, decVal_cons, decVal_cons]; exact ih _
theorem toNat_digit {d : Nat} (h : d < 10) : (UInt8.ofNat (48 + d)).toNat = 48 + d := by
  simp [UInt8.toNat_ofNat']; omega
theorem decVal_dec (u : Nat) : decVal 0 (decDigits u) = u := by
  induction u using Nat.strongRecOn with
  | _ u ih =>
    by_cases h : u < 10
    · rw [decDigits_one h]; simp only [decVal_nil, decVal_cons]; rw [toNat_digit h]; omega
    · rw [decDigits, dif_neg h, decVal_append, ih (u / 10) (by omega)]
      simp only [decVal_nil, decVal_cons]; rw [toNat_digit (by omega)]; omega
theorem digits_dec (u : Nat) : ∀ c ∈ decDigits u, digit c = true := by
  induction u using Nat.strongRecOn with
  | _ u ih =>
    intro c hc
    by_cases h : u < 10
    · rw [decDigits_one h] at hc; simp only [List.mem_singleton] at hc; rw [hc, digit_iff, toNat_digit h]; omega
    · rw [decDigits, dif_neg h, List.mem_append] at hc
      rcases hc with hc | hc
      · exact ih _ (by omega) c hc
      · simp only [List.mem_singleton] at hc; rw [hc, digit_iff, toNat_digit (by omega)]; omega
theorem decVal_lt (l : List UInt8) : ∀ acc k, acc < 10 ^ k → (∀ c ∈ l, digit c = true) → decVal acc l < 10 ^ (k + l.length) := by
  induction l with
  | nil => intro acc k h _; simpa [decVal_nil] using h
  | cons c l ih =>
    intro acc k h hd
    have hc := digit_iff.1 (hd c (by simp))
    simp only [decVal_cons, List.length_cons]
    have := ih (acc * 10 + (c.toNat - 48)) (k + 1) (by rw [Nat.pow_succ]; omega) (fun x hx => hd x (by simp [hx]))
    rw [show k + (l.length + 1) = k + 1 + l.length by omega]; exact this
/-- the text of a number -/
theorem itoa_pos {n : Int} (h : 0 ≤ n) : itoa n = decDigits n.toNat := by unfold itoa; rw [if_neg (by omega)]
theorem itoa_neg {n : Int} (h : n < 0) : itoa n = 45 :: decDigits n.natAbs := by unfold itoa; rw [if_pos h]
theorem dec_ne_nil (u : Nat) : decDigits u ≠ [] := by
  intro h; have := decDigits_length u; rw [h] at this; have := nDigits_pos u; simp at *; omega
theorem itoa_inj {a b : Int} (h : itoa a = itoa b) : a = b := by
  by_cases ha : a < 0
  · by_cases hb : b < 0
    · rw [itoa_neg ha, itoa_neg hb] at h
      injection h with _ h
      have e1 := decVal_dec a.natAbs
      rw [h, decVal_dec] at e1
      omega
    · exfalso
      rw [itoa_neg ha, itoa_pos (by omega)] at h
      have := digits_dec b.toNat 45 (by rw [← h]; simp)
      simp [digit] at this
  · by_cases hb : b < 0
    · exfalso
      rw [itoa_neg hb, itoa_pos (by omega)] at h
      have := digits_dec a.toNat 45 (by rw [h]; simp)
      simp [digit] at this
    · rw [itoa_pos (by omega), itoa_pos (by omega)] at h
      have e1 := decVal_dec a.toNat
      rw [h, decVal_dec] at e1
      omega
/-- a text of at most nineteen digits, read from the left -/
theorem parse_digits (l : List UInt8) : ∀ acc k, acc < 10 ^ k → k + l.length ≤ 19 → (∀ c ∈ l, digit c = true) → parseUint10 acc l = .ok (decVal acc l) := by
  induction l with
  | nil => intro acc k _ _ _; rfl
  | cons c l ih =>
    intro acc k h hk hd
    have hc := digit_iff.1 (hd c (by simp))
    simp only [List.length_cons] at hk
    have h18 : 10 ^ k ≤ (10 : Nat) ^ 18 := Nat.pow_le_pow_right (by omega) (by omega)
    have e18 : (10 : Nat) ^ 18 = 1000000000000000000 := by decide
    simp only [parseUint10, decVal_cons]
    rw [if_pos hc, if_neg (by omega), if_neg (by omega)]
    exact ih _ (k + 1) (by rw [Nat.pow_succ]; omega) (by omega) (fun x hx => hd x (by simp [hx]))
theorem atoi_digits {l : List UInt8} (h0 : l ≠ []) (hl : l.length ≤ 19) (hd : ∀ c ∈ l, digit c = true) :
    atoiAll l = if 9223372036854775808 ≤ decVal 0 l then .range else .ok (decVal 0 l : Int) := by
  cases l with
  | nil => exact absurd rfl h0
  | cons c r =>
    have hc := digit_iff.1 (hd c (by simp))
    have hp := parse_digits (c :: r) 0 0 (by decide) (by omega) hd
    have e1 : ¬ (c.toNat = 43 ∨ c.toNat = 45) := by omega
    have e2 : ¬ c.toNat = 45 := by omega
    have hmag : parseMag (if c.toNat = 43 ∨ c.toNat = 45 then r else c :: r) = .ok (decVal 0 (c :: r)) := by
      rw [if_neg e1]; unfold parseMag; rw [if_neg h0, hp]
    unfold atoiAll
    simp only [hmag]
    simp only [e2, not_false_eq_true, true_and, false_and, if_false]
/-- the number from 0 to most whose text it is -/
def parseV (l : List UInt8) (most : Int) : Int × Bool :=
  match atoiAll l with
  | .ok v => if 0 ≤ v ∧ v ≤ most ∧ itoa v = l then (v, true) else (0, false)
  | _ => (0, false)
theorem dec_len_le {u : Nat} (h : u < 9223372036854775808) : (decDigits u).length ≤ 19 := by
  rw [decDigits_length]
  by_cases h0 : u < 10
  · rw [nDigits_small h0]; omega
  · have key : ∀ k u, u < 10 ^ (k + 1) → nDigits u ≤ k + 1 := by
      intro k
      induction k with
      | zero => intro u h; rw [nDigits_small (by simpa using h)]; omega
      | succ k ih =>
        intro u h
        by_cases hu : u < 10
        · rw [nDigits_small hu]; omega
        · rw [nDigits_big hu]
          have := ih (u / 10) (by rw [Nat.div_lt_iff_lt_mul (by omega)]; rw [Nat.pow_succ] at h; exact h)
          omega
    exact key 18 u (Nat.lt_of_lt_of_le h (by decide))
/-- what is the text of a number that is not below 0 -/
theorem itoa_facts {v : Int} {l : List UInt8} (h0 : 0 ≤ v) (h1 : v ≤ 9223372036854775807) (h : itoa v = l) :
    l ≠ [] ∧ l.length ≤ 19 ∧ (∀ c ∈ l, digit c = true) ∧ decVal 0 l = v.toNat := by
  rw [itoa_pos h0] at h
  subst h
  exact ⟨dec_ne_nil _, dec_len_le (by omega), digits_dec _, decVal_dec _⟩
theorem parseV_itoa {n most : Int} (h0 : 0 ≤ n) (h1 : n ≤ 9223372036854775807) (hm : n ≤ most) : parseV (itoa n) most = (n, true) := by
  obtain ⟨h2, h3, h4, h5⟩ := itoa_facts h0 h1 rfl
  have e := atoi_digits h2 h3 h4
  rw [h5, if_neg (by omega), Int.toNat_of_nonneg h0] at e
  unfold parseV
  rw [e]
  simp [h0, hm]
theorem ok_le {l : List UInt8} {v : Int} (h : atoiAll l = .ok v) : -9223372036854775808 ≤ v ∧ v ≤ 9223372036854775807 := by
  unfold atoiAll at h
  split at h
  · cases h
  · simp only at h
    split at h
    · cases h
    · cases h
    · split at h
      · cases h
      · split at h
        · cases h
        · rename_i h1 h2
          injection h with h
          subst h
          split <;> omega
theorem parseV_neg {n most : Int} (h : n < 0) : parseV (itoa n) most = (0, false) := by
  unfold parseV
  split
  · rename_i v hv
    rw [if_neg]
    rintro ⟨h0, _, h2⟩
    have := itoa_inj h2
    omega
  · rfl
theorem parseV_no {l : List UInt8} {most : Int} (h : l = [] ∨ 19 < l.length ∨ ∃ c ∈ l, digit c = false) : parseV l most = (0, false) := by
  unfold parseV
  split
  · rename_i v hv
    rw [if_neg]
    rintro ⟨h0, _, h2⟩
    obtain ⟨f1, f2, f3, _⟩ := itoa_facts h0 (ok_le hv).2 h2
    rcases h with h | h | ⟨c, hc, hd⟩
    · exact f1 h
    · omega
    · rw [f3 c hc] at hd; cases hd
  · rfl
theorem parseV_digits {l : List UInt8} {most : Int} (h0 : l ≠ []) (hl : l.length ≤ 19) (hd : ∀ c ∈ l, digit c = true) :
    parseV l most = if decVal 0 l ≤ 9223372036854775807 ∧ itoa (decVal 0 l : Int) = l ∧ 0 ≤ most ∧ (decVal 0 l : Int) ≤ most then ((decVal 0 l : Int), true) else (0, false) := by
  have e := atoi_digits h0 hl hd
  unfold parseV
  rw [e]
  by_cases hb : 9223372036854775808 ≤ decVal 0 l
  · rw [if_pos hb, if_neg (by omega)]
  · rw [if_neg hb]
    simp only
    by_cases hc : itoa (decVal 0 l : Int) = l ∧ (decVal 0 l : Int) ≤ most
    · rw [if_pos ⟨by omega, hc.2, hc.1⟩, if_pos ⟨by omega, hc.1, by omega, hc.2⟩]
    · rw [if_neg (fun h => hc ⟨h.2.2, h.2.1⟩), if_neg (fun h => hc ⟨h.2.1, h.2.2.2⟩)]
theorem parseV_bounds (l : List UInt8) (most : Int) : 0 ≤ (parseV l most).1 ∧ (parseV l most).1 ≤ 9223372036854775807 := by
  unfold parseV
  split
  · rename_i v hv
    split
    · rename_i h; exact ⟨h.1, (ok_le hv).2⟩
    · simp
  · simp
end Go.Proofs.YtaegknpijgjioaaGreatDoor.TextMath
