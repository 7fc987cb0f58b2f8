/-
  Plain facts on numbers as text: the decimal text of a number, the number of a text (parseV), and how a reader from the left comes to it. No condition.
-/
import Derived.Test.YtpllcnpmjnmcfaaDoorRc2
import Derived.Test.YtpllcnpmjnmcfaaDoorRc0
import Derived.Test.YtpllcnpmjnmcfaaDoorRc1
import Derived.Lib.ItoaNum
import Derived.Lib.AtoiAll
import Derived.WalkKit
import Derived.ShutString
import Derived.Lib.ItoaLen
import Derived.Laws.OwnMore
import Derived.StillTailTactics
import Derived.Laws.Concat
import Derived.Deep.QuietTactic
import Derived.BigQuiet
import Derived.IntWalk
namespace Go.Proofs.YtpllcnpmjnmcfaaDoor.TextMath
open Go.Lib

/-- the number of digits -/
def dv : List UInt8 → Nat → Nat
  | [], acc => acc
  | c :: r, acc => dv r (acc * 10 + (c.toNat - 48))
def decVal (acc : Nat) (l : List UInt8) : Nat := dv l acc
theorem decVal_nil (acc : Nat) : decVal acc [] = acc := by unfold decVal; rw [dv]
theorem decVal_cons (acc : Nat) (c : UInt8) (r : List UInt8) : decVal acc (c :: r) = decVal (acc * 10 + (c.toNat - 48)) r := by unfold decVal; rw [dv]
def digit (c : UInt8) : Bool := decide (48 ≤ c.toNat) && decide (c.toNat ≤ 57)
theorem digit_iff {c : UInt8} : digit c = true ↔ (48 ≤ c.toNat ∧ c.toNat ≤ 57) := by simp [digit]
theorem decVal_append (a b : List UInt8) : ∀ acc, decVal acc (a ++ b) = decVal (decVal acc a) b := by
  induction a with
  | nil => intro acc; rw [List.nil_append, decVal_nil]
  | cons x a ih => intro acc; rw [List.cons_append, decVal_cons, decVal_cons]; exact ih _
theorem toNat_digit {d : Nat} (h : d < 10) : (UInt8.ofNat (48 + d)).toNat = 48 + d := by
  simp [UInt8.toNat_ofNat']; omega
theorem decVal_dec (u : Nat) : decVal 0 (decDigits u) = u := by
  induction u using Nat.strongRecOn with
  | _ u ih =>
    by_cases h : u < 10
    · rw [decDigits_one h]; simp only [decVal_nil, decVal_cons]; rw [toNat_digit h]; omega
    · rw [decDigits, dif_neg h, decVal_append, ih (u / 10) (by omega)]
      simp only [decVal_nil, decVal_cons]; rw [toNat_digit (by omega)]; omega
theorem digits_dec (u : Nat) : ∀ c ∈ decDigits u, digit c = true := by
  induction u using Nat.strongRecOn with
  | _ u ih =>
    intro c hc
    by_cases h : u < 10
    · rw [decDigits_one h] at hc; simp only [List.mem_singleton] at hc; rw [hc, digit_iff, toNat_digit h]; omega
    · rw [decDigits, dif_neg h, List.mem_append] at hc
      rcases hc with hc | hc
      · exact ih _ (by omega) c hc
      · simp only [List.mem_singleton] at hc; rw [hc, digit_iff, toNat_digit (by omega)]; omega
theorem decVal_lt (l : List UInt8) : ∀ acc k, acc < 10 ^ k → (∀ c ∈ l, digit c = true) → decVal acc l < 10 ^ (k + l.length) := by
  induction l with
  | nil => intro acc k h _; simpa [decVal_nil] using h
  | cons c l ih =>
    intro acc k h hd
    have hc := digit_iff.1 (hd c (by simp))
    simp only [decVal_cons, List.length_cons]
    have := ih (acc * 10 + (c.toNat - 48)) (k + 1) (by rw [Nat.pow_succ]; omega) (fun x hx => hd x (by simp [hx]))
    rw [show k + (l.length + 1) = k + 1 + l.length by omega]; exact this
/-- the text of a number -/
theorem itoa_pos {n : Int} (h : 0 ≤ n) : itoa n = decDigits n.toNat := by unfold itoa; rw [if_neg (by omega)]
theorem itoa_neg {n : Int} (h : n < 0) : itoa n = 45 :: decDigits n.natAbs := by unfold itoa; rw [if_pos h]
theorem dec_ne_nil (u : Nat) : decDigits u ≠ [] := by
  intro h; have := decDigits_length u; rw [h] at this; have := nDigits_pos u; simp at *; omega
theorem itoa_inj {a b : Int} (h : itoa a = itoa b) : a = b := by
  by_cases ha : a < 0
  · by_cases hb : b < 0
    · rw [itoa_neg ha, itoa_neg hb] at h
      injection h with _ h
      have e1 := decVal_dec a.natAbs
      rw [h, decVal_dec] at e1
      omega
    · exfalso
      rw [itoa_neg ha, itoa_pos (by omega)] at h
      have := digits_dec b.toNat 45 (by rw [← h]; simp)
      simp [digit] at this
  · by_cases hb : b < 0
    · exfalso
      rw [itoa_neg hb, itoa_pos (by omega)] at h
      have := digits_dec a.toNat 45 (by rw [h]; simp)
      simp [digit] at this
    · rw [itoa_pos (by omega), itoa_pos (by omega)] at h
      have e1 := decVal_dec a.toNat
      rw [h, decVal_dec] at e1
      omega
/-- a text of at most nineteen digits, read from the left -/
theorem parse_digits (l : List UInt8) : ∀ acc k, acc < 10 ^ k → k + l.length ≤ 19 → (∀ c ∈ l, digit c = true) → parseUint10 acc l = .ok (decVal acc l) := by
  induction l with
  | nil => intro acc k _ _ _; rfl
  | cons c l ih =>
    intro acc k h hk hd
    have hc := digit_iff.1 (hd c (by simp))
    simp only [List.length_cons] at hk
    have h18 : 10 ^ k ≤ (10 : Nat) ^ 18 := Nat.pow_le_pow_right (by omega) (by omega)
    have e18 : (10 : Nat) ^ 18 = 1000000000000000000 := by decide
    simp only [parseUint10, decVal_cons]
    rw [if_pos hc, if_neg (by omega), if_neg (by omega)]
    exact ih _ (k + 1) (by rw [Nat.pow_succ]; omega) (by omega) (fun x hx => hd x (by simp [hx]))
theorem atoi_digits {l : List UInt8} (h0 : l ≠ []) (hl : l.length ≤ 19) (hd : ∀ c ∈ l, digit c = true) :
    atoiAll l = if 9223372036854775808 ≤ decVal 0 l then .range else .ok (decVal 0 l : Int) := by
  cases l with
  | nil => exact absurd rfl h0
  | cons c r =>
    have hc := digit_iff.1 (hd c (by simp))
    have hp := parse_digits (c :: r) 0 0 (by decide) (by omega) hd
    have e1 : ¬ (c.toNat = 43 ∨ c.toNat = 45) := by omega
    have e2 : ¬ c.toNat = 45 := by omega
    have hmag : parseMag (if c.toNat = 43 ∨ c.toNat = 45 then r else c :: r) = .ok (decVal 0 (c :: r)) := by
      rw [if_neg e1]; unfold parseMag; rw [if_neg h0, hp]
    unfold atoiAll
    simp only [hmag]
    simp only [e2, not_false_eq_true, true_and, false_and, if_false]
/-- the number from 0 to most whose text it is -/
def parseV (l : List UInt8) (most : Int) : Int × Bool :=
  match atoiAll l with
  | .ok v => if 0 ≤ v ∧ v ≤ most ∧ itoa v = l then (v, true) else (0, false)
  | _ => (0, false)
theorem dec_len_le {u : Nat} (h : u < 9223372036854775808) : (decDigits u).length ≤ 19 := by
  rw [decDigits_length]
  by_cases h0 : u < 10
  · rw [nDigits_small h0]; omega
  · have key : ∀ k u, u < 10 ^ (k + 1) → nDigits u ≤ k + 1 := by
      intro k
      induction k with
      | zero => intro u h; rw [nDigits_small (by simpa using h)]; omega
      | succ k ih =>
        intro u h
        by_cases hu : u < 10
        · rw [nDigits_small hu]; omega
        · rw [nDigits_big hu]
          have := ih (u / 10) (by rw [Nat.div_lt_iff_lt_mul (by omega)]; rw [Nat.pow_succ] at h; exact h)
          omega
    exact key 18 u (Nat.lt_of_lt_of_le h (by decide))
/-- what is the text of a number that is not below 0 -/
theorem itoa_facts {v : Int} {l : List UInt8} (h0 : 0 ≤ v) (h1 : v ≤ 9223372036854775807) (h : itoa v = l) :
    l ≠ [] ∧ l.length ≤ 19 ∧ (∀ c ∈ l, digit c = true) ∧ decVal 0 l = v.toNat := by
  rw [itoa_pos h0] at h
  subst h
  exact ⟨dec_ne_nil _, dec_len_le (by omega), digits_dec _, decVal_dec _⟩
theorem parseV_itoa {n most : Int} (h0 : 0 ≤ n) (h1 : n ≤ 9223372036854775807) (hm : n ≤ most) : parseV (itoa n) most = (n, true) := by
  obtain ⟨h2, h3, h4, h5⟩ := itoa_facts h0 h1 rfl
  have e := atoi_digits h2 h3 h4
  rw [h5, if_neg (by omega), Int.toNat_of_nonneg h0] at e
  unfold parseV
  rw [e]
  simp [h0, hm]
theorem ok_le {l : List UInt8} {v : Int} (h : atoiAll l = .ok v) : -9223372036854775808 ≤ v ∧ v ≤ 9223372036854775807 := by
  unfold atoiAll at h
  split at h
  · cases h
  · simp only at h
    split at h
    · cases h
    · cases h
    · split at h
      · cases h
      · split at h
        · cases h
        · rename_i h1 h2
          injection h with h
          subst h
          split <;> omega
theorem parseV_neg {n most : Int} (h : n < 0) : parseV (itoa n) most = (0, false) := by
  unfold parseV
  split
  · rename_i v hv
    rw [if_neg]
    rintro ⟨h0, _, h2⟩
    have := itoa_inj h2
    omega
  · rfl
theorem parseV_no {l : List UInt8} {most : Int} (h : l = [] ∨ 19 < l.length ∨ ∃ c ∈ l, digit c = false) : parseV l most = (0, false) := by
  unfold parseV
  split
  · rename_i v hv
    rw [if_neg]
    rintro ⟨h0, _, h2⟩
    obtain ⟨f1, f2, f3, _⟩ := itoa_facts h0 (ok_le hv).2 h2
    rcases h with h | h | ⟨c, hc, hd⟩
    · exact f1 h
    · omega
    · rw [f3 c hc] at hd; cases hd
  · rfl
theorem parseV_digits {l : List UInt8} {most : Int} (h0 : l ≠ []) (hl : l.length ≤ 19) (hd : ∀ c ∈ l, digit c = true) :
    parseV l most = if decVal 0 l ≤ 9223372036854775807 ∧ itoa (decVal 0 l : Int) = l ∧ 0 ≤ most ∧ (decVal 0 l : Int) ≤ most then ((decVal 0 l : Int), true) else (0, false) := by
  have e := atoi_digits h0 hl hd
  unfold parseV
  rw [e]
  by_cases hb : 9223372036854775808 ≤ decVal 0 l
  · rw [if_pos hb, if_neg (by omega)]
  · rw [if_neg hb]
    simp only
    by_cases hc : itoa (decVal 0 l : Int) = l ∧ (decVal 0 l : Int) ≤ most
    · rw [if_pos ⟨by omega, hc.2, hc.1⟩, if_pos ⟨by omega, hc.1, by omega, hc.2⟩]
    · rw [if_neg (fun h => hc ⟨h.2.2, h.2.1⟩), if_neg (fun h => hc ⟨h.2.1, h.2.2.2⟩)]
theorem parseV_bounds (l : List UInt8) (most : Int) : 0 ≤ (parseV l most).1 ∧ (parseV l most).1 ≤ 9223372036854775807 := by
  unfold parseV
  split
  · rename_i v hv
    split
    · rename_i h; exact ⟨h.1, (ok_le hv).2⟩
    · simp
  · simp
end Go.Proofs.YtpllcnpmjnmcfaaDoor.TextMath

/-
  The contract of the document's text of a number: its decimal digits, with a - ahead if it is below 0; all that was there is left as it was. Condition: the argument is a 64-bit integer.
-/
namespace Go.Proofs.YtpllcnpmjnmcfaaDoor
open Go.ChangeShapes Go.WideShapes Go.ChangeAt Go.RowKit
open NumMath TextMath OneByte Go.Lib
namespace NumRefText

/-- what stands ahead of the digits that were told: those of the rest, if there is one -/
def rest (m : Nat) : List UInt8 := if m = 0 then [] else decDigits m
theorem rest_step (m : Nat) (h : m ≠ 0) : rest m = rest (m / 10) ++ [UInt8.ofNat (48 + m % 10)] := by
  unfold rest
  rw [if_neg h]
  by_cases h1 : m < 10
  · rw [decDigits_one h1, if_pos (by omega)]
    rw [show m % 10 = m by omega]; rfl
  · rw [decDigits, dif_neg h1, if_neg (by omega)]
/-- what holds behind k rounds -/
def Inv (u : Nat) (k : Nat) (t : List UInt8) (m : Nat) : Prop :=
  (k = 0 ∧ t = [] ∧ m = u) ∨ (1 ≤ k ∧ k = t.length ∧ decDigits u = rest m ++ t)
theorem Inv.step {u k m : Nat} {t : List UInt8} (h : Inv u k t m) (hm : k = 0 ∨ m ≠ 0) (c : UInt8) (hc : c = UInt8.ofNat (48 + m % 10)) : Inv u (k + 1) ([c] ++ t) (m / 10) := by
  subst hc
  rcases h with ⟨rfl, rfl, rfl⟩ | ⟨h1, h2, h3⟩
  · refine .inr ⟨by omega, by simp, ?_⟩
    by_cases h0 : m = 0
    · subst h0
      rw [decDigits_one (by omega)]; rfl
    · have := rest_step m h0
      unfold rest at this
      rw [if_neg h0] at this
      unfold rest
      simpa using this
  · refine .inr ⟨by omega, by simp; omega, ?_⟩
    rw [h3, rest_step m (by omega)]
    simp
theorem Inv.done {u k : Nat} {t : List UInt8} (h : Inv u k t 0) (hk : 1 ≤ k) : t = decDigits u := by
  rcases h with ⟨rfl, _, _⟩ | ⟨_, _, h3⟩
  · omega
  · rw [h3]; rfl
theorem Inv.le {u k m : Nat} {t : List UInt8} (h : Inv u k t m) (hu : u ≤ 9223372036854775808) : t.length ≤ 20 ∧ k = t.length ∧ (1 ≤ k → m ≠ 0 → k < 20) := by
  have hl : (decDigits u).length ≤ 20 := by rw [decDigits_length]; exact nDigits_le20 u (by omega)
  rcases h with ⟨rfl, rfl, rfl⟩ | ⟨h1, h2, h3⟩
  · simp
  · rw [h3, List.length_append] at hl
    refine ⟨by omega, h2, fun _ hm => ?_⟩
    unfold rest at hl
    rw [if_neg hm, decDigits_length] at hl
    have := nDigits_pos m
    omega
set_option maxRecDepth 20000 in
set_option maxHeartbeats 2000000 in
theorem refText_any (n : Int) (w : World) (h0 : -9223372036854775808 ≤ n) (h1 : n ≤ 9223372036854775807) :
    Calls Tryd.prog 40 #[.int .i64 n] w fun e w' => e = .returned (.string ⟨(itoa n).toArray⟩) ∧ Below w.heap.size w w' := by
  have hn : n.natAbs ≤ 9223372036854775808 := by omega
  go_enter Tryd.func40, Tryd.ntmps40
  go_wp2_with fail
  refine (NumRefSize.size_any n _ (fits_yes h0 h1)).mono ?_
  rintro e w' ⟨rfl, rfl⟩
  go_wp2_with fail
  go_loopw [3, 4, 5] (fun s u i wr => ∃ (k : Nat) (t : List UInt8) (m : Nat), s = .string ⟨t.toArray⟩ ∧ u = .int .u64 (m : Nat) ∧ i = .int .i64 (k : Nat) ∧ Hid (Inv n.natAbs k t m) ∧ m ≤ 9223372036854775808 ∧ Hid (Below w.heap.size w wr)) (fun _ _ i _ => 21 - (RowKit.intOf i).toNat)
  case atStart => exact ⟨0, [], n.natAbs, rfl, rfl, rfl, .inl ⟨rfl, rfl, rfl⟩, hn, Below.refl _ _⟩
  case round =>
    obtain ⟨k, t, m, rfl, rfl, rfl, HI, hm, HB⟩ := hrel
    have hle := HI.out.le hn
    have hlen := hle.1
    have hkl : k ≤ 20 := by omega
    by_cases hgo : k = 0 ∨ m ≠ 0
    · obtain ⟨c, hc⟩ : ∃ c : UInt8, c = UInt8.ofNat (48 + m % 10) := ⟨_, rfl⟩
      have hone := run_one (48 + (m : Int) % 10) c (by rw [hc, toNat_digit (by omega)]; push_cast; rfl)
      have HS := Lib.hid (HI.out.step hgo c hc)
      have hgo' : (k = 0 ∧ ((k : Int) == 0) = true) ∨ (((k : Int) == 0) = false ∧ (0 : Int) < (m : Int) ∧ (k : Int) < 20) := by
        by_cases hk : k = 0
        · exact .inl ⟨hk, beq_iff_eq.2 (by omega)⟩
        · have := hle.2.2 (by omega) (by omega)
          exact .inr ⟨beq_eq_false_iff_ne.2 (by omega), by omega, by omega⟩
      clear hc hgo hle
      rcases hgo' with ⟨hk, e0⟩ | ⟨e0, e1, e2⟩
      all_goals
        try clear hk
        go_wp2_with fail
        go_roundw
        case rel => exact ⟨k + 1, [c] ++ t, m / 10, congrArg Value.string (ByteArray.mk_append_mk [c] t), by push_cast; rfl, by go_num, HS, by omega, HB.out.alloc HB.out.size _⟩
        case measure => simp [RowKit.intOf]; omega
    · obtain rfl : m = 0 := by omega
      have hk1 : 1 ≤ k := by omega
      have e0 : ((k : Int) == 0) = false := beq_eq_false_iff_ne.2 (by omega)
      have HD := Lib.hid (HI.out.done hk1)
      clear hgo hle
      by_cases hneg : n < 0
      · have HR : Hid (itoa n = [45] ++ t) := by show _ = _; rw [itoa_neg hneg, HD.out]; rfl
        go_wp2_with fail
        go_ret
        exact ⟨ret_cat HR.out, HB.out⟩
      · have HR : Hid (itoa n = t) := by
          show _ = _
          rw [itoa_pos (by omega), HD.out, show n.toNat = n.natAbs by omega]
        go_wp2_with fail
        go_ret
        exact ⟨by rw [HR.out]; rfl, HB.out⟩
end NumRefText
end Go.Proofs.YtpllcnpmjnmcfaaDoor

/-
  The contracts of the document's answers for layer 3 that walk over bytes alone (provostref03.small, Name, Val): what the document's words say; all is left as it was. Condition: the text is no longer than a Go string may be.
-/
namespace Go.Proofs.YtpllcnpmjnmcfaaDoor
open Go.ChangeShapes Go.WideShapes Go.ChangeAt Go.RowKit
open TextPure
namespace Text

theorem small_45 : small 45 = false := by decide
theorem nameL_first {l : List UInt8} (h : at' l 0 = 45) : nameL l = false := by
  cases hx : nameL l with
  | false => rfl
  | true => have := (nameL_ends hx).1; rw [h, small_45] at this; cases this
theorem nameL_last {l : List UInt8} (h : at' l (l.length - 1) = 45) : nameL l = false := by
  cases hx : nameL l with
  | false => rfl
  | true => have := (nameL_ends hx).2; rw [h, small_45] at this; cases this
theorem nameL_no {l : List UInt8} {k : Nat} (hk : k < l.length) (h : nameB (at' l k) = false) : nameL l = false := by
  cases hx : nameL l with
  | false => rfl
  | true =>
    have := (all_at (f := nameB) l).1 (List.all_eq_true.2 fun b hb => nameL_bytes hx b hb) k hk
    rw [h] at this; cases this
theorem nameL_yes {l : List UInt8} (h1 : 1 ≤ l.length) (h2 : l.length ≤ 16) (h3 : at' l 0 ≠ 45) (h4 : at' l (l.length - 1) ≠ 45) (h5 : ∀ k, k < l.length → nameB (at' l k) = true) : nameL l = true := by
  refine nameL_mk h1 h2 ?_ ?_ (fun b hb => ?_)
  · rw [small_iff (h5 0 (by omega))]; simpa using h3
  · rw [small_iff (h5 _ (by omega))]; simpa using h4
  · exact List.all_eq_true.1 ((all_at (f := nameB) l).2 h5) b hb
theorem valL_no {l : List UInt8} {k : Nat} (hk : k < l.length) (h : valB (at' l k) = false) : valL l = false := by
  unfold valL
  rw [all_not hk h, Bool.and_false]
theorem valL_yes {l : List UInt8} (h2 : l.length ≤ 16) (h5 : ∀ k, k < l.length → valB (at' l k) = true) : valL l = true := by
  unfold valL
  rw [(all_at l).2 h5, decide_eq_true h2]; rfl
theorem valL_long {l : List UInt8} (h2 : ¬ l.length ≤ 16) : valL l = false := by
  unfold valL
  rw [decide_eq_false h2]; rfl
theorem valB_split (n : Nat) : valB n = (small n || (decide (65 ≤ n) && decide (n ≤ 90)) || n == 45 || n == 46 || n == 95) := by
  unfold valB tagB nameB
  cases small n <;> cases (decide (65 ≤ n) && decide (n ≤ 90)) <;> cases (n == 45) <;> cases (n == 46) <;> rfl
end Text
end Go.Proofs.YtpllcnpmjnmcfaaDoor

/-
  The contracts of the document's answers for layer 3 that cut texts into parts (provostref03.parts, names, Key, Split): what the document's words say; all that was there is left as it was. Condition: the text has at most 2000 bytes.
-/
namespace Go.Proofs.YtpllcnpmjnmcfaaDoor
open Go.ChangeShapes Go.WideShapes Go.ChangeAt Go.RowKit
open TextPure
namespace Text

theorem info_string : (Tryd.prog.info? 9).map (fun i => (i.zero, i.size, i.bytes)) = some (some (.string ⟨#[]⟩), 1, 16) := by kernel_rfl
/-- the pieces of the first k bytes -/
def preB (s : ByteArray) (c : UInt8) (k : Nat) : List ByteArray := (pieces c (s.data.toList.take k)).map fun l => ⟨l.toArray⟩
theorem preB_zero (s : ByteArray) (c : UInt8) : preB s c 0 = [⟨#[]⟩] := rfl
theorem preB_all (s : ByteArray) (c : UInt8) : preB s c s.size = piecesB s c := by
  unfold preB piecesB
  rw [List.take_of_length_le (by rw [size_list]; exact Nat.le_refl _)]
theorem preB_len (s : ByteArray) (c : UInt8) (k : Nat) : 1 ≤ (preB s c k).length ∧ (preB s c k).length ≤ k + 1 := by
  unfold preB
  rw [List.length_map]
  have h1 := pieces_ne c (s.data.toList.take k)
  have h2 := pieces_count c (s.data.toList.take k)
  have h3 := List.length_take_le k s.data.toList
  refine ⟨?_, by omega⟩
  cases h : pieces c (s.data.toList.take k) with
  | nil => exact absurd h h1
  | cons a b => simp
theorem take_step (s : ByteArray) (k : Nat) (hk : k < s.size) : s.data.toList.take (k + 1) = s.data.toList.take k ++ [s[k]] := by
  rw [List.take_succ_eq_append_getElem (by rw [size_list]; exact hk)]
  rfl
theorem preB_sep (s : ByteArray) (c : UInt8) (k : Nat) (hk : k < s.size) (h : s[k] = c) : preB s c (k + 1) = preB s c k ++ [⟨#[]⟩] := by
  unfold preB
  rw [take_step s k hk, pieces_snoc, if_pos h, List.map_append]
  rfl
theorem preB_in (s : ByteArray) (c : UInt8) (k : Nat) (hk : k < s.size) (h : s[k] ≠ c) :
    ∃ x, (preB s c k)[(preB s c k).length - 1]? = some x ∧ preB s c (k + 1) = (preB s c k).set ((preB s c k).length - 1) (x ++ s.extract k (k + 1)) := by
  have e1 : preB s c (k + 1) = ((pieces c (s.data.toList.take k)).dropLast ++ [((pieces c (s.data.toList.take k)).getLast?.getD []) ++ [s[k]]]).map fun l => ⟨l.toArray⟩ := by
    unfold preB
    rw [take_step s k hk, pieces_snoc, if_neg h]
  rw [e1]
  unfold preB
  have hne := pieces_ne c (s.data.toList.take k)
  generalize pieces c (s.data.toList.take k) = ps at *
  have e2 : s.extract k (k + 1) = ⟨#[s[k]]⟩ := by
    apply ByteArray.ext
    simp only [ByteArray.data_extract]
    have : k + 1 ≤ s.data.size := hk
    apply Array.ext
    · simp; omega
    · intro i h1 h2
      simp at h1 h2
      obtain rfl : i = 0 := by omega
      simp
      rfl
  obtain ⟨init, last, rfl⟩ : ∃ init last, ps = init ++ [last] := ⟨ps.dropLast, ps.getLast hne, (List.dropLast_concat_getLast hne).symm⟩
  simp only [List.dropLast_concat, List.getLast?_concat, Option.getD_some, List.map_append, List.map_cons, List.map_nil, List.length_append, List.length_map, List.length_cons, List.length_nil, Nat.zero_add, Nat.add_sub_cancel]
  refine ⟨⟨last.toArray⟩, by simp, ?_⟩
  rw [List.set_append_right _ _ (by simp), e2]
  simp only [List.length_map, Nat.sub_self, List.set_cons_zero]
  congr 2
theorem preB_each {s : ByteArray} {c : UInt8} {k : Nat} {x : ByteArray} (h : x ∈ preB s c k) : x.size ≤ s.size := by
  obtain ⟨l, hl, rfl⟩ := List.mem_map.1 h
  have := pieces_each c _ l hl
  rw [List.length_take, size_list] at this
  show l.toArray.size ≤ _
  have : l.length ≤ s.size := by omega
  simpa using this
def PartsAt (s : ByteArray) (c : UInt8) (w : World) (v : Value) (k : Nat) (wl : World) : Prop :=
  Below w.heap.size w wl ∧ wl.ownsRow w.heap.size 9 1 v (preB s c k).length ((preB s c k).map Value.string)
/-- a row that is not empty has an address -/
theorem own_some {w : World} {base : Nat} {t : TypeId} {v : Value} {n : Nat} {xs : List Value} (h : w.ownsRow base t 1 v n xs) (hn : 1 ≤ n) : ∃ g cap, v = .slice (some ⟨g, 0, none⟩) n cap ∧ base ≤ g ∧ g < w.heap.size := by
  rcases h.2 with ⟨_, h0⟩ | ⟨g, cap, cur, rfl, hb, hg, _⟩
  · omega
  · refine ⟨g, cap, rfl, hb, ?_⟩
    rcases Nat.lt_or_ge g w.heap.size with hl | hl
    · exact hl
    · rw [Array.getElem?_eq_none hl] at hg; cases hg
/-- how many names there are, if each is one -/
def countN (ps : List ByteArray) : Int := if namesL ps then ps.length else 0
theorem keyRef_eq (s : ByteArray) : keyL s.data.toList = (decide (s.size ≤ 100) && (namesL (piecesB s 47) && decide ((piecesB s 47).length ≤ 2))) := by
  rw [keyL_ref, size_list, namesL_pieces]
  unfold piecesB
  rw [List.length_map]
end Text
end Go.Proofs.YtpllcnpmjnmcfaaDoor

/-
  The contract of the document's answer for layer 3 on images (provostref03.Split): an image's repository and tag and true, else two empty texts and false; all that was there is left as it was. Condition: the text has at most 2000 bytes.
-/
namespace Go.Proofs.YtpllcnpmjnmcfaaDoor
open Go.ChangeShapes Go.WideShapes Go.ChangeAt Go.RowKit
open TextPure
namespace Text

/-- are the first k bytes a tag's? -/
def tagTo (l : List UInt8) (k : Nat) : Bool := (l.take k).all fun b => tagB b.toNat
theorem tagTo_step (s : ByteArray) (k : Nat) (hk : k < s.size) : tagTo s.data.toList (k + 1) = (tagTo s.data.toList k && tagB s[k].toNat) := by
  unfold tagTo
  rw [take_step s k hk, List.all_append]
  simp
theorem tagTo_all (s : ByteArray) : tagTo s.data.toList s.size = allN 2 s.data.toList := by
  unfold tagTo
  rw [List.take_of_length_le (by rw [size_list]; exact Nat.le_refl _)]
  rfl
theorem tagB_split (n : Nat) : tagB n = (small n || n == 45 || n == 46) := rfl
theorem image_no {s : ByteArray} (h : imageB s = false) : repoB s = ⟨#[]⟩ ∧ tagB' s = ⟨#[]⟩ := by
  unfold repoB tagB'
  rw [h]
  exact ⟨rfl, rfl⟩
theorem image_long {s : ByteArray} (h : ¬ s.size ≤ 100) : imageB s = false := by
  cases hx : imageB s with
  | false => rfl
  | true => have := imageL_len hx; rw [size_list] at this; omega
theorem image_two {s : ByteArray} (h : (piecesB s 58).length ≠ 2) : imageB s = false := by
  cases hx : imageB s with
  | false => rfl
  | true => exact absurd (by unfold piecesB; rw [imageL_two hx]; rfl) h
theorem pieces_pair {s : ByteArray} (h : (piecesB s 58).length = 2) : hasB s 58 = true ∧ piecesB s 58 = [fstB s 58, sndB s 58] := by
  unfold piecesB at h
  rw [List.length_map] at h
  obtain ⟨h1, h2⟩ := pieces_two h
  refine ⟨h1, ?_⟩
  unfold piecesB
  rw [h2]
  rfl
theorem image_pair {s : ByteArray} (h : hasB s 58 = true) : imageB s = (decide ((fstB s 58).size ≤ 24) && namesL (piecesB (fstB s 58) 47) && (decide (1 ≤ (sndB s 58).size) && decide ((sndB s 58).size ≤ 8) && allN 2 (sndB s 58).data.toList)) := by
  rw [imageB_eq, h, repoL_eq, tagL_eq, size_list, Bool.true_and]
/-- what is no image has no parts -/
def NoImage (s : ByteArray) : Prop := imageB s = false ∧ repoB s = ⟨#[]⟩ ∧ tagB' s = ⟨#[]⟩
theorem noImage {s : ByteArray} (h : imageB s = false) : NoImage s := ⟨h, image_no h⟩
end Text
end Go.Proofs.YtpllcnpmjnmcfaaDoor

/-
  The contracts of the document's own answers on labels and containers (provostref06). Condition: what is looked at is not too long.
-/
namespace Go.Proofs.YtpllcnpmjnmcfaaDoor
open Go.ChangeShapes Go.WideShapes Go.ChangeAt Go.RowKit Go.Lib
open Sd Lists
namespace SpecRef

theorem atB_size (name : ByteArray) (k : Nat) (hk : k ≤ 1000000) : (atB name k).size ≤ name.size + 23 := by
  have h1 : (itoa (k : Int)).length ≤ 21 := itoa_length_le _ (by omega) (by omega)
  have h2 : (⟨(itoa (k : Int)).toArray⟩ : ByteArray).size = (itoa (k : Int)).length := by show (itoa (k : Int)).toArray.size = _; simp
  unfold atB
  rw [ByteArray.size_append, ByteArray.size_append, ByteArray.size_append, h2]
  show _ + 1 + _ + 1 ≤ _
  omega
/-- the labels: from k on -/
def LHere (name : ByteArray) (l : List Lbl) (k : Nat) : Prop := labelsV name l = labelsFrom name k (if k = 0 then none else l[k - 1]?) (l.drop k)
theorem ret_two {a c : Int} {s t : ByteArray} {p : Say} (h : p = (a, s)) (h1 : a = c) (h2 : s = t) : Ending.returned (.tuple #[.int .i64 c, .string t]) = .returned (.tuple #[.int .i64 p.1, .string p.2]) := by subst h h1 h2; rfl
end SpecRef
end Go.Proofs.YtpllcnpmjnmcfaaDoor

/-
  The contracts of spec's smallest steps: member, within, limit. All that was there is left as it was. Conditions: what the program's text lays in its tables (SLaid); texts are short.
-/
namespace Go.Proofs.YtpllcnpmjnmcfaaDoor
open Go.ChangeShapes Go.WideShapes Go.ChangeAt Go.RowKit Go.Lib
open Sd Lists
namespace SpecOwn

/-- what the program's text lays in the tables that are read -/
structure SLaid (w : World) : Prop where
  text : Text.Laid w
  tab : NumText.Tab w
theorem SLaid.below {w w' : World} (h : SLaid w) (hb : Below w.heap.size w w') : SLaid w' := ⟨h.text.below hb, h.tab.below hb⟩
theorem member_any (s : ByteArray) (k : Nat) (hs : s.size ≤ 1000000) (hk : k ≤ 1000000) (w : World) (hL : NumText.Tab w) :
    Calls Tryd.prog 55 #[.string s, .int .i64 k] w fun e w' => e = .returned (.string (atB s k)) ∧ Below w.heap.size w w' := by
  have hl : (itoa (k : Int)).length ≤ 21 := itoa_length_le _ (by omega) (by omega)
  obtain ⟨d, hd⟩ : ∃ d : ByteArray, (⟨(itoa (k : Int)).toArray⟩ : ByteArray) = d := ⟨_, rfl⟩
  have hds : d.size ≤ 21 := by rw [← hd]; show (itoa (k : Int)).toArray.size ≤ 21; simpa using hl
  have a1 : ∀ v, (Op.stringOp .add s ⟨#[91]⟩).run Tryd.prog v = .ok (.string (s ++ ⟨#[91]⟩)) v := fun v => run_string_add_sum v _ _ (by show _ + 1 ≤ _; omega)
  have a2 : ∀ v, (Op.stringOp .add (s ++ ⟨#[91]⟩) d).run Tryd.prog v = .ok (.string (s ++ ⟨#[91]⟩ ++ d)) v := fun v => run_string_add_sum v _ _ (by rw [ByteArray.size_append]; show _ + 1 + _ ≤ _; omega)
  have a3 : ∀ v, (Op.stringOp .add (s ++ ⟨#[91]⟩ ++ d) ⟨#[93]⟩).run Tryd.prog v = .ok (.string (s ++ ⟨#[91]⟩ ++ d ++ ⟨#[93]⟩)) v := fun v => run_string_add_sum v _ _ (by rw [ByteArray.size_append, ByteArray.size_append]; show _ + 1 + _ + 1 ≤ _; omega)
  have HD := Lib.hid (show s ++ ⟨#[91]⟩ ++ d ++ ⟨#[93]⟩ = atB s k by rw [← hd]; rfl)
  have HE := Lib.hid hd
  have HL := Lib.hid hL
  clear hd hL
  go_enter Tryd.func55, Tryd.ntmps55
  go_wp2_with fail
  refine (NumText.numtext_any k w (by omega) (by omega) HL.out).mono ?_
  rw [HE.out]
  rintro e w1 ⟨rfl, hb⟩
  go_wp2
  go_ret
  exact ⟨congrArg (fun x => Ending.returned (.string x)) HD.out, hb⟩
theorem told_fine (w w' : World) (hb : Below w.heap.size w w') : Tells fine w (.returned .nilIface) w' := ⟨_, rfl, .inl ⟨rfl, rfl⟩, hb⟩
theorem tells_mono {y : Say} {w w0 w' : World} {e : Ending} (h : Tells y w0 e w') (hb : Below w.heap.size w w0) : Tells y w e w' := by
  obtain ⟨E, he, h1, h2⟩ := h
  exact ⟨E, he, h1.keep fun b hd _ => ⟨Nat.le_trans hb.size hd, rfl⟩, hb.trans (h2.mono hb.size)⟩
theorem within_any (n l m : Int) (s : ByteArray) (hs : s.size ≤ 100000) (w : World) :
    Calls Tryd.prog 47 #[.int .i64 n, .int .i64 l, .int .i64 m, .string s] w (Tells (withinV n l m s) w) := by
  by_cases h : n < l ∨ m < n
  · have HE := Lib.hid (show withinV n l m s = newV 1 s by unfold withinV newV; rw [if_pos h, if_neg (by decide)])
    by_cases h1 : n < l
    · clear h
      go_enter Tryd.func47, Tryd.ntmps47
      go_wp2_with fail
      refine (new_says 1 s w.heap.size 1 _ hs (by simp)).mono ?_
      rintro e w1 ⟨E, rfl, hE, hb⟩
      have HX := Lib.hid (tells_mono (e := .returned E) ⟨E, rfl, hE, hb⟩ ((Below.refl _ w).alloc (Nat.le_refl _) _))
      clear hE hb
      go_wp2_with fail
      go_ret
      exact HE.out ▸ HX.out
    · have h2 : m < n := by omega
      clear h
      go_enter Tryd.func47, Tryd.ntmps47
      go_wp2_with fail
      refine (new_says 1 s w.heap.size 1 _ hs (by simp)).mono ?_
      rintro e w1 ⟨E, rfl, hE, hb⟩
      have HX := Lib.hid (tells_mono (e := .returned E) ⟨E, rfl, hE, hb⟩ ((Below.refl _ w).alloc (Nat.le_refl _) _))
      clear hE hb
      go_wp2_with fail
      go_ret
      exact HE.out ▸ HX.out
  · have HE := Lib.hid (show withinV n l m s = fine by unfold withinV; rw [if_neg h])
    have h1 : ¬ n < l := by omega
    have h2 : ¬ m < n := by omega
    clear h
    go_enter Tryd.func47, Tryd.ntmps47
    go_wp2
    go_ret
    exact HE.out ▸ told_fine _ _ (Below.refl _ _)
theorem limit_any (n l : Int) (s : ByteArray) (hs : s.size ≤ 100000) (w : World) :
    Calls Tryd.prog 78 #[.int .i64 n, .int .i64 l, .string s] w (Tells (limitV n l s) w) := by
  by_cases h : n = 0
  · have HE := Lib.hid (show limitV n l s = fine by unfold limitV; rw [if_pos h])
    subst h
    go_enter Tryd.func78, Tryd.ntmps78
    go_wp2
    go_ret
    exact HE.out ▸ told_fine _ _ (Below.refl _ _)
  · have HE := Lib.hid (show limitV n l s = withinV n l big s by unfold limitV; rw [if_neg h])
    have h0 : (n == 0) = false := by simpa using h
    clear h
    go_enter Tryd.func78, Tryd.ntmps78
    go_wp2_with fail
    refine (within_any n l big s hs w).mono ?_
    rintro e w1 ⟨E, rfl, hE, hb⟩
    have HX := Lib.hid (show Tells (withinV n l big s) w (.returned E) w1 from ⟨E, rfl, hE, hb⟩)
    clear hE hb
    go_wp2_with fail
    go_ret
    exact HE.out ▸ HX.out
end SpecOwn
end Go.Proofs.YtpllcnpmjnmcfaaDoor
