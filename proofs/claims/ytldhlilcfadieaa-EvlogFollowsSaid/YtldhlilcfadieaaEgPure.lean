/-
  A log of rising revisions: how many are at most a bound, the last one, what comes of laying one behind and of taking some away; and a reader that goes on from the last one seen. No condition.
-/
import Derived.Lib.Hide
namespace Go.Proofs.Ytldhlilcfadieaa
namespace Eg

/-- how many revisions are at most b -/
def upN (rs : List Nat) (b : Nat) : Nat := rs.countP (fun r => !decide (b < r))
def lastN (rs : List Nat) (fl : Nat) : Nat := (rs.getLast?).getD fl
/-- rising, and all above the floor -/
def Up (fl : Nat) (rs : List Nat) : Prop := (fl :: rs).Pairwise (· < ·)

theorem upN_le (rs : List Nat) (b : Nat) : upN rs b ≤ rs.length := List.countP_le_length
theorem upN_nil (b : Nat) : upN [] b = 0 := rfl
theorem upN_cons (r : Nat) (rs : List Nat) (b : Nat) : upN (r :: rs) b = upN rs b + (if b < r then 0 else 1) := by
  unfold upN
  rw [List.countP_cons]
  by_cases h : b < r
  · rw [if_pos h]; simp [h]
  · rw [if_neg h]; simp [h]
theorem upN_zero {rs : List Nat} {b : Nat} (h : ∀ r ∈ rs, b < r) : upN rs b = 0 := by
  unfold upN
  rw [List.countP_eq_zero]
  intro r hr
  simp [h r hr]
theorem upN_append (xs ys : List Nat) (b : Nat) : upN (xs ++ ys) b = upN xs b + upN ys b := List.countP_append
theorem upN_all {rs : List Nat} {b : Nat} (h : ∀ r ∈ rs, r ≤ b) : upN rs b = rs.length := by
  unfold upN
  rw [List.countP_eq_length]
  intro r hr
  have := h r hr
  simp; omega
theorem up_tail {fl r : Nat} {rs : List Nat} (h : Up fl (r :: rs)) : Up r rs := by
  unfold Up at h ⊢
  exact (List.pairwise_cons.1 h).2
theorem up_head {fl r : Nat} {rs : List Nat} (h : Up fl (r :: rs)) : fl < r := by
  unfold Up at h
  exact (List.pairwise_cons.1 h).1 r (by simp)
theorem up_mem {fl r : Nat} {rs : List Nat} (h : Up fl rs) (hr : r ∈ rs) : fl < r := by
  unfold Up at h
  exact (List.pairwise_cons.1 h).1 r hr
theorem up_nil (fl : Nat) : Up fl [] := by unfold Up; simp
theorem up_sorted {fl : Nat} {rs : List Nat} (h : Up fl rs) : rs.Pairwise (· < ·) := by
  unfold Up at h
  exact (List.pairwise_cons.1 h).2
theorem up_mk {fl : Nat} {rs : List Nat} (h : rs.Pairwise (· < ·)) (h1 : ∀ r ∈ rs, fl < r) : Up fl rs := List.pairwise_cons.2 ⟨h1, h⟩
/-- place k is at most b just where k is below upN -/
theorem upN_at {rs : List Nat} (h : rs.Pairwise (· < ·)) (b : Nat) : ∀ k r, rs[k]? = some r → (r ≤ b ↔ k < upN rs b) := by
  induction rs with
  | nil => intro k r hk; simp at hk
  | cons x rs ih =>
    obtain ⟨h1, h2⟩ := List.pairwise_cons.1 h
    intro k r hk
    rw [upN_cons]
    cases k with
    | zero =>
      simp at hk
      subst hk
      by_cases hb : b < x
      · rw [if_pos hb, upN_zero (fun r hr => Nat.lt_trans hb (h1 r hr))]; omega
      · rw [if_neg hb]; omega
    | succ k =>
      have hk' : rs[k]? = some r := by simpa using hk
      have hm : r ∈ rs := List.mem_of_getElem? hk'
      have hi := ih h2 k r hk'
      by_cases hb : b < x
      · rw [if_pos hb]
        have := h1 r hm
        rw [upN_zero (fun r hr => Nat.lt_trans hb (h1 r hr))]; omega
      · rw [if_neg hb]; omega
theorem upN_drop_gt {rs : List Nat} (h : rs.Pairwise (· < ·)) (b : Nat) : ∀ r ∈ rs.drop (upN rs b), b < r := by
  intro r hr
  obtain ⟨k, hk⟩ := List.getElem?_of_mem hr
  rw [List.getElem?_drop] at hk
  have := upN_at h b _ r hk
  omega
theorem upN_take_le {rs : List Nat} (h : rs.Pairwise (· < ·)) (b : Nat) : ∀ r ∈ rs.take (upN rs b), r ≤ b := by
  intro r hr
  obtain ⟨k, hk⟩ := List.getElem?_of_mem hr
  have hl := (List.getElem?_eq_some_iff.1 hk).1
  rw [List.length_take] at hl
  rw [List.getElem?_take_of_lt (by omega)] at hk
  exact (upN_at h b k r hk).2 (by omega)
theorem lastN_nil (fl : Nat) : lastN [] fl = fl := rfl
theorem lastN_snoc (rs : List Nat) (r fl : Nat) : lastN (rs ++ [r]) fl = r := by unfold lastN; simp
theorem lastN_some {rs : List Nat} (h : rs ≠ []) (fl : Nat) : lastN rs fl = rs[rs.length - 1]'(by have := List.length_pos_iff.2 h; omega) := by
  unfold lastN
  rw [List.getLast?_eq_some_getLast h, Option.getD_some, List.getLast_eq_getElem]
theorem lastN_mem {rs : List Nat} (h : rs ≠ []) (fl : Nat) : lastN rs fl ∈ rs := by rw [lastN_some h]; exact List.getElem_mem _
theorem le_lastN {fl : Nat} {rs : List Nat} (h : Up fl rs) : fl ≤ lastN rs fl ∧ ∀ r ∈ rs, r ≤ lastN rs fl := by
  by_cases hn : rs = []
  · subst hn; exact ⟨Nat.le_refl _, fun r hr => by simp at hr⟩
  · refine ⟨Nat.le_of_lt (up_mem h (lastN_mem hn fl)), fun r hr => ?_⟩
    obtain ⟨k, hk⟩ := List.getElem?_of_mem hr
    have hl := (List.getElem?_eq_some_iff.1 hk).1
    rcases Nat.lt_or_ge k (rs.length - 1) with h1 | h1
    · have := (List.pairwise_iff_getElem.1 (up_sorted h)) k (rs.length - 1) hl (by omega) h1
      rw [lastN_some hn]
      rw [(List.getElem?_eq_some_iff.1 hk).2] at this
      exact Nat.le_of_lt this
    · have e : k = rs.length - 1 := by omega
      subst e
      rw [lastN_some hn, (List.getElem?_eq_some_iff.1 hk).2]
      exact Nat.le_refl _

/-- a log: rising above the floor, of numbers of 64 bits, not too many -/
structure Good (fl : Nat) (rs : List Nat) (mo : Nat) : Prop where
  up : Up fl rs
  flo : fl < 18446744073709551616
  big : ∀ r ∈ rs, r < 18446744073709551616
  len : rs.length ≤ mo
  one : 1 ≤ mo
  most : mo ≤ 64
theorem Good.last {fl : Nat} {rs : List Nat} {mo : Nat} (h : Good fl rs mo) : lastN rs fl < 18446744073709551616 := by
  by_cases hn : rs = []
  · subst hn; exact h.flo
  · exact h.big _ (lastN_mem hn fl)

/-- Compact: the revisions behind it, the floor, how many went -/
def cpR (rs : List Nat) (fl to : Nat) : List Nat := if min to (lastN rs fl) ≤ fl then rs else rs.drop (upN rs (min to (lastN rs fl)))
def cpF (rs : List Nat) (fl to : Nat) : Nat := if min to (lastN rs fl) ≤ fl then fl else min to (lastN rs fl)
def cpN (rs : List Nat) (fl to : Nat) : Nat := if min to (lastN rs fl) ≤ fl then 0 else upN rs (min to (lastN rs fl))
theorem cp_last {fl : Nat} {rs : List Nat} (h : Up fl rs) (to : Nat) : lastN (cpR rs fl to) (cpF rs fl to) = lastN rs fl := by
  unfold cpR cpF
  by_cases h1 : min to (lastN rs fl) ≤ fl
  · rw [if_pos h1, if_pos h1]
  · rw [if_neg h1, if_neg h1]
    have hn : rs ≠ [] := by
      rintro rfl
      rw [lastN_nil] at h1
      omega
    obtain ⟨t, ht⟩ : ∃ t, min to (lastN rs fl) = t := ⟨_, rfl⟩
    have hl : t ≤ lastN rs fl := by omega
    rw [ht]
    by_cases hd : rs.drop (upN rs t) = []
    · rw [hd, lastN_nil]
      have hlen : rs.length ≤ upN rs t := by simpa using hd
      have hk : rs[rs.length - 1]? = some (lastN rs fl) := by rw [lastN_some hn]; exact List.getElem?_eq_getElem _
      have := (upN_at (up_sorted h) t _ _ hk).2 (by have := List.length_pos_iff.2 hn; omega)
      omega
    · rw [lastN_some hd, lastN_some hn]
      rw [List.getElem_drop]
      congr 1
      have := List.length_pos_iff.2 hd
      rw [List.length_drop] at this ⊢
      omega
theorem cp_good {fl : Nat} {rs : List Nat} {mo : Nat} (h : Good fl rs mo) (to : Nat) : Good (cpF rs fl to) (cpR rs fl to) mo := by
  have hl := h.last
  unfold cpR cpF
  by_cases h1 : min to (lastN rs fl) ≤ fl
  · rw [if_pos h1, if_pos h1]; exact h
  · rw [if_neg h1, if_neg h1]
    refine ⟨up_mk ((up_sorted h.up).sublist (List.drop_sublist _ _)) (upN_drop_gt (up_sorted h.up) _), by omega, fun r hr => h.big r (List.mem_of_mem_drop hr), ?_, h.one, h.most⟩
    rw [List.length_drop]
    have := h.len
    omega
theorem cp_floor {fl : Nat} {rs : List Nat} (to : Nat) : fl ≤ cpF rs fl to := by
  unfold cpF
  split <;> omega
theorem cpN_le (rs : List Nat) (fl to : Nat) : cpN rs fl to ≤ rs.length := by
  unfold cpN
  split
  · omega
  · exact upN_le _ _
theorem cpR_len (rs : List Nat) (fl to : Nat) : (cpR rs fl to).length ≤ rs.length := by
  unfold cpR
  split
  · exact Nat.le_refl _
  · rw [List.length_drop]; omega

/-- Add: the revisions behind it, the floor -/
def adR (rs : List Nat) (fl mo r : Nat) : List Nat := if r ≤ lastN rs fl then rs else if rs.length = mo then rs.drop 1 ++ [r] else rs ++ [r]
def adF (rs : List Nat) (fl mo r : Nat) : Nat := if r ≤ lastN rs fl then fl else if rs.length = mo then rs.headD 0 else fl
def adC (rs : List Nat) (fl r : Nat) : Int := if r ≤ lastN rs fl then 4 else 0
theorem snoc_up {fl r : Nat} {rs : List Nat} (h : Up fl rs) (hr : lastN rs fl < r) : Up fl (rs ++ [r]) := by
  have hl := le_lastN h
  refine up_mk ?_ ?_
  · rw [List.pairwise_append]
    refine ⟨up_sorted h, by simp, fun a ha b hb => ?_⟩
    simp at hb
    subst hb
    exact Nat.lt_of_le_of_lt (hl.2 a ha) hr
  · intro x hx
    rw [List.mem_append] at hx
    rcases hx with hx | hx
    · exact up_mem h hx
    · simp at hx; omega
/-- to compact to the first revision takes the first one away -/
theorem cp_first {fl x : Nat} {rs : List Nat} (h : Up fl (x :: rs)) : cpR (x :: rs) fl x = rs ∧ cpF (x :: rs) fl x = x ∧ cpN (x :: rs) fl x = 1 := by
  have hl := (le_lastN h).2 x (by simp)
  have hm : min x (lastN (x :: rs) fl) = x := by omega
  have hx := up_head h
  have hu : upN (x :: rs) x = 1 := by
    rw [upN_cons, if_neg (by omega), upN_zero (fun r hr => up_mem (up_tail h) hr)]
  unfold cpR cpF cpN
  rw [hm, if_neg (by omega), if_neg (by omega), if_neg (by omega), hu]
  exact ⟨rfl, rfl, rfl⟩
theorem ad_good {fl : Nat} {rs : List Nat} {mo r : Nat} (h : Good fl rs mo) (hr : r < 18446744073709551616) : Good (adF rs fl mo r) (adR rs fl mo r) mo := by
  unfold adR adF
  by_cases h1 : r ≤ lastN rs fl
  · rw [if_pos h1, if_pos h1]; exact h
  · rw [if_neg h1, if_neg h1]
    have hs := snoc_up h.up (by omega : lastN rs fl < r)
    have hb : ∀ x ∈ rs ++ [r], x < 18446744073709551616 := by
      intro x hx
      rw [List.mem_append] at hx
      rcases hx with hx | hx
      · exact h.big x hx
      · simp at hx; omega
    by_cases h2 : rs.length = mo
    · rw [if_pos h2, if_pos h2]
      cases rs with
      | nil => have := h.one; simp at h2; omega
      | cons x rs =>
        refine ⟨?_, h.big x (by simp), fun y hy => hb y ?_, ?_, h.one, h.most⟩
        · exact up_tail hs
        · simp at hy ⊢; rcases hy with hy | hy
          · exact .inr (.inl hy)
          · exact .inr (.inr hy)
        · simp at h2 ⊢; omega
    · rw [if_neg h2, if_neg h2]
      refine ⟨hs, h.flo, hb, ?_, h.one, h.most⟩
      have := h.len
      simp; omega
theorem ad_last {fl : Nat} {rs : List Nat} {mo r : Nat} : lastN (adR rs fl mo r) (adF rs fl mo r) = if r ≤ lastN rs fl then lastN rs fl else r := by
  unfold adR adF
  by_cases h1 : r ≤ lastN rs fl
  · rw [if_pos h1, if_pos h1, if_pos h1]
  · rw [if_neg h1, if_neg h1, if_neg h1]
    split <;> exact lastN_snoc _ _ _
theorem ad_floor {fl : Nat} {rs : List Nat} {mo r : Nat} (h : Good fl rs mo) : fl ≤ adF rs fl mo r := by
  unfold adF
  split
  · exact Nat.le_refl _
  · split
    · rename_i h1 h2
      cases rs with
      | nil => have := h.one; simp at h2; omega
      | cons x rs => exact Nat.le_of_lt (up_head h.up)
    · exact Nat.le_refl _
end Eg
end Go.Proofs.Ytldhlilcfadieaa
