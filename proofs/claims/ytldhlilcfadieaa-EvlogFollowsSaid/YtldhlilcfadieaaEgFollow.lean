/-
  Somebody who goes on from the last revision seen: what was added, what of it the log has still, and how many of it were seen. No condition.
-/
import Derived.Test.YtldhlilcfadieaaEgPure
namespace Go.Proofs.Ytldhlilcfadieaa
namespace Eg

/-- all that was added ends in what the log has; what stands ahead is at most the floor; what was seen is not above the last -/
structure St (all rs : List Nat) (fl seen : Nat) : Prop where
  pre : ∃ p, all = p ++ rs ∧ ∀ r ∈ p, r ≤ fl
  up : all.Pairwise (· < ·)
  big : ∀ r ∈ all, r < 18446744073709551616
  seen : seen ≤ lastN rs fl
theorem St.nil : St [] [] 0 0 := ⟨⟨[], rfl, fun r hr => by cases hr⟩, List.Pairwise.nil, (fun r hr => by cases hr), Nat.le_refl _⟩
theorem St.last {all rs : List Nat} {fl seen : Nat} (h : St all rs fl seen) (hu : Up fl rs) : ∀ r ∈ all, r ≤ lastN rs fl := by
  obtain ⟨p, hp, hf⟩ := h.pre
  intro r hr
  rw [hp, List.mem_append] at hr
  rcases hr with hr | hr
  · exact Nat.le_trans (hf r hr) (le_lastN hu).1
  · exact (le_lastN hu).2 r hr
theorem St.add {all rs : List Nat} {fl seen mo r : Nat} (h : St all rs fl seen) (G : Good fl rs mo) (hr : lastN rs fl < r) (hb : r < 18446744073709551616) : St (all ++ [r]) (adR rs fl mo r) (adF rs fl mo r) seen ∧ upN (all ++ [r]) seen = upN all seen := by
  have hl := h.last G.up
  obtain ⟨p, hp, hf⟩ := h.pre
  have hs := h.seen
  refine ⟨⟨?_, ?_, ?_, ?_⟩, ?_⟩
  · have hnr : ¬ r ≤ lastN rs fl := by omega
    by_cases hm : rs.length = mo
    · have e1 : adR rs fl mo r = rs.drop 1 ++ [r] := by unfold adR; rw [if_neg hnr, if_pos hm]
      have e2 : adF rs fl mo r = rs.headD 0 := by unfold adF; rw [if_neg hnr, if_pos hm]
      rw [e1, e2]
      cases rs with
      | nil => have := G.one; simp at hm; omega
      | cons y rest =>
        refine ⟨p ++ [y], by rw [hp]; simp, fun x hx => ?_⟩
        rw [List.mem_append] at hx
        rcases hx with hx | hx
        · have := hf x hx
          have := up_head G.up
          show x ≤ y
          omega
        · simp at hx
          subst hx
          exact Nat.le_refl _
    · have e1 : adR rs fl mo r = rs ++ [r] := by unfold adR; rw [if_neg hnr, if_neg hm]
      have e2 : adF rs fl mo r = fl := by unfold adF; rw [if_neg hnr, if_neg hm]
      rw [e1, e2]
      exact ⟨p, by rw [hp, List.append_assoc], hf⟩
  · rw [List.pairwise_append]
    refine ⟨h.up, by simp, fun a ha b hb' => ?_⟩
    simp at hb'
    subst hb'
    exact Nat.lt_of_le_of_lt (hl a ha) hr
  · intro x hx
    rw [List.mem_append] at hx
    rcases hx with hx | hx
    · exact h.big x hx
    · simp at hx; omega
  · rw [ad_last, if_neg (by omega)]
    omega
  · rw [upN_append, upN_cons, upN_nil, if_pos (by omega)]
    omega
theorem St.compact {all rs : List Nat} {fl seen mo : Nat} (h : St all rs fl seen) (G : Good fl rs mo) (to : Nat) : St all (cpR rs fl to) (cpF rs fl to) seen := by
  refine ⟨?_, h.up, h.big, by rw [cp_last G.up]; exact h.seen⟩
  obtain ⟨p, hp, hf⟩ := h.pre
  unfold cpR cpF
  by_cases h1 : min to (lastN rs fl) ≤ fl
  · rw [if_pos h1, if_pos h1]; exact ⟨p, hp, hf⟩
  · rw [if_neg h1, if_neg h1]
    refine ⟨p ++ rs.take (upN rs (min to (lastN rs fl))), by rw [List.append_assoc, List.take_append_drop]; exact hp, fun x hx => ?_⟩
    rw [List.mem_append] at hx
    rcases hx with hx | hx
    · have := hf x hx; omega
    · exact upN_take_le (up_sorted G.up) _ x hx
theorem St.old {all rs : List Nat} {fl seen : Nat} (h : St all rs fl seen) (hu : Up fl rs) (hs : seen < fl) : St all rs fl fl ∧ upN all seen ≤ upN all fl := by
  refine ⟨⟨h.pre, h.up, h.big, (le_lastN hu).1⟩, ?_⟩
  unfold upN
  refine List.countP_mono_left (fun x _ hx => ?_)
  simp at hx ⊢
  omega
/-- how many were seen: those ahead of the log, and of the log those that are not above -/
theorem St.at {all rs : List Nat} {fl seen : Nat} (h : St all rs fl seen) (hs : fl ≤ seen) : upN all seen + (rs.length - upN rs seen) = all.length ∧ ∀ (j : Nat), all[upN all seen + j]? = (rs.drop (upN rs seen))[j]? := by
  obtain ⟨p, hp, hf⟩ := h.pre
  have e : upN all seen = p.length + upN rs seen := by
    rw [hp, upN_append, upN_all (fun r hr => Nat.le_trans (hf r hr) hs)]
  have hl := upN_le rs seen
  refine ⟨by rw [e, hp, List.length_append]; omega, fun j => ?_⟩
  rw [e, hp, List.getElem?_append_right (by omega), List.getElem?_drop]
  congr 1
  omega
/-- what is seen behind j more -/
def seenAt (all : List Nat) (n0 seen j : Nat) : Nat := if j = 0 then seen else all.getD (n0 + j - 1) 0
theorem seenAt_zero (all : List Nat) (n0 seen : Nat) : seenAt all n0 seen 0 = seen := rfl
theorem seenAt_succ {all : List Nat} {n0 seen j r : Nat} (h : all[n0 + j]? = some r) : seenAt all n0 seen (j + 1) = r := by
  unfold seenAt
  rw [if_neg (by omega), List.getD_eq_getElem?_getD, show n0 + (j + 1) - 1 = n0 + j by omega, h]
  rfl
theorem St.see {all rs : List Nat} {fl seen : Nat} (h : St all rs fl seen) (hu : Up fl rs) (j : Nat) (hj : upN all seen + j ≤ all.length) : St all rs fl (seenAt all (upN all seen) seen j) ∧ upN all (seenAt all (upN all seen) seen j) = upN all seen + j := by
  cases j with
  | zero => exact ⟨h, rfl⟩
  | succ j =>
    obtain ⟨r, hr⟩ : ∃ r, all[upN all seen + j]? = some r := ⟨_, List.getElem?_eq_getElem (by omega)⟩
    rw [seenAt_succ hr]
    refine ⟨⟨h.pre, h.up, h.big, h.last hu r (List.mem_of_getElem? hr)⟩, ?_⟩
    have h1 := (upN_at h.up r _ r hr).1 (Nat.le_refl _)
    rcases Nat.lt_or_ge (upN all r) (upN all seen + j + 2) with h2 | h2
    · omega
    · exfalso
      have hlen := upN_le all r
      obtain ⟨x, hx⟩ : ∃ x, all[upN all seen + j + 1]? = some x := ⟨_, List.getElem?_eq_getElem (by omega)⟩
      have h3 := (upN_at h.up r _ x hx).2 (by omega)
      have h4 := (List.pairwise_iff_getElem.1 h.up) (upN all seen + j) (upN all seen + j + 1) (by omega) (by omega) (by omega)
      rw [(List.getElem?_eq_some_iff.1 hr).2, (List.getElem?_eq_some_iff.1 hx).2] at h4
      omega
end Eg
end Go.Proofs.Ytldhlilcfadieaa
