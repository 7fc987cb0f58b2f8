/-
  The document's words of frames and splitters, in plain functions of lists of bytes: what Feed and Next answer, and what is had then; and what follows of a stream of frames. No condition.
-/
import Derived.Test.YtnbmfoidnnfpeaaKit
namespace Go.Proofs.Ytnbmfoidnnfpeaa
namespace FramePure

/-- how long the first two bytes say -/
def lenV (xs : List UInt8) : Nat := (xs.getD 0 0).toNat + 256 * (xs.getD 1 0).toNat
/-- what Next answers -/
def nextE (cl : Bool) (xs : List UInt8) : Int :=
  if cl then 400 else if xs.length < 2 then 6 else if 2048 < lenV xs then 2 else if xs.length < lenV xs + 2 then 6 else 0
/-- the text that Next tells -/
def nextT (cl : Bool) (xs : List UInt8) : List UInt8 := if nextE cl xs = 0 then (xs.drop 2).take (lenV xs) else []
/-- is it closed then? -/
def nextC (cl : Bool) (xs : List UInt8) : Bool := cl || decide (nextE cl xs = 2)
/-- the bytes that are had then -/
def nextL (cl : Bool) (xs : List UInt8) : List UInt8 := if nextE cl xs = 0 then xs.drop (lenV xs + 2) else if nextE cl xs = 2 then [] else xs

/-- what Feed of m bytes answers, and what is had then -/
def feedE (cl : Bool) (n m : Nat) : Int := if cl then 400 else if 8192 < n + m then 2 else 0
def feedC (cl : Bool) (n m : Nat) : Bool := cl || decide (8192 < n + m)
def feedL (cl : Bool) (xs ys : List UInt8) : List UInt8 := if cl then xs else if 8192 < xs.length + ys.length then [] else xs ++ ys

theorem lenV_le (xs : List UInt8) : lenV xs ≤ 65535 := by
  unfold lenV
  have h0 := (xs.getD 0 0).toNat_lt
  have h1 := (xs.getD 1 0).toNat_lt
  omega

theorem nextE_closed (xs : List UInt8) : nextE true xs = 400 := by simp [nextE]
theorem nextE_short {xs : List UInt8} (h : xs.length < 2) : nextE false xs = 6 := by simp [nextE, h]
theorem nextE_long {xs : List UInt8} (h : ¬ xs.length < 2) (h2 : 2048 < lenV xs) : nextE false xs = 2 := by simp [nextE, h, h2]
theorem nextE_part {xs : List UInt8} (h : ¬ xs.length < 2) (h2 : ¬ 2048 < lenV xs) (h3 : xs.length < lenV xs + 2) : nextE false xs = 6 := by simp [nextE, h, h2, h3]
theorem nextE_whole {xs : List UInt8} (h : ¬ xs.length < 2) (h2 : ¬ 2048 < lenV xs) (h3 : ¬ xs.length < lenV xs + 2) : nextE false xs = 0 := by simp [nextE, h, h2, h3]

theorem nextE_zero {cl : Bool} {xs : List UInt8} (h : nextE cl xs = 0) : cl = false ∧ 2 ≤ xs.length ∧ lenV xs ≤ 2048 ∧ lenV xs + 2 ≤ xs.length := by
  unfold nextE at h
  split at h
  · simp at h
  · rename_i hc
    split at h
    · simp at h
    · split at h
      · simp at h
      · split at h
        · simp at h
        · exact ⟨by simpa using hc, by omega, by omega, by omega⟩

theorem nextE_values (cl : Bool) (xs : List UInt8) : nextE cl xs = 0 ∨ nextE cl xs = 2 ∨ nextE cl xs = 6 ∨ nextE cl xs = 400 := by
  unfold nextE
  split
  · simp
  · split
    · simp
    · split
      · simp
      · split <;> simp

theorem nextT_len (cl : Bool) (xs : List UInt8) : (nextT cl xs).length ≤ 2048 := by
  unfold nextT
  split
  · rename_i h
    have := (nextE_zero h).2.2.1
    rw [List.length_take]
    omega
  · simp

theorem nextL_len (cl : Bool) (xs : List UInt8) : (nextL cl xs).length ≤ xs.length := by
  unfold nextL
  split
  · simp
  · split <;> simp

/-- the frame of a text -/
def fr (t : List UInt8) : List UInt8 := UInt8.ofNat (t.length % 256) :: UInt8.ofNat (t.length / 256) :: t
def frs : List (List UInt8) → List UInt8
  | [] => []
  | t :: ts => fr t ++ frs ts

theorem fr_len (t : List UInt8) : (fr t).length = t.length + 2 := by simp [fr]

theorem frs_snoc : ∀ (a : List (List UInt8)) (t : List UInt8), frs (a ++ [t]) = frs a ++ fr t
  | [], t => by simp [frs]
  | x :: a, t => by simp [frs, frs_snoc a t]

theorem frs_len : ∀ (a : List (List UInt8)), (∀ t ∈ a, t.length ≤ 400) → (frs a).length ≤ 402 * a.length
  | [], _ => by simp [frs]
  | t :: a, h => by
    have h1 := h t (by simp)
    have h2 := frs_len a (fun x hx => h x (by simp [hx]))
    simp only [frs, List.length_append, fr_len, List.length_cons]
    omega

theorem lenV_fr (t ys : List UInt8) (h : t.length ≤ 2048) : lenV (fr t ++ ys) = t.length := by
  unfold lenV fr
  simp
  omega

/-- texts that were taken, one by one, from the front of what was had -/
inductive Came (xs0 : List UInt8) : List (List UInt8) → List UInt8 → Prop
  | none : Came xs0 [] xs0
  | more {pre : List (List UInt8)} {xs : List UInt8} : Came xs0 pre xs → nextE false xs = 0 → Came xs0 (pre ++ [nextT false xs]) (nextL false xs)

theorem Came.len {xs0 : List UInt8} {pre : List (List UInt8)} {xs : List UInt8} (h : Came xs0 pre xs) : 2 * pre.length + xs.length ≤ xs0.length := by
  induction h with
  | none => simp
  | more h0 h1 ih =>
    have h2 := nextE_zero h1
    unfold nextL
    rw [if_pos h1]
    simp only [List.length_append, List.length_cons, List.length_nil, List.length_drop]
    omega

/-- the front of a stream of frames: what Next takes of it, if anything -/
theorem next_fr {xs zs t : List UInt8} {ts : List (List UInt8)} (ht : t.length ≤ 2048) (h : xs ++ zs = fr t ++ frs ts) :
    (nextE false xs = 0 ∧ nextT false xs = t ∧ nextL false xs ++ zs = frs ts) ∨ (nextE false xs = 6 ∧ zs ≠ []) := by
  by_cases hs : xs.length < 2
  · right
    refine ⟨nextE_short hs, ?_⟩
    rintro rfl
    have := congrArg List.length h
    simp [fr_len] at this
    omega
  · have hl : lenV xs = t.length := by
      rw [← lenV_fr t (frs ts) ht, ← h]
      rcases xs with _ | ⟨a, _ | ⟨b, xs⟩⟩
      · simp at hs
      · simp at hs
      · simp [lenV]
    by_cases hp : xs.length < lenV xs + 2
    · right
      refine ⟨nextE_part hs (by omega) hp, ?_⟩
      rintro rfl
      have := congrArg List.length h
      simp [fr_len] at this
      omega
    · left
      have h0 := nextE_whole hs (by omega) hp
      refine ⟨h0, ?_, ?_⟩
      · unfold nextT
        rw [if_pos h0, hl]
        have h2 : (xs ++ zs).take (t.length + 2) = fr t := by
          rw [h, List.take_append_of_le_length (Nat.le_of_eq (fr_len t).symm), List.take_of_length_le (Nat.le_of_eq (fr_len t))]
        rw [List.take_append_of_le_length (by omega)] at h2
        have h3 := congrArg (List.drop 2) h2
        rw [List.drop_take] at h3
        simpa [fr] using h3
      · unfold nextL
        rw [if_pos h0, hl]
        have h2 := congrArg (List.drop (t.length + 2)) h
        rw [List.drop_append_of_le_length (by omega)] at h2
        rw [h2, ← fr_len, List.drop_left]

/-- HOWEVER IT IS CUT: what came of a stream of frames is the first of its texts -/
theorem came_frs {Ts : List (List UInt8)} (hT : ∀ t ∈ Ts, t.length ≤ 2048) {xs0 zs : List UInt8} (k : Nat) (h0 : xs0 ++ zs = frs (Ts.drop k)) {pre : List (List UInt8)} {xs : List UInt8} (h : Came xs0 pre xs) :
    ∃ j, Ts.take k ++ pre = Ts.take j ∧ xs ++ zs = frs (Ts.drop j) ∧ k ≤ j := by
  induction h with
  | none => exact ⟨k, by simp, h0, Nat.le_refl _⟩
  | @more pre xs h1 h2 ih =>
    obtain ⟨j, hj, hx, hkj⟩ := ih
    rcases hd : Ts.drop j with _ | ⟨t, ts⟩
    · rw [hd] at hx
      have := congrArg List.length hx
      have h3 := (nextE_zero h2).2.1
      simp only [frs, List.length_append, List.length_nil] at this
      omega
    · have hjl : j < Ts.length := by
        rcases Nat.lt_or_ge j Ts.length with h | h
        · exact h
        · rw [List.drop_eq_nil_of_le h] at hd; cases hd
      rw [List.drop_eq_getElem_cons hjl] at hd
      injection hd with e1 e2
      have ht : t.length ≤ 2048 := hT t (by rw [← e1]; exact List.getElem_mem hjl)
      rw [List.drop_eq_getElem_cons hjl, e1, e2] at hx
      rcases next_fr ht (by simpa [frs] using hx) with ⟨_, h4, h5⟩ | ⟨h4, _⟩
      · refine ⟨j + 1, ?_, ?_, by omega⟩
        · rw [← List.append_assoc, hj, h4, List.take_succ_eq_append_getElem hjl, e1]
        · rw [h5, e2]
      · rw [h2] at h4; cases h4

/-- what no text is taken of any more -/
theorem rest_frs {Ts : List (List UInt8)} (hT : ∀ t ∈ Ts, t.length ≤ 2048) {j : Nat} {xs zs : List UInt8} (h : xs ++ zs = frs (Ts.drop j)) (h2 : nextE false xs ≠ 0) :
    nextE false xs = 6 ∧ (zs = [] → Ts.take j = Ts ∧ xs = []) := by
  rcases hd : Ts.drop j with _ | ⟨t, ts⟩
  · rw [hd] at h
    simp only [frs, List.append_eq_nil_iff] at h
    refine ⟨by rw [h.1]; rfl, fun _ => ⟨List.take_of_length_le (List.drop_eq_nil_iff.1 hd), h.1⟩⟩
  · rw [hd] at h
    have hm : t ∈ Ts := List.mem_of_mem_drop (i := j) (by rw [hd]; simp)
    rcases next_fr (hT t hm) (by simpa [frs] using h) with ⟨h3, _⟩ | ⟨h3, h4⟩
    · exact absurd h3 h2
    · exact ⟨h3, fun e => absurd e h4⟩

theorem rest_state {xs : List UInt8} (h : nextE false xs = 6) : nextC false xs = false ∧ nextL false xs = xs := by
  unfold nextC nextL
  rw [h]
  simp
end FramePure
end Go.Proofs.Ytnbmfoidnnfpeaa
