/-
  What chapter 4 says of a reader's calls, as plain functions of the first error and the bytes that are left. No condition.
-/
import Derived.Test.YtmeilidjomjocaaGreatDoorLebMath
namespace Go.Proofs.YtmeilidjomjocaaGreatDoor.WirePure
open LebMath

/-- the first error -/
def fst (c d : Int) : Int := if c = 0 then d else c
theorem fst_no (d : Int) : fst 0 d = d := by simp [fst]
theorem fst_yes {c : Int} (h : c ≠ 0) (d : Int) : fst c d = c := by simp [fst, h]
theorem fst_ne {c d : Int} (h : d ≠ 0) : fst c d ≠ 0 := by unfold fst; split <;> assumption

/-- why no number stands at the beginning -/
def why (l : List UInt8) : Int := if 10 ≤ l.length then 3 else if l.any (fun b => decide (b.toNat < 128)) = true then 3 else 40
theorem why_ne (l : List UInt8) : why l ≠ 0 := by unfold why; split; · decide
                                                  split <;> decide

/-- a number up to m: the error behind it, the number, the bytes left -/
def numE (m : Nat) (c : Int) (l : List UInt8) : Int := if (takeV l).2 = 0 then fst c (why l) else if m < (takeV l).1 then fst c 2 else c
def numV (m : Nat) (c : Int) (l : List UInt8) : Nat := if numE m c l = 0 then (takeV l).1 else 0
def numL (m : Nat) (c : Int) (l : List UInt8) : List UInt8 := if numE m c l = 0 then l.drop (takeV l).2 else l

/-- so many bytes -/
def takeE (n : Nat) (c : Int) (l : List UInt8) : Int := if l.length < n then fst c 40 else c
def takeS (n : Nat) (c : Int) (l : List UInt8) : List UInt8 := if takeE n c l = 0 then l.take n else []
def takeL (n : Nat) (c : Int) (l : List UInt8) : List UInt8 := if takeE n c l = 0 then l.drop n else l

/-- a text of up to m bytes -/
def textE (m : Nat) (c : Int) (l : List UInt8) : Int := takeE (numV m c l) (numE m c l) (numL m c l)
def textS (m : Nat) (c : Int) (l : List UInt8) : List UInt8 := takeS (numV m c l) (numE m c l) (numL m c l)
def textL (m : Nat) (c : Int) (l : List UInt8) : List UInt8 := takeL (numV m c l) (numE m c l) (numL m c l)

/-- a truth -/
def boolE (c : Int) (l : List UInt8) : Int := if takeS 1 c l = [1] ∨ takeS 1 c l = [0] then takeE 1 c l else fst (takeE 1 c l) 3
def boolV (c : Int) (l : List UInt8) : Bool := decide (takeS 1 c l = [1])
def boolL (c : Int) (l : List UInt8) : List UInt8 := takeL 1 c l

/-- the end -/
def endE (c : Int) (l : List UInt8) : Int := if l = [] then c else fst c 3

theorem numL_len (m : Nat) (c : Int) (l : List UInt8) : (numL m c l).length ≤ l.length := by unfold numL; split <;> simp
theorem takeL_len (n : Nat) (c : Int) (l : List UInt8) : (takeL n c l).length ≤ l.length := by unfold takeL; split <;> simp
theorem takeS_len (n : Nat) (c : Int) (l : List UInt8) : (takeS n c l).length ≤ l.length := by unfold takeS; split <;> simp <;> omega
theorem textL_len (m : Nat) (c : Int) (l : List UInt8) : (textL m c l).length ≤ l.length := Nat.le_trans (takeL_len _ _ _) (numL_len _ _ _)
theorem boolL_len (c : Int) (l : List UInt8) : (boolL c l).length ≤ l.length := takeL_len _ _ _
theorem numV_lt (m : Nat) (c : Int) (l : List UInt8) : numV m c l < 18446744073709551616 := by
  unfold numV; split
  · exact takeV_lt l
  · omega
theorem numV_le (m : Nat) (c : Int) (l : List UInt8) : numV m c l ≤ m := by
  unfold numV
  split
  · rename_i h
    unfold numE at h
    split at h
    · rename_i h2
      rw [takeV_none h2]; omega
    · split at h
      · exact absurd h (fst_ne (by decide))
      · omega
  · omega

/-- behind an error all stays -/
theorem numE_err {c : Int} (h : c ≠ 0) (m : Nat) (l : List UInt8) : numE m c l = c := by
  unfold numE; split
  · exact fst_yes h _
  · split
    · exact fst_yes h _
    · rfl
theorem numV_err {c : Int} (h : c ≠ 0) (m : Nat) (l : List UInt8) : numV m c l = 0 := by unfold numV; rw [numE_err h, if_neg h]
theorem numL_err {c : Int} (h : c ≠ 0) (m : Nat) (l : List UInt8) : numL m c l = l := by unfold numL; rw [numE_err h, if_neg h]
theorem takeE_err {c : Int} (h : c ≠ 0) (n : Nat) (l : List UInt8) : takeE n c l = c := by
  unfold takeE; split
  · exact fst_yes h _
  · rfl
theorem takeS_err {c : Int} (h : c ≠ 0) (n : Nat) (l : List UInt8) : takeS n c l = [] := by unfold takeS; rw [takeE_err h, if_neg h]
theorem takeL_err {c : Int} (h : c ≠ 0) (n : Nat) (l : List UInt8) : takeL n c l = l := by unfold takeL; rw [takeE_err h, if_neg h]
theorem textE_err {c : Int} (h : c ≠ 0) (m : Nat) (l : List UInt8) : textE m c l = c := by unfold textE; rw [numE_err h, numV_err h, numL_err h, takeE_err h]
theorem textS_err {c : Int} (h : c ≠ 0) (m : Nat) (l : List UInt8) : textS m c l = [] := by unfold textS; rw [numE_err h, takeS_err h]
theorem textL_err {c : Int} (h : c ≠ 0) (m : Nat) (l : List UInt8) : textL m c l = l := by unfold textL; rw [numE_err h, numV_err h, numL_err h, takeL_err h]
theorem boolE_err {c : Int} (h : c ≠ 0) (l : List UInt8) : boolE c l = c := by
  unfold boolE; rw [takeE_err h]; split
  · rfl
  · exact fst_yes h _
theorem boolV_err {c : Int} (h : c ≠ 0) (l : List UInt8) : boolV c l = false := by unfold boolV; rw [takeS_err h]; rfl
theorem boolL_err {c : Int} (h : c ≠ 0) (l : List UInt8) : boolL c l = l := takeL_err h _ _

/-- what was written is read -/
theorem numE_put {n m : Nat} (h : n < 18446744073709551616) (hm : n ≤ m) (r : List UInt8) : numE m 0 (leb n ++ r) = 0 := by
  unfold numE
  have hp := leb_pos n
  rw [takeV_leb h, if_neg (by omega), if_neg (by omega)]
theorem numV_put {n m : Nat} (h : n < 18446744073709551616) (hm : n ≤ m) (r : List UInt8) : numV m 0 (leb n ++ r) = n := by
  unfold numV; rw [numE_put h hm, if_pos rfl, takeV_leb h]
theorem numL_put {n m : Nat} (h : n < 18446744073709551616) (hm : n ≤ m) (r : List UInt8) : numL m 0 (leb n ++ r) = r := by
  unfold numL; rw [numE_put h hm, if_pos rfl, takeV_leb h]; simp
theorem takeE_put (a r : List UInt8) : takeE a.length 0 (a ++ r) = 0 := by unfold takeE; rw [if_neg (by simp)]
theorem takeS_put (a r : List UInt8) : takeS a.length 0 (a ++ r) = a := by unfold takeS; rw [takeE_put, if_pos rfl]; simp
theorem takeL_put (a r : List UInt8) : takeL a.length 0 (a ++ r) = r := by unfold takeL; rw [takeE_put, if_pos rfl]; simp
theorem text_put {a : List UInt8} {m : Nat} (h : a.length < 18446744073709551616) (hm : a.length ≤ m) (r : List UInt8) :
    textE m 0 (leb a.length ++ (a ++ r)) = 0 ∧ textS m 0 (leb a.length ++ (a ++ r)) = a ∧ textL m 0 (leb a.length ++ (a ++ r)) = r := by
  unfold textE textS textL
  rw [numE_put h hm, numV_put h hm, numL_put h hm]
  exact ⟨takeE_put _ _, takeS_put _ _, takeL_put _ _⟩
theorem bool_put (b : UInt8) (hb : b = 0 ∨ b = 1) (r : List UInt8) : boolE 0 (b :: r) = 0 ∧ boolV 0 (b :: r) = decide (b = 1) ∧ boolL 0 (b :: r) = r := by
  have e1 : takeE 1 0 (b :: r) = 0 := by unfold takeE; rw [if_neg (by simp)]
  have e2 : takeS 1 0 (b :: r) = [b] := by unfold takeS; rw [e1]; simp
  have e3 : takeL 1 0 (b :: r) = r := by unfold takeL; rw [e1]; simp
  refine ⟨?_, ?_, e3⟩
  · unfold boolE
    rw [e2, e1]
    rcases hb with rfl | rfl <;> simp
  · unfold boolV
    rw [e2]
    simp

/-- what was read without an error is what is written of it -/
theorem num_canon {m : Nat} {l : List UInt8} (h : numE m 0 l = 0) : l = leb (numV m 0 l) ++ numL m 0 l := by
  have h' := h
  unfold numE at h
  split at h
  · exact absurd h (fst_ne (why_ne l))
  · rename_i h2
    have := takeV_some h2
    unfold numV numL
    rw [h', if_pos rfl, if_pos rfl, this.2.2.2, List.take_append_drop]
theorem take_canon {n : Nat} {l : List UInt8} (h : takeE n 0 l = 0) : l = takeS n 0 l ++ takeL n 0 l ∧ (takeS n 0 l).length = n := by
  have h' := h
  unfold takeE at h
  split at h
  · exact absurd h (fst_ne (by decide))
  · unfold takeS takeL
    rw [h', if_pos rfl, if_pos rfl, List.take_append_drop]
    refine ⟨rfl, ?_⟩
    rw [List.length_take]; omega
theorem text_canon {m : Nat} {l : List UInt8} (h : textE m 0 l = 0) : l = leb (textS m 0 l).length ++ (textS m 0 l ++ textL m 0 l) := by
  unfold textE at h
  unfold textS textL
  by_cases h0 : numE m 0 l = 0
  · rw [h0] at h ⊢
    obtain ⟨h1, h2⟩ := take_canon h
    rw [h2, ← h1]
    exact num_canon h0
  · rw [takeE_err h0] at h; exact absurd h h0
theorem bool_canon {l : List UInt8} (h : boolE 0 l = 0) : l = (if boolV 0 l = true then 1 else 0) :: boolL 0 l := by
  unfold boolE at h
  split at h
  · rename_i h2
    obtain ⟨h1, _⟩ := take_canon h
    unfold boolV boolL
    rcases h2 with h2 | h2
    · rw [h2] at h1 ⊢; simpa using h1
    · rw [h2] at h1 ⊢; simpa using h1
  · exact absurd h (fst_ne (by decide))
end Go.Proofs.YtmeilidjomjocaaGreatDoor.WirePure
