/-
 The line of a reply, step by step, as the document builds it (provostref09.Line): one text after another.
-/
import Derived.Test.YtljbpelogjmciaaGreatDoorTellC
set_option linter.unusedVariables false
set_option linter.unusedSimpArgs false
namespace Go.Proofs.YtljbpelogjmciaaGreatDoor
open Go.ChangeShapes Go.WideShapes Go.ChangeAt Go.RowKit Go.Lib
open LebMath WirePure Sd Wire SpecOwn SpecRef Book Pk
namespace Tl
def stepB (is : Bool) (nm v l : List UInt8) : List UInt8 := if is then l ++ ([32] ++ nm ++ [61] ++ v) else l
theorem tail_snoc (sep z : List UInt8) : ∀ r : List (List UInt8), Lib.joinTail sep (r ++ [z]) = Lib.joinTail sep r ++ (sep ++ z) := by
 intro r
 simp [Lib.joinTail]
theorem join_addP (is : Bool) (nm v : ByteArray) (xs : List ByteArray) (hx : xs ≠ []) : Lib.join ((addP is nm v xs).map (·.data.toList)) [32] = stepB is nm.data.toList v.data.toList (Lib.join (xs.map (·.data.toList)) [32]) := by
 unfold addP stepB
 cases is with
 | false => simp
 | true =>
  cases xs with
  | nil => exact absurd rfl hx
  | cons x r =>
   simp only [if_true, List.map_append, List.map_cons, List.map_nil, List.cons_append]
   rw [Lib.join_cons, Lib.join_cons, tail_snoc]
   simp [List.append_assoc]
theorem addP_ne {is : Bool} {nm v : ByteArray} {xs : List ByteArray} (h : xs ≠ []) : addP is nm v xs ≠ [] := by
 unfold addP
 cases is with
 | false => simpa using h
 | true => simp
def r0 (n : Int) (r : Rp) : List UInt8 := [114, 101, 112, 108, 121, 32] ++ itoa n ++ [32] ++ itoa r.code
def r1 (n : Int) (r : Rp) : List UInt8 := stepB (r.uid != 0) [117, 105, 100] (itoa r.uid) (r0 n r)
def r2 (n : Int) (r : Rp) : List UInt8 := stepB (r.id != 0) [105, 100] (itoa r.id) (r1 n r)
def r3 (n : Int) (r : Rp) : List UInt8 := stepB ((r.rev : Int) != 0) [114, 101, 118] (decDigits r.rev) (r2 n r)
def r4 (n : Int) (r : Rp) : List UInt8 := stepB (!(r.data.toList.isEmpty)) [100, 97, 116, 97] r.data.data.toList (r3 n r)
def r5 (n : Int) (r : Rp) : List UInt8 := stepB ((r.pods.length : Int) != 0) [112, 111, 100, 115] (itoa (r.pods.length : Nat)) (r4 n r)
def r6 (n : Int) (r : Rp) : List UInt8 := stepB ((r.use.length : Int) != 0) [117, 115, 101] (itoa (r.use.length : Nat)) (r5 n r)
theorem r0_eq (n : Int) (r : Rp) : Lib.join ((p0 n r.code).map (·.data.toList)) [32] = r0 n r := by
 unfold p0 r0
 simp only [List.map_cons, List.map_nil, Lib.join_cons, Lib.joinTail]
 simp
theorem line_r6 (n : Int) (r : Rp) : lineR n r = r6 n r := by
 have h0 : p0 n r.code ≠ [] := by unfold p0; simp
 unfold lineR replyParts
 rw [join_addP _ _ _ _ (addP_ne (addP_ne (addP_ne (addP_ne (addP_ne h0))))), join_addP _ _ _ _ (addP_ne (addP_ne (addP_ne (addP_ne h0)))), join_addP _ _ _ _ (addP_ne (addP_ne (addP_ne h0))), join_addP _ _ _ _ (addP_ne (addP_ne h0)), join_addP _ _ _ _ (addP_ne h0), join_addP _ _ _ _ h0, r0_eq]
 rfl
theorem stepB_len {is : Bool} {nm v l : List UInt8} {k j : Nat} (h : l.length ≤ k) (hv : nm.length + v.length + 2 ≤ j) : (stepB is nm v l).length ≤ k + j := by
 unfold stepB
 split
 · simp only [List.length_append, List.length_cons, List.length_nil]; omega
 · omega
end Tl
end Go.Proofs.YtljbpelogjmciaaGreatDoor
