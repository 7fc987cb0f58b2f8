/-
  The walk of the law NumPuts: it returns true, and leaves all that was there as it was. Conditions: the number has 64 bits, the text is no longer than a Go string may be.
-/
import Derived.Test.YtalbbkbjfopooaaNumWorks
import Derived.Test.YtalbbkbjfopooaaNumRefTake
namespace Go.Proofs.Ytalbbkbjfopooaa.NumPutsWalk
open Go.ChangeShapes Go.WideShapes Go.ChangeAt Go.RowKit
open LebMath

theorem walk (n0 : Int) (s : ByteArray) (w0 : (Lit.int .u64 n0).wf = true) (w1 : s.size ≤ maxLen) (_z1 : s.size ≤ 140737488351232) (w : World) :
    Calls Try.prog 4 #[.int .u64 n0, .string s] w fun e w' => e = .returned (.bool true) ∧ Below w.heap.size w w' := by
  have hn := bounds_u64 w0
  obtain ⟨n, rfl⟩ := Int.eq_ofNat_of_zero_le hn.1
  have hn' : n < 18446744073709551616 := by omega
  clear w0 hn
  have W1 := Lib.hid w1
  clear w1
  go_enter Try.func4, Try.ntmps4
  go_wp2_with fail
  refine (NumTake.take_lim s _ W1.out).mono ?_
  rintro e w' ⟨rfl, rfl⟩
  go_wp2_with fail
  refine (NumRefTake.refTake_any s _ W1.out).mono ?_
  rintro e w2 ⟨rfl, hb2⟩
  go_wp2_with fail
  refine (NumPut.put_any n _ hn').mono ?_
  rintro e w3 ⟨rfl, hb3⟩
  go_wp2_with fail
  refine (NumRefPut.refPut_any n _ hn').mono ?_
  rintro e w4 ⟨rfl, hb4⟩
  go_wp2_with (go_at_call 11; refine (NumWorks.works_any _).mono ?_; rintro e w5 ⟨rfl, hb5⟩)
  go_ret
  have h2 := hb2.size
  have h3 := hb3.size
  have h4 := hb4.size
  exact ⟨rfl, ((hb2.trans (hb3.mono h2)).trans (hb4.mono (by omega))).trans (hb5.mono (by omega))⟩
end Go.Proofs.Ytalbbkbjfopooaa.NumPutsWalk
