/-
  The walk of the law NumBack: it returns true, and leaves all that was there as it was. Conditions: the number has 64 bits, the text is no longer than a Go string may be by ten bytes.
-/
import Derived.Test.YtalbbkbjfopooaaNumWorks
import Derived.Test.YtalbbkbjfopooaaNumTake
import Derived.Test.YtalbbkbjfopooaaKit
import Derived.Lib.QuietBelow
import Derived.Deep.QuietTactic
import Derived.BigQuiet
import Derived.ShutString
namespace Go.Proofs.Ytalbbkbjfopooaa.NumBackWalk
open Go.ChangeShapes Go.WideShapes Go.ChangeAt Go.RowKit
open LebMath Go.Sort

set_option maxHeartbeats 4000000 in
theorem walk (n0 : Int) (s : ByteArray) (w0 : (Lit.int .u64 n0).wf = true) (_w1 : s.size ≤ maxLen) (z1 : s.size ≤ 140737488351232) (w : World) :
    Calls Try.prog 5 #[.int .u64 n0, .string s] w fun e w' => e = .returned (.bool true) ∧ Below w.heap.size w w' := by
  have hn := bounds_u64 w0
  obtain ⟨n, rfl⟩ := Int.eq_ofNat_of_zero_le hn.1
  have hn' : n < 18446744073709551616 := by omega
  clear w0 hn
  have h10 := leb_le_ten hn'
  have hp := leb_pos n
  have htv := takeV_leb hn' s.data.toList
  have HTV := Lib.hid htv
  clear htv
  have hsz : (⟨(leb n).toArray⟩ ++ s : ByteArray).size ≤ maxLen := by
    unfold maxLen; rw [ByteArray.size_append, size_of_list]; omega
  have HS := Lib.hid hsz
  clear hsz
  have HS' : Hid (s.size ≤ maxLen) := by unfold Hid maxLen; omega
  obtain ⟨m, hm⟩ : ∃ m, m = takeV s.data.toList := ⟨_, rfl⟩
  have hm1 : m.1 < 18446744073709551616 := by rw [hm]; exact takeV_lt _
  have hsome : m.2 ≠ 0 → m.2 ≤ s.size ∧ leb m.1 = s.data.toList.take m.2 := fun h => by
    rw [hm] at h ⊢
    have := takeV_some h
    exact ⟨by have h1 := this.1; rw [Array.length_toList] at h1; exact h1, this.2.2.2⟩
  have hnone : m.2 = 0 → m.1 = 0 := fun h => by rw [hm] at h ⊢; exact takeV_none h
  have HSOME := Lib.hid hsome
  have HNONE := Lib.hid hnone
  have HM := Lib.hid hm
  clear hsome hnone hm
  go_enter Try.func5, Try.ntmps5
  go_wp2_with fail
  refine (NumWorks.works_any _).mono ?_
  rintro e w1 ⟨rfl, hb1⟩
  go_wp2_with fail
  refine (NumPut.put_any n _ hn').mono ?_
  rintro e w2 ⟨rfl, hb2⟩
  go_wp2_with fail
  refine (NumTake.take_lim _ _ HS.out).mono ?_
  rintro e w3 ⟨rfl, rfl⟩
  rw [ByteArray.toList_data_append, show (ByteArray.mk (leb n).toArray).data.toList = leb n from rfl, HTV.out]
  go_wp2_with fail
  refine (NumTake.take_lim s _ HS'.out).mono ?_
  rintro e w3 ⟨rfl, rfl⟩
  rw [← HM.out]
  have hb12 := hb1.trans (hb2.mono hb1.size)
  by_cases h0 : m.2 = 0
  · have e1 : ((m.2 : Int) == 0) = true := beq_iff_eq.2 (by omega)
    have e2 : ((m.1 : Int) == 0) = true := beq_iff_eq.2 (by have := HNONE.out h0; omega)
    clear h0
    go_wp2_with fail
    go_quiet (fail)
    all_goals
      go_wp2_with fail
      go_ret
      exact ⟨rfl, hb12.trans (Kit.below_drewN _ _ _)⟩
  · have hx := HSOME.out h0
    have e1 : ((m.2 : Int) == 0) = false := beq_eq_false_iff_ne.2 (by omega)
    have e3 : (0 : Int) < (m.2 : Int) := by omega
    have e4 : (m.2 : Int) ≤ (s.size : Int) := by omega
    have e6 : decide ((0 : Int) < (m.2 : Int)) = true := decide_eq_true e3
    have e7 : decide (0 < m.2) = true := decide_eq_true (by omega)
    have e8 : decide ((m.2 : Int) ≤ (s.size : Int)) = true := decide_eq_true e4
    have e9 : decide (m.2 ≤ s.size) = true := decide_eq_true (by omega)
    have e5 : (leb m.1 == (s.extract 0 m.2).toList) = true := by
      rw [ByteArray.toList_eq, hx.2]
      simp [List.extract_eq_take_drop]
    clear h0 hx
    go_wp2_with fail
    have cP : ∀ d os, Calls Try.prog 14 #[.int .u64 (m.1 : Nat)] (grow (redrawn w2 d) os) fun e w'' => e = .returned (.string ⟨(leb m.1).toArray⟩) ∧ ∃ p : Regrown, w'' = grow (redrawn w2 p.d) p.os :=
      fun d os => Calls.regrown_of (NumPut.put_any m.1 _ hm1)
    have CP := Lib.hid cP
    clear cP
    refine wp_region_quiet_below (by kernel_rfl) (by kernel_rfl) ?_
    repeat (first | go_big_quiet_step (exact CP.out _ _) | quiet_step (exact CP.out _ _))
    refine wpQuiet_nil ?_
    intro _ hw'
    obtain ⟨⟨dq, osq⟩, hw''⟩ := hw'
    subst hw''
    go_wp2_with fail
    go_ret
    exact ⟨rfl, hb12.trans ((below_regrown w2 dq osq).mono hb12.size)⟩
end Go.Proofs.Ytalbbkbjfopooaa.NumBackWalk
