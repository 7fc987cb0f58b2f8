/-
  ResSums (14.1): the sum of any, of at most 100. Conditions: the numbers are 64-bit integers; strconv's table of powers holds what the program's text lays.
-/
import Derived.Test.YtpllcnpmjnmcfaaDoorResSum
import Derived.Test.YtpllcnpmjnmcfaaDoorResWorks
import Derived.Deep.QuietTactic
set_option linter.unusedVariables false
set_option linter.unusedSimpArgs false
namespace Go.Proofs.YtpllcnpmjnmcfaaDoor
open Go.ChangeShapes Go.WideShapes Go.ChangeAt Go.RowKit Go.Lib
open NumMath
namespace Re
namespace ResSumsWalk
set_option maxRecDepth 100000 in
set_option maxHeartbeats 4000000 in
theorem walk (A : Option Addr) (c : Nat) (l : List Rx) (hl : l.length ≤ 9223372036854775807) (w : World) (hT : NumText.Tab w) (hR : Ress w A l) : Calls Tryd.prog 4 #[.slice A l.length c] w fun e w' => e = .returned (.bool true) ∧ Below w.heap.size w w' := by
  have HT := Lib.hid hT
  have HR := Lib.hid hR
  clear hT hR
  have HW := Lib.hid (fun u (h : NumText.Tab u) => works_any u h)
  by_cases hn : 100 < l.length
  · obtain ⟨n, hn0⟩ : ∃ n, l.length = n := ⟨_, rfl⟩
    rw [hn0] at hn hl ⊢
    clear HR hn0
    go_enter Tryd.func4, Tryd.ntmps4
    go_wp2_with fail
    refine (HW.out _ HT.out).mono ?_
    rintro e w1 ⟨rfl, hb⟩
    go_wp2_with fail
    go_ret
    exact ⟨rfl, hb⟩
  · have C1 := Lib.hid (fun u (h : Ress u A l) => sum_any A c l (by omega) u h)
    have C2 := Lib.hid (fun u (h : Ress u A l) => refsum_any A c l (by omega) u h)
    obtain ⟨r, hr⟩ : ∃ r, sumR z3 l = r := ⟨_, rfl⟩
    simp only [hr] at C1 C2
    obtain ⟨n, hn0⟩ : ∃ n, l.length = n := ⟨_, rfl⟩
    simp only [hn0] at C1 C2
    rw [hn0] at hn ⊢
    clear hn0 hl hr
    have hEQ : ∀ v, (binOp BinOp.eql 23 (.agg #[.int .i64 r.1.c, .int .i64 r.1.m, .int .i64 r.1.p]) (.agg #[.int .i64 r.1.c, .int .i64 r.1.m, .int .i64 r.1.p])).run Tryd.prog v = .ok (.bool true) v := fun v => by rw [eql_res, eqR_self]
    go_enter Tryd.func4, Tryd.ntmps4
    have B := Lib.hid (Below.refl w.heap.size w)
    go_wp2_with fail
    refine (C1.out _ HR.out).mono ?_
    rintro e w1 ⟨rfl, hb1⟩
    obtain ⟨u1, hu1⟩ : ∃ v, w1.alloc (.cells #[.int .i64 0, .int .i64 0, .int .i64 0] 23) = v := ⟨_, rfl⟩
    have ZB := Lib.hid (show u1.heap[w1.heap.size]? = some (.cells #[.int .i64 0, .int .i64 0, .int .i64 0] 23 (0, 0)) by rw [← hu1]; exact heap_alloc_new _ _)
    have BU := Lib.hid (show Below w1.heap.size w1 u1 by rw [← hu1]; exact (Below.refl _ _).alloc (Nat.le_refl _) _)
    obtain ⟨v1, hv1⟩ : ∃ v, u1.setCells (w1.heap.size) 0 (R3 r.1) = v := ⟨_, rfl⟩
    have THz := Lib.hid (show u1.there (w1.heap.size) 0 3 from Back.th ZB.out rfl)
    have ONEz := Lib.hid (show ((R3 r.1) : List Value).toArray.all (·.oneCell') = true by simp [Value.oneCell'])
    have HVz := Lib.hid hv1
    have NX := Lib.hid (show v1.heap[w1.heap.size]? = some (.cells ((R3 r.1) : List Value).toArray 23 (0, 0)) by rw [← hv1]; exact Back.st ZB.out rfl)
    have BV := Lib.hid (show Below w1.heap.size w1 v1 by rw [← hv1]; exact bel_set BU.out (Nat.le_refl _))
    have BH := hb1.trans (BV.out.mono hb1.size)
    clear hv1
    have NB := Lib.hid (B.out.trans (BH.mono B.out.size))
    clear B 
    have B := Lib.hid NB.out
    clear NB 
    have X1 := Lib.hid NX.out
    have RX1 := Lib.hid (range_box (cs := (R3 r.1)) X1.out)
    clear BH BV NX ZB BU hb1
    go_wp2_with (first | (refine wpList_store_at rfl 23 _ _ rfl _ _ _ rfl rfl THz.out (by kernel_rfl) ONEz.out HVz.out ?_))
    refine (C2.out _ (HR.out.below B.out)).mono ?_
    rintro e w2 ⟨rfl, hb2⟩
    obtain ⟨u2, hu2⟩ : ∃ v, w2.alloc (.cells #[.int .i64 0, .int .i64 0, .int .i64 0] 23) = v := ⟨_, rfl⟩
    have ZB := Lib.hid (show u2.heap[w2.heap.size]? = some (.cells #[.int .i64 0, .int .i64 0, .int .i64 0] 23 (0, 0)) by rw [← hu2]; exact heap_alloc_new _ _)
    have BU := Lib.hid (show Below w2.heap.size w2 u2 by rw [← hu2]; exact (Below.refl _ _).alloc (Nat.le_refl _) _)
    obtain ⟨v2, hv2⟩ : ∃ v, u2.setCells (w2.heap.size) 0 (R3 r.1) = v := ⟨_, rfl⟩
    have THz := Lib.hid (show u2.there (w2.heap.size) 0 3 from Back.th ZB.out rfl)
    have ONEz := Lib.hid (show ((R3 r.1) : List Value).toArray.all (·.oneCell') = true by simp [Value.oneCell'])
    have HVz := Lib.hid hv2
    have NX := Lib.hid (show v2.heap[w2.heap.size]? = some (.cells ((R3 r.1) : List Value).toArray 23 (0, 0)) by rw [← hv2]; exact Back.st ZB.out rfl)
    have BV := Lib.hid (show Below w2.heap.size w2 v2 by rw [← hv2]; exact bel_set BU.out (Nat.le_refl _))
    have BH := hb2.trans (BV.out.mono hb2.size)
    clear hv2
    have NX1 := Lib.hid ((BH.block _ (lt_of_at X1.out)).trans X1.out)
    have NB := Lib.hid (B.out.trans (BH.mono B.out.size))
    clear B X1 RX1
    have X1 := Lib.hid NX1.out
    have RX1 := Lib.hid (range_box (cs := (R3 r.1)) X1.out)
    have B := Lib.hid NB.out
    clear NB NX1
    have X2 := Lib.hid NX.out
    have RX2 := Lib.hid (range_box (cs := (R3 r.1)) X2.out)
    clear BH BV NX ZB BU hb2
    clear C1 C2
    go_wp2_with (first | (refine wpList_store_at rfl 23 _ _ rfl _ _ _ rfl rfl THz.out (by kernel_rfl) ONEz.out HVz.out ?_) | (refine wpList_load_mid rfl 23 _ rfl _ _ rfl _ _ RX1.out Tryd.underlying23 rfl (by kernel_rfl) ?_) | (refine wpList_load_mid rfl 23 _ rfl _ _ rfl _ _ RX2.out Tryd.underlying23 rfl (by kernel_rfl) ?_))
    refine (HW.out _ (HT.out.below B.out)).mono ?_
    rintro e w3 ⟨rfl, hb3⟩
    go_wp2_with fail
    go_ret
    exact ⟨rfl, B.out.trans (hb3.mono B.out.size)⟩
end ResSumsWalk
end Re
end Go.Proofs.YtpllcnpmjnmcfaaDoor
