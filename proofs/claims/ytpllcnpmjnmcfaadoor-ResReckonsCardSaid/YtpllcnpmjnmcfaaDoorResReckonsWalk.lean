/-
  ResReckons (14.1, 14.2): the sum, the difference, the greater one, whether one fits, by how much it is above, and the text, of any two. Conditions: the numbers are 64-bit integers; strconv's table of powers holds what the program's text lays.
-/
import Derived.Test.YtpllcnpmjnmcfaaDoorResOver
import Derived.Test.YtpllcnpmjnmcfaaDoorResRef
import Derived.Test.YtpllcnpmjnmcfaaDoorResWorks
import Derived.Deep.QuietTactic
import Derived.Deep.DeepCutAuto
set_option linter.unusedVariables false
set_option linter.unusedSimpArgs false
namespace Go.Proofs.YtpllcnpmjnmcfaaDoor
open Go.ChangeShapes Go.WideShapes Go.ChangeAt Go.RowKit Go.Lib
open NumMath
namespace Re
namespace ResReckonsWalk
def FR (a b : Rx) (r q : Rx × Bool) (g0 g1 g2 g3 g4 : Nat) : Nat → Value → Prop
  | 0, v => v = .agg (R3 r.1).toArray
  | 1, v => v = .agg (R3 r.1).toArray
  | 2, v => v = .bool true
  | 3, v => v = .bool true
  | 4, v => v = .bool r.2
  | 5, v => v = .bool r.2
  | 6, v => v = .bool true
  | 7, v => v = .bool true
  | 8, v => v = .bool true
  | 9, v => v = .agg (R3 q.1).toArray
  | 10, v => v = .agg (R3 q.1).toArray
  | 11, v => v = .bool true
  | 12, v => v = .bool true
  | 13, v => v = .bool true
  | 14, v => v = .bool q.2
  | 15, v => v = .bool q.2
  | 16, v => v = .bool true
  | 17, v => v = .bool true
  | 18, v => v = .bool true
  | 19, v => v = .agg (R3 a).toArray
  | 20, v => v = .agg (R3 b).toArray
  | 21, v => v = .agg (R3 (maxR a b)).toArray
  | 22, v => v = .agg (R3 a).toArray
  | 23, v => v = .agg (R3 b).toArray
  | 24, v => v = .agg (R3 (maxR a b)).toArray
  | 25, v => v = .bool true
  | 26, v => v = .bool true
  | 27, v => v = .bool true
  | 28, v => v = .agg (R3 a).toArray
  | 29, v => v = .agg (R3 b).toArray
  | 30, v => v = .bool (fitsR a b)
  | 31, v => v = .agg (R3 a).toArray
  | 32, v => v = .agg (R3 b).toArray
  | 33, v => v = .bool (fitsR a b)
  | 34, v => v = .bool true
  | 35, v => v = .bool true
  | 36, v => v = .bool true
  | 37, v => v = .agg (R3 a).toArray
  | 38, v => v = .agg (R3 b).toArray
  | 39, v => v = .agg (R3 (overR a b)).toArray
  | 40, v => v = .agg (R3 a).toArray
  | 41, v => v = .agg (R3 b).toArray
  | 42, v => v = .agg (R3 (overR a b)).toArray
  | 43, v => v = .bool true
  | 44, v => v = .bool true
  | 45, v => v = .bool true
  | 46, v => v = .agg (R3 a).toArray
  | 47, v => v = .string (textR a)
  | 48, v => v = .agg (R3 a).toArray
  | 49, v => v = .string (textR a)
  | 50, v => v = .bool true
  | 51, v => v = .bool true
  | 52, v => v = .bool true
  | 53, v => v = .bool true
  | 54, v => v = .bool true
  | _, v => v = .bool true
set_option maxRecDepth 100000 in
set_option maxHeartbeats 4000000 in
theorem walk (a b : Rx) (ha : a.Ok) (hb : b.Ok) (w : World) (hT : NumText.Tab w) : Calls Tryd.prog 3 #[.agg #[.int .i64 a.c, .int .i64 a.m, .int .i64 a.p], .agg #[.int .i64 b.c, .int .i64 b.m, .int .i64 b.p]] w fun e w' => e = .returned (.bool true) ∧ Below w.heap.size w w' := by
  have HA := Lib.hid ha
  have HB := Lib.hid hb
  have HT := Lib.hid hT
  clear ha hb hT
  obtain ⟨w0, hw0⟩ : ∃ v, ((w.alloc (.cells #[.int .i64 a.c, .int .i64 a.m, .int .i64 a.p] 23)).alloc (.cells #[.int .i64 b.c, .int .i64 b.m, .int .i64 b.p] 23)) = v := ⟨_, rfl⟩
  have X := Lib.hid (show w0.heap[w.heap.size]? = some (.cells #[.int .i64 a.c, .int .i64 a.m, .int .i64 a.p] 23 (0, 0)) by rw [← hw0, Below.heap_alloc _ _ _ (by simp)]; exact heap_alloc_new w _)
  have Y := Lib.hid (show w0.heap[w.heap.size + 1]? = some (.cells #[.int .i64 b.c, .int .i64 b.m, .int .i64 b.p] 23 (0, 0)) by rw [← hw0]; have := heap_alloc_new (w.alloc (.cells #[.int .i64 a.c, .int .i64 a.m, .int .i64 a.p] 23)) (.cells #[.int .i64 b.c, .int .i64 b.m, .int .i64 b.p] 23); simpa using this)
  have B := Lib.hid (show Below w.heap.size w w0 by rw [← hw0]; go_grown)
  have RX := Lib.hid (range_box (cs := R3 a) X.out)
  have RY := Lib.hid (range_box (cs := R3 b) Y.out)
  have RX := Lib.hid (range_box (cs := R3 a) X.out)
  have RY := Lib.hid (range_box (cs := R3 b) Y.out)
  have C1 := Lib.hid (fun u => add_any a b HA.out HB.out u)
  have C2 := Lib.hid (fun u => refadd_any a b HA.out HB.out u)
  have C3 := Lib.hid (fun u => sub_any a b HA.out HB.out u)
  have C4 := Lib.hid (fun u => refsub_any a b HA.out HB.out u)
  obtain ⟨r, hr⟩ : ∃ r, addR a b = r := ⟨_, rfl⟩
  obtain ⟨q, hq⟩ : ∃ q, subR a b = q := ⟨_, rfl⟩
  rw [hr] at C1 C2
  rw [hq] at C3 C4
  clear hr hq
  go_enter Tryd.func3, Tryd.ntmps3
  go_wp2_with (first | (refine wpList_load_mid rfl 23 _ rfl _ _ rfl _ _ RX.out Tryd.underlying23 rfl (by kernel_rfl) ?_) | (refine wpList_load_mid rfl 23 _ rfl _ _ rfl _ _ RY.out Tryd.underlying23 rfl (by kernel_rfl) ?_))
  refine (C1.out _).mono ?_
  rintro e w1 ⟨rfl, hb1⟩
  obtain ⟨u1, hu1⟩ : ∃ v, w1.alloc (.cells #[.int .i64 0, .int .i64 0, .int .i64 0] 23) = v := ⟨_, rfl⟩
  have ZB := Lib.hid (show u1.heap[w1.heap.size]? = some (.cells #[.int .i64 0, .int .i64 0, .int .i64 0] 23 (0, 0)) by rw [← hu1]; exact heap_alloc_new _ _)
  have BU := Lib.hid (show Below w1.heap.size w1 u1 by rw [← hu1]; exact (Below.refl _ _).alloc (Nat.le_refl _) _)
  obtain ⟨v1, hv1⟩ : ∃ v, u1.setCells (w1.heap.size) 0 (R3 r.1) = v := ⟨_, rfl⟩
  have THz := Lib.hid (show u1.there (w1.heap.size) 0 3 from Back.th ZB.out rfl)
  have ONEz := Lib.hid (show ((R3 r.1) : List Value).toArray.all (·.oneCell') = true by simp [Value.oneCell'])
  have HVz := Lib.hid hv1
  have NX := Lib.hid (show v1.heap[w1.heap.size]? = some (.cells ((R3 r.1) : List Value).toArray 23 (0, 0)) by rw [← hv1]; exact Back.st ZB.out rfl)
  have BV := Lib.hid (show Below w1.heap.size w1 v1 by rw [← hv1]; exact bel_set BU.out (Nat.le_refl _))
  have BH := hb1.trans (BV.out.mono hb1.size)
  clear hv1
  have NX := Lib.hid ((BH.block _ (lt_of_at X.out)).trans X.out)
  have NY := Lib.hid ((BH.block _ (lt_of_at Y.out)).trans Y.out)
  have NB := Lib.hid (B.out.trans (BH.mono B.out.size))
  clear B X RX Y RY
  have X := Lib.hid NX.out
  have RX := Lib.hid (range_box (cs := (R3 a)) X.out)
  have Y := Lib.hid NY.out
  have RY := Lib.hid (range_box (cs := (R3 b)) Y.out)
  have B := Lib.hid NB.out
  clear NB NX NY
  have X1 := Lib.hid NX.out
  have RX1 := Lib.hid (range_box (cs := (R3 r.1)) X1.out)
  clear BH BV NX ZB BU hb1
  clear C1 hw0
  go_wp2_with (first | (refine wpList_store_at rfl 23 _ _ rfl _ _ _ rfl rfl THz.out (by kernel_rfl) ONEz.out HVz.out ?_) | (refine wpList_load_mid rfl 23 _ rfl _ _ rfl _ _ RX.out Tryd.underlying23 rfl (by kernel_rfl) ?_) | (refine wpList_load_mid rfl 23 _ rfl _ _ rfl _ _ RY.out Tryd.underlying23 rfl (by kernel_rfl) ?_))
  refine (C2.out _).mono ?_
  rintro e w2 ⟨rfl, hb2⟩
  obtain ⟨u2, hu2⟩ : ∃ v, w2.alloc (.cells #[.int .i64 0, .int .i64 0, .int .i64 0] 23) = v := ⟨_, rfl⟩
  have ZB := Lib.hid (show u2.heap[w2.heap.size]? = some (.cells #[.int .i64 0, .int .i64 0, .int .i64 0] 23 (0, 0)) by rw [← hu2]; exact heap_alloc_new _ _)
  have BU := Lib.hid (show Below w2.heap.size w2 u2 by rw [← hu2]; exact (Below.refl _ _).alloc (Nat.le_refl _) _)
  obtain ⟨v2, hv2⟩ : ∃ v, u2.setCells (w2.heap.size) 0 (R3 r.1) = v := ⟨_, rfl⟩
  have THz := Lib.hid (show u2.there (w2.heap.size) 0 3 from Back.th ZB.out rfl)
  have ONEz := Lib.hid (show ((R3 r.1) : List Value).toArray.all (·.oneCell') = true by simp [Value.oneCell'])
  have HVz := Lib.hid hv2
  have NX := Lib.hid (show v2.heap[w2.heap.size]? = some (.cells ((R3 r.1) : List Value).toArray 23 (0, 0)) by rw [← hv2]; exact Back.st ZB.out rfl)
  have BV := Lib.hid (show Below w2.heap.size w2 v2 by rw [← hv2]; exact bel_set BU.out (Nat.le_refl _))
  have BH := hb2.trans (BV.out.mono hb2.size)
  clear hv2
  have NX := Lib.hid ((BH.block _ (lt_of_at X.out)).trans X.out)
  have NY := Lib.hid ((BH.block _ (lt_of_at Y.out)).trans Y.out)
  have NX1 := Lib.hid ((BH.block _ (lt_of_at X1.out)).trans X1.out)
  have NB := Lib.hid (B.out.trans (BH.mono B.out.size))
  clear B X RX Y RY X1 RX1
  have X := Lib.hid NX.out
  have RX := Lib.hid (range_box (cs := (R3 a)) X.out)
  have Y := Lib.hid NY.out
  have RY := Lib.hid (range_box (cs := (R3 b)) Y.out)
  have X1 := Lib.hid NX1.out
  have RX1 := Lib.hid (range_box (cs := (R3 r.1)) X1.out)
  have B := Lib.hid NB.out
  clear NB NX NY NX1
  have X2 := Lib.hid NX.out
  have RX2 := Lib.hid (range_box (cs := (R3 r.1)) X2.out)
  clear BH BV NX ZB BU hb2
  clear C2
  go_wp2_with (first | (refine wpList_store_at rfl 23 _ _ rfl _ _ _ rfl rfl THz.out (by kernel_rfl) ONEz.out HVz.out ?_) | (refine wpList_load_mid rfl 23 _ rfl _ _ rfl _ _ RX.out Tryd.underlying23 rfl (by kernel_rfl) ?_) | (refine wpList_load_mid rfl 23 _ rfl _ _ rfl _ _ RY.out Tryd.underlying23 rfl (by kernel_rfl) ?_))
  refine (C3.out _).mono ?_
  rintro e w3 ⟨rfl, hb3⟩
  obtain ⟨u3, hu3⟩ : ∃ v, w3.alloc (.cells #[.int .i64 0, .int .i64 0, .int .i64 0] 23) = v := ⟨_, rfl⟩
  have ZB := Lib.hid (show u3.heap[w3.heap.size]? = some (.cells #[.int .i64 0, .int .i64 0, .int .i64 0] 23 (0, 0)) by rw [← hu3]; exact heap_alloc_new _ _)
  have BU := Lib.hid (show Below w3.heap.size w3 u3 by rw [← hu3]; exact (Below.refl _ _).alloc (Nat.le_refl _) _)
  obtain ⟨v3, hv3⟩ : ∃ v, u3.setCells (w3.heap.size) 0 (R3 q.1) = v := ⟨_, rfl⟩
  have THz := Lib.hid (show u3.there (w3.heap.size) 0 3 from Back.th ZB.out rfl)
  have ONEz := Lib.hid (show ((R3 q.1) : List Value).toArray.all (·.oneCell') = true by simp [Value.oneCell'])
  have HVz := Lib.hid hv3
  have NX := Lib.hid (show v3.heap[w3.heap.size]? = some (.cells ((R3 q.1) : List Value).toArray 23 (0, 0)) by rw [← hv3]; exact Back.st ZB.out rfl)
  have BV := Lib.hid (show Below w3.heap.size w3 v3 by rw [← hv3]; exact bel_set BU.out (Nat.le_refl _))
  have BH := hb3.trans (BV.out.mono hb3.size)
  clear hv3
  have NX := Lib.hid ((BH.block _ (lt_of_at X.out)).trans X.out)
  have NY := Lib.hid ((BH.block _ (lt_of_at Y.out)).trans Y.out)
  have NX1 := Lib.hid ((BH.block _ (lt_of_at X1.out)).trans X1.out)
  have NX2 := Lib.hid ((BH.block _ (lt_of_at X2.out)).trans X2.out)
  have NB := Lib.hid (B.out.trans (BH.mono B.out.size))
  clear B X RX Y RY X1 RX1 X2 RX2
  have X := Lib.hid NX.out
  have RX := Lib.hid (range_box (cs := (R3 a)) X.out)
  have Y := Lib.hid NY.out
  have RY := Lib.hid (range_box (cs := (R3 b)) Y.out)
  have X1 := Lib.hid NX1.out
  have RX1 := Lib.hid (range_box (cs := (R3 r.1)) X1.out)
  have X2 := Lib.hid NX2.out
  have RX2 := Lib.hid (range_box (cs := (R3 r.1)) X2.out)
  have B := Lib.hid NB.out
  clear NB NX NY NX1 NX2
  have X3 := Lib.hid NX.out
  have RX3 := Lib.hid (range_box (cs := (R3 q.1)) X3.out)
  clear BH BV NX ZB BU hb3
  clear C3
  go_wp2_with (first | (refine wpList_store_at rfl 23 _ _ rfl _ _ _ rfl rfl THz.out (by kernel_rfl) ONEz.out HVz.out ?_) | (refine wpList_load_mid rfl 23 _ rfl _ _ rfl _ _ RX.out Tryd.underlying23 rfl (by kernel_rfl) ?_) | (refine wpList_load_mid rfl 23 _ rfl _ _ rfl _ _ RY.out Tryd.underlying23 rfl (by kernel_rfl) ?_))
  refine (C4.out _).mono ?_
  rintro e w4 ⟨rfl, hb4⟩
  obtain ⟨u4, hu4⟩ : ∃ v, w4.alloc (.cells #[.int .i64 0, .int .i64 0, .int .i64 0] 23) = v := ⟨_, rfl⟩
  have ZB := Lib.hid (show u4.heap[w4.heap.size]? = some (.cells #[.int .i64 0, .int .i64 0, .int .i64 0] 23 (0, 0)) by rw [← hu4]; exact heap_alloc_new _ _)
  have BU := Lib.hid (show Below w4.heap.size w4 u4 by rw [← hu4]; exact (Below.refl _ _).alloc (Nat.le_refl _) _)
  obtain ⟨v4, hv4⟩ : ∃ v, u4.setCells (w4.heap.size) 0 (R3 q.1) = v := ⟨_, rfl⟩
  have THz := Lib.hid (show u4.there (w4.heap.size) 0 3 from Back.th ZB.out rfl)
  have ONEz := Lib.hid (show ((R3 q.1) : List Value).toArray.all (·.oneCell') = true by simp [Value.oneCell'])
  have HVz := Lib.hid hv4
  have NX := Lib.hid (show v4.heap[w4.heap.size]? = some (.cells ((R3 q.1) : List Value).toArray 23 (0, 0)) by rw [← hv4]; exact Back.st ZB.out rfl)
  have BV := Lib.hid (show Below w4.heap.size w4 v4 by rw [← hv4]; exact bel_set BU.out (Nat.le_refl _))
  have BH := hb4.trans (BV.out.mono hb4.size)
  clear hv4
  have NX := Lib.hid ((BH.block _ (lt_of_at X.out)).trans X.out)
  have NY := Lib.hid ((BH.block _ (lt_of_at Y.out)).trans Y.out)
  have NX1 := Lib.hid ((BH.block _ (lt_of_at X1.out)).trans X1.out)
  have NX2 := Lib.hid ((BH.block _ (lt_of_at X2.out)).trans X2.out)
  have NX3 := Lib.hid ((BH.block _ (lt_of_at X3.out)).trans X3.out)
  have NB := Lib.hid (B.out.trans (BH.mono B.out.size))
  clear B X RX Y RY X1 RX1 X2 RX2 X3 RX3
  have X := Lib.hid NX.out
  have RX := Lib.hid (range_box (cs := (R3 a)) X.out)
  have Y := Lib.hid NY.out
  have RY := Lib.hid (range_box (cs := (R3 b)) Y.out)
  have X1 := Lib.hid NX1.out
  have RX1 := Lib.hid (range_box (cs := (R3 r.1)) X1.out)
  have X2 := Lib.hid NX2.out
  have RX2 := Lib.hid (range_box (cs := (R3 r.1)) X2.out)
  have X3 := Lib.hid NX3.out
  have RX3 := Lib.hid (range_box (cs := (R3 q.1)) X3.out)
  have B := Lib.hid NB.out
  clear NB NX NY NX1 NX2 NX3
  have X4 := Lib.hid NX.out
  have RX4 := Lib.hid (range_box (cs := (R3 q.1)) X4.out)
  clear BH BV NX ZB BU hb4
  clear C4
  go_upto_region 56 with (first | (refine wpList_store_at rfl 23 _ _ rfl _ _ _ rfl rfl THz.out (by kernel_rfl) ONEz.out HVz.out ?_))
  refine Slt.wp_region (by kernel_rfl) (FR a b r q w.heap.size w1.heap.size w2.heap.size w3.heap.size w4.heap.size) (fun _ v => Below v4.heap.size v4 v) (by kernel_rfl) (Below.drew (Below.refl _ _)) ?_ ?_
  · refine ⟨?_, ?_, ?_, ?_, ?_, ?_, ?_, ?_, ?_, ?_, ?_, ?_, ?_, ?_, ?_, ?_, ?_, ?_, ?_, ?_, ?_, ?_, ?_, ?_, ?_, ?_, ?_, ?_, ?_, ?_, ?_, ?_, ?_, ?_, ?_, ?_, ?_, ?_, ?_, ?_, ?_, ?_, ?_, ?_, ?_, ?_, ?_, ?_, ?_, ?_, ?_, ?_, ?_, ?_, ?_, ?_, trivial⟩
    · intro s a_ u hs hd hfr hpo hJ
      have f5 : a_.tmps.getD 5 undef = .pointer (some ⟨w1.heap.size, 0, none⟩) := hfr 5 (by kernel_rfl)
      refine .inl ⟨rfl, ?_⟩
      exact wp_load_mid 23 (.tmp 5) rfl (w1.heap.size) 0 f5 (R3 r.1) _ (range_box ((hJ.block _ (lt_of_at X1.out)).trans X1.out)) Tryd.underlying23 rfl (by kernel_rfl) ⟨_, rfl, rfl, hJ⟩
    · intro s a_ u hs hd hfr hpo hJ
      have f7 : a_.tmps.getD 7 undef = .pointer (some ⟨w2.heap.size, 0, none⟩) := hfr 7 (by kernel_rfl)
      refine .inl ⟨rfl, ?_⟩
      exact wp_load_mid 23 (.tmp 7) rfl (w2.heap.size) 0 f7 (R3 r.1) _ (range_box ((hJ.block _ (lt_of_at X2.out)).trans X2.out)) Tryd.underlying23 rfl (by kernel_rfl) ⟨_, rfl, rfl, hJ⟩
    · intro s a_ u hs hd hfr hpo hJ
      have e0 : a_.tmps.getD 37 undef = .agg (R3 r.1).toArray := hpo 0 37 (by kernel_rfl)
      have e1 : a_.tmps.getD 38 undef = .agg (R3 r.1).toArray := hpo 1 38 (by kernel_rfl)
      refine .inl ⟨rfl, ?_⟩
      unfold Oper.wp
      rw [show (execOp a_.eval _).run Tryd.prog u = .ok (.value (.bool true)) u from by simp [go_sem, Act.eval, e0, e1, eqIn_res, eqR_self]]
      exact ⟨_, rfl, rfl, hJ⟩
    · intro s a_ u hs hd hfr hpo hJ
      have e2 : a_.tmps.getD 39 undef = .bool true := hpo 2 39 (by kernel_rfl)
      refine .inl ⟨rfl, ?_⟩
      unfold Oper.wp
      rw [show (execOp a_.eval _).run Tryd.prog u = .ok (.value (.bool true)) u from by simp [go_sem, Act.eval, e2]]
      exact ⟨_, rfl, rfl, hJ⟩
    · intro s a_ u hs hd hfr hpo hJ
      have f6 : a_.tmps.getD 6 undef = .bool r.2 := hfr 6 (by kernel_rfl)
      have gd : a_.tmps.getD 40 undef = .bool true := hpo 3 40 (by kernel_rfl)
      refine .inl ⟨Loose.wanted_of rfl rfl gd, ?_⟩
      unfold Oper.wp
      rw [show (execOp a_.eval _).run Tryd.prog u = .ok (.value (.bool r.2)) u from by simp [go_sem, Act.eval, f6]]
      exact ⟨_, rfl, rfl, hJ⟩
    · intro s a_ u hs hd hfr hpo hJ
      have f8 : a_.tmps.getD 8 undef = .bool r.2 := hfr 8 (by kernel_rfl)
      have gd : a_.tmps.getD 40 undef = .bool true := hpo 3 40 (by kernel_rfl)
      refine .inl ⟨Loose.wanted_of rfl rfl gd, ?_⟩
      unfold Oper.wp
      rw [show (execOp a_.eval _).run Tryd.prog u = .ok (.value (.bool r.2)) u from by simp [go_sem, Act.eval, f8]]
      exact ⟨_, rfl, rfl, hJ⟩
    · intro s a_ u hs hd hfr hpo hJ
      have e4 : a_.tmps.getD 41 undef = .bool r.2 := hpo 4 41 (by kernel_rfl)
      have e5 : a_.tmps.getD 42 undef = .bool r.2 := hpo 5 42 (by kernel_rfl)
      have gd : a_.tmps.getD 40 undef = .bool true := hpo 3 40 (by kernel_rfl)
      refine .inl ⟨Loose.wanted_of rfl rfl gd, ?_⟩
      unfold Oper.wp
      rw [show (execOp a_.eval _).run Tryd.prog u = .ok (.value (.bool true)) u from by simp [go_sem, Act.eval, e4, e5]]
      exact ⟨_, rfl, rfl, hJ⟩
    · intro s a_ u hs hd hfr hpo hJ
      have e3 : a_.tmps.getD 40 undef = .bool true := hpo 3 40 (by kernel_rfl)
      have e6 : a_.tmps.getD 43 undef = .bool true := hpo 6 43 (by kernel_rfl)
      refine .inl ⟨rfl, ?_⟩
      unfold Oper.wp
      rw [show (execOp a_.eval _).run Tryd.prog u = .ok (.value (.bool true)) u from by simp [go_sem, Act.eval, e3, e6]]
      exact ⟨_, rfl, rfl, hJ⟩
    · intro s a_ u hs hd hfr hpo hJ
      have e7 : a_.tmps.getD 44 undef = .bool true := hpo 7 44 (by kernel_rfl)
      refine .inl ⟨rfl, ?_⟩
      unfold Oper.wp
      rw [show (execOp a_.eval _).run Tryd.prog u = .ok (.value (.bool true)) u from by simp [go_sem, Act.eval, e7]]
      exact ⟨_, rfl, rfl, hJ⟩
    · intro s a_ u hs hd hfr hpo hJ
      have f9 : a_.tmps.getD 9 undef = .pointer (some ⟨w3.heap.size, 0, none⟩) := hfr 9 (by kernel_rfl)
      have gd : a_.tmps.getD 45 undef = .bool true := hpo 8 45 (by kernel_rfl)
      refine .inl ⟨Loose.wanted_of rfl rfl gd, ?_⟩
      exact wp_load_mid 23 (.tmp 9) rfl (w3.heap.size) 0 f9 (R3 q.1) _ (range_box ((hJ.block _ (lt_of_at X3.out)).trans X3.out)) Tryd.underlying23 rfl (by kernel_rfl) ⟨_, rfl, rfl, hJ⟩
    · intro s a_ u hs hd hfr hpo hJ
      have f11 : a_.tmps.getD 11 undef = .pointer (some ⟨w4.heap.size, 0, none⟩) := hfr 11 (by kernel_rfl)
      have gd : a_.tmps.getD 45 undef = .bool true := hpo 8 45 (by kernel_rfl)
      refine .inl ⟨Loose.wanted_of rfl rfl gd, ?_⟩
      exact wp_load_mid 23 (.tmp 11) rfl (w4.heap.size) 0 f11 (R3 q.1) _ (range_box ((hJ.block _ (lt_of_at X4.out)).trans X4.out)) Tryd.underlying23 rfl (by kernel_rfl) ⟨_, rfl, rfl, hJ⟩
    · intro s a_ u hs hd hfr hpo hJ
      have e9 : a_.tmps.getD 46 undef = .agg (R3 q.1).toArray := hpo 9 46 (by kernel_rfl)
      have e10 : a_.tmps.getD 47 undef = .agg (R3 q.1).toArray := hpo 10 47 (by kernel_rfl)
      have gd : a_.tmps.getD 45 undef = .bool true := hpo 8 45 (by kernel_rfl)
      refine .inl ⟨Loose.wanted_of rfl rfl gd, ?_⟩
      unfold Oper.wp
      rw [show (execOp a_.eval _).run Tryd.prog u = .ok (.value (.bool true)) u from by simp [go_sem, Act.eval, e9, e10, eqIn_res, eqR_self]]
      exact ⟨_, rfl, rfl, hJ⟩
    · intro s a_ u hs hd hfr hpo hJ
      have e8 : a_.tmps.getD 45 undef = .bool true := hpo 8 45 (by kernel_rfl)
      have e11 : a_.tmps.getD 48 undef = .bool true := hpo 11 48 (by kernel_rfl)
      refine .inl ⟨rfl, ?_⟩
      unfold Oper.wp
      rw [show (execOp a_.eval _).run Tryd.prog u = .ok (.value (.bool true)) u from by simp [go_sem, Act.eval, e8, e11]]
      exact ⟨_, rfl, rfl, hJ⟩
    · intro s a_ u hs hd hfr hpo hJ
      have e12 : a_.tmps.getD 49 undef = .bool true := hpo 12 49 (by kernel_rfl)
      refine .inl ⟨rfl, ?_⟩
      unfold Oper.wp
      rw [show (execOp a_.eval _).run Tryd.prog u = .ok (.value (.bool true)) u from by simp [go_sem, Act.eval, e12]]
      exact ⟨_, rfl, rfl, hJ⟩
    · intro s a_ u hs hd hfr hpo hJ
      have f10 : a_.tmps.getD 10 undef = .bool q.2 := hfr 10 (by kernel_rfl)
      have gd : a_.tmps.getD 50 undef = .bool true := hpo 13 50 (by kernel_rfl)
      refine .inl ⟨Loose.wanted_of rfl rfl gd, ?_⟩
      unfold Oper.wp
      rw [show (execOp a_.eval _).run Tryd.prog u = .ok (.value (.bool q.2)) u from by simp [go_sem, Act.eval, f10]]
      exact ⟨_, rfl, rfl, hJ⟩
    · intro s a_ u hs hd hfr hpo hJ
      have f12 : a_.tmps.getD 12 undef = .bool q.2 := hfr 12 (by kernel_rfl)
      have gd : a_.tmps.getD 50 undef = .bool true := hpo 13 50 (by kernel_rfl)
      refine .inl ⟨Loose.wanted_of rfl rfl gd, ?_⟩
      unfold Oper.wp
      rw [show (execOp a_.eval _).run Tryd.prog u = .ok (.value (.bool q.2)) u from by simp [go_sem, Act.eval, f12]]
      exact ⟨_, rfl, rfl, hJ⟩
    · intro s a_ u hs hd hfr hpo hJ
      have e14 : a_.tmps.getD 51 undef = .bool q.2 := hpo 14 51 (by kernel_rfl)
      have e15 : a_.tmps.getD 52 undef = .bool q.2 := hpo 15 52 (by kernel_rfl)
      have gd : a_.tmps.getD 50 undef = .bool true := hpo 13 50 (by kernel_rfl)
      refine .inl ⟨Loose.wanted_of rfl rfl gd, ?_⟩
      unfold Oper.wp
      rw [show (execOp a_.eval _).run Tryd.prog u = .ok (.value (.bool true)) u from by simp [go_sem, Act.eval, e14, e15]]
      exact ⟨_, rfl, rfl, hJ⟩
    · intro s a_ u hs hd hfr hpo hJ
      have e13 : a_.tmps.getD 50 undef = .bool true := hpo 13 50 (by kernel_rfl)
      have e16 : a_.tmps.getD 53 undef = .bool true := hpo 16 53 (by kernel_rfl)
      refine .inl ⟨rfl, ?_⟩
      unfold Oper.wp
      rw [show (execOp a_.eval _).run Tryd.prog u = .ok (.value (.bool true)) u from by simp [go_sem, Act.eval, e13, e16]]
      exact ⟨_, rfl, rfl, hJ⟩
    · intro s a_ u hs hd hfr hpo hJ
      have e17 : a_.tmps.getD 54 undef = .bool true := hpo 17 54 (by kernel_rfl)
      refine .inl ⟨rfl, ?_⟩
      unfold Oper.wp
      rw [show (execOp a_.eval _).run Tryd.prog u = .ok (.value (.bool true)) u from by simp [go_sem, Act.eval, e17]]
      exact ⟨_, rfl, rfl, hJ⟩
    · intro s a_ u hs hd hfr hpo hJ
      have f2 : a_.tmps.getD 2 undef = .pointer (some ⟨w.heap.size, 0, none⟩) := hfr 2 (by kernel_rfl)
      have gd : a_.tmps.getD 55 undef = .bool true := hpo 18 55 (by kernel_rfl)
      refine .inl ⟨Loose.wanted_of rfl rfl gd, ?_⟩
      exact wp_load_mid 23 (.tmp 2) rfl (w.heap.size) 0 f2 (R3 a) _ (range_box ((hJ.block _ (lt_of_at X.out)).trans X.out)) Tryd.underlying23 rfl (by kernel_rfl) ⟨_, rfl, rfl, hJ⟩
    · intro s a_ u hs hd hfr hpo hJ
      have f3 : a_.tmps.getD 3 undef = .pointer (some ⟨w.heap.size + 1, 0, none⟩) := hfr 3 (by kernel_rfl)
      have gd : a_.tmps.getD 55 undef = .bool true := hpo 18 55 (by kernel_rfl)
      refine .inl ⟨Loose.wanted_of rfl rfl gd, ?_⟩
      exact wp_load_mid 23 (.tmp 3) rfl (w.heap.size + 1) 0 f3 (R3 b) _ (range_box ((hJ.block _ (lt_of_at Y.out)).trans Y.out)) Tryd.underlying23 rfl (by kernel_rfl) ⟨_, rfl, rfl, hJ⟩
    · intro s a_ u hs hd hfr hpo hJ
      have e19 : a_.tmps.getD 56 undef = .agg (R3 a).toArray := hpo 19 56 (by kernel_rfl)
      have e20 : a_.tmps.getD 57 undef = .agg (R3 b).toArray := hpo 20 57 (by kernel_rfl)
      have gd : a_.tmps.getD 55 undef = .bool true := hpo 18 55 (by kernel_rfl)
      refine .inl ⟨Loose.wanted_of rfl rfl gd, ?_⟩
      unfold Oper.wp
      rw [show (execOp a_.eval _).run Tryd.prog u = .ok (.enter 11 #[.agg (R3 a).toArray, .agg (R3 b).toArray]) u from by simp [go_sem, Act.eval, e19, e20]]
      refine Calls.mono (max_any a b u) ?_
      rintro e u2 ⟨rfl, hb⟩
      exact ⟨_, rfl, rfl, hJ.trans (hb.mono hJ.size)⟩
    · intro s a_ u hs hd hfr hpo hJ
      have f2 : a_.tmps.getD 2 undef = .pointer (some ⟨w.heap.size, 0, none⟩) := hfr 2 (by kernel_rfl)
      have gd : a_.tmps.getD 55 undef = .bool true := hpo 18 55 (by kernel_rfl)
      refine .inl ⟨Loose.wanted_of rfl rfl gd, ?_⟩
      exact wp_load_mid 23 (.tmp 2) rfl (w.heap.size) 0 f2 (R3 a) _ (range_box ((hJ.block _ (lt_of_at X.out)).trans X.out)) Tryd.underlying23 rfl (by kernel_rfl) ⟨_, rfl, rfl, hJ⟩
    · intro s a_ u hs hd hfr hpo hJ
      have f3 : a_.tmps.getD 3 undef = .pointer (some ⟨w.heap.size + 1, 0, none⟩) := hfr 3 (by kernel_rfl)
      have gd : a_.tmps.getD 55 undef = .bool true := hpo 18 55 (by kernel_rfl)
      refine .inl ⟨Loose.wanted_of rfl rfl gd, ?_⟩
      exact wp_load_mid 23 (.tmp 3) rfl (w.heap.size + 1) 0 f3 (R3 b) _ (range_box ((hJ.block _ (lt_of_at Y.out)).trans Y.out)) Tryd.underlying23 rfl (by kernel_rfl) ⟨_, rfl, rfl, hJ⟩
    · intro s a_ u hs hd hfr hpo hJ
      have e22 : a_.tmps.getD 59 undef = .agg (R3 a).toArray := hpo 22 59 (by kernel_rfl)
      have e23 : a_.tmps.getD 60 undef = .agg (R3 b).toArray := hpo 23 60 (by kernel_rfl)
      have gd : a_.tmps.getD 55 undef = .bool true := hpo 18 55 (by kernel_rfl)
      refine .inl ⟨Loose.wanted_of rfl rfl gd, ?_⟩
      unfold Oper.wp
      rw [show (execOp a_.eval _).run Tryd.prog u = .ok (.enter 12 #[.agg (R3 a).toArray, .agg (R3 b).toArray]) u from by simp [go_sem, Act.eval, e22, e23]]
      refine Calls.mono (refmax_any a b u) ?_
      rintro e u2 ⟨rfl, hb⟩
      exact ⟨_, rfl, rfl, hJ.trans (hb.mono hJ.size)⟩
    · intro s a_ u hs hd hfr hpo hJ
      have e21 : a_.tmps.getD 58 undef = .agg (R3 (maxR a b)).toArray := hpo 21 58 (by kernel_rfl)
      have e24 : a_.tmps.getD 61 undef = .agg (R3 (maxR a b)).toArray := hpo 24 61 (by kernel_rfl)
      have gd : a_.tmps.getD 55 undef = .bool true := hpo 18 55 (by kernel_rfl)
      refine .inl ⟨Loose.wanted_of rfl rfl gd, ?_⟩
      unfold Oper.wp
      rw [show (execOp a_.eval _).run Tryd.prog u = .ok (.value (.bool true)) u from by simp [go_sem, Act.eval, e21, e24, eqIn_res, eqR_self]]
      exact ⟨_, rfl, rfl, hJ⟩
    · intro s a_ u hs hd hfr hpo hJ
      have e18 : a_.tmps.getD 55 undef = .bool true := hpo 18 55 (by kernel_rfl)
      have e25 : a_.tmps.getD 62 undef = .bool true := hpo 25 62 (by kernel_rfl)
      refine .inl ⟨rfl, ?_⟩
      unfold Oper.wp
      rw [show (execOp a_.eval _).run Tryd.prog u = .ok (.value (.bool true)) u from by simp [go_sem, Act.eval, e18, e25]]
      exact ⟨_, rfl, rfl, hJ⟩
    · intro s a_ u hs hd hfr hpo hJ
      have e26 : a_.tmps.getD 63 undef = .bool true := hpo 26 63 (by kernel_rfl)
      refine .inl ⟨rfl, ?_⟩
      unfold Oper.wp
      rw [show (execOp a_.eval _).run Tryd.prog u = .ok (.value (.bool true)) u from by simp [go_sem, Act.eval, e26]]
      exact ⟨_, rfl, rfl, hJ⟩
    · intro s a_ u hs hd hfr hpo hJ
      have f2 : a_.tmps.getD 2 undef = .pointer (some ⟨w.heap.size, 0, none⟩) := hfr 2 (by kernel_rfl)
      have gd : a_.tmps.getD 64 undef = .bool true := hpo 27 64 (by kernel_rfl)
      refine .inl ⟨Loose.wanted_of rfl rfl gd, ?_⟩
      exact wp_load_mid 23 (.tmp 2) rfl (w.heap.size) 0 f2 (R3 a) _ (range_box ((hJ.block _ (lt_of_at X.out)).trans X.out)) Tryd.underlying23 rfl (by kernel_rfl) ⟨_, rfl, rfl, hJ⟩
    · intro s a_ u hs hd hfr hpo hJ
      have f3 : a_.tmps.getD 3 undef = .pointer (some ⟨w.heap.size + 1, 0, none⟩) := hfr 3 (by kernel_rfl)
      have gd : a_.tmps.getD 64 undef = .bool true := hpo 27 64 (by kernel_rfl)
      refine .inl ⟨Loose.wanted_of rfl rfl gd, ?_⟩
      exact wp_load_mid 23 (.tmp 3) rfl (w.heap.size + 1) 0 f3 (R3 b) _ (range_box ((hJ.block _ (lt_of_at Y.out)).trans Y.out)) Tryd.underlying23 rfl (by kernel_rfl) ⟨_, rfl, rfl, hJ⟩
    · intro s a_ u hs hd hfr hpo hJ
      have e28 : a_.tmps.getD 65 undef = .agg (R3 a).toArray := hpo 28 65 (by kernel_rfl)
      have e29 : a_.tmps.getD 66 undef = .agg (R3 b).toArray := hpo 29 66 (by kernel_rfl)
      have gd : a_.tmps.getD 64 undef = .bool true := hpo 27 64 (by kernel_rfl)
      refine .inl ⟨Loose.wanted_of rfl rfl gd, ?_⟩
      unfold Oper.wp
      rw [show (execOp a_.eval _).run Tryd.prog u = .ok (.enter 13 #[.agg (R3 a).toArray, .agg (R3 b).toArray]) u from by simp [go_sem, Act.eval, e28, e29]]
      refine Calls.mono (fits_any a b u) ?_
      rintro e u2 ⟨rfl, hb⟩
      exact ⟨_, rfl, rfl, hJ.trans (hb.mono hJ.size)⟩
    · intro s a_ u hs hd hfr hpo hJ
      have f2 : a_.tmps.getD 2 undef = .pointer (some ⟨w.heap.size, 0, none⟩) := hfr 2 (by kernel_rfl)
      have gd : a_.tmps.getD 64 undef = .bool true := hpo 27 64 (by kernel_rfl)
      refine .inl ⟨Loose.wanted_of rfl rfl gd, ?_⟩
      exact wp_load_mid 23 (.tmp 2) rfl (w.heap.size) 0 f2 (R3 a) _ (range_box ((hJ.block _ (lt_of_at X.out)).trans X.out)) Tryd.underlying23 rfl (by kernel_rfl) ⟨_, rfl, rfl, hJ⟩
    · intro s a_ u hs hd hfr hpo hJ
      have f3 : a_.tmps.getD 3 undef = .pointer (some ⟨w.heap.size + 1, 0, none⟩) := hfr 3 (by kernel_rfl)
      have gd : a_.tmps.getD 64 undef = .bool true := hpo 27 64 (by kernel_rfl)
      refine .inl ⟨Loose.wanted_of rfl rfl gd, ?_⟩
      exact wp_load_mid 23 (.tmp 3) rfl (w.heap.size + 1) 0 f3 (R3 b) _ (range_box ((hJ.block _ (lt_of_at Y.out)).trans Y.out)) Tryd.underlying23 rfl (by kernel_rfl) ⟨_, rfl, rfl, hJ⟩
    · intro s a_ u hs hd hfr hpo hJ
      have e31 : a_.tmps.getD 68 undef = .agg (R3 a).toArray := hpo 31 68 (by kernel_rfl)
      have e32 : a_.tmps.getD 69 undef = .agg (R3 b).toArray := hpo 32 69 (by kernel_rfl)
      have gd : a_.tmps.getD 64 undef = .bool true := hpo 27 64 (by kernel_rfl)
      refine .inl ⟨Loose.wanted_of rfl rfl gd, ?_⟩
      unfold Oper.wp
      rw [show (execOp a_.eval _).run Tryd.prog u = .ok (.enter 14 #[.agg (R3 a).toArray, .agg (R3 b).toArray]) u from by simp [go_sem, Act.eval, e31, e32]]
      refine Calls.mono (reffits_any a b u) ?_
      rintro e u2 ⟨rfl, hb⟩
      exact ⟨_, rfl, rfl, hJ.trans (hb.mono hJ.size)⟩
    · intro s a_ u hs hd hfr hpo hJ
      have e30 : a_.tmps.getD 67 undef = .bool (fitsR a b) := hpo 30 67 (by kernel_rfl)
      have e33 : a_.tmps.getD 70 undef = .bool (fitsR a b) := hpo 33 70 (by kernel_rfl)
      have gd : a_.tmps.getD 64 undef = .bool true := hpo 27 64 (by kernel_rfl)
      refine .inl ⟨Loose.wanted_of rfl rfl gd, ?_⟩
      unfold Oper.wp
      rw [show (execOp a_.eval _).run Tryd.prog u = .ok (.value (.bool true)) u from by simp [go_sem, Act.eval, e30, e33]]
      exact ⟨_, rfl, rfl, hJ⟩
    · intro s a_ u hs hd hfr hpo hJ
      have e27 : a_.tmps.getD 64 undef = .bool true := hpo 27 64 (by kernel_rfl)
      have e34 : a_.tmps.getD 71 undef = .bool true := hpo 34 71 (by kernel_rfl)
      refine .inl ⟨rfl, ?_⟩
      unfold Oper.wp
      rw [show (execOp a_.eval _).run Tryd.prog u = .ok (.value (.bool true)) u from by simp [go_sem, Act.eval, e27, e34]]
      exact ⟨_, rfl, rfl, hJ⟩
    · intro s a_ u hs hd hfr hpo hJ
      have e35 : a_.tmps.getD 72 undef = .bool true := hpo 35 72 (by kernel_rfl)
      refine .inl ⟨rfl, ?_⟩
      unfold Oper.wp
      rw [show (execOp a_.eval _).run Tryd.prog u = .ok (.value (.bool true)) u from by simp [go_sem, Act.eval, e35]]
      exact ⟨_, rfl, rfl, hJ⟩
    · intro s a_ u hs hd hfr hpo hJ
      have f2 : a_.tmps.getD 2 undef = .pointer (some ⟨w.heap.size, 0, none⟩) := hfr 2 (by kernel_rfl)
      have gd : a_.tmps.getD 73 undef = .bool true := hpo 36 73 (by kernel_rfl)
      refine .inl ⟨Loose.wanted_of rfl rfl gd, ?_⟩
      exact wp_load_mid 23 (.tmp 2) rfl (w.heap.size) 0 f2 (R3 a) _ (range_box ((hJ.block _ (lt_of_at X.out)).trans X.out)) Tryd.underlying23 rfl (by kernel_rfl) ⟨_, rfl, rfl, hJ⟩
    · intro s a_ u hs hd hfr hpo hJ
      have f3 : a_.tmps.getD 3 undef = .pointer (some ⟨w.heap.size + 1, 0, none⟩) := hfr 3 (by kernel_rfl)
      have gd : a_.tmps.getD 73 undef = .bool true := hpo 36 73 (by kernel_rfl)
      refine .inl ⟨Loose.wanted_of rfl rfl gd, ?_⟩
      exact wp_load_mid 23 (.tmp 3) rfl (w.heap.size + 1) 0 f3 (R3 b) _ (range_box ((hJ.block _ (lt_of_at Y.out)).trans Y.out)) Tryd.underlying23 rfl (by kernel_rfl) ⟨_, rfl, rfl, hJ⟩
    · intro s a_ u hs hd hfr hpo hJ
      have e37 : a_.tmps.getD 74 undef = .agg (R3 a).toArray := hpo 37 74 (by kernel_rfl)
      have e38 : a_.tmps.getD 75 undef = .agg (R3 b).toArray := hpo 38 75 (by kernel_rfl)
      have gd : a_.tmps.getD 73 undef = .bool true := hpo 36 73 (by kernel_rfl)
      refine .inl ⟨Loose.wanted_of rfl rfl gd, ?_⟩
      unfold Oper.wp
      rw [show (execOp a_.eval _).run Tryd.prog u = .ok (.enter 15 #[.agg (R3 a).toArray, .agg (R3 b).toArray]) u from by simp [go_sem, Act.eval, e37, e38]]
      refine Calls.mono (over_any a b HA.out HB.out u) ?_
      rintro e u2 ⟨rfl, hb⟩
      exact ⟨_, rfl, rfl, hJ.trans (hb.mono hJ.size)⟩
    · intro s a_ u hs hd hfr hpo hJ
      have f2 : a_.tmps.getD 2 undef = .pointer (some ⟨w.heap.size, 0, none⟩) := hfr 2 (by kernel_rfl)
      have gd : a_.tmps.getD 73 undef = .bool true := hpo 36 73 (by kernel_rfl)
      refine .inl ⟨Loose.wanted_of rfl rfl gd, ?_⟩
      exact wp_load_mid 23 (.tmp 2) rfl (w.heap.size) 0 f2 (R3 a) _ (range_box ((hJ.block _ (lt_of_at X.out)).trans X.out)) Tryd.underlying23 rfl (by kernel_rfl) ⟨_, rfl, rfl, hJ⟩
    · intro s a_ u hs hd hfr hpo hJ
      have f3 : a_.tmps.getD 3 undef = .pointer (some ⟨w.heap.size + 1, 0, none⟩) := hfr 3 (by kernel_rfl)
      have gd : a_.tmps.getD 73 undef = .bool true := hpo 36 73 (by kernel_rfl)
      refine .inl ⟨Loose.wanted_of rfl rfl gd, ?_⟩
      exact wp_load_mid 23 (.tmp 3) rfl (w.heap.size + 1) 0 f3 (R3 b) _ (range_box ((hJ.block _ (lt_of_at Y.out)).trans Y.out)) Tryd.underlying23 rfl (by kernel_rfl) ⟨_, rfl, rfl, hJ⟩
    · intro s a_ u hs hd hfr hpo hJ
      have e40 : a_.tmps.getD 77 undef = .agg (R3 a).toArray := hpo 40 77 (by kernel_rfl)
      have e41 : a_.tmps.getD 78 undef = .agg (R3 b).toArray := hpo 41 78 (by kernel_rfl)
      have gd : a_.tmps.getD 73 undef = .bool true := hpo 36 73 (by kernel_rfl)
      refine .inl ⟨Loose.wanted_of rfl rfl gd, ?_⟩
      unfold Oper.wp
      rw [show (execOp a_.eval _).run Tryd.prog u = .ok (.enter 16 #[.agg (R3 a).toArray, .agg (R3 b).toArray]) u from by simp [go_sem, Act.eval, e40, e41]]
      refine Calls.mono (refovers_any a b HA.out HB.out u) ?_
      rintro e u2 ⟨rfl, hb⟩
      exact ⟨_, rfl, rfl, hJ.trans (hb.mono hJ.size)⟩
    · intro s a_ u hs hd hfr hpo hJ
      have e39 : a_.tmps.getD 76 undef = .agg (R3 (overR a b)).toArray := hpo 39 76 (by kernel_rfl)
      have e42 : a_.tmps.getD 79 undef = .agg (R3 (overR a b)).toArray := hpo 42 79 (by kernel_rfl)
      have gd : a_.tmps.getD 73 undef = .bool true := hpo 36 73 (by kernel_rfl)
      refine .inl ⟨Loose.wanted_of rfl rfl gd, ?_⟩
      unfold Oper.wp
      rw [show (execOp a_.eval _).run Tryd.prog u = .ok (.value (.bool true)) u from by simp [go_sem, Act.eval, e39, e42, eqIn_res, eqR_self]]
      exact ⟨_, rfl, rfl, hJ⟩
    · intro s a_ u hs hd hfr hpo hJ
      have e36 : a_.tmps.getD 73 undef = .bool true := hpo 36 73 (by kernel_rfl)
      have e43 : a_.tmps.getD 80 undef = .bool true := hpo 43 80 (by kernel_rfl)
      refine .inl ⟨rfl, ?_⟩
      unfold Oper.wp
      rw [show (execOp a_.eval _).run Tryd.prog u = .ok (.value (.bool true)) u from by simp [go_sem, Act.eval, e36, e43]]
      exact ⟨_, rfl, rfl, hJ⟩
    · intro s a_ u hs hd hfr hpo hJ
      have e44 : a_.tmps.getD 81 undef = .bool true := hpo 44 81 (by kernel_rfl)
      refine .inl ⟨rfl, ?_⟩
      unfold Oper.wp
      rw [show (execOp a_.eval _).run Tryd.prog u = .ok (.value (.bool true)) u from by simp [go_sem, Act.eval, e44]]
      exact ⟨_, rfl, rfl, hJ⟩
    · intro s a_ u hs hd hfr hpo hJ
      have f2 : a_.tmps.getD 2 undef = .pointer (some ⟨w.heap.size, 0, none⟩) := hfr 2 (by kernel_rfl)
      have gd : a_.tmps.getD 82 undef = .bool true := hpo 45 82 (by kernel_rfl)
      refine .inl ⟨Loose.wanted_of rfl rfl gd, ?_⟩
      exact wp_load_mid 23 (.tmp 2) rfl (w.heap.size) 0 f2 (R3 a) _ (range_box ((hJ.block _ (lt_of_at X.out)).trans X.out)) Tryd.underlying23 rfl (by kernel_rfl) ⟨_, rfl, rfl, hJ⟩
    · intro s a_ u hs hd hfr hpo hJ
      have e46 : a_.tmps.getD 83 undef = .agg (R3 a).toArray := hpo 46 83 (by kernel_rfl)
      have gd : a_.tmps.getD 82 undef = .bool true := hpo 45 82 (by kernel_rfl)
      refine .inl ⟨Loose.wanted_of rfl rfl gd, ?_⟩
      unfold Oper.wp
      rw [show (execOp a_.eval _).run Tryd.prog u = .ok (.enter 17 #[.agg (R3 a).toArray]) u from by simp [go_sem, Act.eval, e46]]
      refine Calls.mono (text_any a HA.out u (HT.out.below (B.out.trans (hJ.mono B.out.size)))) ?_
      rintro e u2 ⟨rfl, hb⟩
      exact ⟨_, rfl, rfl, hJ.trans (hb.mono hJ.size)⟩
    · intro s a_ u hs hd hfr hpo hJ
      have f2 : a_.tmps.getD 2 undef = .pointer (some ⟨w.heap.size, 0, none⟩) := hfr 2 (by kernel_rfl)
      have gd : a_.tmps.getD 82 undef = .bool true := hpo 45 82 (by kernel_rfl)
      refine .inl ⟨Loose.wanted_of rfl rfl gd, ?_⟩
      exact wp_load_mid 23 (.tmp 2) rfl (w.heap.size) 0 f2 (R3 a) _ (range_box ((hJ.block _ (lt_of_at X.out)).trans X.out)) Tryd.underlying23 rfl (by kernel_rfl) ⟨_, rfl, rfl, hJ⟩
    · intro s a_ u hs hd hfr hpo hJ
      have e48 : a_.tmps.getD 85 undef = .agg (R3 a).toArray := hpo 48 85 (by kernel_rfl)
      have gd : a_.tmps.getD 82 undef = .bool true := hpo 45 82 (by kernel_rfl)
      refine .inl ⟨Loose.wanted_of rfl rfl gd, ?_⟩
      unfold Oper.wp
      rw [show (execOp a_.eval _).run Tryd.prog u = .ok (.enter 18 #[.agg (R3 a).toArray]) u from by simp [go_sem, Act.eval, e48]]
      refine Calls.mono (reftext_any a HA.out u) ?_
      rintro e u2 ⟨rfl, hb⟩
      exact ⟨_, rfl, rfl, hJ.trans (hb.mono hJ.size)⟩
    · intro s a_ u hs hd hfr hpo hJ
      have e47 : a_.tmps.getD 84 undef = .string (textR a) := hpo 47 84 (by kernel_rfl)
      have e49 : a_.tmps.getD 86 undef = .string (textR a) := hpo 49 86 (by kernel_rfl)
      have gd : a_.tmps.getD 82 undef = .bool true := hpo 45 82 (by kernel_rfl)
      refine .inl ⟨Loose.wanted_of rfl rfl gd, ?_⟩
      unfold Oper.wp
      rw [show (execOp a_.eval _).run Tryd.prog u = .ok (.value (.bool true)) u from by simp [go_sem, Act.eval, e47, e49]]
      exact ⟨_, rfl, rfl, hJ⟩
    · intro s a_ u hs hd hfr hpo hJ
      have e45 : a_.tmps.getD 82 undef = .bool true := hpo 45 82 (by kernel_rfl)
      have e50 : a_.tmps.getD 87 undef = .bool true := hpo 50 87 (by kernel_rfl)
      refine .inl ⟨rfl, ?_⟩
      unfold Oper.wp
      rw [show (execOp a_.eval _).run Tryd.prog u = .ok (.value (.bool true)) u from by simp [go_sem, Act.eval, e45, e50]]
      exact ⟨_, rfl, rfl, hJ⟩
    · intro s a_ u hs hd hfr hpo hJ
      have e51 : a_.tmps.getD 88 undef = .bool true := hpo 51 88 (by kernel_rfl)
      refine .inl ⟨rfl, ?_⟩
      unfold Oper.wp
      rw [show (execOp a_.eval _).run Tryd.prog u = .ok (.value (.bool true)) u from by simp [go_sem, Act.eval, e51]]
      exact ⟨_, rfl, rfl, hJ⟩
    · intro s a_ u hs hd hfr hpo hJ
      have gd : a_.tmps.getD 89 undef = .bool true := hpo 52 89 (by kernel_rfl)
      refine .inl ⟨Loose.wanted_of rfl rfl gd, ?_⟩
      unfold Oper.wp
      rw [show (execOp a_.eval _).run Tryd.prog u = .ok (.enter 19 #[]) u from by simp [go_sem, Act.eval]]
      refine Calls.mono (works_any u (HT.out.below (B.out.trans (hJ.mono B.out.size)))) ?_
      rintro e u2 ⟨rfl, hb⟩
      exact ⟨_, rfl, rfl, hJ.trans (hb.mono hJ.size)⟩
    · intro s a_ u hs hd hfr hpo hJ
      have e52 : a_.tmps.getD 89 undef = .bool true := hpo 52 89 (by kernel_rfl)
      have e53 : a_.tmps.getD 90 undef = .bool true := hpo 53 90 (by kernel_rfl)
      refine .inl ⟨rfl, ?_⟩
      unfold Oper.wp
      rw [show (execOp a_.eval _).run Tryd.prog u = .ok (.value (.bool true)) u from by simp [go_sem, Act.eval, e52, e53]]
      exact ⟨_, rfl, rfl, hJ⟩
    · intro s a_ u hs hd hfr hpo hJ
      have e54 : a_.tmps.getD 91 undef = .bool true := hpo 54 91 (by kernel_rfl)
      refine .inl ⟨rfl, ?_⟩
      unfold Oper.wp
      rw [show (execOp a_.eval _).run Tryd.prog u = .ok (.value (.bool true)) u from by simp [go_sem, Act.eval, e54]]
      exact ⟨_, rfl, rfl, hJ⟩
  · intro s V u hall hF hJ
    have e55 : V 55 = .bool true := hF 55 _ _ rfl rfl
    have B2 := Lib.hid (B.out.trans (hJ.mono B.out.size))
    clear hall hF hJ
    simp only [Bxs.puts, Nat.reduceAdd, put_none, put_lit, List.set_cons_succ, List.set_cons_zero]
    rw [e55]
    go_wp2_with fail
    go_ret
    exact ⟨rfl, B2.out⟩
end ResReckonsWalk
end Re
end Go.Proofs.YtpllcnpmjnmcfaaDoor
