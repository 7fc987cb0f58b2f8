/-
  The document's resources: Add, Sub, Max, Fits, Over. What was there is left as it was. Condition: the numbers are 64-bit integers.
-/
import Derived.Test.YtpllcnpmjnmcfaaDoorResOps
import Derived.StillTailTactics
set_option linter.unusedVariables false
set_option linter.unusedSimpArgs false
namespace Go.Proofs.YtpllcnpmjnmcfaaDoor
open Go.ChangeShapes Go.WideShapes Go.ChangeAt Go.RowKit Go.Lib
open NumMath
namespace Re
theorem fit_bd {n : Int} (h : fits n = true) : -9223372036854775808 ≤ n ∧ n ≤ 9223372036854775807 := fits_iff.1 h
theorem refleft_any (a b : Int) (w : World) (ha : fits a = true) (hb : fits b = true) : Calls Tryd.prog 31 #[.int .i64 a, .int .i64 b] w fun e w' => e = .returned (.tuple #[.int .i64 (if subB a b = true then a - b else 0), .bool (subB a b)]) ∧ w = w' := by
  have hA := fit_bd ha
  have hB := fit_bd hb
  obtain ⟨M, hM⟩ : ∃ M : Int, M = 18446744073709551616 := ⟨_, rfl⟩
  clear ha hb
  by_cases h : a < b
  · have e : subB a b = false := by unfold subB; rw [decide_eq_false (by omega)]; rfl
    rw [e]
    clear e hM
    go_enter Tryd.func31, Tryd.ntmps31
    go_wp2
    go_ret2
    exact ⟨rfl, rfl⟩
  · have hw : ∃ x y : Int, IntKind.u64.wrap a = x ∧ IntKind.u64.wrap b = y ∧ IntKind.u64.wrap (x - y) = a - b ∧ 0 ≤ x ∧ x < 18446744073709551616 ∧ 0 ≤ y ∧ y < 18446744073709551616 := ⟨_, _, rfl, rfl, by simp only [IntKind.wrap_u64]; omega, by simp only [IntKind.wrap_u64]; omega, by simp only [IntKind.wrap_u64]; omega, by simp only [IntKind.wrap_u64]; omega, by simp only [IntKind.wrap_u64]; omega⟩
    obtain ⟨x, y, hx, hy, hxy, x0, x1, y0, y1⟩ := hw
    clear hM
    by_cases hf : a - b ≤ 9223372036854775807
    · have e : subB a b = true := by unfold subB; rw [decide_eq_true (by omega), fits_yes (by omega) hf]; rfl
      have h64 : IntKind.i64.wrap (a - b) = a - b := IntWalk.i64_in _ (by omega)
      have h64' : wrap64 (a - b) = a - b := IntWalk.wrap64_in _ (by omega)
      rw [e, if_pos rfl]
      clear e
      go_enter Tryd.func31, Tryd.ntmps31
      go_wp2
      go_ret2
      exact ⟨rfl, rfl⟩
    · have e : subB a b = false := by unfold subB; rw [fits_no (by omega)]; simp
      rw [e]
      clear e
      go_enter Tryd.func31, Tryd.ntmps31
      go_wp2
      go_ret2
      exact ⟨rfl, rfl⟩
theorem refover_any (a b : Int) (w : World) (ha : fits a = true) (hb : fits b = true) : Calls Tryd.prog 37 #[.int .i64 a, .int .i64 b] w fun e w' => e = .returned (.int .i64 (overI a b)) ∧ w = w' := by
  have HC := Lib.hid (refleft_any a b w ha hb)
  by_cases h : a ≤ b
  · have e : overI a b = 0 := by unfold overI; rw [if_pos h]
    have hn : ¬ b < a := by omega
    by_cases hab : a = b
    · have hs : subB a b = true := by subst hab; unfold subB; simp; rfl
      have HC2 := HC.out
      rw [hs, if_pos rfl, show a - b = 0 by omega] at HC2
      have H := Lib.hid HC2
      rw [e]
      clear e HC HC2 ha hb hab hs
      go_enter Tryd.func37, Tryd.ntmps37
      go_wp2_with (go_at_call 31; refine H.out.mono ?_; rintro e w' ⟨rfl, rfl⟩)
      go_ret
      exact ⟨rfl, rfl⟩
    · have hs : subB a b = false := by unfold subB; rw [decide_eq_false (by omega)]; rfl
      have HC2 := HC.out
      rw [hs, if_neg (by decide)] at HC2
      have H := Lib.hid HC2
      rw [e]
      clear e HC HC2 ha hb hab hs
      go_enter Tryd.func37, Tryd.ntmps37
      go_wp2_with (go_at_call 31; refine H.out.mono ?_; rintro e w' ⟨rfl, rfl⟩)
      go_ret
      exact ⟨rfl, rfl⟩
  · have hn : b < a := by omega
    cases hf : fits (a - b) with
    | true =>
      have hs : subB a b = true := by unfold subB; rw [hf, decide_eq_true (by omega)]; rfl
      have e : overI a b = a - b := by unfold overI; rw [if_neg h, if_pos hf]
      have HC2 := HC.out
      rw [hs, if_pos rfl] at HC2
      have H := Lib.hid HC2
      rw [e]
      clear e HC HC2 ha hb hs hf
      go_enter Tryd.func37, Tryd.ntmps37
      go_wp2_with (go_at_call 31; refine H.out.mono ?_; rintro e w' ⟨rfl, rfl⟩)
      go_ret
      exact ⟨rfl, rfl⟩
    | false =>
      have hs : subB a b = false := by unfold subB; rw [hf]; simp
      have e : overI a b = 9223372036854775807 := by unfold overI; rw [if_neg h, if_neg (by rw [hf]; decide)]
      have HC2 := HC.out
      rw [hs, if_neg (by decide)] at HC2
      have H := Lib.hid HC2
      rw [e]
      clear e HC HC2 ha hb hs hf
      go_enter Tryd.func37, Tryd.ntmps37
      go_wp2_with (go_at_call 31; refine H.out.mono ?_; rintro e w' ⟨rfl, rfl⟩)
      go_ret
      exact ⟨rfl, rfl⟩
theorem more_any (a b : Int) (w : World) : Calls Tryd.prog 35 #[.int .i64 a, .int .i64 b] w fun e w' => e = .returned (.int .i64 (max a b)) ∧ w = w' := by
  by_cases h : a < b
  · rw [show max a b = b by omega]
    go_enter Tryd.func35, Tryd.ntmps35
    go_wp2
    go_ret
    exact ⟨rfl, rfl⟩
  · rw [show max a b = a by omega]
    go_enter Tryd.func35, Tryd.ntmps35
    go_wp2
    go_ret
    exact ⟨rfl, rfl⟩
def Told3 (r : Rx × Bool) (w : World) (e : Ending) (w' : World) : Prop := e = .returned (.tuple #[.agg (R3 r.1).toArray, .bool r.2]) ∧ Below w.heap.size w w'
def Told1 (r : Rx) (w : World) (e : Ending) (w' : World) : Prop := e = .returned (.agg (R3 r).toArray) ∧ Below w.heap.size w w'
set_option maxRecDepth 100000 in
set_option maxHeartbeats 4000000 in
theorem refadd_any (a b : Rx) (ha : a.Ok) (hb : b.Ok) (w : World) : Calls Tryd.prog 8 #[.agg #[.int .i64 a.c, .int .i64 a.m, .int .i64 a.p], .agg #[.int .i64 b.c, .int .i64 b.m, .int .i64 b.p]] w (Told3 (addR a b) w) := by
  have h0 : ∀ u, Calls Tryd.prog 29 #[.int .i64 a.c, .int .i64 b.c] u _ := fun u => NumRefArith.refAdd_any _ _ u ha.c hb.c
  have h1 : ∀ u, Calls Tryd.prog 29 #[.int .i64 a.m, .int .i64 b.m] u _ := fun u => NumRefArith.refAdd_any _ _ u ha.m hb.m
  have h2 : ∀ u, Calls Tryd.prog 29 #[.int .i64 a.p, .int .i64 b.p] u _ := fun u => NumRefArith.refAdd_any _ _ u ha.p hb.p
  obtain ⟨v0, hv0⟩ : ∃ v, val (a.c + b.c) = v := ⟨_, rfl⟩
  obtain ⟨k0, hk0⟩ : ∃ k, fits (a.c + b.c) = k := ⟨_, rfl⟩
  rw [hv0, hk0] at h0
  have H0 := Lib.hid h0
  obtain ⟨v1, hv1⟩ : ∃ v, val (a.m + b.m) = v := ⟨_, rfl⟩
  obtain ⟨k1, hk1⟩ : ∃ k, fits (a.m + b.m) = k := ⟨_, rfl⟩
  rw [hv1, hk1] at h1
  have H1 := Lib.hid h1
  obtain ⟨v2, hv2⟩ : ∃ v, val (a.p + b.p) = v := ⟨_, rfl⟩
  obtain ⟨k2, hk2⟩ : ∃ k, fits (a.p + b.p) = k := ⟨_, rfl⟩
  rw [hv2, hk2] at h2
  have H2 := Lib.hid h2
  have HT := Lib.hid (show addR a b = three v0 v1 v2 k0 k1 k2 by rw [← hv0, ← hv1, ← hv2, ← hk0, ← hk1, ← hk2]; exact (val_three _ _ _ _ _ _ rfl rfl rfl).symm)
  rw [HT.out]
  clear h0 h1 h2 hv0 hv1 hv2 hk0 hk1 hk2 HT ha hb
  cases k0 <;> cases k1 <;> cases k2
  all_goals
    go_enter Tryd.func8, Tryd.ntmps8
    go_wp2_with (first | ((with_reducible refine (H0.out _).mono ?_); rintro e w' ⟨rfl, rfl⟩) | ((with_reducible refine (H1.out _).mono ?_); rintro e w' ⟨rfl, rfl⟩) | ((with_reducible refine (H2.out _).mono ?_); rintro e w' ⟨rfl, rfl⟩))
    go_returns
    exact ⟨rfl, by go_grown⟩
theorem sub_three (a b : Rx) : three (if subB a.c b.c = true then a.c - b.c else 0) (if subB a.m b.m = true then a.m - b.m else 0) (if subB a.p b.p = true then a.p - b.p else 0) (subB a.c b.c) (subB a.m b.m) (subB a.p b.p) = subR a b := by
  unfold subR three
  by_cases h : (subB a.c b.c && subB a.m b.m && subB a.p b.p) = true
  · rw [if_pos h, if_pos h]
    simp only [Bool.and_eq_true] at h
    rw [if_pos h.1.1, if_pos h.1.2, if_pos h.2]
  · rw [if_neg h, if_neg h]
set_option maxRecDepth 100000 in
set_option maxHeartbeats 4000000 in
theorem refsub_any (a b : Rx) (ha : a.Ok) (hb : b.Ok) (w : World) : Calls Tryd.prog 10 #[.agg #[.int .i64 a.c, .int .i64 a.m, .int .i64 a.p], .agg #[.int .i64 b.c, .int .i64 b.m, .int .i64 b.p]] w (Told3 (subR a b) w) := by
  have h0 : ∀ u, Calls Tryd.prog 31 #[.int .i64 a.c, .int .i64 b.c] u _ := fun u => refleft_any _ _ u ha.c hb.c
  have h1 : ∀ u, Calls Tryd.prog 31 #[.int .i64 a.m, .int .i64 b.m] u _ := fun u => refleft_any _ _ u ha.m hb.m
  have h2 : ∀ u, Calls Tryd.prog 31 #[.int .i64 a.p, .int .i64 b.p] u _ := fun u => refleft_any _ _ u ha.p hb.p
  obtain ⟨v0, hv0⟩ : ∃ v, (if subB a.c b.c = true then a.c - b.c else 0) = v := ⟨_, rfl⟩
  obtain ⟨k0, hk0⟩ : ∃ k, subB a.c b.c = k := ⟨_, rfl⟩
  rw [hv0, hk0] at h0
  have H0 := Lib.hid h0
  obtain ⟨v1, hv1⟩ : ∃ v, (if subB a.m b.m = true then a.m - b.m else 0) = v := ⟨_, rfl⟩
  obtain ⟨k1, hk1⟩ : ∃ k, subB a.m b.m = k := ⟨_, rfl⟩
  rw [hv1, hk1] at h1
  have H1 := Lib.hid h1
  obtain ⟨v2, hv2⟩ : ∃ v, (if subB a.p b.p = true then a.p - b.p else 0) = v := ⟨_, rfl⟩
  obtain ⟨k2, hk2⟩ : ∃ k, subB a.p b.p = k := ⟨_, rfl⟩
  rw [hv2, hk2] at h2
  have H2 := Lib.hid h2
  have HT := Lib.hid (show subR a b = three v0 v1 v2 k0 k1 k2 by rw [← hv0, ← hv1, ← hv2, ← hk0, ← hk1, ← hk2]; exact (sub_three a b).symm)
  rw [HT.out]
  clear h0 h1 h2 hv0 hv1 hv2 hk0 hk1 hk2 HT ha hb
  cases k0 <;> cases k1 <;> cases k2
  all_goals
    go_enter Tryd.func10, Tryd.ntmps10
    go_wp2_with (first | ((with_reducible refine (H0.out _).mono ?_); rintro e w' ⟨rfl, rfl⟩) | ((with_reducible refine (H1.out _).mono ?_); rintro e w' ⟨rfl, rfl⟩) | ((with_reducible refine (H2.out _).mono ?_); rintro e w' ⟨rfl, rfl⟩))
    go_returns
    exact ⟨rfl, by go_grown⟩
set_option maxRecDepth 100000 in
theorem reffits_any (a b : Rx) (w : World) : Calls Tryd.prog 14 #[.agg #[.int .i64 a.c, .int .i64 a.m, .int .i64 a.p], .agg #[.int .i64 b.c, .int .i64 b.m, .int .i64 b.p]] w fun e w' => e = .returned (.bool (fitsR a b)) ∧ Below w.heap.size w w' := by
  have he : fitsR a b = (decide (a.c ≤ b.c) && decide (a.m ≤ b.m) && decide (a.p ≤ b.p)) := rfl
  rw [he]
  clear he
  by_cases h0 : a.c ≤ b.c <;> by_cases h1 : a.m ≤ b.m <;> by_cases h2 : a.p ≤ b.p
  all_goals
    simp only [h0, h1, h2, decide_true, decide_false, Bool.and_true, Bool.and_false, Bool.false_and]
    go_enter Tryd.func14, Tryd.ntmps14
    go_wp2
    go_ret
    exact ⟨rfl, by go_grown⟩
theorem r_refmax_any (tmps : Array Value) (w : World) (p : Nat) (xs : List Value) (h2 : tmps.getD 4 undef = .pointer (some ⟨p, 0, none⟩)) (hX : w.heap[p]? = some (.cells xs.toArray 23 (0, 0))) (hm : xs.length = 3) :
    (results Tryd.f12 tmps).run Tryd.prog w = .ok (.agg xs.toArray) w := by
  have h1 : (loadVar 23 ⟨p, 0, none⟩).run Tryd.prog w = .ok (.agg xs.toArray) w := run_loadVar_mid w p 0 23 _ _ (range_box hX) Tryd.underlying23 rfl (by rw [hm]; kernel_rfl)
  simp only [results, Tryd.results12]
  simp only [Array.getD_eq_getD_getElem?] at h2
  have ha : (asAddr (tmps[4]?.getD undef)).run Tryd.prog w = .ok ⟨p, 0, none⟩ w := by rw [h2]; rfl
  simp [Sem.run_bind, h1, ha]
set_option maxRecDepth 100000 in
set_option maxHeartbeats 4000000 in
theorem refmax_any (a b : Rx) (w : World) : Calls Tryd.prog 12 #[.agg #[.int .i64 a.c, .int .i64 a.m, .int .i64 a.p], .agg #[.int .i64 b.c, .int .i64 b.m, .int .i64 b.p]] w (Told1 (maxR a b) w) := by
  have h0 : ∀ u, Calls Tryd.prog 35 #[.int .i64 a.c, .int .i64 b.c] u _ := fun u => more_any _ _ u
  have h1 : ∀ u, Calls Tryd.prog 35 #[.int .i64 a.m, .int .i64 b.m] u _ := fun u => more_any _ _ u
  have h2 : ∀ u, Calls Tryd.prog 35 #[.int .i64 a.p, .int .i64 b.p] u _ := fun u => more_any _ _ u
  obtain ⟨v0, hv0⟩ : ∃ v, max a.c b.c = v := ⟨_, rfl⟩
  rw [hv0] at h0
  have H0 := Lib.hid h0
  obtain ⟨v1, hv1⟩ : ∃ v, max a.m b.m = v := ⟨_, rfl⟩
  rw [hv1] at h1
  have H1 := Lib.hid h1
  obtain ⟨v2, hv2⟩ : ∃ v, max a.p b.p = v := ⟨_, rfl⟩
  rw [hv2] at h2
  have H2 := Lib.hid h2
  have HT := Lib.hid (show maxR a b = ⟨v0, v1, v2⟩ by rw [← hv0, ← hv1, ← hv2]; rfl)
  rw [HT.out]
  clear h0 h1 h2 hv0 hv1 hv2 HT
  obtain ⟨w0, hw0⟩ : ∃ v, (((w.alloc (.cells #[.int .i64 a.c, .int .i64 a.m, .int .i64 a.p] 23)).alloc (.cells #[.int .i64 b.c, .int .i64 b.m, .int .i64 b.p] 23)).alloc (.cells #[.int .i64 0, .int .i64 0, .int .i64 0] 23)) = v := ⟨_, rfl⟩
  have X := Lib.hid (show w0.heap[w.heap.size]? = some (.cells #[.int .i64 a.c, .int .i64 a.m, .int .i64 a.p] 23 (0, 0)) by rw [← hw0, Below.heap_alloc _ _ _ (by simp; omega), Below.heap_alloc _ _ _ (by simp)]; exact heap_alloc_new w _)
  have Y := Lib.hid (show w0.heap[w.heap.size + 1]? = some (.cells #[.int .i64 b.c, .int .i64 b.m, .int .i64 b.p] 23 (0, 0)) by rw [← hw0, Below.heap_alloc _ _ _ (by simp)]; have := heap_alloc_new (w.alloc (.cells #[.int .i64 a.c, .int .i64 a.m, .int .i64 a.p] 23)) (.cells #[.int .i64 b.c, .int .i64 b.m, .int .i64 b.p] 23); simpa using this)
  have Zr := Lib.hid (show w0.heap[w.heap.size + 1 + 1]? = some (.cells #[.int .i64 0, .int .i64 0, .int .i64 0] 23 (0, 0)) by rw [← hw0]; have := heap_alloc_new ((w.alloc (.cells #[.int .i64 a.c, .int .i64 a.m, .int .i64 a.p] 23)).alloc (.cells #[.int .i64 b.c, .int .i64 b.m, .int .i64 b.p] 23)) (.cells #[.int .i64 0, .int .i64 0, .int .i64 0] 23); simpa using this)
  have B0 := Lib.hid (show Below w.heap.size w w0 by rw [← hw0]; go_grown)
  have RX := Lib.hid (range_box (cs := R3 a) X.out)
  have RY := Lib.hid (range_box (cs := R3 b) Y.out)
  have ca0 := cell_of X.out 0 (v := .int .i64 a.c) rfl
  have ca1 := cell_of X.out 1 (v := .int .i64 a.m) rfl
  have ca2 := cell_of X.out 2 (v := .int .i64 a.p) rfl
  have cb0 := cell_of Y.out 0 (v := .int .i64 b.c) rfl
  have cb1 := cell_of Y.out 1 (v := .int .i64 b.m) rfl
  have cb2 := cell_of Y.out 2 (v := .int .i64 b.p) rfl
  go_enter Tryd.func12, Tryd.ntmps12
  go_wp2_with fail
  go_still_tail 16, (by kernel_rfl)
  still_call ((H0.out w0.drew).mono (fun _ _ h => And.intro h.1 h.2.symm))
  repeat still_step
  still_call ((H1.out w0.drew).mono (fun _ _ h => And.intro h.1 h.2.symm))
  repeat still_step
  still_call ((H2.out w0.drew).mono (fun _ _ h => And.intro h.1 h.2.symm))
  repeat still_step
  refine wpStill_nil ?_
  change wpList _ _ _ _ _ w0.drew
  have ZB := Lib.hid (show w0.drew.heap[w.heap.size + 1 + 1]? = _ from Zr.out)
  have B1 := Lib.hid (show Below w.heap.size w w0.drew from Below.drew B0.out)
  obtain ⟨w1, hw1⟩ : ∃ v, v = w0.drew := ⟨_, rfl⟩
  rw [← hw1] at ZB B1 ⊢
  clear hw1 hw0 ca0 ca1 ca2 cb0 cb1 cb2
  obtain ⟨vz, hvz⟩ : ∃ v, w1.setCells (w.heap.size + 1 + 1) 0 (R3 ⟨v0, v1, v2⟩) = v := ⟨_, rfl⟩
  have THz := Lib.hid (show w1.there (w.heap.size + 1 + 1) 0 3 from Back.th ZB.out rfl)
  have ONEz := Lib.hid (show ((R3 ⟨v0, v1, v2⟩) : List Value).toArray.all (·.oneCell') = true by simp [Value.oneCell'])
  have HVz := Lib.hid hvz
  have ZV := Lib.hid (show vz.heap[w.heap.size + 1 + 1]? = some (.cells (R3 ⟨v0, v1, v2⟩).toArray 23 (0, 0)) by rw [← hvz]; exact Back.st ZB.out rfl)
  have BZ := Lib.hid (show Below w.heap.size w vz by rw [← hvz]; exact bel_set (B1.out) (by omega))
  clear hvz
  go_wp2_with (first | (refine wpList_store_at rfl 23 _ _ rfl _ _ _ rfl rfl THz.out (by kernel_rfl) ONEz.out HVz.out ?_))
  refine bodyPost_ret (v := .agg (R3 ⟨v0, v1, v2⟩).toArray) (r_refmax_any _ _ _ (R3 ⟨v0, v1, v2⟩) rfl ZV.out rfl) rfl ?_
  exact ⟨rfl, BZ.out⟩
theorem r_refovers_any (tmps : Array Value) (w : World) (p : Nat) (xs : List Value) (h2 : tmps.getD 4 undef = .pointer (some ⟨p, 0, none⟩)) (hX : w.heap[p]? = some (.cells xs.toArray 23 (0, 0))) (hm : xs.length = 3) :
    (results Tryd.f16 tmps).run Tryd.prog w = .ok (.agg xs.toArray) w := by
  have h1 : (loadVar 23 ⟨p, 0, none⟩).run Tryd.prog w = .ok (.agg xs.toArray) w := run_loadVar_mid w p 0 23 _ _ (range_box hX) Tryd.underlying23 rfl (by rw [hm]; kernel_rfl)
  simp only [results, Tryd.results16]
  simp only [Array.getD_eq_getD_getElem?] at h2
  have ha : (asAddr (tmps[4]?.getD undef)).run Tryd.prog w = .ok ⟨p, 0, none⟩ w := by rw [h2]; rfl
  simp [Sem.run_bind, h1, ha]
set_option maxRecDepth 100000 in
set_option maxHeartbeats 4000000 in
theorem refovers_any (a b : Rx) (ha : a.Ok) (hb : b.Ok) (w : World) : Calls Tryd.prog 16 #[.agg #[.int .i64 a.c, .int .i64 a.m, .int .i64 a.p], .agg #[.int .i64 b.c, .int .i64 b.m, .int .i64 b.p]] w (Told1 (overR a b) w) := by
  have h0 : ∀ u, Calls Tryd.prog 37 #[.int .i64 a.c, .int .i64 b.c] u _ := fun u => refover_any _ _ u ha.c hb.c
  have h1 : ∀ u, Calls Tryd.prog 37 #[.int .i64 a.m, .int .i64 b.m] u _ := fun u => refover_any _ _ u ha.m hb.m
  have h2 : ∀ u, Calls Tryd.prog 37 #[.int .i64 a.p, .int .i64 b.p] u _ := fun u => refover_any _ _ u ha.p hb.p
  obtain ⟨v0, hv0⟩ : ∃ v, overI a.c b.c = v := ⟨_, rfl⟩
  rw [hv0] at h0
  have H0 := Lib.hid h0
  obtain ⟨v1, hv1⟩ : ∃ v, overI a.m b.m = v := ⟨_, rfl⟩
  rw [hv1] at h1
  have H1 := Lib.hid h1
  obtain ⟨v2, hv2⟩ : ∃ v, overI a.p b.p = v := ⟨_, rfl⟩
  rw [hv2] at h2
  have H2 := Lib.hid h2
  have HT := Lib.hid (show overR a b = ⟨v0, v1, v2⟩ by rw [← hv0, ← hv1, ← hv2]; rfl)
  rw [HT.out]
  clear h0 h1 h2 hv0 hv1 hv2 HT ha hb
  obtain ⟨w0, hw0⟩ : ∃ v, (((w.alloc (.cells #[.int .i64 a.c, .int .i64 a.m, .int .i64 a.p] 23)).alloc (.cells #[.int .i64 b.c, .int .i64 b.m, .int .i64 b.p] 23)).alloc (.cells #[.int .i64 0, .int .i64 0, .int .i64 0] 23)) = v := ⟨_, rfl⟩
  have X := Lib.hid (show w0.heap[w.heap.size]? = some (.cells #[.int .i64 a.c, .int .i64 a.m, .int .i64 a.p] 23 (0, 0)) by rw [← hw0, Below.heap_alloc _ _ _ (by simp; omega), Below.heap_alloc _ _ _ (by simp)]; exact heap_alloc_new w _)
  have Y := Lib.hid (show w0.heap[w.heap.size + 1]? = some (.cells #[.int .i64 b.c, .int .i64 b.m, .int .i64 b.p] 23 (0, 0)) by rw [← hw0, Below.heap_alloc _ _ _ (by simp)]; have := heap_alloc_new (w.alloc (.cells #[.int .i64 a.c, .int .i64 a.m, .int .i64 a.p] 23)) (.cells #[.int .i64 b.c, .int .i64 b.m, .int .i64 b.p] 23); simpa using this)
  have Zr := Lib.hid (show w0.heap[w.heap.size + 1 + 1]? = some (.cells #[.int .i64 0, .int .i64 0, .int .i64 0] 23 (0, 0)) by rw [← hw0]; have := heap_alloc_new ((w.alloc (.cells #[.int .i64 a.c, .int .i64 a.m, .int .i64 a.p] 23)).alloc (.cells #[.int .i64 b.c, .int .i64 b.m, .int .i64 b.p] 23)) (.cells #[.int .i64 0, .int .i64 0, .int .i64 0] 23); simpa using this)
  have B0 := Lib.hid (show Below w.heap.size w w0 by rw [← hw0]; go_grown)
  have RX := Lib.hid (range_box (cs := R3 a) X.out)
  have RY := Lib.hid (range_box (cs := R3 b) Y.out)
  have ca0 := cell_of X.out 0 (v := .int .i64 a.c) rfl
  have ca1 := cell_of X.out 1 (v := .int .i64 a.m) rfl
  have ca2 := cell_of X.out 2 (v := .int .i64 a.p) rfl
  have cb0 := cell_of Y.out 0 (v := .int .i64 b.c) rfl
  have cb1 := cell_of Y.out 1 (v := .int .i64 b.m) rfl
  have cb2 := cell_of Y.out 2 (v := .int .i64 b.p) rfl
  go_enter Tryd.func16, Tryd.ntmps16
  go_wp2_with fail
  go_still_tail 16, (by kernel_rfl)
  still_call ((H0.out w0.drew).mono (fun _ _ h => And.intro h.1 h.2.symm))
  repeat still_step
  still_call ((H1.out w0.drew).mono (fun _ _ h => And.intro h.1 h.2.symm))
  repeat still_step
  still_call ((H2.out w0.drew).mono (fun _ _ h => And.intro h.1 h.2.symm))
  repeat still_step
  refine wpStill_nil ?_
  change wpList _ _ _ _ _ w0.drew
  have ZB := Lib.hid (show w0.drew.heap[w.heap.size + 1 + 1]? = _ from Zr.out)
  have B1 := Lib.hid (show Below w.heap.size w w0.drew from Below.drew B0.out)
  obtain ⟨w1, hw1⟩ : ∃ v, v = w0.drew := ⟨_, rfl⟩
  rw [← hw1] at ZB B1 ⊢
  clear hw1 hw0 ca0 ca1 ca2 cb0 cb1 cb2
  obtain ⟨vz, hvz⟩ : ∃ v, w1.setCells (w.heap.size + 1 + 1) 0 (R3 ⟨v0, v1, v2⟩) = v := ⟨_, rfl⟩
  have THz := Lib.hid (show w1.there (w.heap.size + 1 + 1) 0 3 from Back.th ZB.out rfl)
  have ONEz := Lib.hid (show ((R3 ⟨v0, v1, v2⟩) : List Value).toArray.all (·.oneCell') = true by simp [Value.oneCell'])
  have HVz := Lib.hid hvz
  have ZV := Lib.hid (show vz.heap[w.heap.size + 1 + 1]? = some (.cells (R3 ⟨v0, v1, v2⟩).toArray 23 (0, 0)) by rw [← hvz]; exact Back.st ZB.out rfl)
  have BZ := Lib.hid (show Below w.heap.size w vz by rw [← hvz]; exact bel_set (B1.out) (by omega))
  clear hvz
  go_wp2_with (first | (refine wpList_store_at rfl 23 _ _ rfl _ _ _ rfl rfl THz.out (by kernel_rfl) ONEz.out HVz.out ?_))
  refine bodyPost_ret (v := .agg (R3 ⟨v0, v1, v2⟩).toArray) (r_refovers_any _ _ _ (R3 ⟨v0, v1, v2⟩) rfl ZV.out rfl) rfl ?_
  exact ⟨rfl, BZ.out⟩
end Re
end Go.Proofs.YtpllcnpmjnmcfaaDoor
