/-
  Package res: Add, Sub, Max; the document's Add, Sub, Max, Fits, Over. What was there is left as it was. Condition: the numbers are 64-bit integers.
-/
import Derived.Test.YtpllcnpmjnmcfaaDoorResEach
import Derived.Test.YtpllcnpmjnmcfaaDoorNumRefArith
set_option linter.unusedVariables false
set_option linter.unusedSimpArgs false
namespace Go.Proofs.YtpllcnpmjnmcfaaDoor
open Go.ChangeShapes Go.WideShapes Go.ChangeAt Go.RowKit Go.Lib
open NumMath
namespace Re
theorem val_three (x y z : Int) (p q r : Bool) (h0 : p = fits x) (h1 : q = fits y) (h2 : r = fits z) : three (val x) (val y) (val z) p q r = three x y z p q r := by
  unfold three
  by_cases h : (p && q && r) = true
  · rw [if_pos h, if_pos h]
    simp only [Bool.and_eq_true] at h
    rw [val_yes (h0 ▸ h.1.1), val_yes (h1 ▸ h.1.2), val_yes (h2 ▸ h.2)]
  · rw [if_neg h, if_neg h]
theorem callF_add (args : Array Value) (u : World) : (callFunc 28 args).run Tryd.prog u = .ok (.enter 28 args) u := by simp [go_sem]
theorem callF_left (args : Array Value) (u : World) : (callFunc 30 args).run Tryd.prog u = .ok (.enter 30 args) u := by simp [go_sem]
theorem res_add (tmps : Array Value) (w : World) (p : Nat) (xs : List Value) (x : Value) (h2 : tmps.getD 4 undef = .pointer (some ⟨p, 0, none⟩)) (h3 : tmps.getD 5 undef = x) (hX : w.heap[p]? = some (.cells xs.toArray 23 (0, 0))) (hm : xs.length = 3) :
    (results Tryd.f7 tmps).run Tryd.prog w = .ok (.tuple #[.agg xs.toArray, x]) w := by
  have h1 : (loadVar 23 ⟨p, 0, none⟩).run Tryd.prog w = .ok (.agg xs.toArray) w := run_loadVar_mid w p 0 23 _ _ (range_box hX) Tryd.underlying23 rfl (by rw [hm]; kernel_rfl)
  simp only [results, Tryd.results7]
  simp only [Array.getD_eq_getD_getElem?] at h2 h3
  have ha : (asAddr (tmps[4]?.getD undef)).run Tryd.prog w = .ok ⟨p, 0, none⟩ w := by rw [h2]; rfl
  simp [Sem.run_bind, h1, ha, h3]
set_option maxRecDepth 100000 in
set_option maxHeartbeats 4000000 in
theorem add_any (a b : Rx) (ha : a.Ok) (hb : b.Ok) (w : World) : Calls Tryd.prog 7 #[.agg #[.int .i64 a.c, .int .i64 a.m, .int .i64 a.p], .agg #[.int .i64 b.c, .int .i64 b.m, .int .i64 b.p]] w fun e w' => e = .returned (.tuple #[.agg (R3 (addR a b).1).toArray, .bool (addR a b).2]) ∧ Below w.heap.size w w' := by
  obtain ⟨w0, hw0⟩ : ∃ v, (((w.alloc (.cells #[.int .i64 a.c, .int .i64 a.m, .int .i64 a.p] 23)).alloc (.cells #[.int .i64 b.c, .int .i64 b.m, .int .i64 b.p] 23)).alloc (.cells #[.int .i64 0, .int .i64 0, .int .i64 0] 23)) = v := ⟨_, rfl⟩
  have X := Lib.hid (show w0.heap[w.heap.size]? = some (.cells #[.int .i64 a.c, .int .i64 a.m, .int .i64 a.p] 23 (0, 0)) by rw [← hw0, Below.heap_alloc _ _ _ (by simp; omega), Below.heap_alloc _ _ _ (by simp)]; exact heap_alloc_new w _)
  have Y := Lib.hid (show w0.heap[w.heap.size + 1]? = some (.cells #[.int .i64 b.c, .int .i64 b.m, .int .i64 b.p] 23 (0, 0)) by rw [← hw0, Below.heap_alloc _ _ _ (by simp)]; have := heap_alloc_new (w.alloc (.cells #[.int .i64 a.c, .int .i64 a.m, .int .i64 a.p] 23)) (.cells #[.int .i64 b.c, .int .i64 b.m, .int .i64 b.p] 23); simpa using this)
  have Zr := Lib.hid (show w0.heap[w.heap.size + 1 + 1]? = some (.cells #[.int .i64 0, .int .i64 0, .int .i64 0] 23 (0, 0)) by rw [← hw0]; have := heap_alloc_new ((w.alloc (.cells #[.int .i64 a.c, .int .i64 a.m, .int .i64 a.p] 23)).alloc (.cells #[.int .i64 b.c, .int .i64 b.m, .int .i64 b.p] 23)) (.cells #[.int .i64 0, .int .i64 0, .int .i64 0] 23); simpa using this)
  have B0 := Lib.hid (show Below w.heap.size w w0 by rw [← hw0]; go_grown)
  have RX := Lib.hid (range_box (cs := R3 a) X.out)
  have RY := Lib.hid (range_box (cs := R3 b) Y.out)
  have HE := Lib.hid (each_any 28 callF_add a b ⟨val (a.c + b.c), val (a.m + b.m), val (a.p + b.p)⟩ (fits (a.c + b.c)) (fits (a.m + b.m)) (fits (a.p + b.p)) (fun u => NumAdd.add_any _ _ u ha.c hb.c) (fun u => NumAdd.add_any _ _ u ha.m hb.m) (fun u => NumAdd.add_any _ _ u ha.p hb.p) w0)
  have HT := Lib.hid (show three (val (a.c + b.c)) (val (a.m + b.m)) (val (a.p + b.p)) (fits (a.c + b.c)) (fits (a.m + b.m)) (fits (a.p + b.p)) = addR a b from val_three _ _ _ _ _ _ rfl rfl rfl)
  clear ha hb
  go_enter Tryd.func7, Tryd.ntmps7
  go_wp2_with (first | (refine wpList_load_mid rfl 23 _ rfl _ _ rfl _ _ RX.out Tryd.underlying23 rfl (by kernel_rfl) ?_) | (refine wpList_load_mid rfl 23 _ rfl _ _ rfl _ _ RY.out Tryd.underlying23 rfl (by kernel_rfl) ?_))
  refine HE.out.mono ?_
  rintro e w1 ⟨rfl, hb1⟩
  rw [HT.out]
  obtain ⟨r, hr⟩ : ∃ r, addR a b = r := ⟨_, rfl⟩
  rw [hr]
  have HR := Lib.hid hr
  have ZB := Lib.hid ((hb1.block _ (lt_of_at Zr.out)).trans Zr.out)
  have B1 := Lib.hid (B0.out.trans (hb1.mono B0.out.size))
  clear hb1 hr hw0 HE HT
  obtain ⟨vz, hvz⟩ : ∃ v, w1.setCells (w.heap.size + 1 + 1) 0 (R3 r.1) = v := ⟨_, rfl⟩
  have THz := Lib.hid (show w1.there (w.heap.size + 1 + 1) 0 3 from Back.th ZB.out rfl)
  have ONEz := Lib.hid (show ((R3 r.1) : List Value).toArray.all (·.oneCell') = true by simp [Value.oneCell'])
  have HVz := Lib.hid hvz
  have ZV := Lib.hid (show vz.heap[w.heap.size + 1 + 1]? = some (.cells (R3 r.1).toArray 23 (0, 0)) by rw [← hvz]; exact Back.st ZB.out rfl)
  have BZ := Lib.hid (show Below w.heap.size w vz by rw [← hvz]; exact bel_set (B1.out) (by omega))
  clear hvz
  go_wp2_with (first | (refine wpList_store_at rfl 23 _ _ rfl _ _ _ rfl rfl THz.out (by kernel_rfl) ONEz.out HVz.out ?_))
  refine bodyPost_ret (v := .tuple #[.agg (R3 r.1).toArray, .bool r.2]) (res_add _ _ _ (R3 r.1) _ rfl rfl ZV.out rfl) rfl ?_
  rw [HR.out]
  exact ⟨rfl, BZ.out⟩
theorem res_sub (tmps : Array Value) (w : World) (p : Nat) (xs : List Value) (x : Value) (h2 : tmps.getD 4 undef = .pointer (some ⟨p, 0, none⟩)) (h3 : tmps.getD 5 undef = x) (hX : w.heap[p]? = some (.cells xs.toArray 23 (0, 0))) (hm : xs.length = 3) :
    (results Tryd.f9 tmps).run Tryd.prog w = .ok (.tuple #[.agg xs.toArray, x]) w := by
  have h1 : (loadVar 23 ⟨p, 0, none⟩).run Tryd.prog w = .ok (.agg xs.toArray) w := run_loadVar_mid w p 0 23 _ _ (range_box hX) Tryd.underlying23 rfl (by rw [hm]; kernel_rfl)
  simp only [results, Tryd.results9]
  simp only [Array.getD_eq_getD_getElem?] at h2 h3
  have ha : (asAddr (tmps[4]?.getD undef)).run Tryd.prog w = .ok ⟨p, 0, none⟩ w := by rw [h2]; rfl
  simp [Sem.run_bind, h1, ha, h3]
set_option maxRecDepth 100000 in
set_option maxHeartbeats 4000000 in
theorem sub_any (a b : Rx) (ha : a.Ok) (hb : b.Ok) (w : World) : Calls Tryd.prog 9 #[.agg #[.int .i64 a.c, .int .i64 a.m, .int .i64 a.p], .agg #[.int .i64 b.c, .int .i64 b.m, .int .i64 b.p]] w fun e w' => e = .returned (.tuple #[.agg (R3 (subR a b).1).toArray, .bool (subR a b).2]) ∧ Below w.heap.size w w' := by
  obtain ⟨w0, hw0⟩ : ∃ v, (((w.alloc (.cells #[.int .i64 a.c, .int .i64 a.m, .int .i64 a.p] 23)).alloc (.cells #[.int .i64 b.c, .int .i64 b.m, .int .i64 b.p] 23)).alloc (.cells #[.int .i64 0, .int .i64 0, .int .i64 0] 23)) = v := ⟨_, rfl⟩
  have X := Lib.hid (show w0.heap[w.heap.size]? = some (.cells #[.int .i64 a.c, .int .i64 a.m, .int .i64 a.p] 23 (0, 0)) by rw [← hw0, Below.heap_alloc _ _ _ (by simp; omega), Below.heap_alloc _ _ _ (by simp)]; exact heap_alloc_new w _)
  have Y := Lib.hid (show w0.heap[w.heap.size + 1]? = some (.cells #[.int .i64 b.c, .int .i64 b.m, .int .i64 b.p] 23 (0, 0)) by rw [← hw0, Below.heap_alloc _ _ _ (by simp)]; have := heap_alloc_new (w.alloc (.cells #[.int .i64 a.c, .int .i64 a.m, .int .i64 a.p] 23)) (.cells #[.int .i64 b.c, .int .i64 b.m, .int .i64 b.p] 23); simpa using this)
  have Zr := Lib.hid (show w0.heap[w.heap.size + 1 + 1]? = some (.cells #[.int .i64 0, .int .i64 0, .int .i64 0] 23 (0, 0)) by rw [← hw0]; have := heap_alloc_new ((w.alloc (.cells #[.int .i64 a.c, .int .i64 a.m, .int .i64 a.p] 23)).alloc (.cells #[.int .i64 b.c, .int .i64 b.m, .int .i64 b.p] 23)) (.cells #[.int .i64 0, .int .i64 0, .int .i64 0] 23); simpa using this)
  have B0 := Lib.hid (show Below w.heap.size w w0 by rw [← hw0]; go_grown)
  have RX := Lib.hid (range_box (cs := R3 a) X.out)
  have RY := Lib.hid (range_box (cs := R3 b) Y.out)
  go_enter Tryd.func9, Tryd.ntmps9
  go_wp2_with (first | (refine wpList_load_mid rfl 23 _ rfl _ _ rfl _ _ RX.out Tryd.underlying23 rfl (by kernel_rfl) ?_) | (refine wpList_load_mid rfl 23 _ rfl _ _ rfl _ _ RY.out Tryd.underlying23 rfl (by kernel_rfl) ?_))
  refine (fits_any b a w0).mono ?_
  rintro e w1 ⟨rfl, hb1⟩
  have X1 := Lib.hid ((hb1.block _ (lt_of_at X.out)).trans X.out)
  have Y1 := Lib.hid ((hb1.block _ (lt_of_at Y.out)).trans Y.out)
  have ZB1 := Lib.hid ((hb1.block _ (lt_of_at Zr.out)).trans Zr.out)
  have B1 := Lib.hid (B0.out.trans (hb1.mono B0.out.size))
  have RX1 := Lib.hid (range_box (cs := R3 a) X1.out)
  have RY1 := Lib.hid (range_box (cs := R3 b) Y1.out)
  clear hb1 hw0
  cases hf : fitsR b a with
  | false =>
    have HS := Lib.hid (show subR a b = (z3, false) by
      unfold subR subB three
      rw [if_neg (fun h => by
        simp only [Bool.and_eq_true, decide_eq_true_eq] at h
        have := fitsR_iff.2 ⟨h.1.1.1, h.1.2.1, h.2.1⟩
        rw [hf] at this; cases this)])
    have ZB := ZB1
    clear hf ha hb
    obtain ⟨vz, hvz⟩ : ∃ v, w1.setCells (w.heap.size + 1 + 1) 0 (R3 z3) = v := ⟨_, rfl⟩
    have THz := Lib.hid (show w1.there (w.heap.size + 1 + 1) 0 3 from Back.th ZB.out rfl)
    have ONEz := Lib.hid (show ((R3 z3) : List Value).toArray.all (·.oneCell') = true by simp [Value.oneCell'])
    have HVz := Lib.hid hvz
    have ZV := Lib.hid (show vz.heap[w.heap.size + 1 + 1]? = some (.cells (R3 z3).toArray 23 (0, 0)) by rw [← hvz]; exact Back.st ZB.out rfl)
    have BZ := Lib.hid (show Below w.heap.size w vz by rw [← hvz]; exact bel_set (B1.out) (by omega))
    clear hvz
    go_wp2_with (first | (refine wpList_store_at rfl 23 _ _ rfl _ _ _ rfl rfl THz.out (by kernel_rfl) ONEz.out HVz.out ?_))
    refine bodyPost_ret (v := .tuple #[.agg (R3 z3).toArray, .bool false]) (res_sub _ _ _ (R3 z3) _ rfl rfl ZV.out rfl) rfl ?_
    rw [HS.out]
    exact ⟨rfl, BZ.out⟩
  | true =>
    have h3 := fitsR_iff.1 hf
    have HE := Lib.hid (each_any 30 callF_left a b ⟨val (a.c - b.c), val (a.m - b.m), val (a.p - b.p)⟩ (fits (a.c - b.c)) (fits (a.m - b.m)) (fits (a.p - b.p)) (fun u => left_any _ _ u ha.c hb.c h3.1) (fun u => left_any _ _ u ha.m hb.m h3.2.1) (fun u => left_any _ _ u ha.p hb.p h3.2.2) w1)
    have HT := Lib.hid (show three (val (a.c - b.c)) (val (a.m - b.m)) (val (a.p - b.p)) (fits (a.c - b.c)) (fits (a.m - b.m)) (fits (a.p - b.p)) = subR a b by
      rw [val_three _ _ _ _ _ _ rfl rfl rfl]
      unfold subR subB
      rw [decide_eq_true h3.1, decide_eq_true h3.2.1, decide_eq_true h3.2.2]
      simp)
    clear ha hb h3 hf
    go_wp2_with (first | (refine wpList_load_mid rfl 23 _ rfl _ _ rfl _ _ RX1.out Tryd.underlying23 rfl (by kernel_rfl) ?_) | (refine wpList_load_mid rfl 23 _ rfl _ _ rfl _ _ RY1.out Tryd.underlying23 rfl (by kernel_rfl) ?_))
    refine HE.out.mono ?_
    rintro e w2 ⟨rfl, hb2⟩
    rw [HT.out]
    obtain ⟨r, hr⟩ : ∃ r, subR a b = r := ⟨_, rfl⟩
    rw [hr]
    have HR := Lib.hid hr
    have ZB := Lib.hid ((hb2.block _ (lt_of_at ZB1.out)).trans ZB1.out)
    have B2 := Lib.hid (B1.out.trans (hb2.mono B1.out.size))
    clear hb2 hr HE HT
    obtain ⟨vz, hvz⟩ : ∃ v, w2.setCells (w.heap.size + 1 + 1) 0 (R3 r.1) = v := ⟨_, rfl⟩
    have THz := Lib.hid (show w2.there (w.heap.size + 1 + 1) 0 3 from Back.th ZB.out rfl)
    have ONEz := Lib.hid (show ((R3 r.1) : List Value).toArray.all (·.oneCell') = true by simp [Value.oneCell'])
    have HVz := Lib.hid hvz
    have ZV := Lib.hid (show vz.heap[w.heap.size + 1 + 1]? = some (.cells (R3 r.1).toArray 23 (0, 0)) by rw [← hvz]; exact Back.st ZB.out rfl)
    have BZ := Lib.hid (show Below w.heap.size w vz by rw [← hvz]; exact bel_set (B2.out) (by omega))
    clear hvz
    go_wp2_with (first | (refine wpList_store_at rfl 23 _ _ rfl _ _ _ rfl rfl THz.out (by kernel_rfl) ONEz.out HVz.out ?_))
    refine bodyPost_ret (v := .tuple #[.agg (R3 r.1).toArray, .bool r.2]) (res_sub _ _ _ (R3 r.1) _ rfl rfl ZV.out rfl) rfl ?_
    rw [HR.out]
    exact ⟨rfl, BZ.out⟩
theorem res_max (tmps : Array Value) (w : World) (p : Nat) (xs : List Value) (h2 : tmps.getD 4 undef = .pointer (some ⟨p, 0, none⟩)) (hX : w.heap[p]? = some (.cells xs.toArray 23 (0, 0))) (hm : xs.length = 3) :
    (results Tryd.f11 tmps).run Tryd.prog w = .ok (.agg xs.toArray) w := by
  have h1 : (loadVar 23 ⟨p, 0, none⟩).run Tryd.prog w = .ok (.agg xs.toArray) w := run_loadVar_mid w p 0 23 _ _ (range_box hX) Tryd.underlying23 rfl (by rw [hm]; kernel_rfl)
  simp only [results, Tryd.results11]
  simp only [Array.getD_eq_getD_getElem?] at h2
  have ha : (asAddr (tmps[4]?.getD undef)).run Tryd.prog w = .ok ⟨p, 0, none⟩ w := by rw [h2]; rfl
  simp [Sem.run_bind, h1, ha]
def FM (a b : Rx) : Nat → Value → Prop
  | 0, v => v = .agg (R3 a).toArray
  | 1, v => v = .agg (R3 a).toArray
  | 2, v => v = .agg (R3 b).toArray
  | 3, v => v = .agg (R3 b).toArray
  | 6, _ => True
  | _, v => v = .agg (R3 (maxR a b)).toArray
/-- all but the block br grows; br holds zeros till operation i is done, then vs -/
def JB (vs : List Value) (br i : Nat) (w0 : World) (s : Nat → Bool) (v : World) : Prop := (v.os = w0.os ∧ v.tape = w0.tape ∧ v.output = w0.output ∧ w0.heap.size ≤ v.heap.size ∧ ∀ b, b < w0.heap.size → b ≠ br → v.heap[b]? = w0.heap[b]?) ∧ br < v.heap.size ∧ v.heap[br]? = some (.cells (if s i = true then vs else R3 z3).toArray 23 (0, 0))
theorem JB.other {vs : List Value} {br i : Nat} {w0 v : World} {s : Nat → Bool} (h : JB vs br i w0 s v) {j : Nat} (hj : (i == j) = false) : JB vs br i w0 (fun k => s k || k == j) v := by
  unfold JB at h ⊢
  simp only [hj, Bool.or_false]
  exact h
theorem JB.below {vs : List Value} {br i : Nat} {w0 v v' : World} {s : Nat → Bool} (h : JB vs br i w0 s v) (hb : Below v.heap.size v v') : JB vs br i w0 s v' := by
  obtain ⟨⟨h1, h2, h3, h4, h5⟩, h6, h7⟩ := h
  have := hb.size
  exact ⟨⟨hb.os.trans h1, hb.tape.trans h2, hb.output.trans h3, by omega, fun b hl hn => (hb.block b (by omega)).trans (h5 b hl hn)⟩, by omega, (hb.block _ h6).trans h7⟩
theorem JB.set {vs : List Value} {br i : Nat} {w0 v : World} {s : Nat → Bool} (h : JB vs br i w0 s v) (hs : s i = false) (hv : vs.length = 3) : JB vs br i w0 (fun k => s k || k == i) (v.setCells br 0 vs) := by
  obtain ⟨⟨h1, h2, h3, h4, h5⟩, h6, h7⟩ := h
  obtain ⟨f1, f2, f3, f4, f5⟩ := Back.far br vs 0 v
  refine ⟨⟨f1.trans h1, f2.trans h2, f3.trans h3, by rw [f4]; exact h4, fun b hl hn => (f5 b hn).trans (h5 b hl hn)⟩, by rw [f4]; exact h6, ?_⟩
  rw [hs] at h7
  simp only [BEq.rfl, Bool.or_true, if_true]
  exact Back.st h7 (by rw [hv]; rfl)
theorem JB.bel {vs : List Value} {br i : Nat} {w w0 v : World} {s : Nat → Bool} (h : JB vs br i w0 s v) (hb : Below w.heap.size w w0) (hr : w.heap.size ≤ br) : Below w.heap.size w v := by
  obtain ⟨⟨h1, h2, h3, h4, h5⟩, h6, h7⟩ := h
  have := hb.size
  exact ⟨h1.trans hb.os, h2.trans hb.tape, h3.trans hb.output, by omega, fun b hl => (h5 b (by omega) (by omega)).trans (hb.block b hl)⟩
set_option maxRecDepth 100000 in
set_option maxHeartbeats 4000000 in
theorem max_any (a b : Rx) (w : World) : Calls Tryd.prog 11 #[.agg #[.int .i64 a.c, .int .i64 a.m, .int .i64 a.p], .agg #[.int .i64 b.c, .int .i64 b.m, .int .i64 b.p]] w fun e w' => e = .returned (.agg (R3 (maxR a b)).toArray) ∧ Below w.heap.size w w' := by
  obtain ⟨w0, hw0⟩ : ∃ v, (((w.alloc (.cells #[.int .i64 a.c, .int .i64 a.m, .int .i64 a.p] 23)).alloc (.cells #[.int .i64 b.c, .int .i64 b.m, .int .i64 b.p] 23)).alloc (.cells #[.int .i64 0, .int .i64 0, .int .i64 0] 23)) = v := ⟨_, rfl⟩
  have X := Lib.hid (show w0.heap[w.heap.size]? = some (.cells #[.int .i64 a.c, .int .i64 a.m, .int .i64 a.p] 23 (0, 0)) by rw [← hw0, Below.heap_alloc _ _ _ (by simp; omega), Below.heap_alloc _ _ _ (by simp)]; exact heap_alloc_new w _)
  have Y := Lib.hid (show w0.heap[w.heap.size + 1]? = some (.cells #[.int .i64 b.c, .int .i64 b.m, .int .i64 b.p] 23 (0, 0)) by rw [← hw0, Below.heap_alloc _ _ _ (by simp)]; have := heap_alloc_new (w.alloc (.cells #[.int .i64 a.c, .int .i64 a.m, .int .i64 a.p] 23)) (.cells #[.int .i64 b.c, .int .i64 b.m, .int .i64 b.p] 23); simpa using this)
  have Zr := Lib.hid (show w0.heap[w.heap.size + 1 + 1]? = some (.cells #[.int .i64 0, .int .i64 0, .int .i64 0] 23 (0, 0)) by rw [← hw0]; have := heap_alloc_new ((w.alloc (.cells #[.int .i64 a.c, .int .i64 a.m, .int .i64 a.p] 23)).alloc (.cells #[.int .i64 b.c, .int .i64 b.m, .int .i64 b.p] 23)) (.cells #[.int .i64 0, .int .i64 0, .int .i64 0] 23); simpa using this)
  have B0 := Lib.hid (show Below w.heap.size w w0 by rw [← hw0]; go_grown)
  have RX := Lib.hid (range_box (cs := R3 a) X.out)
  have RY := Lib.hid (range_box (cs := R3 b) Y.out)
  go_enter Tryd.func11, Tryd.ntmps11
  go_wp2_with fail
  clear hw0
  refine Slt.wp_region (by kernel_rfl) (FM a b) (JB (R3 (maxR a b)) (w.heap.size + 1 + 1) 6 w0) (by kernel_rfl) ⟨⟨rfl, rfl, rfl, Nat.le_refl _, fun _ _ _ => rfl⟩, lt_of_at Zr.out, Zr.out⟩ ?_ ?_
  · refine ⟨?_, ?_, ?_, ?_, ?_, ?_, ?_, trivial⟩
    · intro s a_ u hs hd hfr hpo hJ
      have f0 : a_.tmps.getD 2 undef = .pointer (some ⟨w.heap.size, 0, none⟩) := hfr 2 (by kernel_rfl)
      refine .inl ⟨rfl, ?_⟩
      exact wp_load_mid 23 (.tmp 2) rfl (w.heap.size) 0 f0 (R3 a) _ (range_box ((hJ.1.2.2.2.2 _ (lt_of_at X.out) (by omega)).trans X.out)) Tryd.underlying23 rfl (by kernel_rfl) ⟨_, rfl, rfl, hJ.other rfl⟩
    · intro s a_ u hs hd hfr hpo hJ
      have e0 : a_.tmps.getD 5 undef = .agg (R3 a).toArray := hpo 0 5 (by kernel_rfl)
      refine .inl ⟨rfl, ?_⟩
      unfold Oper.wp
      rw [show (execOp a_.eval _).run Tryd.prog u = .ok (.enter 34 #[.agg (R3 a).toArray]) u from by simp [go_sem, Act.eval, e0]]
      refine Calls.mono (apart_any a.c a.m a.p u) ?_
      rintro e u2 ⟨rfl, hb⟩
      exact ⟨_, rfl, rfl, (hJ.below hb).other rfl⟩
    · intro s a_ u hs hd hfr hpo hJ
      have f0 : a_.tmps.getD 3 undef = .pointer (some ⟨w.heap.size + 1, 0, none⟩) := hfr 3 (by kernel_rfl)
      refine .inl ⟨rfl, ?_⟩
      exact wp_load_mid 23 (.tmp 3) rfl (w.heap.size + 1) 0 f0 (R3 b) _ (range_box ((hJ.1.2.2.2.2 _ (lt_of_at Y.out) (by omega)).trans Y.out)) Tryd.underlying23 rfl (by kernel_rfl) ⟨_, rfl, rfl, hJ.other rfl⟩
    · intro s a_ u hs hd hfr hpo hJ
      have e0 : a_.tmps.getD 7 undef = .agg (R3 b).toArray := hpo 2 7 (by kernel_rfl)
      refine .inl ⟨rfl, ?_⟩
      unfold Oper.wp
      rw [show (execOp a_.eval _).run Tryd.prog u = .ok (.enter 34 #[.agg (R3 b).toArray]) u from by simp [go_sem, Act.eval, e0]]
      refine Calls.mono (apart_any b.c b.m b.p u) ?_
      rintro e u2 ⟨rfl, hb⟩
      exact ⟨_, rfl, rfl, (hJ.below hb).other rfl⟩
    · intro s a_ u hs hd hfr hpo hJ
      have e0 : a_.tmps.getD 6 undef = .agg (R3 a).toArray := hpo 1 6 (by kernel_rfl)
      have e1 : a_.tmps.getD 8 undef = .agg (R3 b).toArray := hpo 3 8 (by kernel_rfl)
      refine .inl ⟨rfl, ?_⟩
      unfold Oper.wp
      rw [show (execOp a_.eval _).run Tryd.prog u = .ok (.enter 33 #[.agg (R3 a).toArray, .agg (R3 b).toArray]) u from by simp [go_sem, Act.eval, e0, e1]]
      refine Calls.mono (greater_any a.c a.m a.p b.c b.m b.p u) ?_
      rintro e u2 ⟨rfl, hb⟩
      exact ⟨_, rfl, rfl, (hJ.below hb).other rfl⟩
    · intro s a_ u hs hd hfr hpo hJ
      have e0 : a_.tmps.getD 9 undef = .agg (R3 (maxR a b)).toArray := hpo 4 9 (by kernel_rfl)
      refine .inl ⟨rfl, ?_⟩
      unfold Oper.wp
      rw [show (execOp a_.eval _).run Tryd.prog u = .ok (.enter 32 #[.agg (R3 (maxR a b)).toArray]) u from by simp [go_sem, Act.eval, e0]]
      refine Calls.mono (joined_any (maxR a b).c (maxR a b).m (maxR a b).p u) ?_
      rintro e u2 ⟨rfl, hb⟩
      exact ⟨_, rfl, rfl, (hJ.below hb).other rfl⟩
    · intro s a_ u hs hd hfr hpo hJ
      have e1 : a_.tmps.getD 10 undef = .agg (R3 (maxR a b)).toArray := hpo 5 10 (by kernel_rfl)
      have f0 : a_.tmps.getD 4 undef = .pointer (some ⟨w.heap.size + 1 + 1, 0, none⟩) := hfr 4 (by kernel_rfl)
      refine .inl ⟨rfl, ?_⟩
      have h2 := hJ.2.2
      rw [hs] at h2
      exact wp_store_mid 23 (.tmp 4) (.tmp 10) rfl _ 0 (R3 (maxR a b)).toArray f0 e1 (Back.th h2 rfl) (by kernel_rfl) (by simp [Value.oneCell']) ⟨undef, rfl, trivial, hJ.set hs rfl⟩
  · intro s V v hall hF hJ
    have HJ := Lib.hid (hJ.bel B0.out (by omega))
    have hj2 := hJ.2.2
    rw [hall 6 (by decide), if_pos rfl] at hj2
    have HX := Lib.hid hj2
    clear hall hF hJ hj2
    simp only [Bxs.puts, Nat.reduceAdd, put_none, put_lit, List.set_cons_succ, List.set_cons_zero]
    go_wp2_with fail
    refine bodyPost_ret (v := .agg (R3 (maxR a b)).toArray) (res_max _ _ _ (R3 (maxR a b)) rfl HX.out rfl) rfl ?_
    exact ⟨rfl, HJ.out⟩
end Re
end Go.Proofs.YtpllcnpmjnmcfaaDoor
