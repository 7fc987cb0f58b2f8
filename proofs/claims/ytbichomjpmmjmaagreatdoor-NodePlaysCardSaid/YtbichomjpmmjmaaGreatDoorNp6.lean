/-
  Package res: Add, Sub, Max; the document's Add, Sub, Max, Fits, Over. What was there is left as it was. Condition: the numbers are 64-bit integers.
-/
import Derived.Test.YtbichomjpmmjmaaGreatDoorNp5
import Derived.StillTailTactics
set_option linter.unusedVariables false
set_option linter.unusedSimpArgs false
namespace Go.Proofs.YtbichomjpmmjmaaGreatDoor
open Go.ChangeShapes Go.WideShapes Go.ChangeAt Go.RowKit Go.Lib
open NumMath
namespace Re
theorem val_three (x y z : Int) (p q r : Bool) (h0 : p = fits x) (h1 : q = fits y) (h2 : r = fits z) : three (val x) (val y) (val z) p q r = three x y z p q r := by
  unfold three
  by_cases h : (p && q && r) = true
  · rw [if_pos h, if_pos h]
    simp only [Bool.and_eq_true] at h
    rw [val_yes (h0 ▸ h.1.1), val_yes (h1 ▸ h.1.2), val_yes (h2 ▸ h.2)]
  · rw [if_neg h, if_neg h]
theorem callF_add (args : Array Value) (u : World) : (callFunc 65 args).run Tryz.prog u = .ok (.enter 65 args) u := by simp [go_sem]
theorem callF_left (args : Array Value) (u : World) : (callFunc 62 args).run Tryz.prog u = .ok (.enter 62 args) u := by simp [go_sem]
theorem res_add (tmps : Array Value) (w : World) (p : Nat) (xs : List Value) (x : Value) (h2 : tmps.getD 4 undef = .pointer (some ⟨p, 0, none⟩)) (h3 : tmps.getD 5 undef = x) (hX : w.heap[p]? = some (.cells xs.toArray 23 (0, 0))) (hm : xs.length = 3) :
    (results Tryz.f41 tmps).run Tryz.prog w = .ok (.tuple #[.agg xs.toArray, x]) w := by
  have h1 : (loadVar 23 ⟨p, 0, none⟩).run Tryz.prog w = .ok (.agg xs.toArray) w := run_loadVar_mid w p 0 23 _ _ (range_box hX) Tryz.underlying23 rfl (by rw [hm]; kernel_rfl)
  simp only [results, Tryz.results41]
  simp only [Array.getD_eq_getD_getElem?] at h2 h3
  have ha : (asAddr (tmps[4]?.getD undef)).run Tryz.prog w = .ok ⟨p, 0, none⟩ w := by rw [h2]; rfl
  simp [Sem.run_bind, h1, ha, h3]
set_option maxRecDepth 100000 in
set_option maxHeartbeats 4000000 in
theorem add_any (a b : Rx) (ha : a.Ok) (hb : b.Ok) (w : World) : Calls Tryz.prog 41 #[.agg #[.int .i64 a.c, .int .i64 a.m, .int .i64 a.p], .agg #[.int .i64 b.c, .int .i64 b.m, .int .i64 b.p]] w fun e w' => e = .returned (.tuple #[.agg (R3 (addR a b).1).toArray, .bool (addR a b).2]) ∧ Below w.heap.size w w' := by
  obtain ⟨w0, hw0⟩ : ∃ v, (((w.alloc (.cells #[.int .i64 a.c, .int .i64 a.m, .int .i64 a.p] 23)).alloc (.cells #[.int .i64 b.c, .int .i64 b.m, .int .i64 b.p] 23)).alloc (.cells #[.int .i64 0, .int .i64 0, .int .i64 0] 23)) = v := ⟨_, rfl⟩
  have X := Lib.hid (show w0.heap[w.heap.size]? = some (.cells #[.int .i64 a.c, .int .i64 a.m, .int .i64 a.p] 23 (0, 0)) by rw [← hw0, Below.heap_alloc _ _ _ (by simp; omega), Below.heap_alloc _ _ _ (by simp)]; exact heap_alloc_new w _)
  have Y := Lib.hid (show w0.heap[w.heap.size + 1]? = some (.cells #[.int .i64 b.c, .int .i64 b.m, .int .i64 b.p] 23 (0, 0)) by rw [← hw0, Below.heap_alloc _ _ _ (by simp)]; have := heap_alloc_new (w.alloc (.cells #[.int .i64 a.c, .int .i64 a.m, .int .i64 a.p] 23)) (.cells #[.int .i64 b.c, .int .i64 b.m, .int .i64 b.p] 23); simpa using this)
  have Zr := Lib.hid (show w0.heap[w.heap.size + 1 + 1]? = some (.cells #[.int .i64 0, .int .i64 0, .int .i64 0] 23 (0, 0)) by rw [← hw0]; have := heap_alloc_new ((w.alloc (.cells #[.int .i64 a.c, .int .i64 a.m, .int .i64 a.p] 23)).alloc (.cells #[.int .i64 b.c, .int .i64 b.m, .int .i64 b.p] 23)) (.cells #[.int .i64 0, .int .i64 0, .int .i64 0] 23); simpa using this)
  have B0 := Lib.hid (show Below w.heap.size w w0 by rw [← hw0]; go_grown)
  have RX := Lib.hid (range_box (cs := R3 a) X.out)
  have RY := Lib.hid (range_box (cs := R3 b) Y.out)
  have HE := Lib.hid (each_any 65 callF_add a b ⟨val (a.c + b.c), val (a.m + b.m), val (a.p + b.p)⟩ (fits (a.c + b.c)) (fits (a.m + b.m)) (fits (a.p + b.p)) (fun u => NumAdd.add_any _ _ u ha.c hb.c) (fun u => NumAdd.add_any _ _ u ha.m hb.m) (fun u => NumAdd.add_any _ _ u ha.p hb.p) w0)
  have HT := Lib.hid (show three (val (a.c + b.c)) (val (a.m + b.m)) (val (a.p + b.p)) (fits (a.c + b.c)) (fits (a.m + b.m)) (fits (a.p + b.p)) = addR a b from val_three _ _ _ _ _ _ rfl rfl rfl)
  clear ha hb
  go_enter Tryz.func41, Tryz.ntmps41
  go_wp2_with (first | (refine wpList_load_mid rfl 23 _ rfl _ _ rfl _ _ RX.out Tryz.underlying23 rfl (by kernel_rfl) ?_) | (refine wpList_load_mid rfl 23 _ rfl _ _ rfl _ _ RY.out Tryz.underlying23 rfl (by kernel_rfl) ?_))
  refine HE.out.mono ?_
  rintro e w1 ⟨rfl, hb1⟩
  rw [HT.out]
  obtain ⟨r, hr⟩ : ∃ r, addR a b = r := ⟨_, rfl⟩
  rw [hr]
  have HR := Lib.hid hr
  have ZB := Lib.hid ((hb1.block _ (lt_of_at Zr.out)).trans Zr.out)
  have B1 := Lib.hid (B0.out.trans (hb1.mono B0.out.size))
  clear hb1 hr hw0 HE HT
  obtain ⟨vz, hvz⟩ : ∃ v, w1.setCells (w.heap.size + 1 + 1) 0 (R3 r.1) = v := ⟨_, rfl⟩
  have THz := Lib.hid (show w1.there (w.heap.size + 1 + 1) 0 3 from Back.th ZB.out rfl)
  have ONEz := Lib.hid (show ((R3 r.1) : List Value).toArray.all (·.oneCell') = true by simp [Value.oneCell'])
  have HVz := Lib.hid hvz
  have ZV := Lib.hid (show vz.heap[w.heap.size + 1 + 1]? = some (.cells (R3 r.1).toArray 23 (0, 0)) by rw [← hvz]; exact Back.st ZB.out rfl)
  have BZ := Lib.hid (show Below w.heap.size w vz by rw [← hvz]; exact bel_set (B1.out) (by omega))
  clear hvz
  go_wp2_with (first | (refine wpList_store_at rfl 23 _ _ rfl _ _ _ rfl rfl THz.out (by kernel_rfl) ONEz.out HVz.out ?_))
  refine bodyPost_ret (v := .tuple #[.agg (R3 r.1).toArray, .bool r.2]) (res_add _ _ _ (R3 r.1) _ rfl rfl ZV.out rfl) rfl ?_
  rw [HR.out]
  exact ⟨rfl, BZ.out⟩
theorem res_sub (tmps : Array Value) (w : World) (p : Nat) (xs : List Value) (x : Value) (h2 : tmps.getD 4 undef = .pointer (some ⟨p, 0, none⟩)) (h3 : tmps.getD 5 undef = x) (hX : w.heap[p]? = some (.cells xs.toArray 23 (0, 0))) (hm : xs.length = 3) :
    (results Tryz.f38 tmps).run Tryz.prog w = .ok (.tuple #[.agg xs.toArray, x]) w := by
  have h1 : (loadVar 23 ⟨p, 0, none⟩).run Tryz.prog w = .ok (.agg xs.toArray) w := run_loadVar_mid w p 0 23 _ _ (range_box hX) Tryz.underlying23 rfl (by rw [hm]; kernel_rfl)
  simp only [results, Tryz.results38]
  simp only [Array.getD_eq_getD_getElem?] at h2 h3
  have ha : (asAddr (tmps[4]?.getD undef)).run Tryz.prog w = .ok ⟨p, 0, none⟩ w := by rw [h2]; rfl
  simp [Sem.run_bind, h1, ha, h3]
set_option maxRecDepth 100000 in
set_option maxHeartbeats 4000000 in
theorem sub_any (a b : Rx) (ha : a.Ok) (hb : b.Ok) (w : World) : Calls Tryz.prog 38 #[.agg #[.int .i64 a.c, .int .i64 a.m, .int .i64 a.p], .agg #[.int .i64 b.c, .int .i64 b.m, .int .i64 b.p]] w fun e w' => e = .returned (.tuple #[.agg (R3 (subR a b).1).toArray, .bool (subR a b).2]) ∧ Below w.heap.size w w' := by
  obtain ⟨w0, hw0⟩ : ∃ v, (((w.alloc (.cells #[.int .i64 a.c, .int .i64 a.m, .int .i64 a.p] 23)).alloc (.cells #[.int .i64 b.c, .int .i64 b.m, .int .i64 b.p] 23)).alloc (.cells #[.int .i64 0, .int .i64 0, .int .i64 0] 23)) = v := ⟨_, rfl⟩
  have X := Lib.hid (show w0.heap[w.heap.size]? = some (.cells #[.int .i64 a.c, .int .i64 a.m, .int .i64 a.p] 23 (0, 0)) by rw [← hw0, Below.heap_alloc _ _ _ (by simp; omega), Below.heap_alloc _ _ _ (by simp)]; exact heap_alloc_new w _)
  have Y := Lib.hid (show w0.heap[w.heap.size + 1]? = some (.cells #[.int .i64 b.c, .int .i64 b.m, .int .i64 b.p] 23 (0, 0)) by rw [← hw0, Below.heap_alloc _ _ _ (by simp)]; have := heap_alloc_new (w.alloc (.cells #[.int .i64 a.c, .int .i64 a.m, .int .i64 a.p] 23)) (.cells #[.int .i64 b.c, .int .i64 b.m, .int .i64 b.p] 23); simpa using this)
  have Zr := Lib.hid (show w0.heap[w.heap.size + 1 + 1]? = some (.cells #[.int .i64 0, .int .i64 0, .int .i64 0] 23 (0, 0)) by rw [← hw0]; have := heap_alloc_new ((w.alloc (.cells #[.int .i64 a.c, .int .i64 a.m, .int .i64 a.p] 23)).alloc (.cells #[.int .i64 b.c, .int .i64 b.m, .int .i64 b.p] 23)) (.cells #[.int .i64 0, .int .i64 0, .int .i64 0] 23); simpa using this)
  have B0 := Lib.hid (show Below w.heap.size w w0 by rw [← hw0]; go_grown)
  have RX := Lib.hid (range_box (cs := R3 a) X.out)
  have RY := Lib.hid (range_box (cs := R3 b) Y.out)
  go_enter Tryz.func38, Tryz.ntmps38
  go_wp2_with (first | (refine wpList_load_mid rfl 23 _ rfl _ _ rfl _ _ RX.out Tryz.underlying23 rfl (by kernel_rfl) ?_) | (refine wpList_load_mid rfl 23 _ rfl _ _ rfl _ _ RY.out Tryz.underlying23 rfl (by kernel_rfl) ?_))
  refine (fits_any b a w0).mono ?_
  rintro e w1 ⟨rfl, hb1⟩
  have X1 := Lib.hid ((hb1.block _ (lt_of_at X.out)).trans X.out)
  have Y1 := Lib.hid ((hb1.block _ (lt_of_at Y.out)).trans Y.out)
  have ZB1 := Lib.hid ((hb1.block _ (lt_of_at Zr.out)).trans Zr.out)
  have B1 := Lib.hid (B0.out.trans (hb1.mono B0.out.size))
  have RX1 := Lib.hid (range_box (cs := R3 a) X1.out)
  have RY1 := Lib.hid (range_box (cs := R3 b) Y1.out)
  clear hb1 hw0
  cases hf : fitsR b a with
  | false =>
    have HS := Lib.hid (show subR a b = (z3, false) by
      unfold subR subB three
      rw [if_neg (fun h => by
        simp only [Bool.and_eq_true, decide_eq_true_eq] at h
        have := fitsR_iff.2 ⟨h.1.1.1, h.1.2.1, h.2.1⟩
        rw [hf] at this; cases this)])
    have ZB := ZB1
    clear hf ha hb
    obtain ⟨vz, hvz⟩ : ∃ v, w1.setCells (w.heap.size + 1 + 1) 0 (R3 z3) = v := ⟨_, rfl⟩
    have THz := Lib.hid (show w1.there (w.heap.size + 1 + 1) 0 3 from Back.th ZB.out rfl)
    have ONEz := Lib.hid (show ((R3 z3) : List Value).toArray.all (·.oneCell') = true by simp [Value.oneCell'])
    have HVz := Lib.hid hvz
    have ZV := Lib.hid (show vz.heap[w.heap.size + 1 + 1]? = some (.cells (R3 z3).toArray 23 (0, 0)) by rw [← hvz]; exact Back.st ZB.out rfl)
    have BZ := Lib.hid (show Below w.heap.size w vz by rw [← hvz]; exact bel_set (B1.out) (by omega))
    clear hvz
    go_wp2_with (first | (refine wpList_store_at rfl 23 _ _ rfl _ _ _ rfl rfl THz.out (by kernel_rfl) ONEz.out HVz.out ?_))
    refine bodyPost_ret (v := .tuple #[.agg (R3 z3).toArray, .bool false]) (res_sub _ _ _ (R3 z3) _ rfl rfl ZV.out rfl) rfl ?_
    rw [HS.out]
    exact ⟨rfl, BZ.out⟩
  | true =>
    have h3 := fitsR_iff.1 hf
    have HE := Lib.hid (each_any 62 callF_left a b ⟨val (a.c - b.c), val (a.m - b.m), val (a.p - b.p)⟩ (fits (a.c - b.c)) (fits (a.m - b.m)) (fits (a.p - b.p)) (fun u => left_any _ _ u ha.c hb.c h3.1) (fun u => left_any _ _ u ha.m hb.m h3.2.1) (fun u => left_any _ _ u ha.p hb.p h3.2.2) w1)
    have HT := Lib.hid (show three (val (a.c - b.c)) (val (a.m - b.m)) (val (a.p - b.p)) (fits (a.c - b.c)) (fits (a.m - b.m)) (fits (a.p - b.p)) = subR a b by
      rw [val_three _ _ _ _ _ _ rfl rfl rfl]
      unfold subR subB
      rw [decide_eq_true h3.1, decide_eq_true h3.2.1, decide_eq_true h3.2.2]
      simp)
    clear ha hb h3 hf
    go_wp2_with (first | (refine wpList_load_mid rfl 23 _ rfl _ _ rfl _ _ RX1.out Tryz.underlying23 rfl (by kernel_rfl) ?_) | (refine wpList_load_mid rfl 23 _ rfl _ _ rfl _ _ RY1.out Tryz.underlying23 rfl (by kernel_rfl) ?_))
    refine HE.out.mono ?_
    rintro e w2 ⟨rfl, hb2⟩
    rw [HT.out]
    obtain ⟨r, hr⟩ : ∃ r, subR a b = r := ⟨_, rfl⟩
    rw [hr]
    have HR := Lib.hid hr
    have ZB := Lib.hid ((hb2.block _ (lt_of_at ZB1.out)).trans ZB1.out)
    have B2 := Lib.hid (B1.out.trans (hb2.mono B1.out.size))
    clear hb2 hr HE HT
    obtain ⟨vz, hvz⟩ : ∃ v, w2.setCells (w.heap.size + 1 + 1) 0 (R3 r.1) = v := ⟨_, rfl⟩
    have THz := Lib.hid (show w2.there (w.heap.size + 1 + 1) 0 3 from Back.th ZB.out rfl)
    have ONEz := Lib.hid (show ((R3 r.1) : List Value).toArray.all (·.oneCell') = true by simp [Value.oneCell'])
    have HVz := Lib.hid hvz
    have ZV := Lib.hid (show vz.heap[w.heap.size + 1 + 1]? = some (.cells (R3 r.1).toArray 23 (0, 0)) by rw [← hvz]; exact Back.st ZB.out rfl)
    have BZ := Lib.hid (show Below w.heap.size w vz by rw [← hvz]; exact bel_set (B2.out) (by omega))
    clear hvz
    go_wp2_with (first | (refine wpList_store_at rfl 23 _ _ rfl _ _ _ rfl rfl THz.out (by kernel_rfl) ONEz.out HVz.out ?_))
    refine bodyPost_ret (v := .tuple #[.agg (R3 r.1).toArray, .bool r.2]) (res_sub _ _ _ (R3 r.1) _ rfl rfl ZV.out rfl) rfl ?_
    rw [HR.out]
    exact ⟨rfl, BZ.out⟩
theorem res_max (tmps : Array Value) (w : World) (p : Nat) (xs : List Value) (h2 : tmps.getD 4 undef = .pointer (some ⟨p, 0, none⟩)) (hX : w.heap[p]? = some (.cells xs.toArray 23 (0, 0))) (hm : xs.length = 3) :
    (results Tryz.f28 tmps).run Tryz.prog w = .ok (.agg xs.toArray) w := by
  have h1 : (loadVar 23 ⟨p, 0, none⟩).run Tryz.prog w = .ok (.agg xs.toArray) w := run_loadVar_mid w p 0 23 _ _ (range_box hX) Tryz.underlying23 rfl (by rw [hm]; kernel_rfl)
  simp only [results, Tryz.results28]
  simp only [Array.getD_eq_getD_getElem?] at h2
  have ha : (asAddr (tmps[4]?.getD undef)).run Tryz.prog w = .ok ⟨p, 0, none⟩ w := by rw [h2]; rfl
  simp [Sem.run_bind, h1, ha]
def FM (a b : Rx) : Nat → Value → Prop
  | 0, v => v = .agg (R3 a).toArray
  | 1, v => v = .agg (R3 a).toArray
  | 2, v => v = .agg (R3 b).toArray
  | 3, v => v = .agg (R3 b).toArray
  | 6, _ => True
  | _, v => v = .agg (R3 (maxR a b)).toArray
/-- all but the block br grows; br holds zeros till operation i is done, then vs -/
def JB (vs : List Value) (br i : Nat) (w0 : World) (s : Nat → Bool) (v : World) : Prop := (v.os = w0.os ∧ v.tape = w0.tape ∧ v.output = w0.output ∧ w0.heap.size ≤ v.heap.size ∧ ∀ b, b < w0.heap.size → b ≠ br → v.heap[b]? = w0.heap[b]?) ∧ br < v.heap.size ∧ v.heap[br]? = some (.cells (if s i = true then vs else R3 z3).toArray 23 (0, 0))
theorem JB.other {vs : List Value} {br i : Nat} {w0 v : World} {s : Nat → Bool} (h : JB vs br i w0 s v) {j : Nat} (hj : (i == j) = false) : JB vs br i w0 (fun k => s k || k == j) v := by
  unfold JB at h ⊢
  simp only [hj, Bool.or_false]
  exact h
theorem JB.below {vs : List Value} {br i : Nat} {w0 v v' : World} {s : Nat → Bool} (h : JB vs br i w0 s v) (hb : Below v.heap.size v v') : JB vs br i w0 s v' := by
  obtain ⟨⟨h1, h2, h3, h4, h5⟩, h6, h7⟩ := h
  have := hb.size
  exact ⟨⟨hb.os.trans h1, hb.tape.trans h2, hb.output.trans h3, by omega, fun b hl hn => (hb.block b (by omega)).trans (h5 b hl hn)⟩, by omega, (hb.block _ h6).trans h7⟩
theorem JB.set {vs : List Value} {br i : Nat} {w0 v : World} {s : Nat → Bool} (h : JB vs br i w0 s v) (hs : s i = false) (hv : vs.length = 3) : JB vs br i w0 (fun k => s k || k == i) (v.setCells br 0 vs) := by
  obtain ⟨⟨h1, h2, h3, h4, h5⟩, h6, h7⟩ := h
  obtain ⟨f1, f2, f3, f4, f5⟩ := Back.far br vs 0 v
  refine ⟨⟨f1.trans h1, f2.trans h2, f3.trans h3, by rw [f4]; exact h4, fun b hl hn => (f5 b hn).trans (h5 b hl hn)⟩, by rw [f4]; exact h6, ?_⟩
  rw [hs] at h7
  simp only [BEq.rfl, Bool.or_true, if_true]
  exact Back.st h7 (by rw [hv]; rfl)
theorem JB.bel {vs : List Value} {br i : Nat} {w w0 v : World} {s : Nat → Bool} (h : JB vs br i w0 s v) (hb : Below w.heap.size w w0) (hr : w.heap.size ≤ br) : Below w.heap.size w v := by
  obtain ⟨⟨h1, h2, h3, h4, h5⟩, h6, h7⟩ := h
  have := hb.size
  exact ⟨h1.trans hb.os, h2.trans hb.tape, h3.trans hb.output, by omega, fun b hl => (h5 b (by omega) (by omega)).trans (hb.block b hl)⟩
set_option maxRecDepth 100000 in
set_option maxHeartbeats 4000000 in
theorem max_any (a b : Rx) (w : World) : Calls Tryz.prog 28 #[.agg #[.int .i64 a.c, .int .i64 a.m, .int .i64 a.p], .agg #[.int .i64 b.c, .int .i64 b.m, .int .i64 b.p]] w fun e w' => e = .returned (.agg (R3 (maxR a b)).toArray) ∧ Below w.heap.size w w' := by
  obtain ⟨w0, hw0⟩ : ∃ v, (((w.alloc (.cells #[.int .i64 a.c, .int .i64 a.m, .int .i64 a.p] 23)).alloc (.cells #[.int .i64 b.c, .int .i64 b.m, .int .i64 b.p] 23)).alloc (.cells #[.int .i64 0, .int .i64 0, .int .i64 0] 23)) = v := ⟨_, rfl⟩
  have X := Lib.hid (show w0.heap[w.heap.size]? = some (.cells #[.int .i64 a.c, .int .i64 a.m, .int .i64 a.p] 23 (0, 0)) by rw [← hw0, Below.heap_alloc _ _ _ (by simp; omega), Below.heap_alloc _ _ _ (by simp)]; exact heap_alloc_new w _)
  have Y := Lib.hid (show w0.heap[w.heap.size + 1]? = some (.cells #[.int .i64 b.c, .int .i64 b.m, .int .i64 b.p] 23 (0, 0)) by rw [← hw0, Below.heap_alloc _ _ _ (by simp)]; have := heap_alloc_new (w.alloc (.cells #[.int .i64 a.c, .int .i64 a.m, .int .i64 a.p] 23)) (.cells #[.int .i64 b.c, .int .i64 b.m, .int .i64 b.p] 23); simpa using this)
  have Zr := Lib.hid (show w0.heap[w.heap.size + 1 + 1]? = some (.cells #[.int .i64 0, .int .i64 0, .int .i64 0] 23 (0, 0)) by rw [← hw0]; have := heap_alloc_new ((w.alloc (.cells #[.int .i64 a.c, .int .i64 a.m, .int .i64 a.p] 23)).alloc (.cells #[.int .i64 b.c, .int .i64 b.m, .int .i64 b.p] 23)) (.cells #[.int .i64 0, .int .i64 0, .int .i64 0] 23); simpa using this)
  have B0 := Lib.hid (show Below w.heap.size w w0 by rw [← hw0]; go_grown)
  have RX := Lib.hid (range_box (cs := R3 a) X.out)
  have RY := Lib.hid (range_box (cs := R3 b) Y.out)
  go_enter Tryz.func28, Tryz.ntmps28
  go_wp2_with fail
  clear hw0
  refine Slt.wp_region (by kernel_rfl) (FM a b) (JB (R3 (maxR a b)) (w.heap.size + 1 + 1) 6 w0) (by kernel_rfl) ⟨⟨rfl, rfl, rfl, Nat.le_refl _, fun _ _ _ => rfl⟩, lt_of_at Zr.out, Zr.out⟩ ?_ ?_
  · refine ⟨?_, ?_, ?_, ?_, ?_, ?_, ?_, trivial⟩
    · intro s a_ u hs hd hfr hpo hJ
      have f0 : a_.tmps.getD 2 undef = .pointer (some ⟨w.heap.size, 0, none⟩) := hfr 2 (by kernel_rfl)
      refine .inl ⟨rfl, ?_⟩
      exact wp_load_mid 23 (.tmp 2) rfl (w.heap.size) 0 f0 (R3 a) _ (range_box ((hJ.1.2.2.2.2 _ (lt_of_at X.out) (by omega)).trans X.out)) Tryz.underlying23 rfl (by kernel_rfl) ⟨_, rfl, rfl, hJ.other rfl⟩
    · intro s a_ u hs hd hfr hpo hJ
      have e0 : a_.tmps.getD 5 undef = .agg (R3 a).toArray := hpo 0 5 (by kernel_rfl)
      refine .inl ⟨rfl, ?_⟩
      unfold Oper.wp
      rw [show (execOp a_.eval _).run Tryz.prog u = .ok (.enter 54 #[.agg (R3 a).toArray]) u from by simp [go_sem, Act.eval, e0]]
      refine Calls.mono (apart_any a.c a.m a.p u) ?_
      rintro e u2 ⟨rfl, hb⟩
      exact ⟨_, rfl, rfl, (hJ.below hb).other rfl⟩
    · intro s a_ u hs hd hfr hpo hJ
      have f0 : a_.tmps.getD 3 undef = .pointer (some ⟨w.heap.size + 1, 0, none⟩) := hfr 3 (by kernel_rfl)
      refine .inl ⟨rfl, ?_⟩
      exact wp_load_mid 23 (.tmp 3) rfl (w.heap.size + 1) 0 f0 (R3 b) _ (range_box ((hJ.1.2.2.2.2 _ (lt_of_at Y.out) (by omega)).trans Y.out)) Tryz.underlying23 rfl (by kernel_rfl) ⟨_, rfl, rfl, hJ.other rfl⟩
    · intro s a_ u hs hd hfr hpo hJ
      have e0 : a_.tmps.getD 7 undef = .agg (R3 b).toArray := hpo 2 7 (by kernel_rfl)
      refine .inl ⟨rfl, ?_⟩
      unfold Oper.wp
      rw [show (execOp a_.eval _).run Tryz.prog u = .ok (.enter 54 #[.agg (R3 b).toArray]) u from by simp [go_sem, Act.eval, e0]]
      refine Calls.mono (apart_any b.c b.m b.p u) ?_
      rintro e u2 ⟨rfl, hb⟩
      exact ⟨_, rfl, rfl, (hJ.below hb).other rfl⟩
    · intro s a_ u hs hd hfr hpo hJ
      have e0 : a_.tmps.getD 6 undef = .agg (R3 a).toArray := hpo 1 6 (by kernel_rfl)
      have e1 : a_.tmps.getD 8 undef = .agg (R3 b).toArray := hpo 3 8 (by kernel_rfl)
      refine .inl ⟨rfl, ?_⟩
      unfold Oper.wp
      rw [show (execOp a_.eval _).run Tryz.prog u = .ok (.enter 53 #[.agg (R3 a).toArray, .agg (R3 b).toArray]) u from by simp [go_sem, Act.eval, e0, e1]]
      refine Calls.mono (greater_any a.c a.m a.p b.c b.m b.p u) ?_
      rintro e u2 ⟨rfl, hb⟩
      exact ⟨_, rfl, rfl, (hJ.below hb).other rfl⟩
    · intro s a_ u hs hd hfr hpo hJ
      have e0 : a_.tmps.getD 9 undef = .agg (R3 (maxR a b)).toArray := hpo 4 9 (by kernel_rfl)
      refine .inl ⟨rfl, ?_⟩
      unfold Oper.wp
      rw [show (execOp a_.eval _).run Tryz.prog u = .ok (.enter 52 #[.agg (R3 (maxR a b)).toArray]) u from by simp [go_sem, Act.eval, e0]]
      refine Calls.mono (joined_any (maxR a b).c (maxR a b).m (maxR a b).p u) ?_
      rintro e u2 ⟨rfl, hb⟩
      exact ⟨_, rfl, rfl, (hJ.below hb).other rfl⟩
    · intro s a_ u hs hd hfr hpo hJ
      have e1 : a_.tmps.getD 10 undef = .agg (R3 (maxR a b)).toArray := hpo 5 10 (by kernel_rfl)
      have f0 : a_.tmps.getD 4 undef = .pointer (some ⟨w.heap.size + 1 + 1, 0, none⟩) := hfr 4 (by kernel_rfl)
      refine .inl ⟨rfl, ?_⟩
      have h2 := hJ.2.2
      rw [hs] at h2
      exact wp_store_mid 23 (.tmp 4) (.tmp 10) rfl _ 0 (R3 (maxR a b)).toArray f0 e1 (Back.th h2 rfl) (by kernel_rfl) (by simp [Value.oneCell']) ⟨undef, rfl, trivial, hJ.set hs rfl⟩
  · intro s V v hall hF hJ
    have HJ := Lib.hid (hJ.bel B0.out (by omega))
    have hj2 := hJ.2.2
    rw [hall 6 (by decide), if_pos rfl] at hj2
    have HX := Lib.hid hj2
    clear hall hF hJ hj2
    simp only [Bxs.puts, Nat.reduceAdd, put_none, put_lit, List.set_cons_succ, List.set_cons_zero]
    go_wp2_with fail
    refine bodyPost_ret (v := .agg (R3 (maxR a b)).toArray) (res_max _ _ _ (R3 (maxR a b)) rfl HX.out rfl) rfl ?_
    exact ⟨rfl, HJ.out⟩
end Re
end Go.Proofs.YtbichomjpmmjmaaGreatDoor

/-
  The document's resources: Add, Sub, Max, Fits, Over. What was there is left as it was. Condition: the numbers are 64-bit integers.
-/
set_option linter.unusedVariables false
set_option linter.unusedSimpArgs false
namespace Go.Proofs.YtbichomjpmmjmaaGreatDoor
open Go.ChangeShapes Go.WideShapes Go.ChangeAt Go.RowKit Go.Lib
open NumMath
namespace Re
theorem fit_bd {n : Int} (h : fits n = true) : -9223372036854775808 ≤ n ∧ n ≤ 9223372036854775807 := fits_iff.1 h
theorem refleft_any (a b : Int) (w : World) (ha : fits a = true) (hb : fits b = true) : Calls Tryz.prog 36 #[.int .i64 a, .int .i64 b] w fun e w' => e = .returned (.tuple #[.int .i64 (if subB a b = true then a - b else 0), .bool (subB a b)]) ∧ w = w' := by
  have hA := fit_bd ha
  have hB := fit_bd hb
  obtain ⟨M, hM⟩ : ∃ M : Int, M = 18446744073709551616 := ⟨_, rfl⟩
  clear ha hb
  by_cases h : a < b
  · have e : subB a b = false := by unfold subB; rw [decide_eq_false (by omega)]; rfl
    rw [e]
    clear e hM
    go_enter Tryz.func36, Tryz.ntmps36
    go_wp2
    go_ret2
    exact ⟨rfl, rfl⟩
  · have hw : ∃ x y : Int, IntKind.u64.wrap a = x ∧ IntKind.u64.wrap b = y ∧ IntKind.u64.wrap (x - y) = a - b ∧ 0 ≤ x ∧ x < 18446744073709551616 ∧ 0 ≤ y ∧ y < 18446744073709551616 := ⟨_, _, rfl, rfl, by simp only [IntKind.wrap_u64]; omega, by simp only [IntKind.wrap_u64]; omega, by simp only [IntKind.wrap_u64]; omega, by simp only [IntKind.wrap_u64]; omega, by simp only [IntKind.wrap_u64]; omega⟩
    obtain ⟨x, y, hx, hy, hxy, x0, x1, y0, y1⟩ := hw
    clear hM
    by_cases hf : a - b ≤ 9223372036854775807
    · have e : subB a b = true := by unfold subB; rw [decide_eq_true (by omega), fits_yes (by omega) hf]; rfl
      have h64 : IntKind.i64.wrap (a - b) = a - b := IntWalk.i64_in _ (by omega)
      have h64' : wrap64 (a - b) = a - b := IntWalk.wrap64_in _ (by omega)
      rw [e, if_pos rfl]
      clear e
      go_enter Tryz.func36, Tryz.ntmps36
      go_wp2
      go_ret2
      exact ⟨rfl, rfl⟩
    · have e : subB a b = false := by unfold subB; rw [fits_no (by omega)]; simp
      rw [e]
      clear e
      go_enter Tryz.func36, Tryz.ntmps36
      go_wp2
      go_ret2
      exact ⟨rfl, rfl⟩
theorem more_any (a b : Int) (w : World) : Calls Tryz.prog 55 #[.int .i64 a, .int .i64 b] w fun e w' => e = .returned (.int .i64 (max a b)) ∧ w = w' := by
  by_cases h : a < b
  · rw [show max a b = b by omega]
    go_enter Tryz.func55, Tryz.ntmps55
    go_wp2
    go_ret
    exact ⟨rfl, rfl⟩
  · rw [show max a b = a by omega]
    go_enter Tryz.func55, Tryz.ntmps55
    go_wp2
    go_ret
    exact ⟨rfl, rfl⟩
def Told3 (r : Rx × Bool) (w : World) (e : Ending) (w' : World) : Prop := e = .returned (.tuple #[.agg (R3 r.1).toArray, .bool r.2]) ∧ Below w.heap.size w w'
def Told1 (r : Rx) (w : World) (e : Ending) (w' : World) : Prop := e = .returned (.agg (R3 r).toArray) ∧ Below w.heap.size w w'
set_option maxRecDepth 100000 in
set_option maxHeartbeats 4000000 in
theorem refadd_any (a b : Rx) (ha : a.Ok) (hb : b.Ok) (w : World) : Calls Tryz.prog 37 #[.agg #[.int .i64 a.c, .int .i64 a.m, .int .i64 a.p], .agg #[.int .i64 b.c, .int .i64 b.m, .int .i64 b.p]] w (Told3 (addR a b) w) := by
  have h0 : ∀ u, Calls Tryz.prog 60 #[.int .i64 a.c, .int .i64 b.c] u _ := fun u => NumRefArith.refAdd_any _ _ u ha.c hb.c
  have h1 : ∀ u, Calls Tryz.prog 60 #[.int .i64 a.m, .int .i64 b.m] u _ := fun u => NumRefArith.refAdd_any _ _ u ha.m hb.m
  have h2 : ∀ u, Calls Tryz.prog 60 #[.int .i64 a.p, .int .i64 b.p] u _ := fun u => NumRefArith.refAdd_any _ _ u ha.p hb.p
  obtain ⟨v0, hv0⟩ : ∃ v, val (a.c + b.c) = v := ⟨_, rfl⟩
  obtain ⟨k0, hk0⟩ : ∃ k, fits (a.c + b.c) = k := ⟨_, rfl⟩
  rw [hv0, hk0] at h0
  have H0 := Lib.hid h0
  obtain ⟨v1, hv1⟩ : ∃ v, val (a.m + b.m) = v := ⟨_, rfl⟩
  obtain ⟨k1, hk1⟩ : ∃ k, fits (a.m + b.m) = k := ⟨_, rfl⟩
  rw [hv1, hk1] at h1
  have H1 := Lib.hid h1
  obtain ⟨v2, hv2⟩ : ∃ v, val (a.p + b.p) = v := ⟨_, rfl⟩
  obtain ⟨k2, hk2⟩ : ∃ k, fits (a.p + b.p) = k := ⟨_, rfl⟩
  rw [hv2, hk2] at h2
  have H2 := Lib.hid h2
  have HT := Lib.hid (show addR a b = three v0 v1 v2 k0 k1 k2 by rw [← hv0, ← hv1, ← hv2, ← hk0, ← hk1, ← hk2]; exact (val_three _ _ _ _ _ _ rfl rfl rfl).symm)
  rw [HT.out]
  clear h0 h1 h2 hv0 hv1 hv2 hk0 hk1 hk2 HT ha hb
  cases k0 <;> cases k1 <;> cases k2
  all_goals
    go_enter Tryz.func37, Tryz.ntmps37
    go_wp2_with (first | ((with_reducible refine (H0.out _).mono ?_); rintro e w' ⟨rfl, rfl⟩) | ((with_reducible refine (H1.out _).mono ?_); rintro e w' ⟨rfl, rfl⟩) | ((with_reducible refine (H2.out _).mono ?_); rintro e w' ⟨rfl, rfl⟩))
    go_returns
    exact ⟨rfl, by go_grown⟩
theorem sub_three (a b : Rx) : three (if subB a.c b.c = true then a.c - b.c else 0) (if subB a.m b.m = true then a.m - b.m else 0) (if subB a.p b.p = true then a.p - b.p else 0) (subB a.c b.c) (subB a.m b.m) (subB a.p b.p) = subR a b := by
  unfold subR three
  by_cases h : (subB a.c b.c && subB a.m b.m && subB a.p b.p) = true
  · rw [if_pos h, if_pos h]
    simp only [Bool.and_eq_true] at h
    rw [if_pos h.1.1, if_pos h.1.2, if_pos h.2]
  · rw [if_neg h, if_neg h]
set_option maxRecDepth 100000 in
set_option maxHeartbeats 4000000 in
theorem refsub_any (a b : Rx) (ha : a.Ok) (hb : b.Ok) (w : World) : Calls Tryz.prog 11 #[.agg #[.int .i64 a.c, .int .i64 a.m, .int .i64 a.p], .agg #[.int .i64 b.c, .int .i64 b.m, .int .i64 b.p]] w (Told3 (subR a b) w) := by
  have h0 : ∀ u, Calls Tryz.prog 36 #[.int .i64 a.c, .int .i64 b.c] u _ := fun u => refleft_any _ _ u ha.c hb.c
  have h1 : ∀ u, Calls Tryz.prog 36 #[.int .i64 a.m, .int .i64 b.m] u _ := fun u => refleft_any _ _ u ha.m hb.m
  have h2 : ∀ u, Calls Tryz.prog 36 #[.int .i64 a.p, .int .i64 b.p] u _ := fun u => refleft_any _ _ u ha.p hb.p
  obtain ⟨v0, hv0⟩ : ∃ v, (if subB a.c b.c = true then a.c - b.c else 0) = v := ⟨_, rfl⟩
  obtain ⟨k0, hk0⟩ : ∃ k, subB a.c b.c = k := ⟨_, rfl⟩
  rw [hv0, hk0] at h0
  have H0 := Lib.hid h0
  obtain ⟨v1, hv1⟩ : ∃ v, (if subB a.m b.m = true then a.m - b.m else 0) = v := ⟨_, rfl⟩
  obtain ⟨k1, hk1⟩ : ∃ k, subB a.m b.m = k := ⟨_, rfl⟩
  rw [hv1, hk1] at h1
  have H1 := Lib.hid h1
  obtain ⟨v2, hv2⟩ : ∃ v, (if subB a.p b.p = true then a.p - b.p else 0) = v := ⟨_, rfl⟩
  obtain ⟨k2, hk2⟩ : ∃ k, subB a.p b.p = k := ⟨_, rfl⟩
  rw [hv2, hk2] at h2
  have H2 := Lib.hid h2
  have HT := Lib.hid (show subR a b = three v0 v1 v2 k0 k1 k2 by rw [← hv0, ← hv1, ← hv2, ← hk0, ← hk1, ← hk2]; exact (sub_three a b).symm)
  rw [HT.out]
  clear h0 h1 h2 hv0 hv1 hv2 hk0 hk1 hk2 HT ha hb
  cases k0 <;> cases k1 <;> cases k2
  all_goals
    go_enter Tryz.func11, Tryz.ntmps11
    go_wp2_with (first | ((with_reducible refine (H0.out _).mono ?_); rintro e w' ⟨rfl, rfl⟩) | ((with_reducible refine (H1.out _).mono ?_); rintro e w' ⟨rfl, rfl⟩) | ((with_reducible refine (H2.out _).mono ?_); rintro e w' ⟨rfl, rfl⟩))
    go_returns
    exact ⟨rfl, by go_grown⟩
set_option maxRecDepth 100000 in
theorem reffits_any (a b : Rx) (w : World) : Calls Tryz.prog 59 #[.agg #[.int .i64 a.c, .int .i64 a.m, .int .i64 a.p], .agg #[.int .i64 b.c, .int .i64 b.m, .int .i64 b.p]] w fun e w' => e = .returned (.bool (fitsR a b)) ∧ Below w.heap.size w w' := by
  have he : fitsR a b = (decide (a.c ≤ b.c) && decide (a.m ≤ b.m) && decide (a.p ≤ b.p)) := rfl
  rw [he]
  clear he
  by_cases h0 : a.c ≤ b.c <;> by_cases h1 : a.m ≤ b.m <;> by_cases h2 : a.p ≤ b.p
  all_goals
    simp only [h0, h1, h2, decide_true, decide_false, Bool.and_true, Bool.and_false, Bool.false_and]
    go_enter Tryz.func59, Tryz.ntmps59
    go_wp2
    go_ret
    exact ⟨rfl, by go_grown⟩
theorem r_refmax_any (tmps : Array Value) (w : World) (p : Nat) (xs : List Value) (h2 : tmps.getD 4 undef = .pointer (some ⟨p, 0, none⟩)) (hX : w.heap[p]? = some (.cells xs.toArray 23 (0, 0))) (hm : xs.length = 3) :
    (results Tryz.f30 tmps).run Tryz.prog w = .ok (.agg xs.toArray) w := by
  have h1 : (loadVar 23 ⟨p, 0, none⟩).run Tryz.prog w = .ok (.agg xs.toArray) w := run_loadVar_mid w p 0 23 _ _ (range_box hX) Tryz.underlying23 rfl (by rw [hm]; kernel_rfl)
  simp only [results, Tryz.results30]
  simp only [Array.getD_eq_getD_getElem?] at h2
  have ha : (asAddr (tmps[4]?.getD undef)).run Tryz.prog w = .ok ⟨p, 0, none⟩ w := by rw [h2]; rfl
  simp [Sem.run_bind, h1, ha]
set_option maxRecDepth 100000 in
set_option maxHeartbeats 4000000 in
theorem refmax_any (a b : Rx) (w : World) : Calls Tryz.prog 30 #[.agg #[.int .i64 a.c, .int .i64 a.m, .int .i64 a.p], .agg #[.int .i64 b.c, .int .i64 b.m, .int .i64 b.p]] w (Told1 (maxR a b) w) := by
  have h0 : ∀ u, Calls Tryz.prog 55 #[.int .i64 a.c, .int .i64 b.c] u _ := fun u => more_any _ _ u
  have h1 : ∀ u, Calls Tryz.prog 55 #[.int .i64 a.m, .int .i64 b.m] u _ := fun u => more_any _ _ u
  have h2 : ∀ u, Calls Tryz.prog 55 #[.int .i64 a.p, .int .i64 b.p] u _ := fun u => more_any _ _ u
  obtain ⟨v0, hv0⟩ : ∃ v, max a.c b.c = v := ⟨_, rfl⟩
  rw [hv0] at h0
  have H0 := Lib.hid h0
  obtain ⟨v1, hv1⟩ : ∃ v, max a.m b.m = v := ⟨_, rfl⟩
  rw [hv1] at h1
  have H1 := Lib.hid h1
  obtain ⟨v2, hv2⟩ : ∃ v, max a.p b.p = v := ⟨_, rfl⟩
  rw [hv2] at h2
  have H2 := Lib.hid h2
  have HT := Lib.hid (show maxR a b = ⟨v0, v1, v2⟩ by rw [← hv0, ← hv1, ← hv2]; rfl)
  rw [HT.out]
  clear h0 h1 h2 hv0 hv1 hv2 HT
  obtain ⟨w0, hw0⟩ : ∃ v, (((w.alloc (.cells #[.int .i64 a.c, .int .i64 a.m, .int .i64 a.p] 23)).alloc (.cells #[.int .i64 b.c, .int .i64 b.m, .int .i64 b.p] 23)).alloc (.cells #[.int .i64 0, .int .i64 0, .int .i64 0] 23)) = v := ⟨_, rfl⟩
  have X := Lib.hid (show w0.heap[w.heap.size]? = some (.cells #[.int .i64 a.c, .int .i64 a.m, .int .i64 a.p] 23 (0, 0)) by rw [← hw0, Below.heap_alloc _ _ _ (by simp; omega), Below.heap_alloc _ _ _ (by simp)]; exact heap_alloc_new w _)
  have Y := Lib.hid (show w0.heap[w.heap.size + 1]? = some (.cells #[.int .i64 b.c, .int .i64 b.m, .int .i64 b.p] 23 (0, 0)) by rw [← hw0, Below.heap_alloc _ _ _ (by simp)]; have := heap_alloc_new (w.alloc (.cells #[.int .i64 a.c, .int .i64 a.m, .int .i64 a.p] 23)) (.cells #[.int .i64 b.c, .int .i64 b.m, .int .i64 b.p] 23); simpa using this)
  have Zr := Lib.hid (show w0.heap[w.heap.size + 1 + 1]? = some (.cells #[.int .i64 0, .int .i64 0, .int .i64 0] 23 (0, 0)) by rw [← hw0]; have := heap_alloc_new ((w.alloc (.cells #[.int .i64 a.c, .int .i64 a.m, .int .i64 a.p] 23)).alloc (.cells #[.int .i64 b.c, .int .i64 b.m, .int .i64 b.p] 23)) (.cells #[.int .i64 0, .int .i64 0, .int .i64 0] 23); simpa using this)
  have B0 := Lib.hid (show Below w.heap.size w w0 by rw [← hw0]; go_grown)
  have RX := Lib.hid (range_box (cs := R3 a) X.out)
  have RY := Lib.hid (range_box (cs := R3 b) Y.out)
  have ca0 := cell_of X.out 0 (v := .int .i64 a.c) rfl
  have ca1 := cell_of X.out 1 (v := .int .i64 a.m) rfl
  have ca2 := cell_of X.out 2 (v := .int .i64 a.p) rfl
  have cb0 := cell_of Y.out 0 (v := .int .i64 b.c) rfl
  have cb1 := cell_of Y.out 1 (v := .int .i64 b.m) rfl
  have cb2 := cell_of Y.out 2 (v := .int .i64 b.p) rfl
  go_enter Tryz.func30, Tryz.ntmps30
  go_wp2_with fail
  go_still_tail 16, (by kernel_rfl)
  still_call ((H0.out w0.drew).mono (fun _ _ h => And.intro h.1 h.2.symm))
  repeat still_step
  still_call ((H1.out w0.drew).mono (fun _ _ h => And.intro h.1 h.2.symm))
  repeat still_step
  still_call ((H2.out w0.drew).mono (fun _ _ h => And.intro h.1 h.2.symm))
  repeat still_step
  refine wpStill_nil ?_
  change wpList _ _ _ _ _ w0.drew
  have ZB := Lib.hid (show w0.drew.heap[w.heap.size + 1 + 1]? = _ from Zr.out)
  have B1 := Lib.hid (show Below w.heap.size w w0.drew from Below.drew B0.out)
  obtain ⟨w1, hw1⟩ : ∃ v, v = w0.drew := ⟨_, rfl⟩
  rw [← hw1] at ZB B1 ⊢
  clear hw1 hw0 ca0 ca1 ca2 cb0 cb1 cb2
  obtain ⟨vz, hvz⟩ : ∃ v, w1.setCells (w.heap.size + 1 + 1) 0 (R3 ⟨v0, v1, v2⟩) = v := ⟨_, rfl⟩
  have THz := Lib.hid (show w1.there (w.heap.size + 1 + 1) 0 3 from Back.th ZB.out rfl)
  have ONEz := Lib.hid (show ((R3 ⟨v0, v1, v2⟩) : List Value).toArray.all (·.oneCell') = true by simp [Value.oneCell'])
  have HVz := Lib.hid hvz
  have ZV := Lib.hid (show vz.heap[w.heap.size + 1 + 1]? = some (.cells (R3 ⟨v0, v1, v2⟩).toArray 23 (0, 0)) by rw [← hvz]; exact Back.st ZB.out rfl)
  have BZ := Lib.hid (show Below w.heap.size w vz by rw [← hvz]; exact bel_set (B1.out) (by omega))
  clear hvz
  go_wp2_with (first | (refine wpList_store_at rfl 23 _ _ rfl _ _ _ rfl rfl THz.out (by kernel_rfl) ONEz.out HVz.out ?_))
  refine bodyPost_ret (v := .agg (R3 ⟨v0, v1, v2⟩).toArray) (r_refmax_any _ _ _ (R3 ⟨v0, v1, v2⟩) rfl ZV.out rfl) rfl ?_
  exact ⟨rfl, BZ.out⟩
end Re
end Go.Proofs.YtbichomjpmmjmaaGreatDoor
