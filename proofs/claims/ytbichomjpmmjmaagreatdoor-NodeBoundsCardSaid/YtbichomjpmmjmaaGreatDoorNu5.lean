/-
  Package res: Add, Sub, Max; the document's Add, Sub, Max, Fits, Over. What was there is left as it was. Condition: the numbers are 64-bit integers.
-/
import Derived.Test.YtbichomjpmmjmaaGreatDoorNu4
import Derived.Test.YtbichomjpmmjmaaGreatDoorNu0
import Derived.Test.YtbichomjpmmjmaaGreatDoorNu2
import Derived.StillTailTactics
set_option linter.unusedVariables false
set_option linter.unusedSimpArgs false
namespace Go.Proofs.YtbichomjpmmjmaaGreatDoor
open Go.ChangeShapes Go.WideShapes Go.ChangeAt Go.RowKit Go.Lib
open NumMath
namespace Re
theorem val_three (x y z : Int) (p q r : Bool) (h0 : p = fits x) (h1 : q = fits y) (h2 : r = fits z) : three (val x) (val y) (val z) p q r = three x y z p q r := by
  unfold three
  by_cases h : (p && q && r) = true
  · rw [if_pos h, if_pos h]
    simp only [Bool.and_eq_true] at h
    rw [val_yes (h0 ▸ h.1.1), val_yes (h1 ▸ h.1.2), val_yes (h2 ▸ h.2)]
  · rw [if_neg h, if_neg h]
theorem callF_add (args : Array Value) (u : World) : (callFunc 65 args).run Tryz.prog u = .ok (.enter 65 args) u := by simp [go_sem]
theorem callF_left (args : Array Value) (u : World) : (callFunc 62 args).run Tryz.prog u = .ok (.enter 62 args) u := by simp [go_sem]
theorem res_add (tmps : Array Value) (w : World) (p : Nat) (xs : List Value) (x : Value) (h2 : tmps.getD 4 undef = .pointer (some ⟨p, 0, none⟩)) (h3 : tmps.getD 5 undef = x) (hX : w.heap[p]? = some (.cells xs.toArray 23 (0, 0))) (hm : xs.length = 3) :
    (results Tryz.f41 tmps).run Tryz.prog w = .ok (.tuple #[.agg xs.toArray, x]) w := by
  have h1 : (loadVar 23 ⟨p, 0, none⟩).run Tryz.prog w = .ok (.agg xs.toArray) w := run_loadVar_mid w p 0 23 _ _ (range_box hX) Tryz.underlying23 rfl (by rw [hm]; kernel_rfl)
  simp only [results, Tryz.results41]
  simp only [Array.getD_eq_getD_getElem?] at h2 h3
  have ha : (asAddr (tmps[4]?.getD undef)).run Tryz.prog w = .ok ⟨p, 0, none⟩ w := by rw [h2]; rfl
  simp [Sem.run_bind, h1, ha, h3]
set_option maxRecDepth 100000 in
set_option maxHeartbeats 4000000 in
theorem add_any (a b : Rx) (ha : a.Ok) (hb : b.Ok) (w : World) : Calls Tryz.prog 41 #[.agg #[.int .i64 a.c, .int .i64 a.m, .int .i64 a.p], .agg #[.int .i64 b.c, .int .i64 b.m, .int .i64 b.p]] w fun e w' => e = .returned (.tuple #[.agg (R3 (addR a b).1).toArray, .bool (addR a b).2]) ∧ Below w.heap.size w w' := by
  obtain ⟨w0, hw0⟩ : ∃ v, (((w.alloc (.cells #[.int .i64 a.c, .int .i64 a.m, .int .i64 a.p] 23)).alloc (.cells #[.int .i64 b.c, .int .i64 b.m, .int .i64 b.p] 23)).alloc (.cells #[.int .i64 0, .int .i64 0, .int .i64 0] 23)) = v := ⟨_, rfl⟩
  have X := Lib.hid (show w0.heap[w.heap.size]? = some (.cells #[.int .i64 a.c, .int .i64 a.m, .int .i64 a.p] 23 (0, 0)) by rw [← hw0, Below.heap_alloc _ _ _ (by simp; omega), Below.heap_alloc _ _ _ (by simp)]; exact heap_alloc_new w _)
  have Y := Lib.hid (show w0.heap[w.heap.size + 1]? = some (.cells #[.int .i64 b.c, .int .i64 b.m, .int .i64 b.p] 23 (0, 0)) by rw [← hw0, Below.heap_alloc _ _ _ (by simp)]; have := heap_alloc_new (w.alloc (.cells #[.int .i64 a.c, .int .i64 a.m, .int .i64 a.p] 23)) (.cells #[.int .i64 b.c, .int .i64 b.m, .int .i64 b.p] 23); simpa using this)
  have Zr := Lib.hid (show w0.heap[w.heap.size + 1 + 1]? = some (.cells #[.int .i64 0, .int .i64 0, .int .i64 0] 23 (0, 0)) by rw [← hw0]; have := heap_alloc_new ((w.alloc (.cells #[.int .i64 a.c, .int .i64 a.m, .int .i64 a.p] 23)).alloc (.cells #[.int .i64 b.c, .int .i64 b.m, .int .i64 b.p] 23)) (.cells #[.int .i64 0, .int .i64 0, .int .i64 0] 23); simpa using this)
  have B0 := Lib.hid (show Below w.heap.size w w0 by rw [← hw0]; go_grown)
  have RX := Lib.hid (range_box (cs := R3 a) X.out)
  have RY := Lib.hid (range_box (cs := R3 b) Y.out)
  have HE := Lib.hid (each_any 65 callF_add a b ⟨val (a.c + b.c), val (a.m + b.m), val (a.p + b.p)⟩ (fits (a.c + b.c)) (fits (a.m + b.m)) (fits (a.p + b.p)) (fun u => NumAdd.add_any _ _ u ha.c hb.c) (fun u => NumAdd.add_any _ _ u ha.m hb.m) (fun u => NumAdd.add_any _ _ u ha.p hb.p) w0)
  have HT := Lib.hid (show three (val (a.c + b.c)) (val (a.m + b.m)) (val (a.p + b.p)) (fits (a.c + b.c)) (fits (a.m + b.m)) (fits (a.p + b.p)) = addR a b from val_three _ _ _ _ _ _ rfl rfl rfl)
  clear ha hb
  go_enter Tryz.func41, Tryz.ntmps41
  go_wp2_with (first | (refine wpList_load_mid rfl 23 _ rfl _ _ rfl _ _ RX.out Tryz.underlying23 rfl (by kernel_rfl) ?_) | (refine wpList_load_mid rfl 23 _ rfl _ _ rfl _ _ RY.out Tryz.underlying23 rfl (by kernel_rfl) ?_))
  refine HE.out.mono ?_
  rintro e w1 ⟨rfl, hb1⟩
  rw [HT.out]
  obtain ⟨r, hr⟩ : ∃ r, addR a b = r := ⟨_, rfl⟩
  rw [hr]
  have HR := Lib.hid hr
  have ZB := Lib.hid ((hb1.block _ (lt_of_at Zr.out)).trans Zr.out)
  have B1 := Lib.hid (B0.out.trans (hb1.mono B0.out.size))
  clear hb1 hr hw0 HE HT
  obtain ⟨vz, hvz⟩ : ∃ v, w1.setCells (w.heap.size + 1 + 1) 0 (R3 r.1) = v := ⟨_, rfl⟩
  have THz := Lib.hid (show w1.there (w.heap.size + 1 + 1) 0 3 from Back.th ZB.out rfl)
  have ONEz := Lib.hid (show ((R3 r.1) : List Value).toArray.all (·.oneCell') = true by simp [Value.oneCell'])
  have HVz := Lib.hid hvz
  have ZV := Lib.hid (show vz.heap[w.heap.size + 1 + 1]? = some (.cells (R3 r.1).toArray 23 (0, 0)) by rw [← hvz]; exact Back.st ZB.out rfl)
  have BZ := Lib.hid (show Below w.heap.size w vz by rw [← hvz]; exact bel_set (B1.out) (by omega))
  clear hvz
  go_wp2_with (first | (refine wpList_store_at rfl 23 _ _ rfl _ _ _ rfl rfl THz.out (by kernel_rfl) ONEz.out HVz.out ?_))
  refine bodyPost_ret (v := .tuple #[.agg (R3 r.1).toArray, .bool r.2]) (res_add _ _ _ (R3 r.1) _ rfl rfl ZV.out rfl) rfl ?_
  rw [HR.out]
  exact ⟨rfl, BZ.out⟩
theorem res_sub (tmps : Array Value) (w : World) (p : Nat) (xs : List Value) (x : Value) (h2 : tmps.getD 4 undef = .pointer (some ⟨p, 0, none⟩)) (h3 : tmps.getD 5 undef = x) (hX : w.heap[p]? = some (.cells xs.toArray 23 (0, 0))) (hm : xs.length = 3) :
    (results Tryz.f38 tmps).run Tryz.prog w = .ok (.tuple #[.agg xs.toArray, x]) w := by
  have h1 : (loadVar 23 ⟨p, 0, none⟩).run Tryz.prog w = .ok (.agg xs.toArray) w := run_loadVar_mid w p 0 23 _ _ (range_box hX) Tryz.underlying23 rfl (by rw [hm]; kernel_rfl)
  simp only [results, Tryz.results38]
  simp only [Array.getD_eq_getD_getElem?] at h2 h3
  have ha : (asAddr (tmps[4]?.getD undef)).run Tryz.prog w = .ok ⟨p, 0, none⟩ w := by rw [h2]; rfl
  simp [Sem.run_bind, h1, ha, h3]
set_option maxRecDepth 100000 in
set_option maxHeartbeats 4000000 in
theorem sub_any (a b : Rx) (ha : a.Ok) (hb : b.Ok) (w : World) : Calls Tryz.prog 38 #[.agg #[.int .i64 a.c, .int .i64 a.m, .int .i64 a.p], .agg #[.int .i64 b.c, .int .i64 b.m, .int .i64 b.p]] w fun e w' => e = .returned (.tuple #[.agg (R3 (subR a b).1).toArray, .bool (subR a b).2]) ∧ Below w.heap.size w w' := by
  obtain ⟨w0, hw0⟩ : ∃ v, (((w.alloc (.cells #[.int .i64 a.c, .int .i64 a.m, .int .i64 a.p] 23)).alloc (.cells #[.int .i64 b.c, .int .i64 b.m, .int .i64 b.p] 23)).alloc (.cells #[.int .i64 0, .int .i64 0, .int .i64 0] 23)) = v := ⟨_, rfl⟩
  have X := Lib.hid (show w0.heap[w.heap.size]? = some (.cells #[.int .i64 a.c, .int .i64 a.m, .int .i64 a.p] 23 (0, 0)) by rw [← hw0, Below.heap_alloc _ _ _ (by simp; omega), Below.heap_alloc _ _ _ (by simp)]; exact heap_alloc_new w _)
  have Y := Lib.hid (show w0.heap[w.heap.size + 1]? = some (.cells #[.int .i64 b.c, .int .i64 b.m, .int .i64 b.p] 23 (0, 0)) by rw [← hw0, Below.heap_alloc _ _ _ (by simp)]; have := heap_alloc_new (w.alloc (.cells #[.int .i64 a.c, .int .i64 a.m, .int .i64 a.p] 23)) (.cells #[.int .i64 b.c, .int .i64 b.m, .int .i64 b.p] 23); simpa using this)
  have Zr := Lib.hid (show w0.heap[w.heap.size + 1 + 1]? = some (.cells #[.int .i64 0, .int .i64 0, .int .i64 0] 23 (0, 0)) by rw [← hw0]; have := heap_alloc_new ((w.alloc (.cells #[.int .i64 a.c, .int .i64 a.m, .int .i64 a.p] 23)).alloc (.cells #[.int .i64 b.c, .int .i64 b.m, .int .i64 b.p] 23)) (.cells #[.int .i64 0, .int .i64 0, .int .i64 0] 23); simpa using this)
  have B0 := Lib.hid (show Below w.heap.size w w0 by rw [← hw0]; go_grown)
  have RX := Lib.hid (range_box (cs := R3 a) X.out)
  have RY := Lib.hid (range_box (cs := R3 b) Y.out)
  go_enter Tryz.func38, Tryz.ntmps38
  go_wp2_with (first | (refine wpList_load_mid rfl 23 _ rfl _ _ rfl _ _ RX.out Tryz.underlying23 rfl (by kernel_rfl) ?_) | (refine wpList_load_mid rfl 23 _ rfl _ _ rfl _ _ RY.out Tryz.underlying23 rfl (by kernel_rfl) ?_))
  refine (fits_any b a w0).mono ?_
  rintro e w1 ⟨rfl, hb1⟩
  have X1 := Lib.hid ((hb1.block _ (lt_of_at X.out)).trans X.out)
  have Y1 := Lib.hid ((hb1.block _ (lt_of_at Y.out)).trans Y.out)
  have ZB1 := Lib.hid ((hb1.block _ (lt_of_at Zr.out)).trans Zr.out)
  have B1 := Lib.hid (B0.out.trans (hb1.mono B0.out.size))
  have RX1 := Lib.hid (range_box (cs := R3 a) X1.out)
  have RY1 := Lib.hid (range_box (cs := R3 b) Y1.out)
  clear hb1 hw0
  cases hf : fitsR b a with
  | false =>
    have HS := Lib.hid (show subR a b = (z3, false) by
      unfold subR subB three
      rw [if_neg (fun h => by
        simp only [Bool.and_eq_true, decide_eq_true_eq] at h
        have := fitsR_iff.2 ⟨h.1.1.1, h.1.2.1, h.2.1⟩
        rw [hf] at this; cases this)])
    have ZB := ZB1
    clear hf ha hb
    obtain ⟨vz, hvz⟩ : ∃ v, w1.setCells (w.heap.size + 1 + 1) 0 (R3 z3) = v := ⟨_, rfl⟩
    have THz := Lib.hid (show w1.there (w.heap.size + 1 + 1) 0 3 from Back.th ZB.out rfl)
    have ONEz := Lib.hid (show ((R3 z3) : List Value).toArray.all (·.oneCell') = true by simp [Value.oneCell'])
    have HVz := Lib.hid hvz
    have ZV := Lib.hid (show vz.heap[w.heap.size + 1 + 1]? = some (.cells (R3 z3).toArray 23 (0, 0)) by rw [← hvz]; exact Back.st ZB.out rfl)
    have BZ := Lib.hid (show Below w.heap.size w vz by rw [← hvz]; exact bel_set (B1.out) (by omega))
    clear hvz
    go_wp2_with (first | (refine wpList_store_at rfl 23 _ _ rfl _ _ _ rfl rfl THz.out (by kernel_rfl) ONEz.out HVz.out ?_))
    refine bodyPost_ret (v := .tuple #[.agg (R3 z3).toArray, .bool false]) (res_sub _ _ _ (R3 z3) _ rfl rfl ZV.out rfl) rfl ?_
    rw [HS.out]
    exact ⟨rfl, BZ.out⟩
  | true =>
    have h3 := fitsR_iff.1 hf
    have HE := Lib.hid (each_any 62 callF_left a b ⟨val (a.c - b.c), val (a.m - b.m), val (a.p - b.p)⟩ (fits (a.c - b.c)) (fits (a.m - b.m)) (fits (a.p - b.p)) (fun u => left_any _ _ u ha.c hb.c h3.1) (fun u => left_any _ _ u ha.m hb.m h3.2.1) (fun u => left_any _ _ u ha.p hb.p h3.2.2) w1)
    have HT := Lib.hid (show three (val (a.c - b.c)) (val (a.m - b.m)) (val (a.p - b.p)) (fits (a.c - b.c)) (fits (a.m - b.m)) (fits (a.p - b.p)) = subR a b by
      rw [val_three _ _ _ _ _ _ rfl rfl rfl]
      unfold subR subB
      rw [decide_eq_true h3.1, decide_eq_true h3.2.1, decide_eq_true h3.2.2]
      simp)
    clear ha hb h3 hf
    go_wp2_with (first | (refine wpList_load_mid rfl 23 _ rfl _ _ rfl _ _ RX1.out Tryz.underlying23 rfl (by kernel_rfl) ?_) | (refine wpList_load_mid rfl 23 _ rfl _ _ rfl _ _ RY1.out Tryz.underlying23 rfl (by kernel_rfl) ?_))
    refine HE.out.mono ?_
    rintro e w2 ⟨rfl, hb2⟩
    rw [HT.out]
    obtain ⟨r, hr⟩ : ∃ r, subR a b = r := ⟨_, rfl⟩
    rw [hr]
    have HR := Lib.hid hr
    have ZB := Lib.hid ((hb2.block _ (lt_of_at ZB1.out)).trans ZB1.out)
    have B2 := Lib.hid (B1.out.trans (hb2.mono B1.out.size))
    clear hb2 hr HE HT
    obtain ⟨vz, hvz⟩ : ∃ v, w2.setCells (w.heap.size + 1 + 1) 0 (R3 r.1) = v := ⟨_, rfl⟩
    have THz := Lib.hid (show w2.there (w.heap.size + 1 + 1) 0 3 from Back.th ZB.out rfl)
    have ONEz := Lib.hid (show ((R3 r.1) : List Value).toArray.all (·.oneCell') = true by simp [Value.oneCell'])
    have HVz := Lib.hid hvz
    have ZV := Lib.hid (show vz.heap[w.heap.size + 1 + 1]? = some (.cells (R3 r.1).toArray 23 (0, 0)) by rw [← hvz]; exact Back.st ZB.out rfl)
    have BZ := Lib.hid (show Below w.heap.size w vz by rw [← hvz]; exact bel_set (B2.out) (by omega))
    clear hvz
    go_wp2_with (first | (refine wpList_store_at rfl 23 _ _ rfl _ _ _ rfl rfl THz.out (by kernel_rfl) ONEz.out HVz.out ?_))
    refine bodyPost_ret (v := .tuple #[.agg (R3 r.1).toArray, .bool r.2]) (res_sub _ _ _ (R3 r.1) _ rfl rfl ZV.out rfl) rfl ?_
    rw [HR.out]
    exact ⟨rfl, BZ.out⟩
theorem res_max (tmps : Array Value) (w : World) (p : Nat) (xs : List Value) (h2 : tmps.getD 4 undef = .pointer (some ⟨p, 0, none⟩)) (hX : w.heap[p]? = some (.cells xs.toArray 23 (0, 0))) (hm : xs.length = 3) :
    (results Tryz.f28 tmps).run Tryz.prog w = .ok (.agg xs.toArray) w := by
  have h1 : (loadVar 23 ⟨p, 0, none⟩).run Tryz.prog w = .ok (.agg xs.toArray) w := run_loadVar_mid w p 0 23 _ _ (range_box hX) Tryz.underlying23 rfl (by rw [hm]; kernel_rfl)
  simp only [results, Tryz.results28]
  simp only [Array.getD_eq_getD_getElem?] at h2
  have ha : (asAddr (tmps[4]?.getD undef)).run Tryz.prog w = .ok ⟨p, 0, none⟩ w := by rw [h2]; rfl
  simp [Sem.run_bind, h1, ha]
def FM (a b : Rx) : Nat → Value → Prop
  | 0, v => v = .agg (R3 a).toArray
  | 1, v => v = .agg (R3 a).toArray
  | 2, v => v = .agg (R3 b).toArray
  | 3, v => v = .agg (R3 b).toArray
  | 6, _ => True
  | _, v => v = .agg (R3 (maxR a b)).toArray
/-- all but the block br grows; br holds zeros till operation i is done, then vs -/
def JB (vs : List Value) (br i : Nat) (w0 : World) (s : Nat → Bool) (v : World) : Prop := (v.os = w0.os ∧ v.tape = w0.tape ∧ v.output = w0.output ∧ w0.heap.size ≤ v.heap.size ∧ ∀ b, b < w0.heap.size → b ≠ br → v.heap[b]? = w0.heap[b]?) ∧ br < v.heap.size ∧ v.heap[br]? = some (.cells (if s i = true then vs else R3 z3).toArray 23 (0, 0))
theorem JB.other {vs : List Value} {br i : Nat} {w0 v : World} {s : Nat → Bool} (h : JB vs br i w0 s v) {j : Nat} (hj : (i == j) = false) : JB vs br i w0 (fun k => s k || k == j) v := by
  unfold JB at h ⊢
  simp only [hj, Bool.or_false]
  exact h
theorem JB.below {vs : List Value} {br i : Nat} {w0 v v' : World} {s : Nat → Bool} (h : JB vs br i w0 s v) (hb : Below v.heap.size v v') : JB vs br i w0 s v' := by
  obtain ⟨⟨h1, h2, h3, h4, h5⟩, h6, h7⟩ := h
  have := hb.size
  exact ⟨⟨hb.os.trans h1, hb.tape.trans h2, hb.output.trans h3, by omega, fun b hl hn => (hb.block b (by omega)).trans (h5 b hl hn)⟩, by omega, (hb.block _ h6).trans h7⟩
theorem JB.set {vs : List Value} {br i : Nat} {w0 v : World} {s : Nat → Bool} (h : JB vs br i w0 s v) (hs : s i = false) (hv : vs.length = 3) : JB vs br i w0 (fun k => s k || k == i) (v.setCells br 0 vs) := by
  obtain ⟨⟨h1, h2, h3, h4, h5⟩, h6, h7⟩ := h
  obtain ⟨f1, f2, f3, f4, f5⟩ := Back.far br vs 0 v
  refine ⟨⟨f1.trans h1, f2.trans h2, f3.trans h3, by rw [f4]; exact h4, fun b hl hn => (f5 b hn).trans (h5 b hl hn)⟩, by rw [f4]; exact h6, ?_⟩
  rw [hs] at h7
  simp only [BEq.rfl, Bool.or_true, if_true]
  exact Back.st h7 (by rw [hv]; rfl)
theorem JB.bel {vs : List Value} {br i : Nat} {w w0 v : World} {s : Nat → Bool} (h : JB vs br i w0 s v) (hb : Below w.heap.size w w0) (hr : w.heap.size ≤ br) : Below w.heap.size w v := by
  obtain ⟨⟨h1, h2, h3, h4, h5⟩, h6, h7⟩ := h
  have := hb.size
  exact ⟨h1.trans hb.os, h2.trans hb.tape, h3.trans hb.output, by omega, fun b hl => (h5 b (by omega) (by omega)).trans (hb.block b hl)⟩
set_option maxRecDepth 100000 in
set_option maxHeartbeats 4000000 in
theorem max_any (a b : Rx) (w : World) : Calls Tryz.prog 28 #[.agg #[.int .i64 a.c, .int .i64 a.m, .int .i64 a.p], .agg #[.int .i64 b.c, .int .i64 b.m, .int .i64 b.p]] w fun e w' => e = .returned (.agg (R3 (maxR a b)).toArray) ∧ Below w.heap.size w w' := by
  obtain ⟨w0, hw0⟩ : ∃ v, (((w.alloc (.cells #[.int .i64 a.c, .int .i64 a.m, .int .i64 a.p] 23)).alloc (.cells #[.int .i64 b.c, .int .i64 b.m, .int .i64 b.p] 23)).alloc (.cells #[.int .i64 0, .int .i64 0, .int .i64 0] 23)) = v := ⟨_, rfl⟩
  have X := Lib.hid (show w0.heap[w.heap.size]? = some (.cells #[.int .i64 a.c, .int .i64 a.m, .int .i64 a.p] 23 (0, 0)) by rw [← hw0, Below.heap_alloc _ _ _ (by simp; omega), Below.heap_alloc _ _ _ (by simp)]; exact heap_alloc_new w _)
  have Y := Lib.hid (show w0.heap[w.heap.size + 1]? = some (.cells #[.int .i64 b.c, .int .i64 b.m, .int .i64 b.p] 23 (0, 0)) by rw [← hw0, Below.heap_alloc _ _ _ (by simp)]; have := heap_alloc_new (w.alloc (.cells #[.int .i64 a.c, .int .i64 a.m, .int .i64 a.p] 23)) (.cells #[.int .i64 b.c, .int .i64 b.m, .int .i64 b.p] 23); simpa using this)
  have Zr := Lib.hid (show w0.heap[w.heap.size + 1 + 1]? = some (.cells #[.int .i64 0, .int .i64 0, .int .i64 0] 23 (0, 0)) by rw [← hw0]; have := heap_alloc_new ((w.alloc (.cells #[.int .i64 a.c, .int .i64 a.m, .int .i64 a.p] 23)).alloc (.cells #[.int .i64 b.c, .int .i64 b.m, .int .i64 b.p] 23)) (.cells #[.int .i64 0, .int .i64 0, .int .i64 0] 23); simpa using this)
  have B0 := Lib.hid (show Below w.heap.size w w0 by rw [← hw0]; go_grown)
  have RX := Lib.hid (range_box (cs := R3 a) X.out)
  have RY := Lib.hid (range_box (cs := R3 b) Y.out)
  go_enter Tryz.func28, Tryz.ntmps28
  go_wp2_with fail
  clear hw0
  refine Slt.wp_region (by kernel_rfl) (FM a b) (JB (R3 (maxR a b)) (w.heap.size + 1 + 1) 6 w0) (by kernel_rfl) ⟨⟨rfl, rfl, rfl, Nat.le_refl _, fun _ _ _ => rfl⟩, lt_of_at Zr.out, Zr.out⟩ ?_ ?_
  · refine ⟨?_, ?_, ?_, ?_, ?_, ?_, ?_, trivial⟩
    · intro s a_ u hs hd hfr hpo hJ
      have f0 : a_.tmps.getD 2 undef = .pointer (some ⟨w.heap.size, 0, none⟩) := hfr 2 (by kernel_rfl)
      refine .inl ⟨rfl, ?_⟩
      exact wp_load_mid 23 (.tmp 2) rfl (w.heap.size) 0 f0 (R3 a) _ (range_box ((hJ.1.2.2.2.2 _ (lt_of_at X.out) (by omega)).trans X.out)) Tryz.underlying23 rfl (by kernel_rfl) ⟨_, rfl, rfl, hJ.other rfl⟩
    · intro s a_ u hs hd hfr hpo hJ
      have e0 : a_.tmps.getD 5 undef = .agg (R3 a).toArray := hpo 0 5 (by kernel_rfl)
      refine .inl ⟨rfl, ?_⟩
      unfold Oper.wp
      rw [show (execOp a_.eval _).run Tryz.prog u = .ok (.enter 54 #[.agg (R3 a).toArray]) u from by simp [go_sem, Act.eval, e0]]
      refine Calls.mono (apart_any a.c a.m a.p u) ?_
      rintro e u2 ⟨rfl, hb⟩
      exact ⟨_, rfl, rfl, (hJ.below hb).other rfl⟩
    · intro s a_ u hs hd hfr hpo hJ
      have f0 : a_.tmps.getD 3 undef = .pointer (some ⟨w.heap.size + 1, 0, none⟩) := hfr 3 (by kernel_rfl)
      refine .inl ⟨rfl, ?_⟩
      exact wp_load_mid 23 (.tmp 3) rfl (w.heap.size + 1) 0 f0 (R3 b) _ (range_box ((hJ.1.2.2.2.2 _ (lt_of_at Y.out) (by omega)).trans Y.out)) Tryz.underlying23 rfl (by kernel_rfl) ⟨_, rfl, rfl, hJ.other rfl⟩
    · intro s a_ u hs hd hfr hpo hJ
      have e0 : a_.tmps.getD 7 undef = .agg (R3 b).toArray := hpo 2 7 (by kernel_rfl)
      refine .inl ⟨rfl, ?_⟩
      unfold Oper.wp
      rw [show (execOp a_.eval _).run Tryz.prog u = .ok (.enter 54 #[.agg (R3 b).toArray]) u from by simp [go_sem, Act.eval, e0]]
      refine Calls.mono (apart_any b.c b.m b.p u) ?_
      rintro e u2 ⟨rfl, hb⟩
      exact ⟨_, rfl, rfl, (hJ.below hb).other rfl⟩
    · intro s a_ u hs hd hfr hpo hJ
      have e0 : a_.tmps.getD 6 undef = .agg (R3 a).toArray := hpo 1 6 (by kernel_rfl)
      have e1 : a_.tmps.getD 8 undef = .agg (R3 b).toArray := hpo 3 8 (by kernel_rfl)
      refine .inl ⟨rfl, ?_⟩
      unfold Oper.wp
      rw [show (execOp a_.eval _).run Tryz.prog u = .ok (.enter 53 #[.agg (R3 a).toArray, .agg (R3 b).toArray]) u from by simp [go_sem, Act.eval, e0, e1]]
      refine Calls.mono (greater_any a.c a.m a.p b.c b.m b.p u) ?_
      rintro e u2 ⟨rfl, hb⟩
      exact ⟨_, rfl, rfl, (hJ.below hb).other rfl⟩
    · intro s a_ u hs hd hfr hpo hJ
      have e0 : a_.tmps.getD 9 undef = .agg (R3 (maxR a b)).toArray := hpo 4 9 (by kernel_rfl)
      refine .inl ⟨rfl, ?_⟩
      unfold Oper.wp
      rw [show (execOp a_.eval _).run Tryz.prog u = .ok (.enter 52 #[.agg (R3 (maxR a b)).toArray]) u from by simp [go_sem, Act.eval, e0]]
      refine Calls.mono (joined_any (maxR a b).c (maxR a b).m (maxR a b).p u) ?_
      rintro e u2 ⟨rfl, hb⟩
      exact ⟨_, rfl, rfl, (hJ.below hb).other rfl⟩
    · intro s a_ u hs hd hfr hpo hJ
      have e1 : a_.tmps.getD 10 undef = .agg (R3 (maxR a b)).toArray := hpo 5 10 (by kernel_rfl)
      have f0 : a_.tmps.getD 4 undef = .pointer (some ⟨w.heap.size + 1 + 1, 0, none⟩) := hfr 4 (by kernel_rfl)
      refine .inl ⟨rfl, ?_⟩
      have h2 := hJ.2.2
      rw [hs] at h2
      exact wp_store_mid 23 (.tmp 4) (.tmp 10) rfl _ 0 (R3 (maxR a b)).toArray f0 e1 (Back.th h2 rfl) (by kernel_rfl) (by simp [Value.oneCell']) ⟨undef, rfl, trivial, hJ.set hs rfl⟩
  · intro s V v hall hF hJ
    have HJ := Lib.hid (hJ.bel B0.out (by omega))
    have hj2 := hJ.2.2
    rw [hall 6 (by decide), if_pos rfl] at hj2
    have HX := Lib.hid hj2
    clear hall hF hJ hj2
    simp only [Bxs.puts, Nat.reduceAdd, put_none, put_lit, List.set_cons_succ, List.set_cons_zero]
    go_wp2_with fail
    refine bodyPost_ret (v := .agg (R3 (maxR a b)).toArray) (res_max _ _ _ (R3 (maxR a b)) rfl HX.out rfl) rfl ?_
    exact ⟨rfl, HJ.out⟩
end Re
end Go.Proofs.YtbichomjpmmjmaaGreatDoor

/-
  The document's resources: Add, Sub, Max, Fits, Over. What was there is left as it was. Condition: the numbers are 64-bit integers.
-/
set_option linter.unusedVariables false
set_option linter.unusedSimpArgs false
namespace Go.Proofs.YtbichomjpmmjmaaGreatDoor
open Go.ChangeShapes Go.WideShapes Go.ChangeAt Go.RowKit Go.Lib
open NumMath
namespace Re
def Told3 (r : Rx × Bool) (w : World) (e : Ending) (w' : World) : Prop := e = .returned (.tuple #[.agg (R3 r.1).toArray, .bool r.2]) ∧ Below w.heap.size w w'
def Told1 (r : Rx) (w : World) (e : Ending) (w' : World) : Prop := e = .returned (.agg (R3 r).toArray) ∧ Below w.heap.size w w'
end Re
end Go.Proofs.YtbichomjpmmjmaaGreatDoor

/-
  Package res: Sum, and the document's. What was there is left as it was. Condition: the numbers are 64-bit integers, the list can be read.
-/
set_option linter.unusedVariables false
set_option linter.unusedSimpArgs false
namespace Go.Proofs.YtbichomjpmmjmaaGreatDoor
open Go.ChangeShapes Go.WideShapes Go.ChangeAt Go.RowKit Go.Lib
open NumMath
namespace Re
/-- a list of resources at A -/
def Ress (w : World) (A : Option Addr) (l : List Rx) : Prop := ∀ (k : Nat) (x : Rx), l[k]? = some x → x.Ok ∧ ∃ r o, A = some ⟨r, o, none⟩ ∧ r < w.heap.size ∧ w.rangeAt r (o + k * 3) (R3 x)
theorem range_mv {w v : World} {b o : Nat} {vs : List Value} (hu : v.heap[b]? = w.heap[b]?) (h : w.rangeAt b o vs) : v.rangeAt b o vs := fun j x hx => (World.cell?_of_block hu).trans (h j x hx)
theorem Ress.below {w v : World} {A : Option Addr} {l : List Rx} (h : Ress w A l) (hb : Below w.heap.size w v) : Ress v A l := fun k x hk => by
  obtain ⟨h1, r, o, h2, h3, h4⟩ := h k x hk
  exact ⟨h1, r, o, h2, Nat.lt_of_lt_of_le h3 hb.size, range_mv (hb.block _ h3) h4⟩
theorem at_three (r o k : Nat) : (⟨r, o, none⟩ : Addr).add (k * 3) = ⟨r, o + k * 3, none⟩ := by unfold Addr.add; split <;> simp_all
theorem drop_at {l : List Rx} {k : Nat} {x : Rx} (h : l[k]? = some x) : l.drop k = x :: l.drop (k + 1) := by
  obtain ⟨hk, hx⟩ := List.getElem?_eq_some_iff.1 h
  rw [List.drop_eq_getElem_cons hk, hx]
theorem sum_cons (s x : Rx) (l : List Rx) : sumR s (x :: l) = if (addR s x).2 = true then sumR (addR s x).1 l else (z3, false) := rfl
variable {v u : World} {vs r : List Value} {s : Nat → Bool} {V : Nat → Value}
theorem res_sum (tmps : Array Value) (w : World) (p : Nat) (xs : List Value) (x : Value) (h2 : tmps.getD 2 undef = .pointer (some ⟨p, 0, none⟩)) (h3 : tmps.getD 3 undef = x) (hX : w.heap[p]? = some (.cells xs.toArray 23 (0, 0))) (hm : xs.length = 3) :
    (results Tryz.f64 tmps).run Tryz.prog w = .ok (.tuple #[.agg xs.toArray, x]) w := by
  have h1 : (loadVar 23 ⟨p, 0, none⟩).run Tryz.prog w = .ok (.agg xs.toArray) w := run_loadVar_mid w p 0 23 _ _ (range_box hX) Tryz.underlying23 rfl (by rw [hm]; kernel_rfl)
  simp only [results, Tryz.results64]
  simp only [Array.getD_eq_getD_getElem?] at h2 h3
  have ha : (asAddr (tmps[2]?.getD undef)).run Tryz.prog w = .ok ⟨p, 0, none⟩ w := by rw [h2]; rfl
  simp [Sem.run_bind, h1, ha, h3]
set_option maxRecDepth 100000 in
set_option maxHeartbeats 4000000 in
theorem sum_any (A : Option Addr) (c : Nat) (l : List Rx) (hl : l.length ≤ 1000000) (w : World) (h : Ress w A l) : Calls Tryz.prog 64 #[.slice A l.length c] w (Told3 (sumR z3 l) w) := by
  have H := Lib.hid h
  have HL := Lib.hid hl
  clear h hl
  obtain ⟨w0, hw0⟩ : ∃ v, (w.alloc (.cells #[.int .i64 0, .int .i64 0, .int .i64 0] 23)).alloc (.cells #[.int .i64 0, .int .i64 0, .int .i64 0] 23) = v := ⟨_, rfl⟩
  have Z0 := Lib.hid (show w0.heap[w.heap.size]? = some (.cells (R3 z3).toArray 23 (0, 0)) by rw [← hw0, Below.heap_alloc _ _ _ (by simp)]; exact heap_alloc_new w _)
  have S0 := Lib.hid (show w0.heap[w.heap.size + 1]? = some (.cells (R3 z3).toArray 23 (0, 0)) by rw [← hw0]; have := heap_alloc_new (w.alloc (.cells #[.int .i64 0, .int .i64 0, .int .i64 0] 23)) (.cells #[.int .i64 0, .int .i64 0, .int .i64 0] 23); rw [World.size_alloc] at this; exact this)
  have B0 := Lib.hid (show Below w.heap.size w w0 by rw [← hw0]; go_grown)
  go_enter Tryz.func64, Tryz.ntmps64
  go_wp2_with fail
  clear hw0
  go_loopw [11] (fun i wr => ∃ (k : Nat) (s : Rx), k ≤ l.length ∧ i = .int .i64 k ∧ Hid s.Ok ∧ Hid (sumR z3 l = sumR s (l.drop k)) ∧ Hid (Below w.heap.size w wr) ∧ Hid (wr.heap[w.heap.size]? = some (.cells (R3 z3).toArray 23 (0, 0))) ∧ Hid (wr.heap[w.heap.size + 1]? = some (.cells (R3 s).toArray 23 (0, 0)))) (fun i _ => l.length - (RowKit.intOf i).toNat)
  case atStart => exact ⟨0, z3, Nat.zero_le _, rfl, z3_ok, (by rw [List.drop_zero] : sumR z3 l = sumR z3 (l.drop 0)), B0.out, Z0.out, S0.out⟩
  case round =>
    obtain ⟨k, s, hk, rfl, HO, HS, BW, ZW, SW⟩ := hrel
    have hk6 : (k : Int) ≤ 1000000 := by have := HL.out; omega
    by_cases hlt : k < l.length
    · have hka : (k : Int) < (l.length : Int) := by omega
      have hk0 : (0 : Int) ≤ (k : Int) := by omega
      obtain ⟨x, hx⟩ : ∃ x, l[k]? = some x := ⟨_, List.getElem?_eq_getElem hlt⟩
      obtain ⟨hxo, ra, oa, rfl, hra, hrg⟩ := (H.out.below BW.out) k x hx
      have eat := at_three ra oa k
      have HXO := Lib.hid hxo
      have HD := Lib.hid (show sumR s (l.drop k) = if (addR s x).2 = true then sumR (addR s x).1 (l.drop (k + 1)) else (z3, false) by rw [drop_at hx, sum_cons])
      obtain ⟨w1, hw1⟩ : ∃ v, wr.alloc (.cells #[.int .i64 0, .int .i64 0, .int .i64 0] 23) = v := ⟨_, rfl⟩
      have k1 : ∀ b, b < wr.heap.size → w1.heap[b]? = wr.heap[b]? := fun b hb => by rw [← hw1]; exact Below.heap_alloc wr _ b hb
      have s1 : w1.heap.size = wr.heap.size + 1 := by rw [← hw1]; simp
      have X1 : w1.heap[wr.heap.size]? = some (.cells (R3 z3).toArray 23 (0, 0)) := by rw [← hw1]; exact heap_alloc_new wr _
      have RGX := Lib.hid hrg
      have hz1 := lt_of_at ZW.out
      have hz2 := lt_of_at SW.out
      obtain ⟨w2, hw2⟩ : ∃ v, w1.setCells (wr.heap.size) 0 (R3 x) = v := ⟨_, rfl⟩
      have THx := Lib.hid (show w1.there (wr.heap.size) 0 3 from Back.th X1 rfl)
      have ONEx := Lib.hid (show ((R3 x) : List Value).toArray.all (·.oneCell') = true by simp [Value.oneCell'])
      have HVx := Lib.hid hw2
      have kw2 : ∀ b, b ≠ wr.heap.size → w2.heap[b]? = w1.heap[b]? := fun b hb => by rw [← hw2]; exact (Back.far (wr.heap.size) (R3 x) 0 w1).2.2.2.2 b hb
      have sw2 : w2.heap.size = w1.heap.size := by rw [← hw2]; exact (Back.far (wr.heap.size) (R3 x) 0 w1).2.2.2.1
      have nw2 : w2.heap[wr.heap.size]? = some (.cells ((R3 x)).toArray 23 (0, 0)) := by rw [← hw2]; exact Back.st X1 rfl
      have B2 := Lib.hid (show Below w.heap.size w w2 by rw [← hw2, ← hw1]; exact bel_set (BW.out.alloc BW.out.size _) (by have := BW.out.size; omega))
      have Z2 := Lib.hid ((kw2 _ (by omega)).trans ((k1 _ hz1).trans ZW.out))
      have S2 := Lib.hid ((kw2 _ (by omega)).trans ((k1 _ hz2).trans SW.out))
      have RS2 := Lib.hid (range_box S2.out)
      have RX2 := Lib.hid (range_box nw2)
      clear hx hxo hra hrg k1 s1 X1 hz1 hz2 kw2 sw2 nw2 hw2
      go_wp2_with (first | (refine wpList_load_mid rfl 23 _ rfl _ _ rfl _ _ RGX.out Tryz.underlying23 rfl (by kernel_rfl) ?_) | (refine wpList_store_at rfl 23 _ _ rfl _ _ _ rfl rfl THx.out (by kernel_rfl) ONEx.out HVx.out ?_) | (refine wpList_load_mid rfl 23 _ rfl _ _ rfl _ _ RS2.out Tryz.underlying23 rfl (by kernel_rfl) ?_) | (refine wpList_load_mid rfl 23 _ rfl _ _ rfl _ _ RX2.out Tryz.underlying23 rfl (by kernel_rfl) ?_))
      clear hw1
      refine (add_any s x HO.out HXO.out w2).mono ?_
      rintro e w3 ⟨rfl, hb3⟩
      have HSO := Lib.hid (add_ok s x)
      obtain ⟨r, hr⟩ : ∃ r, addR s x = r := ⟨_, rfl⟩
      rw [hr] at HD HSO ⊢
      obtain ⟨w4, hw4⟩ : ∃ v, w3.alloc (.cells #[.int .i64 0, .int .i64 0, .int .i64 0] 23) = v := ⟨_, rfl⟩
      have k4 : ∀ b, b < w3.heap.size → w4.heap[b]? = w3.heap[b]? := fun b hb => by rw [← hw4]; exact Below.heap_alloc w3 _ b hb
      have X4 : w4.heap[w3.heap.size]? = some (.cells (R3 z3).toArray 23 (0, 0)) := by rw [← hw4]; exact heap_alloc_new w3 _
      obtain ⟨w5, hw5⟩ : ∃ v, w4.setCells (w3.heap.size) 0 (R3 r.1) = v := ⟨_, rfl⟩
      have THy := Lib.hid (show w4.there (w3.heap.size) 0 3 from Back.th X4 rfl)
      have ONEy := Lib.hid (show ((R3 r.1) : List Value).toArray.all (·.oneCell') = true by simp [Value.oneCell'])
      have HVy := Lib.hid hw5
      have kw5 : ∀ b, b ≠ w3.heap.size → w5.heap[b]? = w4.heap[b]? := fun b hb => by rw [← hw5]; exact (Back.far (w3.heap.size) (R3 r.1) 0 w4).2.2.2.2 b hb
      have sw5 : w5.heap.size = w4.heap.size := by rw [← hw5]; exact (Back.far (w3.heap.size) (R3 r.1) 0 w4).2.2.2.1
      have nw5 : w5.heap[w3.heap.size]? = some (.cells ((R3 r.1)).toArray 23 (0, 0)) := by rw [← hw5]; exact Back.st X4 rfl
      have hs3 := hb3.size
      have hz1 := lt_of_at Z2.out
      have hz2 := lt_of_at S2.out
      have Z5 := Lib.hid ((kw5 _ (by omega)).trans ((k4 _ (by omega)).trans ((hb3.block _ hz1).trans Z2.out)))
      have S5 := Lib.hid ((kw5 _ (by omega)).trans ((k4 _ (by omega)).trans ((hb3.block _ hz2).trans S2.out)))
      have B5 := Lib.hid (show Below w.heap.size w w5 by rw [← hw5, ← hw4]; exact bel_set ((B2.out.trans (hb3.mono B2.out.size)).alloc (by have := B2.out.size; omega) _) (by have := B2.out.size; omega))
      have RY5 := Lib.hid (range_box nw5)
      clear hr hb3 k4 X4 kw5 sw5 nw5 hw5 hs3 hz1 hz2 Z2 S2 B2 RS2 RX2
      cases hr2 : r.2 with
      | false =>
        have HE := Lib.hid (show sumR z3 l = (z3, false) by rw [HS.out, HD.out, hr2, if_neg (by decide)])
        obtain ⟨w6, hw6⟩ : ∃ v, w5.setCells (w.heap.size) 0 (R3 z3) = v := ⟨_, rfl⟩
        have THz := Lib.hid (show w5.there (w.heap.size) 0 3 from Back.th Z5.out rfl)
        have ONEz := Lib.hid (show ((R3 z3) : List Value).toArray.all (·.oneCell') = true by simp [Value.oneCell'])
        have HVz := Lib.hid hw6
        have kw6 : ∀ b, b ≠ w.heap.size → w6.heap[b]? = w5.heap[b]? := fun b hb => by rw [← hw6]; exact (Back.far (w.heap.size) (R3 z3) 0 w5).2.2.2.2 b hb
        have sw6 : w6.heap.size = w5.heap.size := by rw [← hw6]; exact (Back.far (w.heap.size) (R3 z3) 0 w5).2.2.2.1
        have nw6 : w6.heap[w.heap.size]? = some (.cells ((R3 z3)).toArray 23 (0, 0)) := by rw [← hw6]; exact Back.st Z5.out rfl
        have Z6 := Lib.hid nw6
        have B6 := Lib.hid (show Below w.heap.size w w6 by rw [← hw6]; exact bel_set B5.out (Nat.le_refl _))
        clear hr2 kw6 sw6 nw6 hw6
        go_wp2_with (first | (refine wpList_store_at rfl 23 _ _ rfl _ _ _ rfl rfl THy.out (by kernel_rfl) ONEy.out HVy.out ?_) | (refine wpList_store_at rfl 23 _ _ rfl _ _ _ rfl rfl THz.out (by kernel_rfl) ONEz.out HVz.out ?_))
        clear hw4
        refine bodyPost_ret (v := .tuple #[.agg (R3 z3).toArray, .bool false]) (res_sum _ _ _ (R3 z3) _ rfl rfl Z6.out rfl) rfl ?_
        rw [HE.out]
        exact ⟨rfl, B6.out⟩
      | true =>
        have HE := Lib.hid (show sumR z3 l = sumR r.1 (l.drop (k + 1)) by rw [HS.out, HD.out, hr2, if_pos rfl])
        obtain ⟨w6, hw6⟩ : ∃ v, w5.setCells (w.heap.size + 1) 0 (R3 r.1) = v := ⟨_, rfl⟩
        have THz := Lib.hid (show w5.there (w.heap.size + 1) 0 3 from Back.th S5.out rfl)
        have ONEz := Lib.hid (show ((R3 r.1) : List Value).toArray.all (·.oneCell') = true by simp [Value.oneCell'])
        have HVz := Lib.hid hw6
        have kw6 : ∀ b, b ≠ w.heap.size + 1 → w6.heap[b]? = w5.heap[b]? := fun b hb => by rw [← hw6]; exact (Back.far (w.heap.size + 1) (R3 r.1) 0 w5).2.2.2.2 b hb
        have sw6 : w6.heap.size = w5.heap.size := by rw [← hw6]; exact (Back.far (w.heap.size + 1) (R3 r.1) 0 w5).2.2.2.1
        have nw6 : w6.heap[w.heap.size + 1]? = some (.cells ((R3 r.1)).toArray 23 (0, 0)) := by rw [← hw6]; exact Back.st S5.out rfl
        have S6 := Lib.hid nw6
        have Z6 := Lib.hid ((kw6 _ (by omega)).trans Z5.out)
        have B6 := Lib.hid (show Below w.heap.size w w6 by rw [← hw6]; exact bel_set B5.out (by omega))
        clear hr2 kw6 sw6 nw6 hw6
        go_wp2_with (first | (refine wpList_store_at rfl 23 _ _ rfl _ _ _ rfl rfl THy.out (by kernel_rfl) ONEy.out HVy.out ?_) | (refine wpList_load_mid rfl 23 _ rfl _ _ rfl _ _ RY5.out Tryz.underlying23 rfl (by kernel_rfl) ?_) | (refine wpList_store_at rfl 23 _ _ rfl _ _ _ rfl rfl THz.out (by kernel_rfl) ONEz.out HVz.out ?_))
        clear hw4
        go_roundw
        case rel => exact ⟨k + 1, r.1, by omega, by go_num, HSO.out, HE.out, B6.out, Z6.out, S6.out⟩
        case measure => simp [RowKit.intOf]; omega
    · have hka : ¬ (k : Int) < (l.length : Int) := by omega
      have HE := Lib.hid (show sumR z3 l = (s, true) by rw [HS.out, List.drop_of_length_le (by omega)]; rfl)
      have RS := Lib.hid (range_box SW.out)
      obtain ⟨w6, hw6⟩ : ∃ v, wr.setCells (w.heap.size) 0 (R3 s) = v := ⟨_, rfl⟩
      have THz := Lib.hid (show wr.there (w.heap.size) 0 3 from Back.th ZW.out rfl)
      have ONEz := Lib.hid (show ((R3 s) : List Value).toArray.all (·.oneCell') = true by simp [Value.oneCell'])
      have HVz := Lib.hid hw6
      have kw6 : ∀ b, b ≠ w.heap.size → w6.heap[b]? = wr.heap[b]? := fun b hb => by rw [← hw6]; exact (Back.far (w.heap.size) (R3 s) 0 wr).2.2.2.2 b hb
      have sw6 : w6.heap.size = wr.heap.size := by rw [← hw6]; exact (Back.far (w.heap.size) (R3 s) 0 wr).2.2.2.1
      have nw6 : w6.heap[w.heap.size]? = some (.cells ((R3 s)).toArray 23 (0, 0)) := by rw [← hw6]; exact Back.st ZW.out rfl
      have Z6 := Lib.hid nw6
      have B6 := Lib.hid (show Below w.heap.size w w6 by rw [← hw6]; exact bel_set BW.out (Nat.le_refl _))
      clear kw6 sw6 nw6 hw6
      go_wp2_with (first | (refine wpList_load_mid rfl 23 _ rfl _ _ rfl _ _ RS.out Tryz.underlying23 rfl (by kernel_rfl) ?_) | (refine wpList_store_at rfl 23 _ _ rfl _ _ _ rfl rfl THz.out (by kernel_rfl) ONEz.out HVz.out ?_))
      refine bodyPost_ret (v := .tuple #[.agg (R3 s).toArray, .bool true]) (res_sum _ _ _ (R3 s) _ rfl rfl Z6.out rfl) rfl ?_
      rw [HE.out]
      exact ⟨rfl, B6.out⟩
end Re
end Go.Proofs.YtbichomjpmmjmaaGreatDoor

/-
  What comes in as resources, and as a list of resources: numbers, their places in memory. Condition: the types can be read.
-/
set_option linter.unusedVariables false
namespace Go.Proofs.YtbichomjpmmjmaaGreatDoor
open Go.ChangeShapes Go.WideShapes Go.ChangeAt Go.RowKit Go.ChangeMaps Go.Deep
namespace LawRes
open Lists LawKit Re NumMath
theorem res_fields : Tryz.prog.underlying 23 = some (.struct (Tryz.prog.fieldsOf 23)) := by kernel_rfl
theorem res_at : LawKit.fieldsB Tryz.prog (Tryz.prog.fieldsOf 23) [(0, 1, 3), (1, 1, 3), (2, 1, 3)] = true := by kernel_rfl
theorem res_cells : Tryz.prog.cellsOf 23 = 3 := by kernel_rfl
section
variable {H : Type} {enc : TypeId × Value → H} {W : World}
theorem fit_of {z : Int} (h : Sd.I64 z) : fits z = true := fits_iff.2 h
set_option maxRecDepth 100000 in
theorem trod_res {n : Nat} {c0 c1 c2 : Value} {y : DataW H × List MemPlace} (h : DataW.trod enc Tryz.prog W 0 (fun _ => true) true n 23 [c0, c1, c2] = some y) :
    ∃ x : Rx, [c0, c1, c2] = R3 x ∧ x.Ok := by
  obtain ⟨_, _, h0⟩ := trod_field res_fields res_at h (j := 0) rfl
  obtain ⟨_, _, h1⟩ := trod_field res_fields res_at h (j := 1) rfl
  obtain ⟨_, _, h2⟩ := trod_field res_fields res_at h (j := 2) rfl
  obtain ⟨z0, e0, i0⟩ := trod_i64 Tryz.underlying3 h0
  obtain ⟨z1, e1, i1⟩ := trod_i64 Tryz.underlying3 h1
  obtain ⟨z2, e2, i2⟩ := trod_i64 Tryz.underlying3 h2
  subst e0 e1 e2
  exact ⟨⟨z0, z1, z2⟩, rfl, ⟨fit_of i0, fit_of i1, fit_of i2⟩⟩
set_option maxRecDepth 100000 in
theorem came_res {base : Nat} {v : Value} {d : DataW H} {p : List MemPlace} (hv : Value.okWide Tryz.prog W .any base 23 v) (h : DataW.Trod enc Tryz.prog W 0 (fun _ => true) true 23 v d p) :
    ∃ x : Rx, v = .agg #[.int .i64 x.c, .int .i64 x.m, .int .i64 x.p] ∧ x.Ok := by
  have ht := res_fields
  obtain ⟨cs, rfl, hsz⟩ : ∃ cs, v = .agg cs ∧ cs.size = Tryz.prog.cellsOf 23 := by
    simp only [Value.okWide, ht] at hv
    obtain ⟨cs, h1, h2, _⟩ := hv
    exact ⟨cs, h1, h2⟩
  obtain ⟨l⟩ := cs
  match l, hsz.trans res_cells with
  | [c0, c1, c2], _ =>
    obtain ⟨fuel, h⟩ := h
    have e : (Value.agg #[c0, c1, c2]).cells.toList = [c0, c1, c2] := rfl
    rw [e] at h
    obtain ⟨x, e1, hx⟩ := trod_res h
    exact ⟨x, congrArg (fun q : List Value => Value.agg q.toArray) e1, hx⟩
end
end LawRes
end Go.Proofs.YtbichomjpmmjmaaGreatDoor

/-
  Nodes as plain data: the pods admitted, what is used, whose a port is, what is told of a pod that comes or goes, and what follows of these. No condition.
-/
set_option linter.unusedVariables false
set_option linter.unusedSimpArgs false
namespace Go.Proofs.YtbichomjpmmjmaaGreatDoor
open NumMath
namespace Nd
open Re
structure Pod where
  uid : Int
  ask : Rx
  ports : List Int
abbrev Pods := List Pod
def usedF (s : Rx) (l : Pods) : Rx := l.foldl (fun s x => (addR s x.ask).1) s
def usedR (l : Pods) : Rx := usedF z3 l
def ownR : Pods → Int → Int
  | [], _ => 0
  | x :: l, p => if p ∈ x.ports then x.uid else ownR l p
/-- where a pod stands; the length, if nowhere -/
def idx (u : Int) : Pods → Nat
  | [] => 0
  | x :: l => if x.uid = u then 0 else idx u l + 1
def isIn (u : Int) (l : Pods) : Bool := decide (idx u l < l.length)
/-- how many stand ahead of a pod -/
def loU (u : Int) : Pods → Nat
  | [] => 0
  | x :: l => if x.uid < u then loU u l + 1 else 0
def insP (x : Pod) (l : Pods) : Pods := l.take (loU x.uid l) ++ x :: l.drop (loU x.uid l)
def cut (u : Int) (l : Pods) : Pods := l.take (idx u l) ++ l.drop (idx u l + 1)
/-- what a spec comes to: may it be, what it asks for, its ports -/
structure Ask where
  right : Bool
  ask : Rx
  ports : List Int
def room (has : Rx) (l : Pods) (q : Ask) : Bool := (addR (usedR l) q.ask).2 && fitsR (addR (usedR l) q.ask).1 has
def anyOwn (l : Pods) (ps : List Int) : Bool := ps.any fun p => ownR l p != 0
def fitC (has : Rx) (l : Pods) (q : Ask) : Int := if q.right = false then 1 else if room has l q = false then 160 else if anyOwn l q.ports = true then 150 else 0
def admC (has : Rx) (l : Pods) (u : Int) (q : Ask) : Int := if u < 1 then 1 else if isIn u l = true then 7 else fitC has l q
def admL (has : Rx) (l : Pods) (u : Int) (q : Ask) : Pods := if admC has l u q = 0 then insP ⟨u, q.ask, q.ports⟩ l else l
def relC (l : Pods) (u : Int) : Int := if isIn u l = true then 0 else 390
theorem isIn_cons (u : Int) (x : Pod) (l : Pods) : isIn u (x :: l) = (decide (x.uid = u) || isIn u l) := by
  have e : idx u (x :: l) = if x.uid = u then 0 else idx u l + 1 := rfl
  unfold isIn
  rw [e, List.length_cons]
  by_cases h : x.uid = u
  · simp [h]
  · simp [h]
theorem idx_at : ∀ {u : Int} {l : Pods}, isIn u l = true → ∃ x, l[idx u l]? = some x ∧ x.uid = u
  | u, [], h => by simp [isIn, idx] at h
  | u, x :: l, h => by
    unfold idx
    by_cases e : x.uid = u
    · rw [if_pos e]; exact ⟨x, rfl, e⟩
    · rw [if_neg e]
      have h2 : isIn u l = true := by
        rw [isIn_cons, decide_eq_false e] at h; exact h
      obtain ⟨y, h3, h4⟩ := idx_at h2
      exact ⟨y, by simpa using h3, h4⟩
theorem isIn_iff {u : Int} {l : Pods} : isIn u l = true ↔ ∃ x ∈ l, x.uid = u := by
  constructor
  · intro h
    obtain ⟨x, h1, h2⟩ := idx_at h
    exact ⟨x, List.mem_of_getElem? h1, h2⟩
  · rintro ⟨x, hx, rfl⟩
    induction l with
    | nil => cases hx
    | cons y l ih =>
      rw [isIn_cons]
      by_cases e : y.uid = x.uid
      · rw [decide_eq_true e]; rfl
      · rw [decide_eq_false e, ih (by rcases List.mem_cons.1 hx with rfl | h; exact absurd rfl e; exact h)]; rfl
theorem notIn {u : Int} {l : Pods} (h : isIn u l = false) : ∀ x ∈ l, x.uid ≠ u := fun x hx e => by
  rw [isIn_iff.2 ⟨x, hx, e⟩] at h; exact absurd h (by decide)
theorem idx_len {u : Int} : ∀ {l : Pods}, (∀ x ∈ l, x.uid ≠ u) → idx u l = l.length
  | [], _ => rfl
  | x :: l, h => by unfold idx; rw [if_neg (h x (by simp)), idx_len fun y hy => h y (by simp [hy])]; rfl
theorem cut_none {u : Int} {l : Pods} (h : isIn u l = false) : cut u l = l := by
  unfold cut
  rw [idx_len (notIn h), List.take_length, List.drop_eq_nil_of_le (by omega), List.append_nil]
theorem cut_cons (u : Int) (x : Pod) (l : Pods) : cut u (x :: l) = if x.uid = u then l else x :: cut u l := by
  unfold cut
  conv => lhs; unfold idx
  split
  · simp
  · simp
theorem cut_perm {u : Int} : ∀ {l : Pods} {x : Pod}, l[idx u l]? = some x → l.Perm (x :: cut u l)
  | [], x, h => by simp at h
  | y :: l, x, h => by
    rw [cut_cons]
    unfold idx at h
    split at h
    · rename_i e; simp at h; subst h; rw [if_pos e]
    · rename_i e
      rw [if_neg e]
      exact (List.Perm.cons y (cut_perm (by simpa using h))).trans (List.Perm.swap _ _ _)
theorem ins_cons (x y : Pod) (l : Pods) : insP x (y :: l) = if y.uid < x.uid then y :: insP x l else x :: y :: l := by
  unfold insP
  conv => lhs; unfold loU
  split
  · simp
  · simp
theorem ins_perm (x : Pod) : ∀ (l : Pods), (insP x l).Perm (x :: l)
  | [] => by simp [insP, loU]
  | y :: l => by
    rw [ins_cons]
    split
    · exact (List.Perm.cons y (ins_perm x l)).trans (List.Perm.swap _ _ _)
    · exact List.Perm.refl _
theorem ins_length (x : Pod) (l : Pods) : (insP x l).length = l.length + 1 := by rw [(ins_perm x l).length_eq]; rfl
theorem cut_length {u : Int} {l : Pods} (h : isIn u l = true) : (cut u l).length + 1 = l.length := by
  obtain ⟨x, h1, h2⟩ := idx_at h
  rw [(cut_perm h1).length_eq]; rfl
theorem cut_le (u : Int) (l : Pods) : (cut u l).length ≤ l.length := by
  cases h : isIn u l with
  | false => rw [cut_none h]; exact Nat.le_refl _
  | true => have := cut_length h; omega
theorem mem_ins {x y : Pod} {l : Pods} : y ∈ insP x l ↔ y = x ∨ y ∈ l := by rw [(ins_perm x l).mem_iff]; simp
theorem mem_cut {u : Int} {l : Pods} {y : Pod} (h : y ∈ cut u l) : y ∈ l := by
  unfold cut at h
  rcases List.mem_append.1 h with h | h
  · exact List.mem_of_mem_take h
  · exact List.mem_of_mem_drop h
/-- a node's pods: they rise, ask for something from 0 on, all of it is there, no port is there twice -/
structure Ok (has : Rx) (l : Pods) : Prop where
  hc : 0 ≤ has.c ∧ has.c ≤ 9223372036854775807
  hm : 0 ≤ has.m ∧ has.m ≤ 9223372036854775807
  hp : 0 ≤ has.p ∧ has.p ≤ 9223372036854775807
  up : l.Pairwise fun a b => a.uid < b.uid
  one : ∀ x ∈ l, (1 ≤ x.uid ∧ x.uid ≤ 9223372036854775807) ∧ 0 ≤ x.ask.c ∧ 0 ≤ x.ask.m ∧ 0 ≤ x.ask.p ∧ ∀ p ∈ x.ports, 1 ≤ p ∧ p ≤ 65535
  tc : tot Rx.c (l.map Pod.ask) ≤ has.c
  tm : tot Rx.m (l.map Pod.ask) ≤ has.m
  tp : tot Rx.p (l.map Pod.ask) ≤ has.p
  nd : (l.flatMap Pod.ports).Nodup
structure Ask.Ok (q : Ask) : Prop where
  c : 0 ≤ q.ask.c
  m : 0 ≤ q.ask.m
  p : 0 ≤ q.ask.p
  ps : ∀ p ∈ q.ports, 1 ≤ p ∧ p ≤ 65535
  nd : q.ports.Nodup
theorem tot_perm (f : Rx → Int) {a b : List Rx} (h : a.Perm b) : tot f a = tot f b := by
  induction h with
  | nil => rfl
  | cons x _ ih => rw [tot_cons, tot_cons, ih]
  | swap x y l => rw [tot_cons, tot_cons, tot_cons, tot_cons]; omega
  | trans _ _ h1 h2 => exact h1.trans h2
theorem tot_nn {f : Rx → Int} : ∀ {l : List Rx}, (∀ x ∈ l, 0 ≤ f x) → 0 ≤ tot f l
  | [], _ => by simp [tot_nil]
  | x :: l, h => by rw [tot_cons]; have := h x (by simp); have := tot_nn (l := l) fun y hy => h y (by simp [hy]); omega
theorem used_run : ∀ (l : Pods) {s : Rx}, (∀ x ∈ l, 0 ≤ x.ask.c ∧ 0 ≤ x.ask.m ∧ 0 ≤ x.ask.p) → 0 ≤ s.c → 0 ≤ s.m → 0 ≤ s.p →
    s.c + tot Rx.c (l.map Pod.ask) ≤ 9223372036854775807 → s.m + tot Rx.m (l.map Pod.ask) ≤ 9223372036854775807 → s.p + tot Rx.p (l.map Pod.ask) ≤ 9223372036854775807 →
    usedF s l = ⟨s.c + tot Rx.c (l.map Pod.ask), s.m + tot Rx.m (l.map Pod.ask), s.p + tot Rx.p (l.map Pod.ask)⟩
  | [], s, _, _, _, _, _, _, _ => by simp [usedF, tot_nil]
  | x :: l, s, h, h1, h2, h3, h4, h5, h6 => by
    rw [List.map_cons, tot_cons] at h4 h5 h6
    obtain ⟨x1, x2, x3⟩ := h x (by simp)
    have hl : ∀ y ∈ l, 0 ≤ y.ask.c ∧ 0 ≤ y.ask.m ∧ 0 ≤ y.ask.p := fun y hy => h y (by simp [hy])
    have n1 := tot_nn (f := Rx.c) (l := l.map Pod.ask) (fun y hy => by obtain ⟨z, hz, rfl⟩ := List.mem_map.1 hy; exact (hl z hz).1)
    have n2 := tot_nn (f := Rx.m) (l := l.map Pod.ask) (fun y hy => by obtain ⟨z, hz, rfl⟩ := List.mem_map.1 hy; exact (hl z hz).2.1)
    have n3 := tot_nn (f := Rx.p) (l := l.map Pod.ask) (fun y hy => by obtain ⟨z, hz, rfl⟩ := List.mem_map.1 hy; exact (hl z hz).2.2)
    have e : usedF s (x :: l) = usedF (addR s x.ask).1 l := rfl
    rw [e, add_in ⟨h1, x1, by omega⟩ ⟨h2, x2, by omega⟩ ⟨h3, x3, by omega⟩, used_run l (s := ⟨s.c + x.ask.c, s.m + x.ask.m, s.p + x.ask.p⟩) hl (by show 0 ≤ s.c + x.ask.c; omega) (by show 0 ≤ s.m + x.ask.m; omega) (by show 0 ≤ s.p + x.ask.p; omega) (by show s.c + x.ask.c + _ ≤ _; omega) (by show s.m + x.ask.m + _ ≤ _; omega) (by show s.p + x.ask.p + _ ≤ _; omega)]
    simp only [List.map_cons, tot_cons, Int.add_assoc]
theorem Ok.used {has : Rx} {l : Pods} (h : Ok has l) : usedR l = ⟨tot Rx.c (l.map Pod.ask), tot Rx.m (l.map Pod.ask), tot Rx.p (l.map Pod.ask)⟩ := by
  have h1 := h.tc; have h2 := h.tm; have h3 := h.tp; have h4 := h.hc; have h5 := h.hm; have h6 := h.hp
  unfold usedR
  rw [used_run l (fun x hx => ⟨(h.one x hx).2.1, (h.one x hx).2.2.1, (h.one x hx).2.2.2.1⟩) (Int.le_refl _) (Int.le_refl _) (Int.le_refl _) (by show 0 + _ ≤ _; omega) (by show 0 + _ ≤ _; omega) (by show 0 + _ ≤ _; omega)]
  simp [z3]
/-- each number from 0 on and no more than there is -/
theorem Ok.within {has : Rx} {l : Pods} (h : Ok has l) : (0 ≤ (usedR l).c ∧ (usedR l).c ≤ has.c) ∧ (0 ≤ (usedR l).m ∧ (usedR l).m ≤ has.m) ∧ 0 ≤ (usedR l).p ∧ (usedR l).p ≤ has.p := by
  rw [h.used]
  have hn : ∀ y ∈ l.map Pod.ask, 0 ≤ y.c ∧ 0 ≤ y.m ∧ 0 ≤ y.p := fun y hy => by
    obtain ⟨z, hz, rfl⟩ := List.mem_map.1 hy
    exact ⟨(h.one z hz).2.1, (h.one z hz).2.2.1, (h.one z hz).2.2.2.1⟩
  exact ⟨⟨tot_nn fun y hy => (hn y hy).1, h.tc⟩, ⟨tot_nn fun y hy => (hn y hy).2.1, h.tm⟩, tot_nn fun y hy => (hn y hy).2.2, h.tp⟩
theorem Ok.used_ok {has : Rx} {l : Pods} (h : Ok has l) : (usedR l).Ok := by
  obtain ⟨h1, h2, h3⟩ := h.within
  have h4 := h.hc; have h5 := h.hm; have h6 := h.hp
  exact ⟨fits_iff.2 (by omega), fits_iff.2 (by omega), fits_iff.2 (by omega)⟩
theorem Ok.has_ok {has : Rx} {l : Pods} (h : Ok has l) : has.Ok := by
  have h4 := h.hc; have h5 := h.hm; have h6 := h.hp
  exact ⟨fits_iff.2 (by omega), fits_iff.2 (by omega), fits_iff.2 (by omega)⟩
theorem Ok.left {has : Rx} {l : Pods} (h : Ok has l) : subR has (usedR l) = (⟨has.c - (usedR l).c, has.m - (usedR l).m, has.p - (usedR l).p⟩, true) := by
  obtain ⟨h1, h2, h3⟩ := h.within
  have h4 := h.hc; have h5 := h.hm; have h6 := h.hp
  exact sub_in ⟨h1.1, h1.2, h4.2⟩ ⟨h2.1, h2.2, h5.2⟩ ⟨h3.1, h3.2, h6.2⟩
theorem Ok.new {has : Rx} (h : has.Ok) : Ok (maxR has z3) [] := by
  have h1 := fits_iff.1 h.c; have h2 := fits_iff.1 h.m; have h3 := fits_iff.1 h.p
  refine ⟨?_, ?_, ?_, .nil, fun x hx => (by cases hx), ?_, ?_, ?_, .nil⟩
  · show 0 ≤ max has.c 0 ∧ max has.c 0 ≤ _; omega
  · show 0 ≤ max has.m 0 ∧ max has.m 0 ≤ _; omega
  · show 0 ≤ max has.p 0 ∧ max has.p 0 ≤ _; omega
  · show (0 : Int) ≤ max has.c 0; omega
  · show (0 : Int) ≤ max has.m 0; omega
  · show (0 : Int) ≤ max has.p 0; omega
/-- room: the sums, plainly -/
theorem Ok.room {has : Rx} {l : Pods} (h : Ok has l) {q : Ask} (hq : q.Ok) (hr : room has l q = true) : (usedR l).c + q.ask.c ≤ has.c ∧ (usedR l).m + q.ask.m ≤ has.m ∧ (usedR l).p + q.ask.p ≤ has.p := by
  unfold Nd.room addR three at hr
  split at hr
  · simp only [Bool.true_and, fitsR_iff] at hr
    exact hr
  · simp at hr
theorem own_none : ∀ {l : Pods} {p : Int}, (∀ x ∈ l, p ∉ x.ports) → ownR l p = 0
  | [], _, _ => rfl
  | x :: l, p, h => by unfold ownR; rw [if_neg (h x (by simp)), own_none fun y hy => h y (by simp [hy])]
theorem own_mem : ∀ {l : Pods} (hd : (l.flatMap Pod.ports).Nodup) {x : Pod} (_ : x ∈ l) {p : Int} (_ : p ∈ x.ports), ownR l p = x.uid
  | [], _, x, hx, _, _ => by cases hx
  | y :: l, hd, x, hx, p, hp => by
    rw [List.flatMap_cons, List.nodup_append] at hd
    unfold ownR
    rcases List.mem_cons.1 hx with rfl | hx
    · rw [if_pos hp]
    · rw [if_neg fun h => hd.2.2 p h p (List.mem_flatMap.2 ⟨x, hx, hp⟩) rfl]
      exact own_mem hd.2.1 hx hp
theorem own_zero {l : Pods} (hu : ∀ x ∈ l, 1 ≤ x.uid) : ∀ {p : Int}, ownR l p = 0 ↔ ∀ x ∈ l, p ∉ x.ports := by
  intro p
  refine ⟨fun h => ?_, own_none⟩
  induction l with
  | nil => intro x hx; cases hx
  | cons y l ih =>
    unfold ownR at h
    split at h
    · have := hu y (by simp); omega
    · rename_i hn
      intro x hx
      rcases List.mem_cons.1 hx with rfl | hx
      · exact hn
      · exact ih (fun z hz => hu z (by simp [hz])) h x hx
theorem Ok.uids {has : Rx} {l : Pods} (h : Ok has l) : ∀ x ∈ l, 1 ≤ x.uid := fun x hx => (h.one x hx).1.1
theorem free_of {has : Rx} {l : Pods} (h : Ok has l) {ps : List Int} (ha : anyOwn l ps = false) : ∀ p ∈ ps, ∀ x ∈ l, p ∉ x.ports := fun p hp => by
  unfold anyOwn at ha
  rw [List.any_eq_false] at ha
  have := ha p hp
  exact (own_zero h.uids).1 (by simpa using this)
theorem perm_flat {a b : Pods} (h : a.Perm b) : (a.flatMap Pod.ports).Perm (b.flatMap Pod.ports) := h.flatMap_right _
theorem up_ins {x : Pod} : ∀ {l : Pods}, l.Pairwise (fun a b => a.uid < b.uid) → (∀ y ∈ l, y.uid ≠ x.uid) → (insP x l).Pairwise fun a b => a.uid < b.uid
  | [], _, _ => by simp [insP, loU]
  | y :: l, hu, h => by
    rw [ins_cons]
    rw [List.pairwise_cons] at hu
    have hy := h y (by simp)
    split
    · rename_i hlt
      refine List.pairwise_cons.2 ⟨fun z hz => ?_, up_ins hu.2 fun z hz => h z (by simp [hz])⟩
      rcases mem_ins.1 hz with rfl | hz
      · exact hlt
      · exact hu.1 z hz
    · rename_i hlt
      refine List.pairwise_cons.2 ⟨fun z hz => ?_, List.pairwise_cons.2 hu⟩
      rcases List.mem_cons.1 hz with rfl | hz
      · omega
      · have := hu.1 z hz; omega
theorem Ok.ins {has : Rx} {l : Pods} (h : Ok has l) {u : Int} (hu : 1 ≤ u ∧ u ≤ 9223372036854775807) (hi : isIn u l = false) {q : Ask} (hq : q.Ok) (hr : Nd.room has l q = true) (ha : anyOwn l q.ports = false) : Ok has (insP ⟨u, q.ask, q.ports⟩ l) := by
  obtain ⟨r1, r2, r3⟩ := h.room hq hr
  rw [h.used] at r1 r2 r3
  have hp := ins_perm ⟨u, q.ask, q.ports⟩ l
  refine ⟨h.hc, h.hm, h.hp, up_ins h.up (notIn hi), fun x hx => ?_, ?_, ?_, ?_, ?_⟩
  · rcases mem_ins.1 hx with rfl | hx
    · exact ⟨hu, hq.c, hq.m, hq.p, hq.ps⟩
    · exact h.one x hx
  · rw [tot_perm _ (hp.map _), List.map_cons, tot_cons, Int.add_comm]; exact r1
  · rw [tot_perm _ (hp.map _), List.map_cons, tot_cons, Int.add_comm]; exact r2
  · rw [tot_perm _ (hp.map _), List.map_cons, tot_cons, Int.add_comm]; exact r3
  · rw [(perm_flat hp).nodup_iff, List.flatMap_cons, List.nodup_append]
    refine ⟨hq.nd, h.nd, fun a ha' b hb e => ?_⟩
    subst e
    obtain ⟨x, hx, hax⟩ := List.mem_flatMap.1 hb
    exact free_of h ha a ha' x hx hax
theorem Ok.cut {has : Rx} {l : Pods} (h : Ok has l) (u : Int) : Ok has (cut u l) := by
  cases hi : isIn u l with
  | false => rw [cut_none hi]; exact h
  | true =>
    obtain ⟨x, h1, h2⟩ := idx_at hi
    have hp := cut_perm h1
    have hx := h.one x (List.mem_of_getElem? h1)
    have t1 := h.tc; have t2 := h.tm; have t3 := h.tp
    rw [tot_perm _ (hp.map _), List.map_cons, tot_cons] at t1 t2 t3
    have hn := h.nd
    rw [(perm_flat hp).nodup_iff, List.flatMap_cons, List.nodup_append] at hn
    refine ⟨h.hc, h.hm, h.hp, ?_, fun y hy => h.one y (mem_cut hy), by omega, by omega, by omega, hn.2.1⟩
    have : (Nd.cut u l).Sublist l := by
      unfold Nd.cut
      conv => rhs; rw [← List.take_append_drop (idx u l) l]
      exact List.Sublist.append (List.Sublist.refl _) (List.drop_sublist_drop_left _ (by omega))
    exact h.up.sublist this
/-- whose a port is, when a pod came -/
theorem own_ins {x : Pod} : ∀ {l : Pods}, (∀ p ∈ x.ports, ∀ y ∈ l, p ∉ y.ports) → ∀ p, ownR (insP x l) p = if p ∈ x.ports then x.uid else ownR l p
  | [], _, p => by simp [insP, loU, ownR]
  | y :: l, h, p => by
    rw [ins_cons]
    split
    · unfold ownR
      rw [own_ins (fun q hq z hz => h q hq z (by simp [hz])) p]
      by_cases hp : p ∈ x.ports
      · rw [if_neg (h p hp y (by simp)), if_pos hp, if_pos hp]
      · rw [if_neg hp, if_neg hp]
    · rfl
theorem own_cons {x : Pod} {l : Pods} {p : Int} : ownR (x :: l) p = if p ∈ x.ports then x.uid else ownR l p := rfl
theorem own_in : ∀ {l : Pods} {p : Int}, ownR l p = 0 ∨ ∃ x ∈ l, ownR l p = x.uid
  | [], _ => .inl rfl
  | x :: l, p => by
    rw [own_cons]
    split
    · exact .inr ⟨x, by simp, rfl⟩
    · rcases own_in (l := l) (p := p) with h | ⟨y, hy, h⟩
      · exact .inl h
      · exact .inr ⟨y, by simp [hy], h⟩
/-- whose a port is, when a pod went -/
theorem own_cut {u : Int} (hu : u ≠ 0) : ∀ {l : Pods}, l.Pairwise (fun a b => a.uid < b.uid) → (l.flatMap Pod.ports).Nodup → ∀ p, ownR (cut u l) p = if ownR l p = u then 0 else ownR l p
  | [], _, _, p => by
    show (0 : Int) = if (0 : Int) = u then 0 else 0
    split <;> rfl
  | y :: l, hp, hd, p => by
    rw [List.pairwise_cons] at hp
    rw [List.flatMap_cons, List.nodup_append] at hd
    rw [cut_cons]
    split
    · rename_i e
      have hl : ownR l p ≠ u := by
        rcases own_in (l := l) (p := p) with h | ⟨z, hz, h⟩
        · rw [h]; exact fun h => hu h.symm
        · rw [h]; have := hp.1 z hz; omega
      rw [own_cons]
      by_cases hm : p ∈ y.ports
      · rw [if_pos hm, if_pos e]
        exact own_none fun z hz hpz => hd.2.2 p hm p (List.mem_flatMap.2 ⟨z, hz, hpz⟩) rfl
      · rw [if_neg hm, if_neg hl]
    · rename_i e
      rw [own_cons, own_cons, own_cut hu hp.2 hd.2.1 p]
      by_cases hm : p ∈ y.ports
      · rw [if_pos hm, if_pos hm, if_neg e]
      · rw [if_neg hm, if_neg hm]
end Nd
end Go.Proofs.YtbichomjpmmjmaaGreatDoor
