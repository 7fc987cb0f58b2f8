/-
  ResTurns (14.3): a sum of numbers from 0 to 2^55 is the same turned round, and from any place on; what was added is taken away again. Conditions: the numbers are 64-bit integers; strconv's table of powers holds what the program's text lays.
-/
import Derived.Test.YtpllcnpmjnmcfaaDoorResRow
import Derived.Test.YtpllcnpmjnmcfaaDoorResWorks
import Derived.Test.YtpllcnpmjnmcfaaDoorBookBelow
import Derived.Deep.QuietTactic
import Derived.Great.BuildSlice
import Derived.LoopN
import Derived.Deep.DeepCutAuto
set_option linter.unusedVariables false
set_option linter.unusedSimpArgs false
namespace Go.Proofs.YtpllcnpmjnmcfaaDoor
open Go.ChangeShapes Go.WideShapes Go.ChangeAt Go.RowKit Go.Lib
open NumMath
namespace Re
namespace ResTurnsWalk
theorem lt_of_range {w : World} {b o : Nat} {x : Rx} (h : w.rangeAt b o (R3 x)) : b < w.heap.size := World.block_lt_of_cell? w _ (h 0 _ rfl)
theorem own_stay {w v : World} {base n : Nat} {u : Value} {xs : List Value} (h : w.ownsRow base 23 3 u n xs) (hb : Below w.heap.size w v) : v.ownsRow base 23 3 u n xs := by
  obtain ⟨h1, h2⟩ := h
  refine ⟨h1, ?_⟩
  rcases h2 with h2 | ⟨g, cap, cur, e, e1, hg, e2⟩
  · exact .inl h2
  · exact .inr ⟨g, cap, cur, e, e1, (hb.block g (lt_of_at hg)).trans hg, e2⟩
theorem run_build_res (x : Rx) (w : World) : (Instr.buildSlice 30 1 #[(0, .agg #[.int .i64 x.c, .int .i64 x.m, .int .i64 x.p])]).run Tryd.prog w = .ok (.slice (some ⟨w.heap.size, 0, none⟩) 1 1) (w.alloc (.cells #[.int .i64 x.c, .int .i64 x.m, .int .i64 x.p] 23)) := by
  obtain ⟨ie, hie, hz, hs, _⟩ := res_info
  refine run_buildSlice w _ _ 1 _ _ ie _ Tryd.underlying30 hie hz (by rw [hs]; decide) (by rw [hs]; decide) ?_
  rw [hs]
  rw [show (Array.range (1 * 3)).map ((Value.agg #[.int .i64 0, .int .i64 0, .int .i64 0]).cells[· % (Value.agg #[.int .i64 0, .int .i64 0, .int .i64 0]).cells.size]!) = #[.int .i64 0, .int .i64 0, .int .i64 0] by kernel_rfl]
  simp [Instr.fill, Value.cells]
theorem wpList_build_res {ops : Array Oper} {rest : List Oper} {op : Oper} {a : Act} {w v : World} {Q : Exit → Act → World → Prop} (hgd : op.guard = none) (y : Operand) (ho : op.op = .buildSlice 30 1 #[(0, y)]) (x : Rx) (hx : a.eval y = .agg #[.int .i64 x.c, .int .i64 x.m, .int .i64 x.p]) (hv : w.alloc (.cells #[.int .i64 x.c, .int .i64 x.m, .int .i64 x.p] 23) = v)
    (h : wpList Tryd.prog ops Q rest (a.put op.dst (.slice (some ⟨w.heap.size, 0, none⟩) 1 1)) v) : wpList Tryd.prog ops Q (op :: rest) a w := by
  refine wpList_plain hgd fun K hK => ?_
  have hrun := run_build_res x w
  subst hv
  unfold Oper.wp
  simp [execOp, ho, hx, hrun, Result.andThen]
  exact hK _ _ h
theorem turns_plain {l : List Rx} (h : ∀ x ∈ l, In 36028797018963968 x) (hn : l.length ≤ 100) (k : Nat) : ∃ a x y : Rx, a.Ok ∧ x.Ok ∧ y.Ok ∧ sumR z3 l = (a, true) ∧ sumR z3 l.reverse = (a, true) ∧ sumR z3 (l.take k) = (x, true) ∧ sumR z3 (l.drop k) = (y, true) ∧ addR x y = (a, true) ∧ subR a y = (x, true) ∧ fitsR x a = true := by
  have ht : ∀ x ∈ l.take k, In 36028797018963968 x := fun x hx => h x (List.mem_of_mem_take hx)
  have hd : ∀ x ∈ l.drop k, In 36028797018963968 x := fun x hx => h x (List.mem_of_mem_drop hx)
  have hr : ∀ x ∈ l.reverse, In 36028797018963968 x := fun x hx => h x (List.mem_reverse.1 hx)
  have lt : (l.take k).length ≤ 100 := by rw [List.length_take]; omega
  have ld : (l.drop k).length ≤ 100 := by rw [List.length_drop]; omega
  have b1 := tot_le (k := 36028797018963968) (by decide) h
  have b2 := tot_le (k := 36028797018963968) (by decide) ht
  have b3 := tot_le (k := 36028797018963968) (by decide) hd
  have sp : ∀ f, tot f l = tot f (l.take k) + tot f (l.drop k) := fun f => by rw [← tot_append, List.take_append_drop]
  have s1 := sp Rx.c; have s2 := sp Rx.m; have s3 := sp Rx.p
  have S1 := sum_z (k := 36028797018963968) (by decide) h (by omega)
  have S2 := sum_z (k := 36028797018963968) (by decide) hr (by rw [List.length_reverse]; omega)
  have S3 := sum_z (k := 36028797018963968) (by decide) ht (by omega)
  have S4 := sum_z (k := 36028797018963968) (by decide) hd (by omega)
  rw [tot_reverse, tot_reverse, tot_reverse] at S2
  have ok1 := (S1 ▸ sum_ok l z3_ok : Rx.Ok _)
  have ok2 := (S3 ▸ sum_ok (l.take k) z3_ok : Rx.Ok _)
  have ok3 := (S4 ▸ sum_ok (l.drop k) z3_ok : Rx.Ok _)
  refine ⟨_, _, _, ok1, ok2, ok3, S1, S2, S3, S4, ?_, ?_, ?_⟩
  · rw [add_in (by dsimp only; omega) (by dsimp only; omega) (by dsimp only; omega), s1, s2, s3]
  · rw [sub_in (by dsimp only; omega) (by dsimp only; omega) (by dsimp only; omega)]
    dsimp only
    rw [show tot Rx.c l - tot Rx.c (l.drop k) = tot Rx.c (l.take k) by omega, show tot Rx.m l - tot Rx.m (l.drop k) = tot Rx.m (l.take k) by omega, show tot Rx.p l - tot Rx.p (l.drop k) = tot Rx.p (l.take k) by omega]
  · exact fitsR_iff.2 ⟨by dsimp only; omega, by dsimp only; omega, by dsimp only; omega⟩
theorem ress_take {w : World} {A : Option Addr} {l : List Rx} (h : Ress w A l) (k : Nat) : Ress w A (l.take k) := fun i x hx => by
  have hi : i < (l.take k).length := (List.getElem?_eq_some_iff.1 hx).1
  rw [List.length_take] at hi
  rw [List.getElem?_take_of_lt (by omega)] at hx
  exact h i x hx
theorem ress_drop {w : World} {r o : Nat} {l : List Rx} (h : Ress w (some ⟨r, o, none⟩) l) (k : Nat) : Ress w (some ⟨r, o + k * 3, none⟩) (l.drop k) := fun i x hx => by
  rw [List.getElem?_drop] at hx
  obtain ⟨h1, r', o', e, h2, h3⟩ := h _ x hx
  injection e with e
  injection e with e1 e2
  subst e1 e2
  refine ⟨h1, _, _, rfl, h2, ?_⟩
  rw [show o + k * 3 + i * 3 = o + (k + i) * 3 by omega]
  exact h3
set_option maxRecDepth 100000 in
set_option maxHeartbeats 4000000 in
theorem walk (A : Option Addr) (c : Nat) (l : List Rx) (at_ : Int) (hc : l.length ≤ c) (hc2 : c ≤ 9223372036854775807) (w : World) (hT : NumText.Tab w) (hR : Ress w A l) : Calls Tryd.prog 5 #[.slice A l.length c, .int .i64 at_] w fun e w' => e = .returned (.bool true) ∧ Below w.heap.size w w' := by
  have HT := Lib.hid hT
  have HR := Lib.hid hR
  clear hT hR
  have HW := Lib.hid (fun u (h : NumText.Tab u) => works_any u h)
  by_cases hn : 100 < l.length
  · obtain ⟨n, hn0⟩ : ∃ n, l.length = n := ⟨_, rfl⟩
    rw [hn0] at hn hc ⊢
    clear HR hn0
    go_enter Tryd.func5, Tryd.ntmps5
    go_wp2_with fail
    refine (HW.out _ HT.out).mono ?_
    rintro e w1 ⟨rfl, hb⟩
    go_wp2_with fail
    go_ret
    exact ⟨rfl, hb⟩
  by_cases h0 : l.length = 0
  · rw [h0] at hc ⊢
    clear HR hn
    go_enter Tryd.func5, Tryd.ntmps5
    go_wp2_with fail
    refine (HW.out _ HT.out).mono ?_
    rintro e w1 ⟨rfl, hb⟩
    go_wp2_with fail
    go_ret
    exact ⟨rfl, hb⟩
  obtain ⟨r, o, rfl⟩ : ∃ r o, A = some ⟨r, o, none⟩ := by
    obtain ⟨x, hx⟩ : ∃ x, l[0]? = some x := ⟨_, List.getElem?_eq_getElem (by omega)⟩
    obtain ⟨_, r, o, e, _⟩ := HR.out 0 x hx
    exact ⟨r, o, e⟩
  obtain ⟨n, hn0⟩ : ∃ n, l.length = n := ⟨_, rfl⟩
  rw [hn0] at hn h0 hc ⊢
  have HN := Lib.hid hn0
  clear hn0
  go_enter Tryd.func5, Tryd.ntmps5
  go_wp2_with fail
  refine (HW.out _ HT.out).mono ?_
  rintro e wk ⟨rfl, hb1⟩
  have B1 := Lib.hid hb1
  have hbs := hb1.size
  clear hb1 HW
  have hn100 : decide ((100 : Int) < (n : Int)) = false := decide_eq_false (by omega)
  have hn00 : ((n : Int) == 0) = false := by simp; omega
  go_wp2_with fail
  go_loopw [5, 6] (fun v i wr => ∃ (j m : Nat) (A' : Option Addr) (c' : Nat), j + m = n ∧ v = .slice A' m c' ∧ i = .int .i64 ((j : Int) - 1) ∧ Hid (wr.ownsRow w.heap.size 23 3 (.slice A' m c') m (flatR (l.drop j).reverse)) ∧ Hid (∀ x ∈ l.drop j, smallB x = true) ∧ Hid (Below w.heap.size w wr)) (fun v i _ => (RowKit.intOf i + 1).toNat)
  case atStart =>
    refine ⟨n, 0, none, 0, by omega, rfl, by go_num, ?_, ?_, B1.out⟩
    · rw [List.drop_of_length_le (by rw [HN.out]; omega)]; exact World.ownsRow_nil _ _ _ _
    · rw [List.drop_of_length_le (by rw [HN.out]; omega)]; exact fun x hx => by cases hx
  case round =>
    obtain ⟨j, m, A', c', hjm, rfl, rfl, HO, HS, BW⟩ := hrel
    by_cases hj : j = 0
    · subst hj
      have hm : m = n := by omega
      subst hm
      have TW := Lib.hid (ress_own HO.out (by rw [List.length_reverse, List.length_drop, HN.out]; omega) (fun y hy => (small_in (HS.out y (List.mem_reverse.1 hy))).ok (by decide)))
      have HI := Lib.hid (fun y hy => small_in (HS.out y hy) : ∀ y ∈ l, In 36028797018963968 y)
      clear HO HS hjm
      have B := Lib.hid BW.out
      clear BW
      go_wp2_with fail
      refine (Book.below_any at_ m (by omega) (by omega) wr).mono ?_
      rintro e w' ⟨⟨k, hk, rfl⟩, rfl⟩
      obtain ⟨a, x, y, hao, hxo, hyo, s1, s2, s3, s4, s5, s6, s7⟩ := turns_plain HI.out (by rw [HN.out]; omega) k
      have C1 := Lib.hid (fun u (h : Ress u (some ⟨r, o, none⟩) l) => sum_any (some ⟨r, o, none⟩) c l (by rw [HN.out]; omega) u h)
      have C2 := Lib.hid (fun u (h : Ress u A' l.reverse) => sum_any A' c' l.reverse (by rw [List.length_reverse, HN.out]; omega) u h)
      have C3 := Lib.hid (fun u (h : Ress u (some ⟨r, o, none⟩) (l.take k)) => sum_any (some ⟨r, o, none⟩) c (l.take k) (by rw [List.length_take, HN.out]; omega) u h)
      have C4 := Lib.hid (fun u (h : Ress u (some ⟨r, o + k * 3, none⟩) (l.drop k)) => sum_any (some ⟨r, o + k * 3, none⟩) (c - k) (l.drop k) (by rw [List.length_drop, HN.out]; omega) u h)
      have C5 := Lib.hid (fun u => add_any x y hxo hyo u)
      have C6 := Lib.hid (fun u => sub_any a y hao hyo u)
      have C7 := Lib.hid (fun u => fits_any x a u)
      simp only [s1, HN.out] at C1
      simp only [s2, List.length_reverse, HN.out] at C2
      simp only [s3, List.length_take, HN.out, Nat.min_eq_left (Nat.le_of_lt hk)] at C3
      simp only [s4, List.length_drop, HN.out] at C4
      rw [s5] at C5
      rw [s6] at C6
      rw [s7] at C7
      have ek := at_three r o k
      have hEa : ∀ v, (binOp BinOp.eql 23 (.agg #[.int .i64 a.c, .int .i64 a.m, .int .i64 a.p]) (.agg #[.int .i64 a.c, .int .i64 a.m, .int .i64 a.p])).run Tryd.prog v = .ok (.bool true) v := fun v => by rw [eql_res, eqR_self]
      have hEx : ∀ v, (binOp BinOp.eql 23 (.agg #[.int .i64 x.c, .int .i64 x.m, .int .i64 x.p]) (.agg #[.int .i64 x.c, .int .i64 x.m, .int .i64 x.p])).run Tryd.prog v = .ok (.bool true) v := fun v => by rw [eql_res, eqR_self]
      clear s1 s2 s3 s4 s5 s6 s7 hao hxo hyo HI hn hn100 h0 hn00
      have hkm : (k : Int) < (m : Int) := by omega
      have hk0 : (0 : Int) ≤ (k : Int) := by omega
      have hkc : (k : Int) ≤ (c : Int) := by omega
      have hkc2 : ¬ (k : Int) = (c : Int) := by omega
      have hmc : (m : Int) ≤ (c : Int) := by omega
      go_wp2_with fail
      refine (C1.out _ (HR.out.below B.out)).mono ?_
      rintro e w1 ⟨rfl, hb1⟩
      obtain ⟨u1, hu1⟩ : ∃ v, w1.alloc (.cells #[.int .i64 0, .int .i64 0, .int .i64 0] 23) = v := ⟨_, rfl⟩
      have ZB := Lib.hid (show u1.heap[w1.heap.size]? = some (.cells #[.int .i64 0, .int .i64 0, .int .i64 0] 23 (0, 0)) by rw [← hu1]; exact heap_alloc_new _ _)
      have BU := Lib.hid (show Below w1.heap.size w1 u1 by rw [← hu1]; exact (Below.refl _ _).alloc (Nat.le_refl _) _)
      obtain ⟨v1, hv1⟩ : ∃ v, u1.setCells (w1.heap.size) 0 (R3 a) = v := ⟨_, rfl⟩
      have THz := Lib.hid (show u1.there (w1.heap.size) 0 3 from Back.th ZB.out rfl)
      have ONEz := Lib.hid (show ((R3 a) : List Value).toArray.all (·.oneCell') = true by simp [Value.oneCell'])
      have HVz := Lib.hid hv1
      have NX := Lib.hid (show v1.heap[w1.heap.size]? = some (.cells ((R3 a) : List Value).toArray 23 (0, 0)) by rw [← hv1]; exact Back.st ZB.out rfl)
      have BV := Lib.hid (show Below w1.heap.size w1 v1 by rw [← hv1]; exact bel_set BU.out (Nat.le_refl _))
      have BH := hb1.trans (BV.out.mono hb1.size)
      clear hv1
      have NT := Lib.hid (TW.out.below BH)
      clear TW
      have TW := Lib.hid NT.out
      clear NT
      have NB := Lib.hid (B.out.trans (BH.mono B.out.size))
      clear B 
      have B := Lib.hid NB.out
      clear NB 
      have X1 := Lib.hid NX.out
      have RX1 := Lib.hid (range_box (cs := (R3 a)) X1.out)
      clear BH BV NX ZB BU hb1
      go_wp2_with (first | (refine wpList_store_at rfl 23 _ _ rfl _ _ _ rfl rfl THz.out (by kernel_rfl) ONEz.out HVz.out ?_))
      refine (C2.out _ TW.out).mono ?_
      rintro e w2 ⟨rfl, hb2⟩
      obtain ⟨u2, hu2⟩ : ∃ v, w2.alloc (.cells #[.int .i64 0, .int .i64 0, .int .i64 0] 23) = v := ⟨_, rfl⟩
      have ZB := Lib.hid (show u2.heap[w2.heap.size]? = some (.cells #[.int .i64 0, .int .i64 0, .int .i64 0] 23 (0, 0)) by rw [← hu2]; exact heap_alloc_new _ _)
      have BU := Lib.hid (show Below w2.heap.size w2 u2 by rw [← hu2]; exact (Below.refl _ _).alloc (Nat.le_refl _) _)
      obtain ⟨v2, hv2⟩ : ∃ v, u2.setCells (w2.heap.size) 0 (R3 a) = v := ⟨_, rfl⟩
      have THz := Lib.hid (show u2.there (w2.heap.size) 0 3 from Back.th ZB.out rfl)
      have ONEz := Lib.hid (show ((R3 a) : List Value).toArray.all (·.oneCell') = true by simp [Value.oneCell'])
      have HVz := Lib.hid hv2
      have NX := Lib.hid (show v2.heap[w2.heap.size]? = some (.cells ((R3 a) : List Value).toArray 23 (0, 0)) by rw [← hv2]; exact Back.st ZB.out rfl)
      have BV := Lib.hid (show Below w2.heap.size w2 v2 by rw [← hv2]; exact bel_set BU.out (Nat.le_refl _))
      have BH := hb2.trans (BV.out.mono hb2.size)
      clear hv2
      have NX1 := Lib.hid ((BH.block _ (lt_of_at X1.out)).trans X1.out)
      have NB := Lib.hid (B.out.trans (BH.mono B.out.size))
      clear B X1 RX1
      have X1 := Lib.hid NX1.out
      have RX1 := Lib.hid (range_box (cs := (R3 a)) X1.out)
      have B := Lib.hid NB.out
      clear NB NX1
      have X2 := Lib.hid NX.out
      have RX2 := Lib.hid (range_box (cs := (R3 a)) X2.out)
      clear BH BV NX ZB BU hb2
      clear TW
      go_wp2_with (first | (refine wpList_store_at rfl 23 _ _ rfl _ _ _ rfl rfl THz.out (by kernel_rfl) ONEz.out HVz.out ?_))
      refine (C3.out _ (ress_take (HR.out.below B.out) k)).mono ?_
      rintro e w3 ⟨rfl, hb3⟩
      obtain ⟨u3, hu3⟩ : ∃ v, w3.alloc (.cells #[.int .i64 0, .int .i64 0, .int .i64 0] 23) = v := ⟨_, rfl⟩
      have ZB := Lib.hid (show u3.heap[w3.heap.size]? = some (.cells #[.int .i64 0, .int .i64 0, .int .i64 0] 23 (0, 0)) by rw [← hu3]; exact heap_alloc_new _ _)
      have BU := Lib.hid (show Below w3.heap.size w3 u3 by rw [← hu3]; exact (Below.refl _ _).alloc (Nat.le_refl _) _)
      obtain ⟨v3, hv3⟩ : ∃ v, u3.setCells (w3.heap.size) 0 (R3 x) = v := ⟨_, rfl⟩
      have THz := Lib.hid (show u3.there (w3.heap.size) 0 3 from Back.th ZB.out rfl)
      have ONEz := Lib.hid (show ((R3 x) : List Value).toArray.all (·.oneCell') = true by simp [Value.oneCell'])
      have HVz := Lib.hid hv3
      have NX := Lib.hid (show v3.heap[w3.heap.size]? = some (.cells ((R3 x) : List Value).toArray 23 (0, 0)) by rw [← hv3]; exact Back.st ZB.out rfl)
      have BV := Lib.hid (show Below w3.heap.size w3 v3 by rw [← hv3]; exact bel_set BU.out (Nat.le_refl _))
      have BH := hb3.trans (BV.out.mono hb3.size)
      clear hv3
      have NX1 := Lib.hid ((BH.block _ (lt_of_at X1.out)).trans X1.out)
      have NX2 := Lib.hid ((BH.block _ (lt_of_at X2.out)).trans X2.out)
      have NB := Lib.hid (B.out.trans (BH.mono B.out.size))
      clear B X1 RX1 X2 RX2
      have X1 := Lib.hid NX1.out
      have RX1 := Lib.hid (range_box (cs := (R3 a)) X1.out)
      have X2 := Lib.hid NX2.out
      have RX2 := Lib.hid (range_box (cs := (R3 a)) X2.out)
      have B := Lib.hid NB.out
      clear NB NX1 NX2
      have X3 := Lib.hid NX.out
      have RX3 := Lib.hid (range_box (cs := (R3 x)) X3.out)
      clear BH BV NX ZB BU hb3
      go_wp2_with (first | (refine wpList_store_at rfl 23 _ _ rfl _ _ _ rfl rfl THz.out (by kernel_rfl) ONEz.out HVz.out ?_))
      refine (C4.out _ (ress_drop (HR.out.below B.out) k)).mono ?_
      rintro e w4 ⟨rfl, hb4⟩
      obtain ⟨u4, hu4⟩ : ∃ v, w4.alloc (.cells #[.int .i64 0, .int .i64 0, .int .i64 0] 23) = v := ⟨_, rfl⟩
      have ZB := Lib.hid (show u4.heap[w4.heap.size]? = some (.cells #[.int .i64 0, .int .i64 0, .int .i64 0] 23 (0, 0)) by rw [← hu4]; exact heap_alloc_new _ _)
      have BU := Lib.hid (show Below w4.heap.size w4 u4 by rw [← hu4]; exact (Below.refl _ _).alloc (Nat.le_refl _) _)
      obtain ⟨v4, hv4⟩ : ∃ v, u4.setCells (w4.heap.size) 0 (R3 y) = v := ⟨_, rfl⟩
      have THz := Lib.hid (show u4.there (w4.heap.size) 0 3 from Back.th ZB.out rfl)
      have ONEz := Lib.hid (show ((R3 y) : List Value).toArray.all (·.oneCell') = true by simp [Value.oneCell'])
      have HVz := Lib.hid hv4
      have NX := Lib.hid (show v4.heap[w4.heap.size]? = some (.cells ((R3 y) : List Value).toArray 23 (0, 0)) by rw [← hv4]; exact Back.st ZB.out rfl)
      have BV := Lib.hid (show Below w4.heap.size w4 v4 by rw [← hv4]; exact bel_set BU.out (Nat.le_refl _))
      have BH := hb4.trans (BV.out.mono hb4.size)
      clear hv4
      have NX1 := Lib.hid ((BH.block _ (lt_of_at X1.out)).trans X1.out)
      have NX2 := Lib.hid ((BH.block _ (lt_of_at X2.out)).trans X2.out)
      have NX3 := Lib.hid ((BH.block _ (lt_of_at X3.out)).trans X3.out)
      have NB := Lib.hid (B.out.trans (BH.mono B.out.size))
      clear B X1 RX1 X2 RX2 X3 RX3
      have X1 := Lib.hid NX1.out
      have RX1 := Lib.hid (range_box (cs := (R3 a)) X1.out)
      have X2 := Lib.hid NX2.out
      have RX2 := Lib.hid (range_box (cs := (R3 a)) X2.out)
      have X3 := Lib.hid NX3.out
      have RX3 := Lib.hid (range_box (cs := (R3 x)) X3.out)
      have B := Lib.hid NB.out
      clear NB NX1 NX2 NX3
      have X4 := Lib.hid NX.out
      have RX4 := Lib.hid (range_box (cs := (R3 y)) X4.out)
      clear BH BV NX ZB BU hb4
      go_wp2_with (first | (refine wpList_store_at rfl 23 _ _ rfl _ _ _ rfl rfl THz.out (by kernel_rfl) ONEz.out HVz.out ?_) | (refine wpList_load_mid rfl 23 _ rfl _ _ rfl _ _ RX3.out Tryd.underlying23 rfl (by kernel_rfl) ?_) | (refine wpList_load_mid rfl 23 _ rfl _ _ rfl _ _ RX4.out Tryd.underlying23 rfl (by kernel_rfl) ?_))
      refine (C5.out _).mono ?_
      rintro e w5 ⟨rfl, hb5⟩
      obtain ⟨u5, hu5⟩ : ∃ v, w5.alloc (.cells #[.int .i64 0, .int .i64 0, .int .i64 0] 23) = v := ⟨_, rfl⟩
      have ZB := Lib.hid (show u5.heap[w5.heap.size]? = some (.cells #[.int .i64 0, .int .i64 0, .int .i64 0] 23 (0, 0)) by rw [← hu5]; exact heap_alloc_new _ _)
      have BU := Lib.hid (show Below w5.heap.size w5 u5 by rw [← hu5]; exact (Below.refl _ _).alloc (Nat.le_refl _) _)
      obtain ⟨v5, hv5⟩ : ∃ v, u5.setCells (w5.heap.size) 0 (R3 a) = v := ⟨_, rfl⟩
      have THz := Lib.hid (show u5.there (w5.heap.size) 0 3 from Back.th ZB.out rfl)
      have ONEz := Lib.hid (show ((R3 a) : List Value).toArray.all (·.oneCell') = true by simp [Value.oneCell'])
      have HVz := Lib.hid hv5
      have NX := Lib.hid (show v5.heap[w5.heap.size]? = some (.cells ((R3 a) : List Value).toArray 23 (0, 0)) by rw [← hv5]; exact Back.st ZB.out rfl)
      have BV := Lib.hid (show Below w5.heap.size w5 v5 by rw [← hv5]; exact bel_set BU.out (Nat.le_refl _))
      have BH := hb5.trans (BV.out.mono hb5.size)
      clear hv5
      have NX1 := Lib.hid ((BH.block _ (lt_of_at X1.out)).trans X1.out)
      have NX2 := Lib.hid ((BH.block _ (lt_of_at X2.out)).trans X2.out)
      have NX3 := Lib.hid ((BH.block _ (lt_of_at X3.out)).trans X3.out)
      have NX4 := Lib.hid ((BH.block _ (lt_of_at X4.out)).trans X4.out)
      have NB := Lib.hid (B.out.trans (BH.mono B.out.size))
      clear B X1 RX1 X2 RX2 X3 RX3 X4 RX4
      have X1 := Lib.hid NX1.out
      have RX1 := Lib.hid (range_box (cs := (R3 a)) X1.out)
      have X2 := Lib.hid NX2.out
      have RX2 := Lib.hid (range_box (cs := (R3 a)) X2.out)
      have X3 := Lib.hid NX3.out
      have RX3 := Lib.hid (range_box (cs := (R3 x)) X3.out)
      have X4 := Lib.hid NX4.out
      have RX4 := Lib.hid (range_box (cs := (R3 y)) X4.out)
      have B := Lib.hid NB.out
      clear NB NX1 NX2 NX3 NX4
      have X5 := Lib.hid NX.out
      have RX5 := Lib.hid (range_box (cs := (R3 a)) X5.out)
      clear BH BV NX ZB BU hb5
      go_wp2_with (first | (refine wpList_store_at rfl 23 _ _ rfl _ _ _ rfl rfl THz.out (by kernel_rfl) ONEz.out HVz.out ?_) | (refine wpList_load_mid rfl 23 _ rfl _ _ rfl _ _ RX1.out Tryd.underlying23 rfl (by kernel_rfl) ?_) | (refine wpList_load_mid rfl 23 _ rfl _ _ rfl _ _ RX4.out Tryd.underlying23 rfl (by kernel_rfl) ?_))
      refine (C6.out _).mono ?_
      rintro e w6 ⟨rfl, hb6⟩
      obtain ⟨u6, hu6⟩ : ∃ v, w6.alloc (.cells #[.int .i64 0, .int .i64 0, .int .i64 0] 23) = v := ⟨_, rfl⟩
      have ZB := Lib.hid (show u6.heap[w6.heap.size]? = some (.cells #[.int .i64 0, .int .i64 0, .int .i64 0] 23 (0, 0)) by rw [← hu6]; exact heap_alloc_new _ _)
      have BU := Lib.hid (show Below w6.heap.size w6 u6 by rw [← hu6]; exact (Below.refl _ _).alloc (Nat.le_refl _) _)
      obtain ⟨v6, hv6⟩ : ∃ v, u6.setCells (w6.heap.size) 0 (R3 x) = v := ⟨_, rfl⟩
      have THz := Lib.hid (show u6.there (w6.heap.size) 0 3 from Back.th ZB.out rfl)
      have ONEz := Lib.hid (show ((R3 x) : List Value).toArray.all (·.oneCell') = true by simp [Value.oneCell'])
      have HVz := Lib.hid hv6
      have NX := Lib.hid (show v6.heap[w6.heap.size]? = some (.cells ((R3 x) : List Value).toArray 23 (0, 0)) by rw [← hv6]; exact Back.st ZB.out rfl)
      have BV := Lib.hid (show Below w6.heap.size w6 v6 by rw [← hv6]; exact bel_set BU.out (Nat.le_refl _))
      have BH := hb6.trans (BV.out.mono hb6.size)
      clear hv6
      have NX1 := Lib.hid ((BH.block _ (lt_of_at X1.out)).trans X1.out)
      have NX2 := Lib.hid ((BH.block _ (lt_of_at X2.out)).trans X2.out)
      have NX3 := Lib.hid ((BH.block _ (lt_of_at X3.out)).trans X3.out)
      have NX4 := Lib.hid ((BH.block _ (lt_of_at X4.out)).trans X4.out)
      have NX5 := Lib.hid ((BH.block _ (lt_of_at X5.out)).trans X5.out)
      have NB := Lib.hid (B.out.trans (BH.mono B.out.size))
      clear B X1 RX1 X2 RX2 X3 RX3 X4 RX4 X5 RX5
      have X1 := Lib.hid NX1.out
      have RX1 := Lib.hid (range_box (cs := (R3 a)) X1.out)
      have X2 := Lib.hid NX2.out
      have RX2 := Lib.hid (range_box (cs := (R3 a)) X2.out)
      have X3 := Lib.hid NX3.out
      have RX3 := Lib.hid (range_box (cs := (R3 x)) X3.out)
      have X4 := Lib.hid NX4.out
      have RX4 := Lib.hid (range_box (cs := (R3 y)) X4.out)
      have X5 := Lib.hid NX5.out
      have RX5 := Lib.hid (range_box (cs := (R3 a)) X5.out)
      have B := Lib.hid NB.out
      clear NB NX1 NX2 NX3 NX4 NX5
      have X6 := Lib.hid NX.out
      have RX6 := Lib.hid (range_box (cs := (R3 x)) X6.out)
      clear BH BV NX ZB BU hb6
      have c10 := cell_of X1.out 0 (v := .int .i64 a.c) rfl
      have c11 := cell_of X1.out 1 (v := .int .i64 a.m) rfl
      have c12 := cell_of X1.out 2 (v := .int .i64 a.p) rfl
      have c20 := cell_of X2.out 0 (v := .int .i64 a.c) rfl
      have c21 := cell_of X2.out 1 (v := .int .i64 a.m) rfl
      have c22 := cell_of X2.out 2 (v := .int .i64 a.p) rfl
      have c30 := cell_of X3.out 0 (v := .int .i64 x.c) rfl
      have c31 := cell_of X3.out 1 (v := .int .i64 x.m) rfl
      have c32 := cell_of X3.out 2 (v := .int .i64 x.p) rfl
      have c50 := cell_of X5.out 0 (v := .int .i64 a.c) rfl
      have c51 := cell_of X5.out 1 (v := .int .i64 a.m) rfl
      have c52 := cell_of X5.out 2 (v := .int .i64 a.p) rfl
      have c60 := cell_of X6.out 0 (v := .int .i64 x.c) rfl
      have c61 := cell_of X6.out 1 (v := .int .i64 x.m) rfl
      have c62 := cell_of X6.out 2 (v := .int .i64 x.p) rfl
      clear C1 C2 C3 C4 C5 C6
      go_wp2_with (first | (refine wpList_store_at rfl 23 _ _ rfl _ _ _ rfl rfl THz.out (by kernel_rfl) ONEz.out HVz.out ?_))
      refine (C7.out _).mono ?_
      rintro e w7 ⟨rfl, hb7⟩
      have BE := Lib.hid (B.out.trans (hb7.mono B.out.size))
      clear hb7
      go_wp2_with fail
      go_ret
      exact ⟨rfl, BE.out⟩
    · obtain ⟨j, rfl⟩ : ∃ i, j = i + 1 := ⟨j - 1, by omega⟩
      rw [show (((j + 1 : Nat) : Int) - 1) = (j : Int) by omega]
      obtain ⟨x, hx⟩ : ∃ x, l[j]? = some x := ⟨_, List.getElem?_eq_getElem (by rw [HN.out]; omega)⟩
      obtain ⟨hxo, ra, oa, era, hra, hrg⟩ := (HR.out.below BW.out) j x hx
      injection era with era
      injection era with era1 era2
      subst era1 era2
      have eat := at_three r o j
      have hjn : (j : Int) < (n : Int) := by omega
      have hj0 : (0 : Int) ≤ (j : Int) := by omega
      have RGX := Lib.hid hrg
      have HD := Lib.hid (show l.drop j = x :: l.drop (j + 1) from drop_at hx)
      have hws := BW.out.size
      clear hx hxo hra hrg
      go_wp2_with (first | (refine wpList_load_mid rfl 23 _ rfl _ _ rfl _ _ RGX.out Tryd.underlying23 rfl (by kernel_rfl) ?_))
      refine (small_any x wr).mono ?_
      rintro e w2 ⟨rfl, hb2⟩
      have B2 := Lib.hid (BW.out.trans (hb2.mono BW.out.size))
      have RG2 := Lib.hid (show w2.rangeAt r (o + j * 3) (R3 x) from range_mv (hb2.block _ (by have := lt_of_range RGX.out; omega)) RGX.out)
      have HO2 := Lib.hid (own_stay HO.out hb2)
      clear hb2 RGX HO
      cases hsm : smallB x with
      | false =>
        go_wp2_with fail
        go_ret
        exact ⟨rfl, B2.out⟩
      | true =>
        obtain ⟨w3, hw3⟩ : ∃ v, w2.alloc (.cells #[.int .i64 x.c, .int .i64 x.m, .int .i64 x.p] 23) = v := ⟨_, rfl⟩
        have X3 := Lib.hid (show w3.rangeAt w2.heap.size 0 (R3 x) by rw [← hw3]; exact range_box (heap_alloc_new w2 _))
        have HO3 := Lib.hid (show w3.ownsRow w.heap.size 23 3 (.slice A' m c') m (flatR (l.drop (j + 1)).reverse) by rw [← hw3]; exact HO2.out.alloc _)
        have B3 := Lib.hid (show Below w.heap.size w w3 by rw [← hw3]; exact B2.out.alloc B2.out.size _)
        have HV3 := Lib.hid hw3
        clear hw3
        go_wp2_with (first | (refine wpList_load_mid rfl 23 _ rfl _ _ rfl _ _ RG2.out Tryd.underlying23 rfl (by kernel_rfl) ?_) | (refine wpList_build_res rfl _ rfl x rfl HV3.out ?_) | (at_builtin; refine wpList_append_res rfl _ _ rfl w.heap.size (l.drop (j + 1)).reverse A' m c' rfl HO3.out w2.heap.size 1 x rfl X3.out (by omega) B3.out.size ?_))
        intro A4 c4 w4 ho4 hb4
        have HO4 := Lib.hid ho4
        have B4 := Lib.hid (B3.out.trans hb4)
        clear ho4 hb4
        go_wp2_with fail
        go_roundw
        case rel =>
          refine ⟨j, m + 1, A4, c4, by omega, by go_num, by go_num, ?_, ?_, B4.out⟩
          · rw [HD.out, List.reverse_cons]; exact HO4.out
          · rw [HD.out]
            intro y hy
            rcases List.mem_cons.1 hy with rfl | hy
            · exact hsm
            · exact HS.out y hy
        case measure => simp [RowKit.intOf]
end ResTurnsWalk
end Re
end Go.Proofs.YtpllcnpmjnmcfaaDoor
