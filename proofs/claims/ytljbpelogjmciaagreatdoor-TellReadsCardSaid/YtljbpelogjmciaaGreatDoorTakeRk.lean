/-
 The document's reading of a spec (provostref07.Take) by contract. Condition: the text has at most 2^46 bytes.
-/
import Derived.Test.YtljbpelogjmciaaGreatDoorCtrRk
set_option linter.unusedVariables false
set_option linter.unusedSimpArgs false
namespace Go.Proofs.YtljbpelogjmciaaGreatDoor
open Go.ChangeShapes Go.WideShapes Go.ChangeAt Go.RowKit Go.Lib
open LebMath WirePure Sd Wire SpecOwn SpecRef Book Pk
namespace Tl
theorem res_tk (tmps : Array Value) (w : World) (p z : Nat) (S : ByteArray) (A c : Int) (vs : List Value) (h2 : tmps.getD 2 undef = .pointer (some ⟨p, 0, none⟩)) (h3 : tmps.getD 3 undef = .pointer (some ⟨z, 0, none⟩)) (hX : w.heap[p]? = some (.cells (rdL S A c).toArray 31 (0, 0))) (hY : w.heap[z]? = some (.cells vs.toArray 28 (0, 0))) (hl : vs.length = 7) :
 (results Tryz.f11 tmps).run Tryz.prog w = .ok (.tuple #[.agg (rdA S A c), .agg vs.toArray]) w := by
 have h1 : (loadVar 31 ⟨p, 0, none⟩).run Tryz.prog w = .ok (.agg (rdL S A c).toArray) w := run_loadVar_mid w p 0 31 _ _ (range_at hX 0 (rdL S A c) rfl) Tryz.underlying31 rfl (by kernel_rfl)
 have h4 : (loadVar 28 ⟨z, 0, none⟩).run Tryz.prog w = .ok (.agg vs.toArray) w := run_loadVar_mid w z 0 28 vs _ (range_at hY 0 vs (by rw [List.drop_zero]; exact List.take_of_length_le (Nat.le_refl _))) Tryz.underlying28 rfl (by rw [hl]; kernel_rfl)
 simp only [results, Tryz.results11]
 simp only [Array.getD_eq_getD_getElem?] at h2 h3
 have ha : (asAddr (tmps[2]?.getD undef)).run Tryz.prog w = .ok ⟨p, 0, none⟩ w := by rw [h2]; rfl
 have hb : (asAddr (tmps[3]?.getD undef)).run Tryz.prog w = .ok ⟨z, 0, none⟩ w := by rw [h3]; rfl
 simp [Sem.run_bind, h1, h4, ha, hb]
def TkSays (S : ByteArray) (Y : Spc) (c' : Int) (l' : List UInt8) (w : World) (e : Ending) (w' : World) : Prop := ∃ (A' : Nat) (LA IA MA : Option Addr) (n2 lc n3 ic n4 mc : Nat), e = .returned (.tuple #[.agg #[.string S, .int .i64 A', .int .i64 c'], .agg #[.string Y.name, .slice LA n2 lc, .slice IA n3 ic, .slice MA n4 mc, .int .i64 Y.restart, .int .i64 Y.grace, .int .i64 Y.prio]]) ∧ At S A' l' ∧ (c' = 0 → n2 = Y.labels.length ∧ n3 = Y.init.length ∧ n4 = Y.main.length ∧ SpcUp w.heap.size Y w' LA IA MA) ∧ n4 ≤ 1000 ∧ Below w.heap.size w w'
set_option maxRecDepth 100000 in
set_option maxHeartbeats 4000000 in
theorem take_ref2 (S : ByteArray) (hS : S.size ≤ 70368744177664) (A : Nat) (c : Int) (l : List UInt8) (hA : At S A l) (Y : Spc) (c' : Int) (l' : List UInt8) (hq : specC.rd c l = (Y, c', l')) (w : World) :
 Calls Tryz.prog 11 #[.agg #[.string S, .int .i64 A, .int .i64 c]] w (TkSays S Y c' l' w) := by
 have HNUM := hid (spec_nums hq)
 have HS := hid hS
 have H := hid hA
 obtain ⟨⟨t1, c1, l1⟩, q1⟩ : ∃ t, (textC 16 (by decide)).rd c l = t := ⟨_, rfl⟩
 obtain ⟨⟨t2, c2, l2⟩, q2⟩ : ∃ t, labelsC.rd c1 l1 = t := ⟨_, rfl⟩
 obtain ⟨⟨t3, c3, l3⟩, q3⟩ : ∃ t, initC.rd c2 l2 = t := ⟨_, rfl⟩
 obtain ⟨⟨t4, c4, l4⟩, q4⟩ : ∃ t, mainC.rd c3 l3 = t := ⟨_, rfl⟩
 obtain ⟨⟨t5, c5, l5⟩, q5⟩ : ∃ t, (intC 3 (by decide)).rd c4 l4 = t := ⟨_, rfl⟩
 obtain ⟨⟨t6, c6, l6⟩, q6⟩ : ∃ t, (intC 1000 (by decide)).rd c5 l5 = t := ⟨_, rfl⟩
 obtain ⟨⟨t7, c7, l7⟩, q7⟩ : ∃ t, (intC 10 (by decide)).rd c6 l6 = t := ⟨_, rfl⟩
 have hr : specC.rd c l = (⟨t1, t2, t3, t4, t5, t6, t7⟩, c7, l7) := by
  simp only [specC, mapC, pairC, pairR, q1, q2, q3, q4, q5, q6, q7]
 rw [hr] at hq
 injection hq with hq1 hq2
 injection hq2 with hq2 hq3
 subst hq1 hq2 hq3
 have HZ4 := hid (fun h0 : c7 = 0 => rd_zero q5 (rd_zero q6 (rd_zero q7 h0)))
 have HZ3 := hid (fun h0 : c4 = 0 => rd_zero q4 h0)
 have HZ2 := hid (fun h0 : c3 = 0 => rd_zero q3 h0)
 have Q1 := hid q1
 have Q2 := hid q2
 have Q3 := hid q3
 have Q4 := hid q4
 have Q5 := hid q5
 have Q6 := hid q6
 have Q7 := hid q7
 clear hr hA hS q1 q2 q3 q4 q5 q6 q7
 go_enter Tryz.func11, Tryz.ntmps11
 go_wp2_with fail
 obtain ⟨ws, hws⟩ : ∃ v, (((w.alloc (.cells (rdA S A c) 31)).alloc (.cells (rdA ⟨#[]⟩ 0 0) 31)).alloc (.cells #[.string ⟨#[]⟩, .slice none 0 0, .slice none 0 0, .slice none 0 0, .int .i64 0, .int .i64 0, .int .i64 0] 28)).alloc (.cells #[.string ⟨#[]⟩, .slice none 0 0, .slice none 0 0, .slice none 0 0, .int .i64 0, .int .i64 0, .int .i64 0] 28) = v := ⟨_, rfl⟩
 obtain ⟨k1, k2, k3, k4, k5⟩ := four_boxes w _ _ _ _ ws hws
 rw [hws]
 obtain ⟨b, hb⟩ : ∃ b, w.heap.size = b := ⟨_, rfl⟩
 rw [hb] at k2 k3 k4 k5 ⊢
 obtain ⟨bP, hbP⟩ : ∃ b', b + 1 = b' := ⟨_, rfl⟩
 obtain ⟨bZ, hbZ⟩ : ∃ b', bP + 1 = b' := ⟨_, rfl⟩
 obtain ⟨bX, hbX⟩ : ∃ b', bZ + 1 = b' := ⟨_, rfl⟩
 rw [hbP] at k3 k4 k5 ⊢
 rw [hbZ] at k4 k5 ⊢
 rw [hbX] at k5 ⊢
 have K := hid (show Rk ws b bX 28 S A c [.string ⟨#[]⟩, .slice none 0 0, .slice none 0 0, .slice none 0 0, .int .i64 0, .int .i64 0, .int .i64 0] ws from ⟨by omega, by have := lt_of_block k5; omega, lt_of_block k5, Off.refl _ _ _, k2, k5⟩)
 have HBZ := hid (show w.heap.size = b ∧ b < bP ∧ bP < bZ ∧ bZ < bX ∧ bX < ws.heap.size from ⟨hb, by omega, by omega, by omega, lt_of_block k5⟩)
 have B0 := hid k1
 have P0 := hid k3
 have Z0 := hid k4
 clear hws k1 k2 k3 k4 k5 hb hbP hbZ hbX
 go_wp2_with (first | refine ldR rfl rfl rfl K.out.rb ?_)
 refine (text_ref S HS.out 16 (by decide) 16 (by decide) (by decide) A c l H.out t1 c1 l1 Q1.out _).mono ?_
 rintro e w1 ⟨A1, rfl, h_, hb_⟩
 clear H
 have H := hid h_
 have K_ := hid (K.out.back hb_)
 clear K h_ hb_
 have K := K_
 clear K_
 obtain ⟨u1, v1, hu1, ⟨q0, q1, q2⟩, a4, a5, K_, o_⟩ := K.out.step A1 c1
 clear o_ K
 have K := hid K_
 clear K_
 have N4 := hid a4
 have N5 := hid a5
 clear a4 a5
 have xc := K.out.cell 0 rfl
 have xf := K.out.free 0
 have K_ := hid (K.out.set 0 (.string t1) [.string t1, .slice none 0 0, .slice none 0 0, .slice none 0 0, .int .i64 0, .int .i64 0, .int .i64 0] rfl)
 obtain ⟨y1, hx1⟩ : ∃ v, v1.setCell ⟨bX, 0, none⟩ (.string t1) = v := ⟨_, rfl⟩
 rw [hx1] at K_
 clear K
 have K := K_
 clear K_
 go_wp2_with (first | refine stR rfl rfl rfl rfl N4.out N5.out ?_ | refine ldR rfl rfl rfl K.out.rb ?_)
 clear N4 N5 q0 q1 q2 hu1 xc xf hx1
 have HX2 := hid (show bX + 1 ≤ y1.heap.size from by have := K.out.off.size; have := HBZ.out; omega)
 refine (takeLabels_ref S HS.out A1 c1 l1 H.out t2 c2 l2 Q2.out _).mono ?_
 rintro e w2 ⟨A2, LA, n2, lc, rfl, h_, hn2, hf2, ho2, hb_⟩
 clear H
 have H := hid h_
 have K_ := hid (K.out.back hb_)
 clear K h_ hb_
 have K := K_
 clear K_
 have LB := hid (show From (bX + 1) LA ∧ (c2 = 0 → n2 = t2.length ∧ Lbls w2 LA t2) from ⟨fun a ha => by have := hf2 a ha; have := HX2.out; omega, ho2⟩)
 clear hf2 ho2
 have O2 := hid (Off.refl b bX w2)
 obtain ⟨u2, v2, hu2, ⟨q0, q1, q2⟩, a4, a5, K_, o_⟩ := K.out.step A2 c2
 have O2_ := hid (O2.out.trans o_)
 clear O2
 have O2 := O2_
 clear O2_
 clear o_ K
 have K := hid K_
 clear K_
 have N4 := hid a4
 have N5 := hid a5
 clear a4 a5
 have xc := K.out.cell 1 rfl
 have xf := K.out.free 1
 have K_ := hid (K.out.set 1 (.slice LA n2 lc) [.string t1, .slice LA n2 lc, .slice none 0 0, .slice none 0 0, .int .i64 0, .int .i64 0, .int .i64 0] rfl)
 have O2_ := hid (O2.out.only2 (show Only bX v2 (v2.setCell ⟨bX, 1, none⟩ (.slice LA n2 lc)) from (Only.refl _ _).set 1 _))
 obtain ⟨y2, hx2⟩ : ∃ v, v2.setCell ⟨bX, 1, none⟩ (.slice LA n2 lc) = v := ⟨_, rfl⟩
 rw [hx2] at K_ O2_
 clear K O2
 have K := K_
 have O2 := O2_
 clear K_ O2_
 go_wp2_with (first | refine stR rfl rfl rfl rfl N4.out N5.out ?_ | refine ldR rfl rfl rfl K.out.rb ?_)
 clear N4 N5 q0 q1 q2 hu2 xc xf hx2
 have HX3 := hid (show bX + 1 ≤ y2.heap.size from by have := K.out.off.size; have := HBZ.out; omega)
 refine (takes_ref2 S HS.out 3 (by decide) (by decide) 3 (by decide) A2 c2 l2 H.out t3 c3 l3 Q3.out _).mono ?_
 rintro e w3 ⟨A3, IA, n3, ic, rfl, h_, hn3, hm3, ho3, hb_⟩
 clear H
 have H := hid h_
 have K_ := hid (K.out.back hb_)
 have O2_ := hid (O2.out.trans ((Off.refl _ _ _).below hb_ (Nat.le_refl _)))
 clear O2
 have O2 := O2_
 clear O2_
 clear K h_ hb_
 have K := K_
 clear K_
 have IB := hid (show c3 = 0 → n3 = t3.length ∧ CtrsUp (bX + 1) w3 IA t3 from fun h0 => ⟨(ho3 h0).1, (ho3 h0).2.less HX3.out⟩)
 clear ho3
 have O3 := hid (Off.refl b bX w3)
 obtain ⟨u3, v3, hu3, ⟨q0, q1, q2⟩, a4, a5, K_, o_⟩ := K.out.step A3 c3
 have O2_ := hid (O2.out.trans o_)
 clear O2
 have O2 := O2_
 clear O2_
 have O3_ := hid (O3.out.trans o_)
 clear O3
 have O3 := O3_
 clear O3_
 clear o_ K
 have K := hid K_
 clear K_
 have N4 := hid a4
 have N5 := hid a5
 clear a4 a5
 have xc := K.out.cell 2 rfl
 have xf := K.out.free 2
 have K_ := hid (K.out.set 2 (.slice IA n3 ic) [.string t1, .slice LA n2 lc, .slice IA n3 ic, .slice none 0 0, .int .i64 0, .int .i64 0, .int .i64 0] rfl)
 have O2_ := hid (O2.out.only2 (show Only bX v3 (v3.setCell ⟨bX, 2, none⟩ (.slice IA n3 ic)) from (Only.refl _ _).set 2 _))
 have O3_ := hid (O3.out.only2 (show Only bX v3 (v3.setCell ⟨bX, 2, none⟩ (.slice IA n3 ic)) from (Only.refl _ _).set 2 _))
 obtain ⟨y3, hx3⟩ : ∃ v, v3.setCell ⟨bX, 2, none⟩ (.slice IA n3 ic) = v := ⟨_, rfl⟩
 rw [hx3] at K_ O2_ O3_
 clear K O2 O3
 have K := K_
 have O2 := O2_
 have O3 := O3_
 clear K_ O2_ O3_
 go_wp2_with (first | refine stR rfl rfl rfl rfl N4.out N5.out ?_ | refine ldR rfl rfl rfl K.out.rb ?_)
 clear N4 N5 q0 q1 q2 hu3 xc xf hx3
 have HX4 := hid (show bX + 1 ≤ y3.heap.size from by have := K.out.off.size; have := HBZ.out; omega)
 refine (takes_ref2 S HS.out 4 (by decide) (by decide) 4 (by decide) A3 c3 l3 H.out t4 c4 l4 Q4.out _).mono ?_
 rintro e w4 ⟨A4, MA, n4, mc, rfl, h_, hn4, hm4, ho4, hb_⟩
 clear H
 have H := hid h_
 have K_ := hid (K.out.back hb_)
 have O2_ := hid (O2.out.trans ((Off.refl _ _ _).below hb_ (Nat.le_refl _)))
 clear O2
 have O2 := O2_
 clear O2_
 have O3_ := hid (O3.out.trans ((Off.refl _ _ _).below hb_ (Nat.le_refl _)))
 clear O3
 have O3 := O3_
 clear O3_
 clear K h_ hb_
 have K := K_
 clear K_
 have MB := hid (show c4 = 0 → n4 = t4.length ∧ CtrsUp (bX + 1) w4 MA t4 from fun h0 => ⟨(ho4 h0).1, (ho4 h0).2.less HX4.out⟩)
 have HM4 := hid hm4
 clear ho4 hm4
 have O4 := hid (Off.refl b bX w4)
 obtain ⟨u4, v4, hu4, ⟨q0, q1, q2⟩, a4, a5, K_, o_⟩ := K.out.step A4 c4
 have O2_ := hid (O2.out.trans o_)
 clear O2
 have O2 := O2_
 clear O2_
 have O3_ := hid (O3.out.trans o_)
 clear O3
 have O3 := O3_
 clear O3_
 have O4_ := hid (O4.out.trans o_)
 clear O4
 have O4 := O4_
 clear O4_
 clear o_ K
 have K := hid K_
 clear K_
 have N4 := hid a4
 have N5 := hid a5
 clear a4 a5
 have xc := K.out.cell 3 rfl
 have xf := K.out.free 3
 have K_ := hid (K.out.set 3 (.slice MA n4 mc) [.string t1, .slice LA n2 lc, .slice IA n3 ic, .slice MA n4 mc, .int .i64 0, .int .i64 0, .int .i64 0] rfl)
 have O2_ := hid (O2.out.only2 (show Only bX v4 (v4.setCell ⟨bX, 3, none⟩ (.slice MA n4 mc)) from (Only.refl _ _).set 3 _))
 have O3_ := hid (O3.out.only2 (show Only bX v4 (v4.setCell ⟨bX, 3, none⟩ (.slice MA n4 mc)) from (Only.refl _ _).set 3 _))
 have O4_ := hid (O4.out.only2 (show Only bX v4 (v4.setCell ⟨bX, 3, none⟩ (.slice MA n4 mc)) from (Only.refl _ _).set 3 _))
 obtain ⟨y4, hx4⟩ : ∃ v, v4.setCell ⟨bX, 3, none⟩ (.slice MA n4 mc) = v := ⟨_, rfl⟩
 rw [hx4] at K_ O2_ O3_ O4_
 clear K O2 O3 O4
 have K := K_
 have O2 := O2_
 have O3 := O3_
 have O4 := O4_
 clear K_ O2_ O3_ O4_
 go_wp2_with (first | refine stR rfl rfl rfl rfl N4.out N5.out ?_ | refine ldR rfl rfl rfl K.out.rb ?_)
 clear N4 N5 q0 q1 q2 hu4 xc xf hx4
 refine (num_ref S HS.out 3 (by decide) 3 (by decide) (by decide) A4 c4 l4 H.out t5 c5 l5 Q5.out _).mono ?_
 rintro e w5 ⟨A5, rfl, h_, hb_⟩
 clear H
 have H := hid h_
 have K_ := hid (K.out.back hb_)
 have O2_ := hid (O2.out.trans ((Off.refl _ _ _).below hb_ (Nat.le_refl _)))
 clear O2
 have O2 := O2_
 clear O2_
 have O3_ := hid (O3.out.trans ((Off.refl _ _ _).below hb_ (Nat.le_refl _)))
 clear O3
 have O3 := O3_
 clear O3_
 have O4_ := hid (O4.out.trans ((Off.refl _ _ _).below hb_ (Nat.le_refl _)))
 clear O4
 have O4 := O4_
 clear O4_
 clear K h_ hb_
 have K := K_
 clear K_
 obtain ⟨u5, v5, hu5, ⟨q0, q1, q2⟩, a4, a5, K_, o_⟩ := K.out.step A5 c5
 have O2_ := hid (O2.out.trans o_)
 clear O2
 have O2 := O2_
 clear O2_
 have O3_ := hid (O3.out.trans o_)
 clear O3
 have O3 := O3_
 clear O3_
 have O4_ := hid (O4.out.trans o_)
 clear O4
 have O4 := O4_
 clear O4_
 clear o_ K
 have K := hid K_
 clear K_
 have N4 := hid a4
 have N5 := hid a5
 clear a4 a5
 have xc := K.out.cell 4 rfl
 have xf := K.out.free 4
 have K_ := hid (K.out.set 4 (.int .i64 t5) [.string t1, .slice LA n2 lc, .slice IA n3 ic, .slice MA n4 mc, .int .i64 t5, .int .i64 0, .int .i64 0] rfl)
 have O2_ := hid (O2.out.only2 (show Only bX v5 (v5.setCell ⟨bX, 4, none⟩ (.int .i64 t5)) from (Only.refl _ _).set 4 _))
 have O3_ := hid (O3.out.only2 (show Only bX v5 (v5.setCell ⟨bX, 4, none⟩ (.int .i64 t5)) from (Only.refl _ _).set 4 _))
 have O4_ := hid (O4.out.only2 (show Only bX v5 (v5.setCell ⟨bX, 4, none⟩ (.int .i64 t5)) from (Only.refl _ _).set 4 _))
 obtain ⟨y5, hx5⟩ : ∃ v, v5.setCell ⟨bX, 4, none⟩ (.int .i64 t5) = v := ⟨_, rfl⟩
 rw [hx5] at K_ O2_ O3_ O4_
 clear K O2 O3 O4
 have K := K_
 have O2 := O2_
 have O3 := O3_
 have O4 := O4_
 clear K_ O2_ O3_ O4_
 go_wp2_with (first | refine stR rfl rfl rfl rfl N4.out N5.out ?_ | refine ldR rfl rfl rfl K.out.rb ?_)
 clear N4 N5 q0 q1 q2 hu5 xc xf hx5
 refine (num_ref S HS.out 1000 (by decide) 1000 (by decide) (by decide) A5 c5 l5 H.out t6 c6 l6 Q6.out _).mono ?_
 rintro e w6 ⟨A6, rfl, h_, hb_⟩
 clear H
 have H := hid h_
 have K_ := hid (K.out.back hb_)
 have O2_ := hid (O2.out.trans ((Off.refl _ _ _).below hb_ (Nat.le_refl _)))
 clear O2
 have O2 := O2_
 clear O2_
 have O3_ := hid (O3.out.trans ((Off.refl _ _ _).below hb_ (Nat.le_refl _)))
 clear O3
 have O3 := O3_
 clear O3_
 have O4_ := hid (O4.out.trans ((Off.refl _ _ _).below hb_ (Nat.le_refl _)))
 clear O4
 have O4 := O4_
 clear O4_
 clear K h_ hb_
 have K := K_
 clear K_
 obtain ⟨u6, v6, hu6, ⟨q0, q1, q2⟩, a4, a5, K_, o_⟩ := K.out.step A6 c6
 have O2_ := hid (O2.out.trans o_)
 clear O2
 have O2 := O2_
 clear O2_
 have O3_ := hid (O3.out.trans o_)
 clear O3
 have O3 := O3_
 clear O3_
 have O4_ := hid (O4.out.trans o_)
 clear O4
 have O4 := O4_
 clear O4_
 clear o_ K
 have K := hid K_
 clear K_
 have N4 := hid a4
 have N5 := hid a5
 clear a4 a5
 have xc := K.out.cell 5 rfl
 have xf := K.out.free 5
 have K_ := hid (K.out.set 5 (.int .i64 t6) [.string t1, .slice LA n2 lc, .slice IA n3 ic, .slice MA n4 mc, .int .i64 t5, .int .i64 t6, .int .i64 0] rfl)
 have O2_ := hid (O2.out.only2 (show Only bX v6 (v6.setCell ⟨bX, 5, none⟩ (.int .i64 t6)) from (Only.refl _ _).set 5 _))
 have O3_ := hid (O3.out.only2 (show Only bX v6 (v6.setCell ⟨bX, 5, none⟩ (.int .i64 t6)) from (Only.refl _ _).set 5 _))
 have O4_ := hid (O4.out.only2 (show Only bX v6 (v6.setCell ⟨bX, 5, none⟩ (.int .i64 t6)) from (Only.refl _ _).set 5 _))
 obtain ⟨y6, hx6⟩ : ∃ v, v6.setCell ⟨bX, 5, none⟩ (.int .i64 t6) = v := ⟨_, rfl⟩
 rw [hx6] at K_ O2_ O3_ O4_
 clear K O2 O3 O4
 have K := K_
 have O2 := O2_
 have O3 := O3_
 have O4 := O4_
 clear K_ O2_ O3_ O4_
 go_wp2_with (first | refine stR rfl rfl rfl rfl N4.out N5.out ?_ | refine ldR rfl rfl rfl K.out.rb ?_)
 clear N4 N5 q0 q1 q2 hu6 xc xf hx6
 refine (num_ref S HS.out 10 (by decide) 10 (by decide) (by decide) A6 c6 l6 H.out t7 c7 l7 Q7.out _).mono ?_
 rintro e w7 ⟨A7, rfl, h_, hb_⟩
 clear H
 have H := hid h_
 have K_ := hid (K.out.back hb_)
 have O2_ := hid (O2.out.trans ((Off.refl _ _ _).below hb_ (Nat.le_refl _)))
 clear O2
 have O2 := O2_
 clear O2_
 have O3_ := hid (O3.out.trans ((Off.refl _ _ _).below hb_ (Nat.le_refl _)))
 clear O3
 have O3 := O3_
 clear O3_
 have O4_ := hid (O4.out.trans ((Off.refl _ _ _).below hb_ (Nat.le_refl _)))
 clear O4
 have O4 := O4_
 clear O4_
 clear K h_ hb_
 have K := K_
 clear K_
 obtain ⟨u7, v7, hu7, ⟨q0, q1, q2⟩, a4, a5, K_, o_⟩ := K.out.step A7 c7
 have O2_ := hid (O2.out.trans o_)
 clear O2
 have O2 := O2_
 clear O2_
 have O3_ := hid (O3.out.trans o_)
 clear O3
 have O3 := O3_
 clear O3_
 have O4_ := hid (O4.out.trans o_)
 clear O4
 have O4 := O4_
 clear O4_
 clear o_ K
 have K := hid K_
 clear K_
 have N4 := hid a4
 have N5 := hid a5
 clear a4 a5
 have xc := K.out.cell 6 rfl
 have xf := K.out.free 6
 have K_ := hid (K.out.set 6 (.int .i64 t7) [.string t1, .slice LA n2 lc, .slice IA n3 ic, .slice MA n4 mc, .int .i64 t5, .int .i64 t6, .int .i64 t7] rfl)
 have O2_ := hid (O2.out.only2 (show Only bX v7 (v7.setCell ⟨bX, 6, none⟩ (.int .i64 t7)) from (Only.refl _ _).set 6 _))
 have O3_ := hid (O3.out.only2 (show Only bX v7 (v7.setCell ⟨bX, 6, none⟩ (.int .i64 t7)) from (Only.refl _ _).set 6 _))
 have O4_ := hid (O4.out.only2 (show Only bX v7 (v7.setCell ⟨bX, 6, none⟩ (.int .i64 t7)) from (Only.refl _ _).set 6 _))
 obtain ⟨y7, hx7⟩ : ∃ v, v7.setCell ⟨bX, 6, none⟩ (.int .i64 t7) = v := ⟨_, rfl⟩
 rw [hx7] at K_ O2_ O3_ O4_
 clear K O2 O3 O4
 have K := K_
 have O2 := O2_
 have O3 := O3_
 have O4 := O4_
 clear K_ O2_ O3_ O4_
 go_wp2_with (first | refine stR rfl rfl rfl rfl N4.out N5.out ?_)
 clear N4 N5 q0 q1 q2 hu7 xc xf hx7
 have KR := hid K.out.r
 have KX := hid K.out.x_
 have hne := HBZ.out
 have KP := hid ((K.out.off.block bP (by omega) (by omega) (by omega)).trans P0.out)
 have KZ := hid ((K.out.off.block bZ (by omega) (by omega) (by omega)).trans Z0.out)
 refine Back.wp_two (T := 31) (U := 28) (s0 := 1) (s1 := 4) (s2 := 2) (s3 := 3) (d0 := 75) (d1 := 76) (xs := rdL S A7 c7) (ys := [.string t1, .slice LA n2 lc, .slice IA n3 ic, .slice MA n4 mc, .int .i64 t5, .int .i64 t6, .int .i64 t7]) (by kernel_rfl) rfl (by kernel_rfl) (by kernel_rfl) (by kernel_rfl) rfl rfl rfl rfl rfl KR.out KX.out KP.out KZ.out rfl rfl rfl rfl Tryz.underlying31 Tryz.underlying28 rfl rfl (by kernel_rfl) (by kernel_rfl) (by simp [Value.oneCell']) (by simp [Value.oneCell']) (by omega) ?_
 rintro a wv hs hdf ho ht hout hsz hblk ⟨X', hp', rfl⟩ ⟨Y', hq', rfl⟩
 go_wp2_with fail
 refine bodyPost_ret (v := .tuple #[.agg (rdA S A7 c7), .agg #[.string t1, .slice LA n2 lc, .slice IA n3 ic, .slice MA n4 mc, .int .i64 t5, .int .i64 t6, .int .i64 t7]]) (res_tk _ _ bP bZ S A7 c7 [.string t1, .slice LA n2 lc, .slice IA n3 ic, .slice MA n4 mc, .int .i64 t5, .int .i64 t6, .int .i64 t7] ((hs 2 (by decide) (by decide)).trans rfl) ((hs 3 (by decide) (by decide)).trans rfl) hp' hq' rfl) (hdf.trans rfl) ?_
 have hbw : Below w.heap.size w wv := by
  have h0 := B0.out; have hk := K.out.off
  exact ⟨ho.trans (hk.os.trans h0.os), ht.trans (hk.tape.trans h0.tape), hout.trans (hk.output.trans h0.output), by have := h0.size; have := hk.size; omega, fun i hi => (hblk i (by omega) (by omega)).trans ((hk.block i (by have := h0.size; omega) (by omega) (by omega)).trans (h0.block i hi))⟩
 exact ⟨A7, LA, IA, MA, n2, lc, n3, ic, n4, mc, rfl, H.out, fun h0 => by
  have h4 := HZ4.out h0
  have h3 := HZ3.out h4
  have h2 := HZ2.out h3
  have s2 := O2.out.size; have s3 := O3.out.size; have s4 := O4.out.size
  exact ⟨(LB.out.2 h2).1, (IB.out h3).1, (MB.out h4).1, lbls_move (LB.out.2 h2).2 (by omega) (fun a ha hl => (hblk _ (by have := LB.out.1 a ha; omega) (by have := LB.out.1 a ha; omega)).trans (O2.out.block _ hl (by have := LB.out.1 a ha; omega) (by have := LB.out.1 a ha; omega))), fun a ha => by have := LB.out.1 a ha; omega, ((IB.out h3).2.move (by omega) (fun i h1 h2 => (hblk i (by omega) (by omega)).trans (O3.out.block i h2 (by omega) (by omega)))).less (by omega), ((MB.out h4).2.move (by omega) (fun i h1 h2 => (hblk i (by omega) (by omega)).trans (O4.out.block i h2 (by omega) (by omega)))).less (by omega), HNUM.out⟩, HM4.out, hbw⟩
end Tl
end Go.Proofs.YtljbpelogjmciaaGreatDoor
