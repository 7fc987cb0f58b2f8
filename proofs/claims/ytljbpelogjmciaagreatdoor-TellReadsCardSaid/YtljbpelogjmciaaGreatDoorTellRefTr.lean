/-
 The document's reading of a reply (provostref09.takeReply) by contract. Condition: the text has at most 2^46 bytes.
-/
import Derived.Test.YtljbpelogjmciaaGreatDoorTellRefTp
import Derived.Test.YtljbpelogjmciaaGreatDoorTellD
import Derived.Test.YtljbpelogjmciaaGreatDoorTellB
import Derived.Deep.CutBlock
import Derived.Deep.DeepCutAuto
set_option linter.unusedVariables false
set_option linter.unusedSimpArgs false
namespace Go.Proofs.YtljbpelogjmciaaGreatDoor
open Go.ChangeShapes Go.WideShapes Go.ChangeAt Go.RowKit Go.Lib
open LebMath WirePure Sd Wire SpecOwn SpecRef Book Pk
namespace Tl
theorem res_tr (tmps : Array Value) (w : World) (p z : Nat) (S : ByteArray) (A c : Int) (vs : List Value) (h2 : tmps.getD 2 undef = .pointer (some ⟨p, 0, none⟩)) (h3 : tmps.getD 3 undef = .pointer (some ⟨z, 0, none⟩)) (hX : w.heap[p]? = some (.cells (rdL S A c).toArray 31 (0, 0))) (hY : w.heap[z]? = some (.cells vs.toArray 46 (0, 0))) (hl : vs.length = 7) :
 (results Tryz.f76 tmps).run Tryz.prog w = .ok (.tuple #[.agg (rdA S A c), .agg vs.toArray]) w := by
 have h1 : (loadVar 31 ⟨p, 0, none⟩).run Tryz.prog w = .ok (.agg (rdL S A c).toArray) w := run_loadVar_mid w p 0 31 _ _ (range_at hX 0 (rdL S A c) rfl) Tryz.underlying31 rfl (by kernel_rfl)
 have h4 : (loadVar 46 ⟨z, 0, none⟩).run Tryz.prog w = .ok (.agg vs.toArray) w := run_loadVar_mid w z 0 46 vs _ (range_at hY 0 vs (by rw [List.drop_zero]; exact List.take_of_length_le (Nat.le_refl _))) Tryz.underlying46 rfl (by rw [hl]; kernel_rfl)
 simp only [results, Tryz.results76]
 simp only [Array.getD_eq_getD_getElem?] at h2 h3
 have ha : (asAddr (tmps[2]?.getD undef)).run Tryz.prog w = .ok ⟨p, 0, none⟩ w := by rw [h2]; rfl
 have hb : (asAddr (tmps[3]?.getD undef)).run Tryz.prog w = .ok ⟨z, 0, none⟩ w := by rw [h3]; rfl
 simp [Sem.run_bind, h1, h4, ha, hb]
def TrSays (S : ByteArray) (y : Rp) (c' : Int) (l' : List UInt8) (w : World) (e : Ending) (w' : World) : Prop := ∃ (A' : Nat) (PA : Option Addr) (np pc : Nat) (UA : Option Addr) (nu uc : Nat), e = .returned (.tuple #[.agg #[.string S, .int .i64 A', .int .i64 c'], .agg #[.int .i64 y.code, .int .i64 y.uid, .int .i64 y.id, .int .u64 (y.rev : Nat), .string y.data, .slice PA np pc, .slice UA nu uc]]) ∧ At S A' l' ∧ (c' = 0 → (np = y.pods.length ∧ nu = y.use.length) ∧ RpUp w.heap.size y w' PA UA) ∧ Below w.heap.size w w'
set_option maxRecDepth 100000 in
set_option maxHeartbeats 4000000 in
theorem reftr_any (S : ByteArray) (hS : S.size ≤ 70368744177664) (A : Nat) (c : Int) (l : List UInt8) (hA : At S A l) (y : Rp) (c' : Int) (l' : List UInt8) (hq : replyC.rd c l = (y, c', l')) (w : World) :
 Calls Tryz.prog 76 #[.agg #[.string S, .int .i64 A, .int .i64 c]] w (TrSays S y c' l' w) := by
 have HS := hid hS
 have H := hid hA
 obtain ⟨⟨x1, c1, l1⟩, q1⟩ : ∃ t, codeC.rd c l = t := ⟨_, rfl⟩
 obtain ⟨⟨x2, c2, l2⟩, q2⟩ : ∃ t, uidC.rd c1 l1 = t := ⟨_, rfl⟩
 obtain ⟨⟨x3, c3, l3⟩, q3⟩ : ∃ t, uidC.rd c2 l2 = t := ⟨_, rfl⟩
 obtain ⟨⟨x4, c4, l4⟩, q4⟩ : ∃ t, revC.rd c3 l3 = t := ⟨_, rfl⟩
 obtain ⟨⟨x5, c5, l5⟩, q5⟩ : ∃ t, dataC.rd c4 l4 = t := ⟨_, rfl⟩
 obtain ⟨n, hn⟩ : ∃ n, numV 16 c5 l5 = n := ⟨_, rfl⟩
 obtain ⟨c6, hc6⟩ : ∃ d, numE 16 c5 l5 = d := ⟨_, rfl⟩
 obtain ⟨l6, hl6⟩ : ∃ d, numL 16 c5 l5 = d := ⟨_, rfl⟩
 have q6 : (intC 16 (by decide)).rd c5 l5 = ((n : Int), c6, l6) := by rw [← hn, ← hc6, ← hl6]; rfl
 have hn16 : n ≤ 16 := by rw [← hn]; exact numV_le 16 c5 l5
 obtain ⟨c7, l7, q7⟩ : ∃ c7 l7, repS podC.rd c6 l6 n = (c7, l7) := ⟨_, _, rfl⟩
 obtain ⟨n2, hn2⟩ : ∃ n, numV 4 c7 l7 = n := ⟨_, rfl⟩
 obtain ⟨c8, hc8⟩ : ∃ d, numE 4 c7 l7 = d := ⟨_, rfl⟩
 obtain ⟨l8, hl8⟩ : ∃ d, numL 4 c7 l7 = d := ⟨_, rfl⟩
 have q8 : (intC 4 (by decide)).rd c7 l7 = ((n2 : Int), c8, l8) := by rw [← hn2, ← hc8, ← hl8]; rfl
 have hn4 : n2 ≤ 4 := by rw [← hn2]; exact numV_le 4 c7 l7
 obtain ⟨c9, l9, q9⟩ : ∃ c9 l9, repS resC.rd c8 l8 n2 = (c9, l9) := ⟨_, _, rfl⟩
 have hr : replyC.rd c l = (⟨x1, x2, x3, x4, x5, repX podC.rd c6 l6 n, repX resC.rd c8 l8 n2⟩, c9, l9) := by
  have e1 : podsC.rd c5 l5 = (repX podC.rd c6 l6 n, c7, l7) := by
   show (repX podC.rd (numE 16 c5 l5) (numL 16 c5 l5) (numV 16 c5 l5), repS podC.rd (numE 16 c5 l5) (numL 16 c5 l5) (numV 16 c5 l5)) = _
   rw [hn, hc6, hl6, q7]
  have e2 : usesC.rd c7 l7 = (repX resC.rd c8 l8 n2, c9, l9) := by
   show (repX resC.rd (numE 4 c7 l7) (numL 4 c7 l7) (numV 4 c7 l7), repS resC.rd (numE 4 c7 l7) (numL 4 c7 l7) (numV 4 c7 l7)) = _
   rw [hn2, hc8, hl8, q9]
  simp only [replyC, mapC, pairC, pairR, q1, q2, q3, q4, q5, e1, e2]
 rw [hr] at hq
 injection hq with hq1 hq2
 injection hq2 with hq2 hq3
 subst hq1 hq2 hq3
 have hrv := revC.okay c3 l3
 rw [q4] at hrv
 have HRV := hid (show x4 < 18446744073709551616 by have : x4 ≤ 18446744073709551615 := hrv; omega)
 have HZ := hid (show c9 = 0 → c7 = 0 from fun h0 => by
  refine rd_zero q8 ?_
  by_cases hc : c8 = 0
  · exact hc
  · have := repS_err resC hc l8 n2
    rw [q9] at this
    injection this with this _
    rw [← this]; exact h0)
 have Q1 := hid q1
 have Q2 := hid q2
 have Q3 := hid q3
 have Q4 := hid q4
 have Q5 := hid q5
 have Q6 := hid q6
 have Q7 := hid q7
 have Q8 := hid q8
 have Q9 := hid q9
 clear hr hrv hA hS q1 q2 q3 q4 q5 q6 q7 q8 q9 hn hc6 hl6 hn2 hc8 hl8
 obtain ⟨i13, hi13, hz130, hz131, hz132⟩ := info_parts info_pod
 obtain ⟨i3, hi3, hz30, hz31, hz32⟩ := info_parts info_use
 go_enter Tryz.func76, Tryz.ntmps76
 go_wp2_with fail
 obtain ⟨ws, hws⟩ : ∃ v, (((w.alloc (.cells (rdA S A c) 31)).alloc (.cells (rdA ⟨#[]⟩ 0 0) 31)).alloc (.cells #[.int .i64 0, .int .i64 0, .int .i64 0, .int .u64 0, .string ⟨#[]⟩, .slice none 0 0, .slice none 0 0] 46)).alloc (.cells #[.int .i64 0, .int .i64 0, .int .i64 0, .int .u64 0, .string ⟨#[]⟩, .slice none 0 0, .slice none 0 0] 46) = v := ⟨_, rfl⟩
 obtain ⟨k1, k2, k3, k4, k5⟩ := four_boxes w _ _ _ _ ws hws
 rw [hws]
 obtain ⟨b, hb⟩ : ∃ b, w.heap.size = b := ⟨_, rfl⟩
 rw [hb] at k2 k3 k4 k5 ⊢
 obtain ⟨bP, hbP⟩ : ∃ b', b + 1 = b' := ⟨_, rfl⟩
 obtain ⟨bZ, hbZ⟩ : ∃ b', bP + 1 = b' := ⟨_, rfl⟩
 obtain ⟨bX, hbX⟩ : ∃ b', bZ + 1 = b' := ⟨_, rfl⟩
 rw [hbP] at k3 k4 k5 ⊢
 rw [hbZ] at k4 k5 ⊢
 rw [hbX] at k5 ⊢
 have K := hid (show Rk ws b bX 46 S A c [.int .i64 0, .int .i64 0, .int .i64 0, .int .u64 0, .string ⟨#[]⟩, .slice none 0 0, .slice none 0 0] ws from ⟨by omega, by have := lt_of_block k5; omega, lt_of_block k5, Off.refl _ _ _, k2, k5⟩)
 have HBZ := hid (show w.heap.size = b ∧ b < bP ∧ bP < bZ ∧ bZ < bX ∧ bX < ws.heap.size from ⟨hb, by omega, by omega, by omega, lt_of_block k5⟩)
 have B0 := hid k1
 have P0 := hid k3
 have Z0 := hid k4
 clear hws k1 k2 k3 k4 k5 hb hbP hbZ hbX
 go_wp2_with (first | refine ldR rfl rfl rfl K.out.rb ?_)
 refine (num_ref S HS.out 999 (by decide) 999 (by decide) (by decide) A c l H.out x1 c1 l1 Q1.out _).mono ?_
 rintro e w1 ⟨A1, rfl, h_, hb_⟩
 clear H
 have H := hid h_
 have K_ := hid (K.out.back hb_)
 clear K h_ hb_
 have K := K_
 clear K_
 have N4 := hid K.out.rb
 obtain ⟨v1, hv1⟩ : ∃ v, w1.setCells b 0 (rdL S A1 c1) = v := ⟨_, rfl⟩
 have K_ := hid (K.out.read A1 c1)
 rw [hv1] at K_
 have N5 := hid hv1
 clear K hv1
 have K := K_
 clear K_
 have xc := K.out.cell 0 rfl
 have xf := K.out.free 0
 have K_ := hid (K.out.set 0 (.int .i64 x1) [.int .i64 x1, .int .i64 0, .int .i64 0, .int .u64 0, .string ⟨#[]⟩, .slice none 0 0, .slice none 0 0] rfl)
 obtain ⟨y1, hx1⟩ : ∃ v, v1.setCell ⟨bX, 0, none⟩ (.int .i64 x1) = v := ⟨_, rfl⟩
 rw [hx1] at K_
 clear K
 have K := K_
 clear K_
 go_wp2_with (first | refine stR rfl rfl rfl rfl N4.out N5.out ?_ | refine ldR rfl rfl rfl K.out.rb ?_)
 clear N4 N5 xc xf hx1
 refine (num_ref S HS.out 1073741824 (by decide) 1073741824 (by decide) (by decide) A1 c1 l1 H.out x2 c2 l2 Q2.out _).mono ?_
 rintro e w2 ⟨A2, rfl, h_, hb_⟩
 clear H
 have H := hid h_
 have K_ := hid (K.out.back hb_)
 clear K h_ hb_
 have K := K_
 clear K_
 obtain ⟨u2, v2, hu2, ⟨q0, q1, q2⟩, a4, a5, K_, o_⟩ := K.out.step A2 c2
 clear o_ K
 have K := hid K_
 clear K_
 have N4 := hid a4
 have N5 := hid a5
 clear a4 a5
 have xc := K.out.cell 1 rfl
 have xf := K.out.free 1
 have K_ := hid (K.out.set 1 (.int .i64 x2) [.int .i64 x1, .int .i64 x2, .int .i64 0, .int .u64 0, .string ⟨#[]⟩, .slice none 0 0, .slice none 0 0] rfl)
 obtain ⟨y2, hx2⟩ : ∃ v, v2.setCell ⟨bX, 1, none⟩ (.int .i64 x2) = v := ⟨_, rfl⟩
 rw [hx2] at K_
 clear K
 have K := K_
 clear K_
 go_wp2_with (first | refine stR rfl rfl rfl rfl N4.out N5.out ?_ | refine ldR rfl rfl rfl K.out.rb ?_)
 clear N4 N5 q0 q1 q2 hu2 xc xf hx2
 refine (num_ref S HS.out 1073741824 (by decide) 1073741824 (by decide) (by decide) A2 c2 l2 H.out x3 c3 l3 Q3.out _).mono ?_
 rintro e w3 ⟨A3, rfl, h_, hb_⟩
 clear H
 have H := hid h_
 have K_ := hid (K.out.back hb_)
 clear K h_ hb_
 have K := K_
 clear K_
 obtain ⟨u3, v3, hu3, ⟨q0, q1, q2⟩, a4, a5, K_, o_⟩ := K.out.step A3 c3
 clear o_ K
 have K := hid K_
 clear K_
 have N4 := hid a4
 have N5 := hid a5
 clear a4 a5
 have xc := K.out.cell 2 rfl
 have xf := K.out.free 2
 have K_ := hid (K.out.set 2 (.int .i64 x3) [.int .i64 x1, .int .i64 x2, .int .i64 x3, .int .u64 0, .string ⟨#[]⟩, .slice none 0 0, .slice none 0 0] rfl)
 obtain ⟨y3, hx3⟩ : ∃ v, v3.setCell ⟨bX, 2, none⟩ (.int .i64 x3) = v := ⟨_, rfl⟩
 rw [hx3] at K_
 clear K
 have K := K_
 clear K_
 go_wp2_with (first | refine stR rfl rfl rfl rfl N4.out N5.out ?_ | refine ldR rfl rfl rfl K.out.rb ?_)
 clear N4 N5 q0 q1 q2 hu3 xc xf hx3
 refine (big_ref S HS.out A3 c3 l3 H.out x4 c4 l4 Q4.out _).mono ?_
 rintro e w4 ⟨A4, rfl, h_, hb_⟩
 clear H
 have H := hid h_
 have K_ := hid (K.out.back hb_)
 clear K h_ hb_
 have K := K_
 clear K_
 obtain ⟨u4, v4, hu4, ⟨q0, q1, q2⟩, a4, a5, K_, o_⟩ := K.out.step A4 c4
 clear o_ K
 have K := hid K_
 clear K_
 have N4 := hid a4
 have N5 := hid a5
 clear a4 a5
 have xc := K.out.cell 3 rfl
 have xf := K.out.free 3
 have K_ := hid (K.out.set 3 (.int .u64 (x4 : Nat)) [.int .i64 x1, .int .i64 x2, .int .i64 x3, .int .u64 (x4 : Nat), .string ⟨#[]⟩, .slice none 0 0, .slice none 0 0] rfl)
 obtain ⟨y4, hx4⟩ : ∃ v, v4.setCell ⟨bX, 3, none⟩ (.int .u64 (x4 : Nat)) = v := ⟨_, rfl⟩
 rw [hx4] at K_
 clear K
 have K := K_
 clear K_
 go_wp2_with (first | refine stR rfl rfl rfl rfl N4.out N5.out ?_ | refine ldR rfl rfl rfl K.out.rb ?_)
 clear N4 N5 q0 q1 q2 hu4 xc xf hx4
 refine (text_ref S HS.out 32 (by decide) 32 (by decide) (by decide) A4 c4 l4 H.out x5 c5 l5 Q5.out _).mono ?_
 rintro e w5 ⟨A5, rfl, h_, hb_⟩
 clear H
 have H := hid h_
 have K_ := hid (K.out.back hb_)
 clear K h_ hb_
 have K := K_
 clear K_
 obtain ⟨u5, v5, hu5, ⟨q0, q1, q2⟩, a4, a5, K_, o_⟩ := K.out.step A5 c5
 clear o_ K
 have K := hid K_
 clear K_
 have N4 := hid a4
 have N5 := hid a5
 clear a4 a5
 have xc := K.out.cell 4 rfl
 have xf := K.out.free 4
 have K_ := hid (K.out.set 4 (.string x5) [.int .i64 x1, .int .i64 x2, .int .i64 x3, .int .u64 (x4 : Nat), .string x5, .slice none 0 0, .slice none 0 0] rfl)
 obtain ⟨y5, hx5⟩ : ∃ v, v5.setCell ⟨bX, 4, none⟩ (.string x5) = v := ⟨_, rfl⟩
 rw [hx5] at K_
 clear K
 have K := K_
 clear K_
 go_wp2_with (first | refine stR rfl rfl rfl rfl N4.out N5.out ?_ | refine ldR rfl rfl rfl K.out.rb ?_)
 clear N4 N5 q0 q1 q2 hu5 xc xf hx5
 refine (num_ref S HS.out 16 (by decide) 16 (by decide) (by decide) A5 c5 l5 H.out n c6 l6 Q6.out _).mono ?_
 rintro e w6 ⟨A6, rfl, h_, hb_⟩
 clear H
 have H := hid h_
 have K_ := hid (K.out.back hb_)
 clear K h_ hb_
 have K := K_
 clear K_
 have HW6 := hid (show ws.heap.size ≤ w6.heap.size from K.out.off.size)
 obtain ⟨u6, v6, hu6, ⟨q0, q1, q2⟩, a4, a5, K_, o_⟩ := K.out.step A6 c6
 clear o_ K
 have K := hid K_
 clear K_
 have N4 := hid a4
 have N5 := hid a5
 clear a4 a5
 have hq0 : u6.heap[w6.heap.size]? = some (.cells (rdA S A6 c6) 31 (0, 0)) := by rw [← hu6]; exact heap_alloc_new _ _
 have QB := hid (show v6.heap[w6.heap.size]? = some (.cells (rdA S A6 c6) 31 (0, 0)) from ((show Only b u6 v6 by rw [← N5.out]; exact only_cells _ 0 (Only.refl _ _)).block _ (by have := HW6.out; have := HBZ.out; omega)).trans hq0)
 have OX := hid (show ws.heap.size ≤ v6.heap.size from K.out.off.size)
 have HQL := hid (show w6.heap.size < v6.heap.size from lt_of_block QB.out)
 obtain ⟨BL, hBL⟩ : ∃ B, v6.heap.size = B := ⟨_, rfl⟩
 rw [hBL] at OX HQL
 have HBL := hid hBL
 clear hBL hq0
 go_upto_block 0 with (first | refine stR rfl rfl rfl rfl N4.out N5.out ?_)
 clear N4 N5 q0 q1 q2 hu6
 go_cut [16, 17, 18] (fun s1 s2 s3 wx => ∃ (Aj j : Nat) (PA : Option Addr) (pc : Nat), Hid (Rk ws b bX 46 S Aj c7 [.int .i64 x1, .int .i64 x2, .int .i64 x3, .int .u64 (x4 : Nat), .string x5, .slice PA j pc, .slice none 0 0] wx) ∧ Hid (At S Aj l7) ∧ Hid (c7 = 0 → j = n ∧ PodsUp BL wx PA (repX podC.rd c6 l6 n)) ∧ Hid (Off b bX v6 wx))
 case first =>
  go_wp2_with fail
  go_loopw [16] (fun i wr => ∃ (j Aj : Nat) (PA : Option Addr) (pc : Nat) (fl : List Value), j ≤ n ∧ i = .int .i64 j ∧ Hid (Rk ws b bX 46 S Aj (repS podC.rd c6 l6 j).1 [.int .i64 x1, .int .i64 x2, .int .i64 x3, .int .u64 (x4 : Nat), .string x5, .slice PA j pc, .slice none 0 0] wr) ∧ Hid (wr.ownsRow BL 42 13 (.slice PA j pc) j fl) ∧ Hid ((repS podC.rd c6 l6 j).1 = 0 → ∃ Lp : List HP, fl = flatP Lp ∧ Lp.map (·.x) = repX podC.rd c6 l6 j ∧ GatP BL wr (.slice PA j pc) Lp) ∧ Hid (At S Aj (repS podC.rd c6 l6 j).2) ∧ Hid (Off b bX v6 wr) ∧ Hid (BL ≤ wr.heap.size)) (fun i _ => n - (RowKit.intOf i).toNat)
  case atStart => exact ⟨0, A6, none, 0, [], Nat.zero_le _, rfl, K.out, World.ownsRow_nil _ _ _ _, fun _ => ⟨[], rfl, rfl, GatP.nil _ _ _⟩, H.out, Off.refl _ _ _, by unfold Hid; rw [← HBL.out]; exact Nat.le_refl _⟩
  case round =>
   clear K H
   obtain ⟨j, Aj, PA, pc, fl, hj, rfl, K, R, G, H, O, HLE⟩ := hrel
   obtain ⟨cj, hcj⟩ : ∃ d, (repS podC.rd c6 l6 j).1 = d := ⟨_, rfl⟩; obtain ⟨lj, hlj⟩ : ∃ d, (repS podC.rd c6 l6 j).2 = d := ⟨_, rfl⟩; have HSJ := hid (show repS podC.rd c6 l6 j = (cj, lj) by rw [← hcj, ← hlj])
   rw [hcj] at K G
   rw [hlj] at H
   have rc2 := box_cell K.out.r 2 rfl
   have hpc : j ≤ pc := own_cap R.out
   clear hcj hlj
   by_cases hgo : j < n ∧ cj = 0
   · obtain ⟨hlt, rfl⟩ := hgo
     have hlt' : (j : Int) < (n : Int) := by omega
     obtain ⟨⟨x, cz, lz⟩, q⟩ : ∃ t, podC.rd 0 lj = t := ⟨_, rfl⟩; have HSZ := hid (show repS podC.rd c6 l6 (j + 1) = (cz, lz) by show (podC.rd _ _).2 = _; rw [HSJ.out, q])
     have HXJ := hid (show repX podC.rd c6 l6 (j + 1) = repX podC.rd c6 l6 j ++ [x] by
      show repX podC.rd c6 l6 j ++ [(podC.rd _ _).1] = _
      rw [HSJ.out, q])
     have QZ := hid q
     have OW := hid (Off.refl b bX wr); clear q
     go_wp2_with (first | refine ldR rfl rfl rfl K.out.rb ?_)
     refine (reftp_any S HS.out Aj 0 lj H.out x cz lz QZ.out _).mono ?_
     rintro e w7 ⟨A7, LA, IA, MA, RA, m2, lc, m3, ic, m4, mc, nr, rc, rfl, h_, hpu, hb_⟩; clear H
     have H := hid h_
     have HPU := hid hpu
     have HB7 := hid hb_
     have K_ := hid (K.out.back hb_); have O_ := hid (O.out.trans ((Off.refl _ _ _).below hb_ (Nat.le_refl _))); have OW_ := hid (OW.out.trans ((Off.refl _ _ _).below hb_ (Nat.le_refl _))); clear K O OW h_ hpu hb_
     have K := K_
     have O := O_
     have OW := OW_
     clear K_ O_ OW_
     obtain ⟨u7, v7, hu7, ⟨q0, q1, q2⟩, a4, a5, a6, K_, o_⟩ := K.out.step2 A7 cz 42 #[.int .i64 x.uid, .int .u64 x.rev, .string x.spec.name, .slice LA m2 lc, .slice IA m3 ic, .slice MA m4 mc, .int .i64 x.spec.restart, .int .i64 x.spec.grace, .int .i64 x.spec.prio, .int .i64 x.phase, .slice RA nr rc, .int .i64 x.mark, .int .i64 x.grace]
     have OV := hid o_
     have O_ := hid (O.out.trans o_); have OW_ := hid (OW.out.trans o_); clear K O OW o_
     have K := hid K_
     have O := O_
     have OW := OW_
     have N4 := hid a4
     have N5 := hid a5
     have N8 := hid a6
     clear K_ O_ OW_ a4 a5 a6
     have x5_ := K.out.cell 5 rfl
     have RV := hid (Wire.owns_of R.out (w' := v7) (fun r hr => OW.out.block r (Wire.owns_lt R.out hr).2 (by have := (Wire.owns_lt R.out hr).1; have := OX.out; have := HBZ.out; omega) (by have := (Wire.owns_lt R.out hr).1; have := OX.out; have := HBZ.out; omega))); have HLT := hid (show BL ≤ v7.heap.size from Nat.le_trans HLE.out OW.out.size); obtain ⟨va, hva⟩ : ∃ v, v7.alloc (.cells #[.int .i64 x.uid, .int .u64 x.rev, .string x.spec.name, .slice LA m2 lc, .slice IA m3 ic, .slice MA m4 mc, .int .i64 x.spec.restart, .int .i64 x.spec.grace, .int .i64 x.spec.prio, .int .i64 x.phase, .slice RA nr rc, .int .i64 x.mark, .int .i64 x.grace] 42) = v := ⟨_, rfl⟩; have HOWN := hid (RV.out.alloc (.cells #[.int .i64 x.uid, .int .u64 x.rev, .string x.spec.name, .slice LA m2 lc, .slice IA m3 ic, .slice MA m4 mc, .int .i64 x.spec.restart, .int .i64 x.spec.grace, .int .i64 x.spec.prio, .int .i64 x.phase, .slice RA nr rc, .int .i64 x.mark, .int .i64 x.grace] 42)); have HAT := hid (show v7.heap.size < va.heap.size by rw [← hva]; simp); have HNW := hid ((World.ownsRow_lit (base := 0) (size := 13) (e := 42) v7 ([.int .i64 x.uid, .int .u64 x.rev, .string x.spec.name, .slice LA m2 lc, .slice IA m3 ic, .slice MA m4 mc, .int .i64 x.spec.restart, .int .i64 x.spec.grace, .int .i64 x.spec.prio, .int .i64 x.phase, .slice RA nr rc, .int .i64 x.mark, .int .i64 x.grace] : List Value).toArray 1 (Nat.zero_le _) (by decide) rfl).cells rfl); have HBA := hid (show Below BL v7 va by rw [← hva]; exact (Below.refl _ v7).alloc HLT.out _)
     rw [hva] at HOWN HNW
     have HVA := hid hva
     clear hva
     go_wp2_with (first | refine stR rfl rfl rfl rfl N4.out N5.out ?_ | refine ldB 42 Tryz.underlying42 rfl [.int .i64 x.uid, .int .u64 x.rev, .string x.spec.name, .slice LA m2 lc, .slice IA m3 ic, .slice MA m4 mc, .int .i64 x.spec.restart, .int .i64 x.spec.grace, .int .i64 x.spec.prio, .int .i64 x.phase, .slice RA nr rc, .int .i64 x.mark, .int .i64 x.grace] (by kernel_rfl) rfl rfl rfl N8.out rfl ?_ | (refine wpList_buildPod rfl _ rfl _ _ _ _ _ _ _ _ _ _ _ _ _ rfl HVA.out ?_) | (at_builtin; refine wpList_append_own_at _ rfl _ _ 43 rfl BL 42 i13 _ 13 176 Tryz.underlying43 hi13 hz130 hz131 hz132 rfl (by decide) _ j fl rfl HOWN.out ⟨v7.heap.size, 0, none⟩ 1 1 [.int .i64 x.uid, .int .u64 x.rev, .string x.spec.name, .slice LA m2 lc, .slice IA m3 ic, .slice MA m4 mc, .int .i64 x.spec.restart, .int .i64 x.spec.grace, .int .i64 x.spec.prio, .int .i64 x.phase, .slice RA nr rc, .int .i64 x.mark, .int .i64 x.grace] rfl rfl HNW.out ?c2 ?c3 ?c4 ?c5 ?_))
     case c2 =>
      intro u hu
      simp only [List.mem_cons, List.not_mem_nil, or_false] at hu
      rcases hu with rfl | rfl | rfl | rfl | rfl | rfl | rfl | rfl | rfl | rfl | rfl | rfl | rfl <;> rfl
     case c3 => unfold maxLen; omega
     case c4 => omega
     case c5 => have := HLT.out; have := HAT.out; omega
     intro pv' w8 hown' hgrow _ hat
     obtain ⟨qv, qc, rfl⟩ := own_form hown'
     have hbw : Below BL v7 w8 := HBA.out.grown hgrow (by have := HLT.out; have := HAT.out; omega) (fun r hr => (HOWN.out.lt r hr).1)
     have K_ := hid (K.out.call hbw OX.out); have HL8 := hid (show BL ≤ w8.heap.size from Nat.le_trans HLT.out hbw.size); have O_ := hid (O.out.below hbw (by have := HBL.out; omega)); have R8 := hid (ownsRow_setCell_below hown' (a := ⟨bX, 5, none⟩) (by have := OX.out; have := HBZ.out; show bX < BL; omega) (.slice qv (j + 1) qc))
     have HG8 := hid hgrow
     have HAT8 := hid (show (Value.slice qv (j + 1) qc).ownBlock = (Value.slice PA j pc).ownBlock ∨ (Value.slice qv (j + 1) qc).ownBlock = some va.heap.size from hat); clear K O HOWN hgrow hbw hown' RV N4 N5 N8 q0 q1 q2 hu7 x5_ rc2 HNW hat
     have K := K_
     have O := O_
     clear K_ O_
     have xc := K.out.cell 5 rfl
     have xf := K.out.free 5
     have K_ := hid (K.out.set 5 (.slice qv (j + 1) qc) [.int .i64 x1, .int .i64 x2, .int .i64 x3, .int .u64 (x4 : Nat), .string x5, .slice qv (j + 1) qc, .slice none 0 0] rfl); have O_ := hid (O.out.only2 (show Only bX w8 (w8.setCell ⟨bX, 5, none⟩ (.slice qv (j + 1) qc)) from (Only.refl _ _).set 5 _)); obtain ⟨y8, hx8⟩ : ∃ v, w8.setCell ⟨bX, 5, none⟩ (.slice qv (j + 1) qc) = v := ⟨_, rfl⟩
     rw [hx8] at K_ O_
     clear K O
     have K := K_
     have O := O_
     clear K_ O_
     rw [hx8] at R8
     have HL9 := hid (show BL ≤ y8.heap.size by rw [← hx8]; simpa using HL8.out)
     have HMV := hid (show w7.heap.size ≤ y8.heap.size ∧ ∀ i, BL ≤ i → i < w7.heap.size → some i ≠ (Value.slice PA j pc).ownBlock → y8.heap[i]? = w7.heap[i]? from by
      have h7 := OV.out.size
      have hv := HVA.out
      have hA := HAT.out
      have hO := OX.out
      have hZ := HBZ.out
      refine ⟨by have h8 := HG8.out.size; rw [← hx8]; simp; omega, fun i h1 h2 h3 => ?_⟩
      rw [← hx8]
      refine (Below.heap_setCell w8 ⟨bX, 5, none⟩ _ i (by show i ≠ bX; omega)).trans ((HG8.out.block i (by omega) h3).trans ?_)
      rw [← hv]
      exact (Below.heap_alloc v7 _ i (by omega)).trans (OV.out.block i h2 (by omega) (by omega)))
     have G9 := hid (show (repS podC.rd c6 l6 (j + 1)).1 = 0 → ∃ Lp : List HP, fl ++ [.int .i64 x.uid, .int .u64 x.rev, .string x.spec.name, .slice LA m2 lc, .slice IA m3 ic, .slice MA m4 mc, .int .i64 x.spec.restart, .int .i64 x.spec.grace, .int .i64 x.spec.prio, .int .i64 x.phase, .slice RA nr rc, .int .i64 x.mark, .int .i64 x.grace] = flatP Lp ∧ Lp.map (·.x) = repX podC.rd c6 l6 (j + 1) ∧ GatP BL y8 (.slice qv (j + 1) qc) Lp from fun h0 => by
      rw [HSZ.out] at h0
      obtain ⟨⟨rfl, rfl, rfl, rfl⟩, hpu⟩ := HPU.out h0
      obtain ⟨Lp, rfl, hmap, hgat⟩ := G.out (by simp)
      have hO := OX.out
      have h7 := OV.out.size
      have hA := HAT.out
      have hL := HLE.out
      have hg1 := (hgat.move HB7.out.size (fun i h1 h2 _ => HB7.out.block i h2)).snoc ⟨x, LA, lc, IA, ic, MA, mc, RA, rc, wr.heap.size, w7⟩ hL hpu (Nat.le_refl _) (fun i _ _ => rfl) (fun r hr => .inl (R.out.lt r hr).2)
      exact ⟨Lp ++ [⟨x, LA, lc, IA, ic, MA, mc, RA, rc, wr.heap.size, w7⟩], by rw [flatP_snoc]; rfl, by rw [List.map_append, hmap, HXJ.out]; rfl, hg1.moved (HAT8.out.imp id (fun e => ⟨_, e, by omega⟩)) HMV.out.1 (fun i h1 h2 h3 => HMV.out.2 i h1 h2 (fun e => h3 i e.symm rfl))⟩)
     have K9 := hid (show Rk ws b bX 46 S A7 (repS podC.rd c6 l6 (j + 1)).1 [.int .i64 x1, .int .i64 x2, .int .i64 x3, .int .u64 (x4 : Nat), .string x5, .slice qv (j + 1) qc, .slice none 0 0] y8 by rw [HSZ.out]; exact K.out); have H9 := hid (show At S A7 (repS podC.rd c6 l6 (j + 1)).2 by rw [HSZ.out]; exact H.out); clear G HPU HMV OV OW HB7 HG8 HAT8 HVA HBA HAT K H; go_wp2
     go_roundw
     case rel => exact ⟨j + 1, A7, qv, qc, _, by omega, by go_num, K9.out, R8.out, G9.out, H9.out, O.out, HL9.out⟩
     case measure => simp [RowKit.intOf]; omega
   · have HE := hid (show (cj, lj) = (c7, l7) by
      have hst : (repS podC.rd c6 l6 j) = (repS podC.rd c6 l6 n) := by
       by_cases hc0 : cj = 0
       · rw [show j = n from Nat.le_antisymm hj (Nat.le_of_not_lt fun h => hgo ⟨h, hc0⟩)]
       · have hst := repS_stay podC (c := c6) (l := l6) (k := j) (by rw [HSJ.out]; exact hc0) (n - j)
         rw [show j + (n - j) = n by omega] at hst
         exact hst.symm
      rw [← HSJ.out, hst, Q7.out])
     have HJN := hid (show cj = 0 → j = n from fun h => Nat.le_antisymm hj (Nat.le_of_not_lt fun h1 => hgo ⟨h1, h⟩))
     have hE := HE.out
     injection hE with hE1 hE2
     have hway : ¬ (j : Int) < (n : Int) ∨ ((j : Int) < (n : Int) ∧ (cj == 0) = false) := by
      by_cases h : j < n
      · exact .inr ⟨by omega, by simpa using fun h0 => hgo ⟨h, h0⟩⟩
      · exact .inl (by omega)
     clear hgo HE; have K9 := hid (show Rk ws b bX 46 S Aj c7 [.int .i64 x1, .int .i64 x2, .int .i64 x3, .int .u64 (x4 : Nat), .string x5, .slice PA j pc, .slice none 0 0] wr by rw [← hE1]; exact K.out); have H9 := hid (show At S Aj l7 by rw [← hE2]; exact H.out)
     have G9 := hid (show c7 = 0 → j = n ∧ PodsUp BL wr PA (repX podC.rd c6 l6 n) from fun h0 => by
      have h1 : cj = 0 := hE1.trans h0
      obtain ⟨Lp, rfl, hmap, hgat⟩ := G.out h1
      have hjn := HJN.out h1
      have hup := hgat.up R.out
      rw [hmap, hjn] at hup
      exact ⟨hjn, hup⟩)
     clear K H G
     rcases hway with hlt' | ⟨hlt', hcz'⟩
     all_goals
      go_wp2_with fail
      go_meet
      exact ⟨Aj, j, PA, pc, K9, H9, G9, O⟩
 case rest =>
  obtain ⟨Ab, jp, PA, pc, K_, H_, GP, O⟩ := hcut
  obtain ⟨w8, hwc_⟩ : ∃ v, v = wc := ⟨wc, rfl⟩; subst hwc_; clear K H
  have K := K_
  have H := H_
  clear K_ H_; have QB8 := hid ((O.out.block w6.heap.size (by have := HBL.out; have := HQL.out; omega) (by have := HW6.out; have := HBZ.out; omega) (by have := HW6.out; have := HBZ.out; omega)).trans QB.out); have HL8 := hid (show BL ≤ w8.heap.size from by have := O.out.size; have := HBL.out; omega); clear QB
  go_wp2_with (first | refine ldR rfl rfl rfl K.out.rb ?_)
  refine (num_ref S HS.out 4 (by decide) 4 (by decide) (by decide) Ab c7 l7 H.out n2 c8 l8 Q8.out _).mono ?_
  rintro e w9 ⟨A9, rfl, h_, hb_⟩; clear H
  have H := hid h_
  have K_ := hid (K.out.back hb_); have QB9 := hid (show BoxIs w9 w6.heap.size (rdA S A6 c6) 31 from ⟨(hb_.block _ (lt_of_block QB8.out)).trans QB8.out⟩)
  have HB9 := hid hb_
  clear K QB8 h_ hb_; obtain ⟨v9, hv9⟩ : ∃ v, w9.setCells w6.heap.size 0 (rdL S A9 c8) = v := ⟨_, rfl⟩
  have oq : Only w6.heap.size w9 v9 := by rw [← hv9]; exact only_cells _ 0 (Only.refl _ _)
  have K := hid (K_.out.call (oq.below (Below.refl ws.heap.size w9) HW6.out) (Nat.le_refl _)); have QV := hid (show BoxIs v9 w6.heap.size (rdA S A9 c8) 31 from ⟨by rw [← hv9]; exact box_into QB9.out.at_ 0 _ (over_3 ..)⟩)
  have N3 := hid hv9
  have N4 := hid K.out.rb
  obtain ⟨y9, hy9⟩ : ∃ v, v9.setCells b 0 (rdL S A9 c8) = v := ⟨_, rfl⟩
  have ob : Only b v9 y9 := by rw [← hy9]; exact only_cells _ 0 (Only.refl _ _)
  have KK := hid (K.out.read A9 c8)
  rw [hy9] at KK
  have N5 := hid hy9
  have HM9 := hid (show w8.heap.size ≤ y9.heap.size ∧ ∀ i, BL ≤ i → i < w8.heap.size → y9.heap[i]? = w8.heap[i]? from ⟨Nat.le_trans HB9.out.size (Nat.le_trans oq.size ob.size), fun i h1 h2 => (ob.block i (by have := OX.out; have := HBZ.out; omega)).trans ((oq.block i (by have := HQL.out; omega)).trans (HB9.out.block i h2))⟩); clear K K_ hv9 hy9 oq ob
  have K := KK
  clear KK; have OX2 := hid (show ws.heap.size ≤ y9.heap.size from K.out.off.size); obtain ⟨BM, hBM⟩ : ∃ B, y9.heap.size = B := ⟨_, rfl⟩
  rw [hBM] at OX2
  have HBM := hid hBM
  clear hBM
  go_upto_block 2 with (first | refine stR rfl rfl rfl rfl QB9.out N3.out ?_ | refine ldR rfl rfl rfl QV.out ?_ | refine stR rfl rfl rfl rfl N4.out N5.out ?_)
  clear N3 N4 N5 QB9 QV HB9
  go_cut [19, 20, 21, 22, 23, 24, 25, 26] (fun s1 s2 s3 s4 s5 s6 s7 s8 wx => ∃ (Aj j : Nat) (UA : Option Addr) (uc : Nat), Hid (Rk ws b bX 46 S Aj c9 [.int .i64 x1, .int .i64 x2, .int .i64 x3, .int .u64 (x4 : Nat), .string x5, .slice PA jp pc, .slice UA j uc] wx) ∧ Hid (At S Aj l9) ∧ Hid (c9 = 0 → j = n2 ∧ UsesUp BM wx UA (repX resC.rd c8 l8 n2)) ∧ Hid (Off b bX y9 wx))
  case first =>
   go_wp2_with fail
   go_loopw [19] (fun i wr => ∃ (j Aj : Nat) (UA : Option Addr) (uc : Nat), j ≤ n2 ∧ i = .int .i64 j ∧ Hid (Rk ws b bX 46 S Aj (repS resC.rd c8 l8 j).1 [.int .i64 x1, .int .i64 x2, .int .i64 x3, .int .u64 (x4 : Nat), .string x5, .slice PA jp pc, .slice UA j uc] wr) ∧ Hid (wr.ownsRow BM 70 3 (.slice UA j uc) j (flatU (repX resC.rd c8 l8 j))) ∧ Hid (At S Aj (repS resC.rd c8 l8 j).2) ∧ Hid (Off b bX y9 wr) ∧ Hid (BM ≤ wr.heap.size)) (fun i _ => n2 - (RowKit.intOf i).toNat)
   case atStart => exact ⟨0, A9, none, 0, Nat.zero_le _, rfl, K.out, World.ownsRow_nil _ _ _ _, H.out, Off.refl _ _ _, by unfold Hid; rw [← HBM.out]; exact Nat.le_refl _⟩
   case round =>
    clear K H
    obtain ⟨j, Aj, UA, uc, hj, rfl, K, R, H, O, HLE⟩ := hrel
    obtain ⟨cj, hcj⟩ : ∃ d, (repS resC.rd c8 l8 j).1 = d := ⟨_, rfl⟩; obtain ⟨lj, hlj⟩ : ∃ d, (repS resC.rd c8 l8 j).2 = d := ⟨_, rfl⟩; have HSJ := hid (show repS resC.rd c8 l8 j = (cj, lj) by rw [← hcj, ← hlj])
    rw [hcj] at K
    rw [hlj] at H
    have rc2 := box_cell K.out.r 2 rfl
    have huc : j ≤ uc := own_cap R.out
    clear hcj hlj
    by_cases hgo : j < n2 ∧ cj = 0
    · obtain ⟨hlt, rfl⟩ := hgo
      have hlt' : (j : Int) < (n2 : Int) := by omega
      obtain ⟨⟨z1, d1, m1⟩, qa⟩ : ∃ t, bigC.rd 0 lj = t := ⟨_, rfl⟩; obtain ⟨⟨z2, d2, m2⟩, qb⟩ : ∃ t, bigC.rd d1 m1 = t := ⟨_, rfl⟩; obtain ⟨⟨z3, cz, lz⟩, qc⟩ : ∃ t, bigC.rd d2 m2 = t := ⟨_, rfl⟩
      have q : resC.rd 0 lj = ((z1, z2, z3), cz, lz) := by
       show pairR bigC.rd (pairR bigC.rd bigC.rd) 0 lj = _
       simp only [pairR, qa, qb, qc]
      have HSZ := hid (show repS resC.rd c8 l8 (j + 1) = (cz, lz) by show (resC.rd _ _).2 = _; rw [HSJ.out, q])
      have HXJ := hid (show flatU (repX resC.rd c8 l8 (j + 1)) = flatU (repX resC.rd c8 l8 j) ++ [.int .i64 z1, .int .i64 z2, .int .i64 z3] by
       show flatU (repX resC.rd c8 l8 j ++ [(resC.rd _ _).1]) = _
       rw [HSJ.out, q, flatU_snoc]; rfl)
      have HXL := hid (show (flatU (repX resC.rd c8 l8 j)).length = j * 3 by rw [flatU_length, repX_len])
      have QA := hid qa
      have QB := hid qb
      have QC := hid qc
      clear q qa qb qc; obtain ⟨wu, hwu⟩ : ∃ v, wr.alloc (.cells #[.int .i64 0, .int .i64 0, .int .i64 0] 70) = v := ⟨_, rfl⟩
      have hbu : Below wr.heap.size wr wu := by rw [← hwu]; exact (Below.refl _ _).alloc (Nat.le_refl _) _
      have UB := hid (show wu.heap[wr.heap.size]? = some (.cells #[.int .i64 0, .int .i64 0, .int .i64 0] 70 (0, 0)) by rw [← hwu]; exact heap_alloc_new _ _); have HWS := hid (show ws.heap.size ≤ wr.heap.size from K.out.off.size); have HYS := hid (show y9.heap.size ≤ wr.heap.size from O.out.size); have HUN := hid (show wr.heap.size ≠ b ∧ wr.heap.size ≠ bX from ⟨by have := HWS.out; have := HBZ.out; omega, by have := HWS.out; have := HBZ.out; omega⟩); have K_ := hid (K.out.back hbu); have O_ := hid (O.out.below hbu HYS.out); have OW := hid ((Off.refl b bX wr).below hbu (Nat.le_refl _)); have OU := hid (Off.refl b bX wu); clear K O hbu
      have K := K_
      have O := O_
      clear K_ O_
      go_wp2_with (first | refine ldR rfl rfl rfl K.out.rb ?_)
      clear hwu rc2
      refine (num_ref S HS.out 1099511627776 (by decide) 1099511627776 (by decide) (by decide) Aj 0 lj H.out z1 d1 m1 QA.out _).mono ?_
      rintro e w10 ⟨A10, rfl, h_, hb_⟩; clear H
      have H := hid h_
      have K_ := hid (K.out.back hb_); have O_ := hid (O.out.trans ((Off.refl _ _ _).below hb_ (Nat.le_refl _))); clear O
      have O := O_
      clear O_; have OW_ := hid (OW.out.trans ((Off.refl _ _ _).below hb_ (Nat.le_refl _))); clear OW
      have OW := OW_
      clear OW_; have OU_ := hid (OU.out.trans ((Off.refl _ _ _).below hb_ (Nat.le_refl _))); clear OU
      have OU := OU_
      clear OU_; clear K h_ hb_
      have K := K_
      clear K_
      obtain ⟨u10, v10, hu10, ⟨q0, q1, q2⟩, a4, a5, K_, o_⟩ := K.out.step A10 d1
      have O_ := hid (O.out.trans o_); clear O
      have O := O_
      clear O_; have OW_ := hid (OW.out.trans o_); clear OW
      have OW := OW_
      clear OW_; have OU_ := hid (OU.out.trans o_); clear OU
      have OU := OU_
      clear OU_; clear o_ K
      have K := hid K_
      clear K_
      have N4 := hid a4
      have N5 := hid a5
      clear a4 a5; have UC := hid ((OU.out.block wr.heap.size (lt_of_block UB.out) HUN.out.1 HUN.out.2).trans UB.out)
      have uc_ := box_cell UC.out 0 rfl
      have uf_ := box_free UC.out 0
      obtain ⟨y10, hy10⟩ : ∃ v, v10.setCell ⟨wr.heap.size, 0, none⟩ (.int .i64 z1) = v := ⟨_, rfl⟩
      have hon : Only wr.heap.size v10 y10 := by rw [← hy10]; exact (Only.refl _ _).set 0 _
      have hbl : Below wr.heap.size v10 y10 := hon.below (Below.refl _ _) (Nat.le_refl _)
      have UB_ := hid (show y10.heap[wr.heap.size]? = some (.cells #[.int .i64 z1, .int .i64 0, .int .i64 0] 70 (0, 0)) by rw [← hy10]; exact box_set UC.out 0 _ rfl); have K_ := hid (K.out.call hbl HWS.out); have O_ := hid (O.out.below hbl HYS.out); have OW_ := hid (OW.out.below hbl (Nat.le_refl _)); clear UB K O OW OU hon hbl
      have UB := UB_
      have K := K_
      have O := O_
      have OW := OW_
      have OU := hid (Off.refl b bX y10); clear UB_ K_ O_ OW_
      go_wp2_with (first | refine stR rfl rfl rfl rfl N4.out N5.out ?_ | refine ldR rfl rfl rfl K.out.rb ?_)
      clear N4 N5 q0 q1 q2 hu10 uc_ uf_ UC hy10
      refine (num_ref S HS.out 1099511627776 (by decide) 1099511627776 (by decide) (by decide) A10 d1 m1 H.out z2 d2 m2 QB.out _).mono ?_
      rintro e w11 ⟨A11, rfl, h_, hb_⟩; clear H
      have H := hid h_
      have K_ := hid (K.out.back hb_); have O_ := hid (O.out.trans ((Off.refl _ _ _).below hb_ (Nat.le_refl _))); clear O
      have O := O_
      clear O_; have OW_ := hid (OW.out.trans ((Off.refl _ _ _).below hb_ (Nat.le_refl _))); clear OW
      have OW := OW_
      clear OW_; have OU_ := hid (OU.out.trans ((Off.refl _ _ _).below hb_ (Nat.le_refl _))); clear OU
      have OU := OU_
      clear OU_; clear K h_ hb_
      have K := K_
      clear K_
      obtain ⟨u11, v11, hu11, ⟨q0, q1, q2⟩, a4, a5, K_, o_⟩ := K.out.step A11 d2
      have O_ := hid (O.out.trans o_); clear O
      have O := O_
      clear O_; have OW_ := hid (OW.out.trans o_); clear OW
      have OW := OW_
      clear OW_; have OU_ := hid (OU.out.trans o_); clear OU
      have OU := OU_
      clear OU_; clear o_ K
      have K := hid K_
      clear K_
      have N4 := hid a4
      have N5 := hid a5
      clear a4 a5; have UC := hid ((OU.out.block wr.heap.size (lt_of_block UB.out) HUN.out.1 HUN.out.2).trans UB.out)
      have uc_ := box_cell UC.out 1 rfl
      have uf_ := box_free UC.out 1
      obtain ⟨y11, hy11⟩ : ∃ v, v11.setCell ⟨wr.heap.size, 1, none⟩ (.int .i64 z2) = v := ⟨_, rfl⟩
      have hon : Only wr.heap.size v11 y11 := by rw [← hy11]; exact (Only.refl _ _).set 1 _
      have hbl : Below wr.heap.size v11 y11 := hon.below (Below.refl _ _) (Nat.le_refl _)
      have UB_ := hid (show y11.heap[wr.heap.size]? = some (.cells #[.int .i64 z1, .int .i64 z2, .int .i64 0] 70 (0, 0)) by rw [← hy11]; exact box_set UC.out 1 _ rfl); have K_ := hid (K.out.call hbl HWS.out); have O_ := hid (O.out.below hbl HYS.out); have OW_ := hid (OW.out.below hbl (Nat.le_refl _)); clear UB K O OW OU hon hbl
      have UB := UB_
      have K := K_
      have O := O_
      have OW := OW_
      have OU := hid (Off.refl b bX y11); clear UB_ K_ O_ OW_
      go_wp2_with (first | refine stR rfl rfl rfl rfl N4.out N5.out ?_ | refine ldR rfl rfl rfl K.out.rb ?_)
      clear N4 N5 q0 q1 q2 hu11 uc_ uf_ UC hy11
      refine (num_ref S HS.out 1099511627776 (by decide) 1099511627776 (by decide) (by decide) A11 d2 m2 H.out z3 cz lz QC.out _).mono ?_
      rintro e w12 ⟨A12, rfl, h_, hb_⟩; clear H
      have H := hid h_
      have K_ := hid (K.out.back hb_); have O_ := hid (O.out.trans ((Off.refl _ _ _).below hb_ (Nat.le_refl _))); clear O
      have O := O_
      clear O_; have OW_ := hid (OW.out.trans ((Off.refl _ _ _).below hb_ (Nat.le_refl _))); clear OW
      have OW := OW_
      clear OW_; have OU_ := hid (OU.out.trans ((Off.refl _ _ _).below hb_ (Nat.le_refl _))); clear OU
      have OU := OU_
      clear OU_; clear K h_ hb_
      have K := K_
      clear K_
      obtain ⟨u12, v12, hu12, ⟨q0, q1, q2⟩, a4, a5, K_, o_⟩ := K.out.step A12 cz
      have O_ := hid (O.out.trans o_); clear O
      have O := O_
      clear O_; have OW_ := hid (OW.out.trans o_); clear OW
      have OW := OW_
      clear OW_; have OU_ := hid (OU.out.trans o_); clear OU
      have OU := OU_
      clear OU_; clear o_ K
      have K := hid K_
      clear K_
      have N4 := hid a4
      have N5 := hid a5
      clear a4 a5; have UC := hid ((OU.out.block wr.heap.size (lt_of_block UB.out) HUN.out.1 HUN.out.2).trans UB.out)
      have uc_ := box_cell UC.out 2 rfl
      have uf_ := box_free UC.out 2
      obtain ⟨y12, hy12⟩ : ∃ v, v12.setCell ⟨wr.heap.size, 2, none⟩ (.int .i64 z3) = v := ⟨_, rfl⟩
      have hon : Only wr.heap.size v12 y12 := by rw [← hy12]; exact (Only.refl _ _).set 2 _
      have hbl : Below wr.heap.size v12 y12 := hon.below (Below.refl _ _) (Nat.le_refl _)
      have UB_ := hid (show y12.heap[wr.heap.size]? = some (.cells #[.int .i64 z1, .int .i64 z2, .int .i64 z3] 70 (0, 0)) by rw [← hy12]; exact box_set UC.out 2 _ rfl); have K_ := hid (K.out.call hbl HWS.out); have O_ := hid (O.out.below hbl HYS.out); have OW_ := hid (OW.out.below hbl (Nat.le_refl _)); clear UB K O OW OU hon hbl
      have UB := UB_
      have K := K_
      have O := O_
      have OW := OW_
      have OU := hid (Off.refl b bX y12); clear UB_ K_ O_ OW_
      have x6_ := K.out.cell 6 rfl
      have ua0 := box_cell UB.out 0 rfl
      have ua1 := box_cell UB.out 1 rfl
      have ua2 := box_cell UB.out 2 rfl
      have RV := hid (Wire.owns_of R.out (w' := y12) (fun r hr => OW.out.block r (Wire.owns_lt R.out hr).2 (by have := (Wire.owns_lt R.out hr).1; have := OX2.out; have := HBZ.out; omega) (by have := (Wire.owns_lt R.out hr).1; have := OX2.out; have := HBZ.out; omega))); have HOWN := hid (RV.out.alloc (.cells #[.int .i64 z1, .int .i64 z2, .int .i64 z3] 70)); have HLT := hid (show BM ≤ y12.heap.size from Nat.le_trans HLE.out OW.out.size)
      go_wp2_with (first | refine stR rfl rfl rfl rfl N4.out N5.out ?_ | (at_builtin; refine wpList_append_own _ rfl _ _ 44 rfl BM 70 i3 _ 3 24 Tryz.underlying44 hi3 hz30 hz31 hz32 rfl (by decide) _ j (flatU (repX resC.rd c8 l8 j)) rfl HOWN.out ⟨y12.heap.size, 0, none⟩ 1 1 [.int .i64 z1, .int .i64 z2, .int .i64 z3] rfl rfl ?c1 ?c2 ?c3 ?c4 ?c5 ?_))
      case c1 => exact (World.ownsRow_lit (base := 0) (size := 3) (e := 70) y12 ([.int .i64 z1, .int .i64 z2, .int .i64 z3] : List Value).toArray 1 (Nat.zero_le _) (by decide) rfl).cells rfl
      case c2 =>
       intro u hu
       simp only [List.mem_cons, List.not_mem_nil, or_false] at hu
       rcases hu with rfl | rfl | rfl <;> rfl
      case c3 => unfold maxLen; omega
      case c4 => omega
      case c5 => have := HLT.out; simp; omega
      intro pv' w13 hown' hgrow _
      obtain ⟨qv, qc, rfl⟩ := own_form hown'
      have hbw : Below BM y12 w13 := ((Below.refl _ y12).alloc HLT.out _).grown hgrow (by have := HLT.out; simp; omega) (fun r hr => (HOWN.out.lt r hr).1)
      have K_ := hid (K.out.call hbw OX2.out); have HL13 := hid (show BM ≤ w13.heap.size from Nat.le_trans HLT.out hbw.size); have O_ := hid (O.out.below hbw (by have := HBM.out; omega)); have R8 := hid (ownsRow_setCell_below hown' (a := ⟨bX, 6, none⟩) (by have := OX2.out; have := HBZ.out; show bX < BM; omega) (.slice qv (j + 1) qc)); clear K O OW OU UB RV HOWN hgrow hbw hown' R N4 N5 q0 q1 q2 hu12 uc_ uf_ UC hy12 x6_ ua0 ua1 ua2
      have K := K_
      have O := O_
      clear K_ O_
      have xc := K.out.cell 6 rfl
      have xf := K.out.free 6
      have K_ := hid (K.out.set 6 (.slice qv (j + 1) qc) [.int .i64 x1, .int .i64 x2, .int .i64 x3, .int .u64 (x4 : Nat), .string x5, .slice PA jp pc, .slice qv (j + 1) qc] rfl); have O_ := hid (O.out.only2 (show Only bX w13 (w13.setCell ⟨bX, 6, none⟩ (.slice qv (j + 1) qc)) from (Only.refl _ _).set 6 _)); obtain ⟨y13, hx13⟩ : ∃ v, w13.setCell ⟨bX, 6, none⟩ (.slice qv (j + 1) qc) = v := ⟨_, rfl⟩
      rw [hx13] at K_ O_
      clear K O
      have K := K_
      have O := O_
      clear K_ O_
      rw [hx13] at R8
      have HL9 := hid (show BM ≤ y13.heap.size by rw [← hx13]; simpa using HL13.out); have K9 := hid (show Rk ws b bX 46 S A12 (repS resC.rd c8 l8 (j + 1)).1 [.int .i64 x1, .int .i64 x2, .int .i64 x3, .int .u64 (x4 : Nat), .string x5, .slice PA jp pc, .slice qv (j + 1) qc] y13 by rw [HSZ.out]; exact K.out); have H9 := hid (show At S A12 (repS resC.rd c8 l8 (j + 1)).2 by rw [HSZ.out]; exact H.out); have R9 := hid (show y13.ownsRow BM 70 3 (.slice qv (j + 1) qc) (j + 1) (flatU (repX resC.rd c8 l8 (j + 1))) by rw [HXJ.out]; exact R8.out); clear K H; go_wp2
      go_roundw
      case rel => exact ⟨j + 1, A12, qv, qc, by omega, by go_num, K9.out, R9.out, H9.out, O.out, HL9.out⟩
      case measure => simp [RowKit.intOf]; omega
    · have HE := hid (show (cj, lj) = (c9, l9) by
       have hst : (repS resC.rd c8 l8 j) = (repS resC.rd c8 l8 n2) := by
        by_cases hc0 : cj = 0
        · rw [show j = n2 from Nat.le_antisymm hj (Nat.le_of_not_lt fun h => hgo ⟨h, hc0⟩)]
        · have hst := repS_stay resC (c := c8) (l := l8) (k := j) (by rw [HSJ.out]; exact hc0) (n2 - j)
          rw [show j + (n2 - j) = n2 by omega] at hst
          exact hst.symm
       rw [← HSJ.out, hst, Q9.out])
      have HJN := hid (show cj = 0 → j = n2 from fun h => Nat.le_antisymm hj (Nat.le_of_not_lt fun h1 => hgo ⟨h1, h⟩))
      have hE := HE.out
      injection hE with hE1 hE2
      have hway : ¬ (j : Int) < (n2 : Int) ∨ ((j : Int) < (n2 : Int) ∧ (cj == 0) = false) := by
       by_cases h : j < n2
       · exact .inr ⟨by omega, by simpa using fun h0 => hgo ⟨h, h0⟩⟩
       · exact .inl (by omega)
      clear hgo HE; have K9 := hid (show Rk ws b bX 46 S Aj c9 [.int .i64 x1, .int .i64 x2, .int .i64 x3, .int .u64 (x4 : Nat), .string x5, .slice PA jp pc, .slice UA j uc] wr by rw [← hE1]; exact K.out); have H9 := hid (show At S Aj l9 by rw [← hE2]; exact H.out)
      have G9 := hid (show c9 = 0 → j = n2 ∧ UsesUp BM wr UA (repX resC.rd c8 l8 n2) from fun h0 => by
       have hjn := HJN.out (hE1.trans h0)
       have hup := uses_up R.out
       rw [hjn] at hup
       exact ⟨hjn, hup⟩)
      clear K H
      rcases hway with hlt' | ⟨hlt', hcz'⟩
      all_goals
       go_wp2_with fail
       go_meet
       exact ⟨Aj, j, UA, uc, K9, H9, G9, O⟩
  case rest =>
   obtain ⟨Ae, ju, UA, uc, K_, H_, GU, OE⟩ := hcut
   obtain ⟨we, hwc_⟩ : ∃ v, v = wc := ⟨wc, rfl⟩; subst hwc_; clear K H
   have K := K_
   have H := H_
   clear K_ H_; go_wp2_with fail
   have KR := hid K.out.r
   have KX := hid K.out.x_
   have hne := HBZ.out
   have KP := hid ((K.out.off.block bP (by omega) (by omega) (by omega)).trans P0.out); have KZ := hid ((K.out.off.block bZ (by omega) (by omega) (by omega)).trans Z0.out)
   refine Back.wp_two (T := 31) (U := 46) (s0 := 1) (s1 := 4) (s2 := 2) (s3 := 3) (d0 := 140) (d1 := 141) (xs := rdL S Ae c9) (ys := [.int .i64 x1, .int .i64 x2, .int .i64 x3, .int .u64 (x4 : Nat), .string x5, .slice PA jp pc, .slice UA ju uc]) (by kernel_rfl) rfl (by kernel_rfl) (by kernel_rfl) (by kernel_rfl) rfl rfl rfl rfl rfl KR.out KX.out KP.out KZ.out rfl rfl rfl rfl Tryz.underlying31 Tryz.underlying46 rfl rfl (by kernel_rfl) (by kernel_rfl) (by simp [Value.oneCell']) (by simp [Value.oneCell']) (by omega) ?_
   rintro a wv hs hdf ho ht hout hsz hblk ⟨X', hp', rfl⟩ ⟨Y', hq', rfl⟩; go_wp2_with fail
   refine bodyPost_ret (v := .tuple #[.agg (rdA S Ae c9), .agg #[.int .i64 x1, .int .i64 x2, .int .i64 x3, .int .u64 (x4 : Nat), .string x5, .slice PA jp pc, .slice UA ju uc]]) (res_tr _ _ bP bZ S Ae c9 [.int .i64 x1, .int .i64 x2, .int .i64 x3, .int .u64 (x4 : Nat), .string x5, .slice PA jp pc, .slice UA ju uc] ((hs 2 (by decide) (by decide)).trans rfl) ((hs 3 (by decide) (by decide)).trans rfl) hp' hq' rfl) (hdf.trans rfl) ?_
   have hbw : Below w.heap.size w wv := by
    have h0 := B0.out; have hk := K.out.off
    exact ⟨ho.trans (hk.os.trans h0.os), ht.trans (hk.tape.trans h0.tape), hout.trans (hk.output.trans h0.output), by have := h0.size; have := hk.size; omega, fun i hi => (hblk i (by omega) (by omega)).trans ((hk.block i (by have := h0.size; omega) (by omega) (by omega)).trans (h0.block i hi))⟩
   exact ⟨Ae, PA, jp, pc, UA, ju, uc, rfl, H.out, fun h0 => by
    obtain ⟨e1, hp⟩ := GP.out (HZ.out h0)
    obtain ⟨e2, hu⟩ := GU.out h0
    have hO := OX.out
    have hO2 := OX2.out
    have hm := HM9.out
    have hs := OE.out.size
    have hB := HBM.out
    have hp2 := ((hp.move hm.1 hm.2).move hs (fun i h1 h2 => OE.out.block i h2 (by omega) (by omega))).move (v := wv) (by omega) (fun i h1 h2 => hblk i (by omega) (by omega))
    have hu2 := hu.move (v := wv) (by omega) (fun i h1 h2 => hblk i (by omega) (by omega))
    have hLP := repX_len podC.rd c6 l6 n
    have hLU := repX_len resC.rd c8 l8 n2
    exact ⟨⟨e1.trans hLP.symm, e2.trans hLU.symm⟩, ⟨podsup_less hp2 (by omega), usesup_less hu2 (by omega), by show (repX podC.rd c6 l6 n).length ≤ _; omega, by show (repX resC.rd c8 l8 n2).length ≤ _; omega, HRV.out⟩⟩, hbw⟩
end Tl
end Go.Proofs.YtljbpelogjmciaaGreatDoor
