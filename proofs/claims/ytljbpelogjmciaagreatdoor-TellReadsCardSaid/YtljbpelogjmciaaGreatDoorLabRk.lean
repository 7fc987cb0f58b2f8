/-
 The document's reading of three numbers and of labels (provostref07.three, TakeLabels) by contract. Condition: the text has at most 2^46 bytes.
-/
import Derived.Test.YtljbpelogjmciaaGreatDoorTellRk
import Derived.Test.YtljbpelogjmciaaGreatDoorRegionBack
import Derived.Deep.CutBlock
import Derived.Deep.DeepCutAuto
set_option maxHeartbeats 4000000
set_option maxRecDepth 100000
set_option linter.unusedVariables false
set_option linter.unusedSimpArgs false
namespace Go.Proofs.YtljbpelogjmciaaGreatDoor
open Go.ChangeShapes Go.WideShapes Go.ChangeAt Go.RowKit Go.Lib
open LebMath WirePure Sd Wire SpecOwn SpecRef Book Pk
namespace Tl
theorem res_3 (tmps : Array Value) (w : World) (p z : Nat) (S : ByteArray) (A c : Int) (vs : List Value) (h2 : tmps.getD 2 undef = .pointer (some ⟨p, 0, none⟩)) (h3 : tmps.getD 3 undef = .pointer (some ⟨z, 0, none⟩)) (hX : w.heap[p]? = some (.cells (rdL S A c).toArray 31 (0, 0))) (hY : w.heap[z]? = some (.cells vs.toArray 70 (0, 0))) (hl : vs.length = 3) :
 (results Tryz.f97 tmps).run Tryz.prog w = .ok (.tuple #[.agg (rdA S A c), .agg vs.toArray]) w := by
 have h1 : (loadVar 31 ⟨p, 0, none⟩).run Tryz.prog w = .ok (.agg (rdL S A c).toArray) w := run_loadVar_mid w p 0 31 _ _ (range_at hX 0 (rdL S A c) rfl) Tryz.underlying31 rfl (by kernel_rfl)
 have h4 : (loadVar 70 ⟨z, 0, none⟩).run Tryz.prog w = .ok (.agg vs.toArray) w := run_loadVar_mid w z 0 70 vs _ (range_at hY 0 vs (by rw [List.drop_zero]; exact List.take_of_length_le (Nat.le_refl _))) Tryz.underlying70 rfl (by rw [hl]; kernel_rfl)
 simp only [results, Tryz.results97]
 simp only [Array.getD_eq_getD_getElem?] at h2 h3
 have ha : (asAddr (tmps[2]?.getD undef)).run Tryz.prog w = .ok ⟨p, 0, none⟩ w := by rw [h2]; rfl
 have hb : (asAddr (tmps[3]?.getD undef)).run Tryz.prog w = .ok ⟨z, 0, none⟩ w := by rw [h3]; rfl
 simp [Sem.run_bind, h1, h4, ha, hb]
def ThSays (S : ByteArray) (x1 x2 x3 c3 : Int) (l3 : List UInt8) (w : World) (e : Ending) (w' : World) : Prop := ∃ A' : Nat, e = .returned (.tuple #[.agg #[.string S, .int .i64 A', .int .i64 c3], .agg #[.int .i64 x1, .int .i64 x2, .int .i64 x3]]) ∧ At S A' l3 ∧ Below w.heap.size w w'
theorem three_ref (S : ByteArray) (hS : S.size ≤ 70368744177664) (A : Nat) (c : Int) (l : List UInt8) (hA : At S A l) (x1 x2 x3 c1 c2 c3 : Int) (l1 l2 l3 : List UInt8) (q1 : bigC.rd c l = (x1, c1, l1)) (q2 : bigC.rd c1 l1 = (x2, c2, l2)) (q3 : bigC.rd c2 l2 = (x3, c3, l3)) (w : World) :
 Calls Tryz.prog 97 #[.agg #[.string S, .int .i64 A, .int .i64 c]] w (ThSays S x1 x2 x3 c3 l3 w) := by
 have HS := hid hS
 have H := hid hA
 have Q1 := hid q1
 have Q2 := hid q2
 have Q3 := hid q3
 clear hS hA q1 q2 q3
 go_enter Tryz.func97, Tryz.ntmps97
 go_wp2_with fail
 obtain ⟨ws, hws⟩ : ∃ v, (((w.alloc (.cells (rdA S A c) 31)).alloc (.cells (rdA ⟨#[]⟩ 0 0) 31)).alloc (.cells #[.int .i64 0, .int .i64 0, .int .i64 0] 70)).alloc (.cells #[.int .i64 0, .int .i64 0, .int .i64 0] 70) = v := ⟨_, rfl⟩
 obtain ⟨k1, k2, k3, k4, k5⟩ := four_boxes w _ _ _ _ ws hws
 rw [hws]
 obtain ⟨b, hb⟩ : ∃ b, w.heap.size = b := ⟨_, rfl⟩
 rw [hb] at k2 k3 k4 k5 ⊢
 obtain ⟨bP, hbP⟩ : ∃ b', b + 1 = b' := ⟨_, rfl⟩
 obtain ⟨bZ, hbZ⟩ : ∃ b', bP + 1 = b' := ⟨_, rfl⟩
 obtain ⟨bX, hbX⟩ : ∃ b', bZ + 1 = b' := ⟨_, rfl⟩
 rw [hbP] at k3 k4 k5 ⊢
 rw [hbZ] at k4 k5 ⊢
 rw [hbX] at k5 ⊢
 have K := hid (show Rk ws b bX 70 S A c [.int .i64 0, .int .i64 0, .int .i64 0] ws from ⟨by omega, by have := lt_of_block k5; omega, lt_of_block k5, Off.refl _ _ _, k2, k5⟩)
 have HBZ := hid (show w.heap.size = b ∧ b < bP ∧ bP < bZ ∧ bZ < bX ∧ bX < ws.heap.size from ⟨hb, by omega, by omega, by omega, lt_of_block k5⟩)
 have B0 := hid k1
 have P0 := hid k3
 have Z0 := hid k4
 clear hws k1 k2 k3 k4 k5 hb hbP hbZ hbX
 go_wp2_with (first | refine ldR rfl rfl rfl K.out.rb ?_)
 refine (num_ref S HS.out 1099511627776 (by decide) 1099511627776 (by decide) (by decide) A c l H.out x1 c1 l1 Q1.out _).mono ?_
 rintro e w1 ⟨A1, rfl, h_, hb_⟩
 clear H
 have H := hid h_
 have K_ := hid (K.out.back hb_)
 clear K h_ hb_
 have K := K_
 clear K_
 obtain ⟨u1, v1, hu1, ⟨q0, q1, q2⟩, a4, a5, K_, o_⟩ := K.out.step A1 c1
 clear o_ K
 have K := hid K_
 clear K_
 have N4 := hid a4
 have N5 := hid a5
 clear a4 a5
 have xc := K.out.cell 0 rfl
 have xf := K.out.free 0
 have K_ := hid (K.out.set 0 (.int .i64 x1) [.int .i64 x1, .int .i64 0, .int .i64 0] rfl)
 obtain ⟨y1, hx1⟩ : ∃ v, v1.setCell ⟨bX, 0, none⟩ (.int .i64 x1) = v := ⟨_, rfl⟩
 rw [hx1] at K_
 clear K
 have K := K_
 clear K_
 go_wp2_with (first | refine stR rfl rfl rfl rfl N4.out N5.out ?_ | refine ldR rfl rfl rfl K.out.rb ?_)
 clear N4 N5 q0 q1 q2 hu1 xc xf hx1
 refine (num_ref S HS.out 1099511627776 (by decide) 1099511627776 (by decide) (by decide) A1 c1 l1 H.out x2 c2 l2 Q2.out _).mono ?_
 rintro e w2 ⟨A2, rfl, h_, hb_⟩
 clear H
 have H := hid h_
 have K_ := hid (K.out.back hb_)
 clear K h_ hb_
 have K := K_
 clear K_
 obtain ⟨u2, v2, hu2, ⟨q0, q1, q2⟩, a4, a5, K_, o_⟩ := K.out.step A2 c2
 clear o_ K
 have K := hid K_
 clear K_
 have N4 := hid a4
 have N5 := hid a5
 clear a4 a5
 have xc := K.out.cell 1 rfl
 have xf := K.out.free 1
 have K_ := hid (K.out.set 1 (.int .i64 x2) [.int .i64 x1, .int .i64 x2, .int .i64 0] rfl)
 obtain ⟨y2, hx2⟩ : ∃ v, v2.setCell ⟨bX, 1, none⟩ (.int .i64 x2) = v := ⟨_, rfl⟩
 rw [hx2] at K_
 clear K
 have K := K_
 clear K_
 go_wp2_with (first | refine stR rfl rfl rfl rfl N4.out N5.out ?_ | refine ldR rfl rfl rfl K.out.rb ?_)
 clear N4 N5 q0 q1 q2 hu2 xc xf hx2
 refine (num_ref S HS.out 1099511627776 (by decide) 1099511627776 (by decide) (by decide) A2 c2 l2 H.out x3 c3 l3 Q3.out _).mono ?_
 rintro e w3 ⟨A3, rfl, h_, hb_⟩
 clear H
 have H := hid h_
 have K_ := hid (K.out.back hb_)
 clear K h_ hb_
 have K := K_
 clear K_
 obtain ⟨u3, v3, hu3, ⟨q0, q1, q2⟩, a4, a5, K_, o_⟩ := K.out.step A3 c3
 clear o_ K
 have K := hid K_
 clear K_
 have N4 := hid a4
 have N5 := hid a5
 clear a4 a5
 have xc := K.out.cell 2 rfl
 have xf := K.out.free 2
 have K_ := hid (K.out.set 2 (.int .i64 x3) [.int .i64 x1, .int .i64 x2, .int .i64 x3] rfl)
 obtain ⟨y3, hx3⟩ : ∃ v, v3.setCell ⟨bX, 2, none⟩ (.int .i64 x3) = v := ⟨_, rfl⟩
 rw [hx3] at K_
 clear K
 have K := K_
 clear K_
 go_wp2_with (first | refine stR rfl rfl rfl rfl N4.out N5.out ?_)
 clear N4 N5 q0 q1 q2 hu3 xc xf hx3
 have KR := hid K.out.r
 have KX := hid K.out.x_
 have hne := HBZ.out
 have KP := hid ((K.out.off.block bP (by omega) (by omega) (by omega)).trans P0.out)
 have KZ := hid ((K.out.off.block bZ (by omega) (by omega) (by omega)).trans Z0.out)
 refine Back.wp_two (T := 31) (U := 70) (s0 := 1) (s1 := 4) (s2 := 2) (s3 := 3) (d0 := 35) (d1 := 36) (xs := rdL S A3 c3) (ys := [.int .i64 x1, .int .i64 x2, .int .i64 x3]) (by kernel_rfl) rfl (by kernel_rfl) (by kernel_rfl) (by kernel_rfl) rfl rfl rfl rfl rfl KR.out KX.out KP.out KZ.out rfl rfl rfl rfl Tryz.underlying31 Tryz.underlying70 rfl rfl (by kernel_rfl) (by kernel_rfl) (by simp [Value.oneCell']) (by simp [Value.oneCell']) (by omega) ?_
 rintro a wv hs hdf ho ht hout hsz hblk ⟨X', hp', rfl⟩ ⟨Y', hq', rfl⟩
 go_wp2_with fail
 refine bodyPost_ret (v := .tuple #[.agg (rdA S A3 c3), .agg #[.int .i64 x1, .int .i64 x2, .int .i64 x3]]) (res_3 _ _ bP bZ S A3 c3 [.int .i64 x1, .int .i64 x2, .int .i64 x3] ((hs 2 (by decide) (by decide)).trans rfl) ((hs 3 (by decide) (by decide)).trans rfl) hp' hq' rfl) (hdf.trans rfl) ?_
 have hbw : Below w.heap.size w wv := by
  have h0 := B0.out; have hk := K.out.off
  exact ⟨ho.trans (hk.os.trans h0.os), ht.trans (hk.tape.trans h0.tape), hout.trans (hk.output.trans h0.output), by have := h0.size; have := hk.size; omega, fun i hi => (hblk i (by omega) (by omega)).trans ((hk.block i (by have := h0.size; omega) (by omega) (by omega)).trans (h0.block i hi))⟩
 exact ⟨A3, rfl, H.out, hbw⟩
def LbSays (S : ByteArray) (xs : List Lbl) (c' : Int) (l' : List UInt8) (w : World) (e : Ending) (w' : World) : Prop := ∃ (A' : Nat) (P : Option Addr) (m cap : Nat), e = .returned (.tuple #[.agg #[.string S, .int .i64 A', .int .i64 c'], .slice P m cap]) ∧ At S A' l' ∧ m ≤ cap ∧ From w.heap.size P ∧ (c' = 0 → m = xs.length ∧ Lbls w' P xs) ∧ Below w.heap.size w w'
theorem takeLabels_ref (S : ByteArray) (hS : S.size ≤ 70368744177664) (A : Nat) (c : Int) (l : List UInt8) (hA : At S A l) (xs : List Lbl) (c' : Int) (l' : List UInt8) (hq : labelsC.rd c l = (xs, c', l')) (w : World) :
 Calls Tryz.prog 43 #[.agg #[.string S, .int .i64 A, .int .i64 c]] w (LbSays S xs c' l' w) := by
 have HS := hid hS
 have H := hid hA
 obtain ⟨n, hn⟩ : ∃ n, WirePure.numV 4 c l = n := ⟨_, rfl⟩
 obtain ⟨c1, hc1⟩ : ∃ d, numE 4 c l = d := ⟨_, rfl⟩
 obtain ⟨l1, hl1⟩ : ∃ d, numL 4 c l = d := ⟨_, rfl⟩
 have q0 : (intC 4 (by decide)).rd c l = ((n : Int), c1, l1) := by rw [← hn, ← hc1, ← hl1]; rfl
 have hnk : n ≤ 4 := by rw [← hn]; exact numV_le 4 c l
 have hq' : ((if (repS labelC.rd c1 l1 n).1 = 0 then repX labelC.rd c1 l1 n else []), repS labelC.rd c1 l1 n) = (xs, c', l') := by rw [← hn, ← hc1, ← hl1]; exact hq
 injection hq' with hq1 hq2
 have HQ1 := hid hq1
 have HQ2 := hid hq2
 have Q0 := hid q0
 obtain ⟨i0, hi0, hz0, hz1, hz2⟩ := info_parts info_labels
 clear hA hq hq1 hq2 q0 hn hc1 hl1 hS
 go_enter Tryz.func43, Tryz.ntmps43
 go_wp2_with fail
 obtain ⟨ws, hws⟩ : ∃ v, (w.alloc (.cells (rdA S A c) 31)).alloc (.cells (rdA ⟨#[]⟩ 0 0) 31) = v := ⟨_, rfl⟩
 obtain ⟨k1, k2, k3⟩ := two_boxes w _ _ ws hws
 rw [hws]
 obtain ⟨b, hb⟩ : ∃ b, w.heap.size = b := ⟨_, rfl⟩
 rw [hb] at k2 k3 ⊢
 obtain ⟨bP, hbP⟩ : ∃ b', b + 1 = b' := ⟨_, rfl⟩
 rw [hbP] at k3 ⊢
 have RB0 := hid (show BoxIs ws b (rdA S A c) 31 from ⟨k2⟩)
 have HBZ := hid (show w.heap.size = b ∧ b < bP ∧ bP < ws.heap.size from ⟨hb, by omega, lt_of_block k3⟩)
 have B0 := hid k1
 have P0 := hid k3
 clear hws k1 k2 k3 hb hbP
 go_wp2_with (refine ldR rfl rfl rfl RB0.out ?_)
 refine (num_ref S HS.out 4 (by decide) 4 (by decide) (by decide) A c l H.out n c1 l1 Q0.out _).mono ?_
 rintro e w1 ⟨A1, rfl, h1, hb1⟩
 clear H
 have H := hid h1
 have RB1 := hid (show BoxIs w1 b (rdA S A c) 31 from ⟨(hb1.block _ (lt_of_block RB0.out.at_)).trans RB0.out.at_⟩)
 obtain ⟨v1, hv1⟩ : ∃ v, w1.setCells b 0 (rdL S A1 c1) = v := ⟨_, rfl⟩
 have RB2 := hid (show v1.heap[b]? = some (.cells (rdA S A1 c1) 31 (0, 0)) by rw [← hv1]; exact box_into RB1.out.at_ 0 _ (over_3 ..))
 have O2 := hid (show Off b b ws v1 from ((Off.refl b b ws).below hb1 (Nat.le_refl _)).only1 (by rw [← hv1]; exact only_cells _ 0 (Only.refl _ _)))
 have N5 := hid hv1
 clear h1 hb1 hv1
 go_upto_block 0 with (refine stR rfl rfl rfl rfl RB1.out N5.out ?_)
 clear N5 RB1 RB0
 go_cut [4, 6, 7, 8, 9, 10, 11] (fun o s6 s7 s8 s9 s10 s11 wx => ∃ (Aj j : Nat) (v : Option Addr) (cap : Nat), o = .slice v j cap ∧ j ≤ cap ∧ Hid (wx.heap[b]? = some (.cells (rdA S Aj c') 31 (0, 0))) ∧ Hid (At S Aj l') ∧ Hid (From ws.heap.size v ∧ (c' = 0 → j = xs.length ∧ Lbls wx v xs)) ∧ Hid (Off b b ws wx))
 case first =>
  go_wp2_with fail
  go_loopw [4, 6] (fun o i wr => ∃ (j Aj : Nat) (v : Option Addr) (cap : Nat), j ≤ n ∧ i = .int .i64 j ∧ o = .slice v j cap ∧ Hid (wr.ownsRow ws.heap.size 140 2 (.slice v j cap) j (flatL (repX labelC.rd c1 l1 j))) ∧ Hid (At S Aj (repS labelC.rd c1 l1 j).2) ∧ Hid (wr.heap[b]? = some (.cells (rdA S Aj (repS labelC.rd c1 l1 j).1) 31 (0, 0))) ∧ Hid (Off b b ws wr)) (fun _ i _ => n - (RowKit.intOf i).toNat)
  case atStart => exact ⟨0, A1, none, 0, Nat.zero_le _, rfl, rfl, World.ownsRow_nil _ _ _ _, H.out, RB2.out, O2.out⟩
  case round =>
   clear H RB2 O2
   obtain ⟨j, Aj, v, cap, hj, rfl, rfl, R, H, RB, O⟩ := hrel
   obtain ⟨cj, hcj⟩ : ∃ d, (repS labelC.rd c1 l1 j).1 = d := ⟨_, rfl⟩; obtain ⟨lj, hlj⟩ : ∃ d, (repS labelC.rd c1 l1 j).2 = d := ⟨_, rfl⟩; have HSJ := hid (show repS labelC.rd c1 l1 j = (cj, lj) by rw [← hcj, ← hlj])
   rw [hcj] at RB
   rw [hlj] at H
   have hcap : j ≤ cap := own_cap R.out
   have rc2 := box_cell RB.out 2 rfl
   clear hcj hlj
   by_cases hgo : j < n ∧ cj = 0
   · obtain ⟨hlt, rfl⟩ := hgo
     have hlt' : (j : Int) < (n : Int) := by omega
     obtain ⟨⟨k1, d1, m1⟩, qa⟩ : ∃ t, (textC 33 (by decide)).rd 0 lj = t := ⟨_, rfl⟩; obtain ⟨⟨k2, cz, lz⟩, qb⟩ : ∃ t, (textC 16 (by decide)).rd d1 m1 = t := ⟨_, rfl⟩
     have q : labelC.rd 0 lj = (⟨k1, k2⟩, cz, lz) := by simp only [labelC, mapC, pairC, pairR, qa, qb]
     have HSZ := hid (show repS labelC.rd c1 l1 (j + 1) = (cz, lz) by show (labelC.rd _ _).2 = _; rw [HSJ.out, q])
     have HXJ := hid (show flatL (repX labelC.rd c1 l1 (j + 1)) = flatL (repX labelC.rd c1 l1 j) ++ [.string k1, .string k2] by
      show flatL (repX labelC.rd c1 l1 j ++ [(labelC.rd _ _).1]) = _
      rw [HSJ.out, q, flatL_snoc])
     have HXL := hid (show (flatL (repX labelC.rd c1 l1 j)).length = j * 2 by rw [flatL_length, repX_len])
     have QA := hid qa
     have QB := hid qb
     clear q qa qb; obtain ⟨wu, hwu⟩ : ∃ v, wr.alloc (.cells #[.string ⟨#[]⟩, .string ⟨#[]⟩] 140) = v := ⟨_, rfl⟩
     have hbu : Below wr.heap.size wr wu := by rw [← hwu]; exact (Below.refl _ _).alloc (Nat.le_refl _) _
     have hu0 : wu.heap[wr.heap.size]? = some (.cells #[.string ⟨#[]⟩, .string ⟨#[]⟩] 140 (0, 0)) := by rw [← hwu]; exact heap_alloc_new _ _
     have HWS := hid (show ws.heap.size ≤ wr.heap.size from O.out.size); have K := hid (show Rk wu b wr.heap.size 140 S Aj 0 [.string ⟨#[]⟩, .string ⟨#[]⟩] wu from ⟨by have := HWS.out; have := HBZ.out; omega, by have := lt_of_block hu0; have := HWS.out; have := HBZ.out; omega, lt_of_block hu0, Off.refl _ _ _, (hbu.block _ (by have := HWS.out; have := HBZ.out; omega)).trans RB.out, hu0⟩)
     have HBU := hid hbu
     clear hbu hu0
     go_wp2_with (first | refine ldR rfl rfl rfl K.out.rb ?_)
     clear hwu RB rc2
     refine (text_ref S HS.out 33 (by decide) 33 (by decide) (by decide) Aj 0 lj H.out k1 d1 m1 QA.out _).mono ?_
     rintro e w2 ⟨A2, rfl, h_, hb_⟩; clear H
     have H := hid h_
     have K_ := hid (K.out.back hb_); clear K h_ hb_
     have K := K_
     clear K_
     obtain ⟨u2, v2, hu2, ⟨q0, q1, q2⟩, a4, a5, K_, o_⟩ := K.out.step A2 d1
     clear o_ K
     have K := hid K_
     clear K_
     have N4 := hid a4
     have N5 := hid a5
     clear a4 a5
     have xc := K.out.cell 0 rfl
     have xf := K.out.free 0
     have K_ := hid (K.out.set 0 (.string k1) [.string k1, .string ⟨#[]⟩] rfl); obtain ⟨y2, hx2⟩ : ∃ v, v2.setCell ⟨wr.heap.size, 0, none⟩ (.string k1) = v := ⟨_, rfl⟩
     rw [hx2] at K_
     clear K
     have K := K_
     clear K_
     go_wp2_with (first | refine stR rfl rfl rfl rfl N4.out N5.out ?_ | refine ldR rfl rfl rfl K.out.rb ?_)
     clear N4 N5 q0 q1 q2 hu2 xc xf hx2
     refine (text_ref S HS.out 16 (by decide) 16 (by decide) (by decide) A2 d1 m1 H.out k2 cz lz QB.out _).mono ?_
     rintro e w3 ⟨A3, rfl, h_, hb_⟩; clear H
     have H := hid h_
     have K_ := hid (K.out.back hb_); clear K h_ hb_
     have K := K_
     clear K_
     obtain ⟨u3, v3, hu3, ⟨q0, q1, q2⟩, a4, a5, K_, o_⟩ := K.out.step A3 cz
     clear o_ K
     have K := hid K_
     clear K_
     have N4 := hid a4
     have N5 := hid a5
     clear a4 a5
     have xc := K.out.cell 1 rfl
     have xf := K.out.free 1
     have K_ := hid (K.out.set 1 (.string k2) [.string k1, .string k2] rfl); obtain ⟨y3, hx3⟩ : ∃ v, v3.setCell ⟨wr.heap.size, 1, none⟩ (.string k2) = v := ⟨_, rfl⟩
     rw [hx3] at K_
     clear K
     have K := K_
     clear K_; have HSZ2 := hid (show wr.heap.size ≤ y3.heap.size from Nat.le_trans HBU.out.size K.out.off.size); have HKO := hid (show ∀ i, i < wr.heap.size → i ≠ b → y3.heap[i]? = wr.heap[i]? from fun i h1 h2 => (K.out.off.block i (Nat.lt_of_lt_of_le h1 HBU.out.size) h2 (by omega)).trans (HBU.out.block i h1)); have RV := hid (Wire.owns_of R.out (w' := y3) (fun r hr => HKO.out r (Wire.owns_lt R.out hr).2 (by have := (Wire.owns_lt R.out hr).1; have := HBZ.out; omega))); have HOWN := hid (RV.out.alloc (.cells #[.string k1, .string k2] 140)); have HLT := hid (show ws.heap.size ≤ y3.heap.size from Nat.le_trans HWS.out HSZ2.out)
     have ua0 := K.out.cell 0 rfl
     have ua1 := K.out.cell 1 rfl
     go_wp2_with (first | refine stR rfl rfl rfl rfl N4.out N5.out ?_ | (at_builtin; refine wpList_append_own _ rfl _ _ 25 rfl ws.heap.size 140 i0 _ 2 32 Tryz.underlying25 hi0 hz0 hz1 hz2 rfl (by decide) _ j (flatL (repX labelC.rd c1 l1 j)) rfl HOWN.out ⟨y3.heap.size, 0, none⟩ 1 1 [.string k1, .string k2] rfl rfl ?c1 ?c2 ?c3 ?c4 ?c5 ?_))
     case c1 => exact (World.ownsRow_lit (base := 0) (size := 2) (e := 140) y3 ([.string k1, .string k2] : List Value).toArray 1 (Nat.zero_le _) (by decide) rfl).cells rfl
     case c2 =>
      intro u hu
      simp only [List.mem_cons, List.not_mem_nil, or_false] at hu
      rcases hu with rfl | rfl <;> rfl
     case c3 => unfold maxLen; omega
     case c4 => omega
     case c5 => have := HLT.out; simp; omega
     intro pv' w8 hown' hgrow _
     obtain ⟨qv, qc, rfl⟩ := own_form hown'
     have hbw : Below ws.heap.size y3 w8 := ((Below.refl _ y3).alloc HLT.out _).grown hgrow (by have := HLT.out; simp; omega) (fun r hr => (HOWN.out.lt r hr).1)
     have R9 := hid (show w8.ownsRow ws.heap.size 140 2 (.slice qv (j + 1) qc) (j + 1) (flatL (repX labelC.rd c1 l1 (j + 1))) by rw [HXJ.out]; exact hown'); have RB9 := hid (show w8.heap[b]? = some (.cells (rdA S A3 (repS labelC.rd c1 l1 (j + 1)).1) 31 (0, 0)) by rw [HSZ.out]; exact (hbw.block _ (by have := HBZ.out; omega)).trans K.out.r); have H9 := hid (show At S A3 (repS labelC.rd c1 l1 (j + 1)).2 by rw [HSZ.out]; exact H.out)
     have O9 := hid (show Off b b ws w8 from by
      have h1 := hbw
      have h2 := K.out.off
      have h3 := HBU.out
      have h4 := O.out
      have h5 := HWS.out
      exact ⟨h1.os.trans (h2.os.trans (h3.os.trans h4.os)), h1.tape.trans (h2.tape.trans (h3.tape.trans h4.tape)), h1.output.trans (h2.output.trans (h3.output.trans h4.output)), Nat.le_trans HLT.out h1.size, fun i i1 i2 _ => (h1.block i i1).trans ((HKO.out i (by omega) i2).trans (h4.block i i1 i2 i2))⟩)
     clear hown' hgrow hbw HOWN RV R K H O; go_wp2
     go_roundw
     case rel => exact ⟨j + 1, A3, qv, qc, by omega, by go_num, rfl, R9.out, H9.out, RB9.out, O9.out⟩
     case measure => simp [RowKit.intOf]; omega
   · have HE := hid (show (cj, lj) = (c', l') by
      have hst : (repS labelC.rd c1 l1 j) = (repS labelC.rd c1 l1 n) := by
       by_cases hc0 : cj = 0
       · rw [show j = n from Nat.le_antisymm hj (Nat.le_of_not_lt fun h => hgo ⟨h, hc0⟩)]
       · have hst := repS_stay labelC (c := c1) (l := l1) (k := j) (by rw [HSJ.out]; exact hc0) (n - j)
         rw [show j + (n - j) = n by omega] at hst
         exact hst.symm
      rw [← HSJ.out, hst, HQ2.out])
     have HXS := hid (show cj = 0 → repX labelC.rd c1 l1 j = xs from fun h0 => by
      have hE := HE.out
      injection hE with hE1 hE2
      rw [show j = n from Nat.le_antisymm hj (Nat.le_of_not_lt fun h => hgo ⟨h, h0⟩), ← HQ1.out, if_pos (by rw [HQ2.out]; exact hE1.symm.trans h0)])
     have hE := HE.out
     injection hE with hE1 hE2
     have hway : ¬ (j : Int) < (n : Int) ∨ ((j : Int) < (n : Int) ∧ (cj == 0) = false) := by
      by_cases h : j < n
      · exact .inr ⟨by omega, by simpa using fun h0 => hgo ⟨h, h0⟩⟩
      · exact .inl (by omega)
     clear hgo HE; have HJ9 := hid (show At S Aj l' by rw [← hE2]; exact H.out); have RB9 := hid (show wr.heap[b]? = some (.cells (rdA S Aj c') 31 (0, 0)) by rw [← hE1]; exact RB.out)
     have G9 := hid (show From ws.heap.size v ∧ (c' = 0 → j = xs.length ∧ Lbls wr v xs) from by
      have ho := R.out
      refine ⟨fun a ha => ?_, fun h0 => ?_⟩
      · exact (ho.lt a.block (by rw [ha]; rfl)).1
      · have hx := HXS.out (hE1.trans h0)
        have hn : j = xs.length := by rw [← hx, repX_len]
        rw [hx, hn] at ho
        exact ⟨hn, (lbls_own ho).1⟩)
     clear H RB
     rcases hway with hlt' | ⟨hlt', hcz'⟩
     all_goals
      go_wp2_with fail
      go_meet
      exact ⟨Aj, j, v, cap, rfl, hcap, RB9, HJ9, G9, O⟩
 case rest =>
  obtain ⟨Aj, j, v, cap, rfl, hcap, RB, H, G, O⟩ := hcut
  obtain ⟨w9, hwc_⟩ : ∃ v, v = wc := ⟨wc, rfl⟩; subst hwc_; have RBX := hid (show BoxIs w9 b (rdA S Aj c') 31 from ⟨RB.out⟩); have PX := hid (show BoxIs w9 bP (rdA ⟨#[]⟩ 0 0) 31 from ⟨(O.out.block bP (by have := HBZ.out; omega) (by have := HBZ.out; omega) (by have := HBZ.out; omega)).trans P0.out⟩); obtain ⟨we, hwe⟩ : ∃ v, w9.setCells bP 0 (rdL S Aj c') = v := ⟨_, rfl⟩
  have HW := hid hwe
  have XE := hid (show we.heap[bP]? = some (.cells (rdA S Aj c') 31 (0, 0)) by rw [← hwe]; exact box_into PX.out.at_ 0 _ (over_3 ..)); have OE := hid (show Only bP w9 we by rw [← hwe]; exact only_cells _ 0 (Only.refl _ _)); clear hwe
  go_wp2_with (first | refine ldR rfl rfl rfl RBX.out ?_ | refine stR rfl rfl rfl rfl PX.out HW.out ?_)
  have r0 := box_cell XE.out 0 rfl
  have r1 := box_cell XE.out 1 rfl
  have r2 := box_cell XE.out 2 rfl
  refine bodyPost_ret (v := .tuple #[.agg (rdA S Aj c'), .slice v j cap]) ?hres rfl ?_
  case hres => simp [results, Tryz.results43, go_sem, r0, r1, r2]
  have hbl : Below w.heap.size w we := by
   have h0 := B0.out; have hk := O.out; have he := OE.out; have hz := HBZ.out
   exact ⟨he.os.trans (hk.os.trans h0.os), he.tape.trans (hk.tape.trans h0.tape), he.output.trans (hk.output.trans h0.output), Nat.le_trans h0.size (Nat.le_trans hk.size he.size), fun i hi => (he.block i (by omega)).trans ((hk.block i (by have := h0.size; omega) (by omega) (by omega)).trans (h0.block i hi))⟩
  exact ⟨Aj, v, j, cap, rfl, H.out, hcap, fun a ha => by have := G.out.1 a ha; have := HBZ.out; omega, fun h0 => ⟨(G.out.2 h0).1, lbls_move (G.out.2 h0).2 OE.out.size (fun a ha hl => OE.out.block _ (by have := G.out.1 a ha; have := HBZ.out; omega))⟩, hbl⟩
end Tl
end Go.Proofs.YtljbpelogjmciaaGreatDoor
