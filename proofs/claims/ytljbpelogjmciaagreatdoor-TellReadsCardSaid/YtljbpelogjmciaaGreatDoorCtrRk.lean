/-
 The document's reading of containers (provostref07.takes) by contract. Condition: the text has at most 2^46 bytes.
-/
import Derived.Test.YtljbpelogjmciaaGreatDoorLabRk
import Derived.Maps.AppendAt
set_option linter.unusedVariables false
set_option linter.unusedSimpArgs false
namespace Go.Proofs.YtljbpelogjmciaaGreatDoor
open Go.ChangeShapes Go.WideShapes Go.ChangeAt Go.RowKit Go.Lib
open LebMath WirePure Sd Wire SpecOwn SpecRef Book Pk
namespace Tl
theorem over_11_2 (a0 a1 a2 a3 a4 a5 a6 a7 a8 a9 a10 b0 b1 b2 : Value) : over #[a0, a1, a2, a3, a4, a5, a6, a7, a8, a9, a10] 2 [b0, b1, b2] = #[a0, a1, b0, b1, b2, a5, a6, a7, a8, a9, a10] := by
 simp [over]
theorem over_11_5 (a0 a1 a2 a3 a4 a5 a6 a7 a8 a9 a10 b0 b1 b2 : Value) : over #[a0, a1, a2, a3, a4, a5, a6, a7, a8, a9, a10] 5 [b0, b1, b2] = #[a0, a1, a2, a3, a4, b0, b1, b2, a8, a9, a10] := by
 simp [over]
def CsSays (S : ByteArray) (xs : List Ctr) (c' : Int) (l' : List UInt8) (w : World) (e : Ending) (w' : World) : Prop := ∃ (A' : Nat) (P : Option Addr) (m cap : Nat), e = .returned (.tuple #[.agg #[.string S, .int .i64 A', .int .i64 c'], .slice P m cap]) ∧ At S A' l' ∧ m ≤ cap ∧ m ≤ 1000 ∧ (c' = 0 → m = xs.length ∧ CtrsUp w.heap.size w' P xs) ∧ Below w.heap.size w w'
set_option maxRecDepth 100000 in
set_option maxHeartbeats 8000000 in
theorem takes_ref2 (S : ByteArray) (hS : S.size ≤ 70368744177664) (k : Nat) (hk : k < 18446744073709551616) (hk1 : k ≤ 1000) (m : Int) (hm : m = k) (A : Nat) (c : Int) (l : List UInt8) (hA : At S A l) (xs : List Ctr) (c' : Int) (l' : List UInt8) (hq : (listC k hk ctrC).rd c l = (xs, c', l')) (w : World) :
 Calls Tryz.prog 44 #[.agg #[.string S, .int .i64 A, .int .i64 c], .int .i64 m] w (CsSays S xs c' l' w) := by
 subst hm
 have HS := hid hS
 have H := hid hA
 obtain ⟨n, hn⟩ : ∃ n, WirePure.numV k c l = n := ⟨_, rfl⟩
 obtain ⟨c1, hc1⟩ : ∃ d, numE k c l = d := ⟨_, rfl⟩
 obtain ⟨l1, hl1⟩ : ∃ d, numL k c l = d := ⟨_, rfl⟩
 have q0 : (intC k hk).rd c l = ((n : Int), c1, l1) := by rw [← hn, ← hc1, ← hl1]; rfl
 have hnk : n ≤ k := by rw [← hn]; exact numV_le k c l
 have hq' : ((if (repS ctrC.rd c1 l1 n).1 = 0 then repX ctrC.rd c1 l1 n else []), repS ctrC.rd c1 l1 n) = (xs, c', l') := by rw [← hn, ← hc1, ← hl1]; exact hq
 injection hq' with hq1 hq2
 have HQ1 := hid hq1
 have HQ2 := hid hq2
 have Q0 := hid q0
 obtain ⟨i0, hi0, hz0, hz1, hz2⟩ := info_parts info_ctrU
 obtain ⟨j0, hj0, hy0, hy1, hy2⟩ := info_parts info_ports
 clear hA hq hq1 hq2 q0 hn hc1 hl1 hS
 go_enter Tryz.func44, Tryz.ntmps44
 go_wp2_with fail
 obtain ⟨ws, hws⟩ : ∃ v, (w.alloc (.cells (rdA S A c) 31)).alloc (.cells (rdA ⟨#[]⟩ 0 0) 31) = v := ⟨_, rfl⟩
 obtain ⟨k1, k2, k3⟩ := two_boxes w _ _ ws hws
 rw [hws]
 obtain ⟨b, hb⟩ : ∃ b, w.heap.size = b := ⟨_, rfl⟩
 rw [hb] at k2 k3 ⊢
 obtain ⟨bP, hbP⟩ : ∃ b', b + 1 = b' := ⟨_, rfl⟩
 rw [hbP] at k3 ⊢
 have RB0 := hid (show BoxIs ws b (rdA S A c) 31 from ⟨k2⟩)
 have HBZ := hid (show w.heap.size = b ∧ b < bP ∧ bP < ws.heap.size from ⟨hb, by omega, lt_of_block k3⟩)
 have B0 := hid k1
 have P0 := hid k3
 clear hws k1 k2 k3 hb hbP
 go_wp2_with (refine ldR rfl rfl rfl RB0.out ?_)
 refine (num_ref S HS.out k hk (k : Int) rfl (by omega) A c l H.out n c1 l1 Q0.out _).mono ?_
 rintro e w1 ⟨A1, rfl, h1, hb1⟩
 clear H
 have H := hid h1
 have RB1 := hid (show BoxIs w1 b (rdA S A c) 31 from ⟨(hb1.block _ (lt_of_block RB0.out.at_)).trans RB0.out.at_⟩)
 obtain ⟨v1, hv1⟩ : ∃ v, w1.setCells b 0 (rdL S A1 c1) = v := ⟨_, rfl⟩
 have RB2 := hid (show v1.heap[b]? = some (.cells (rdA S A1 c1) 31 (0, 0)) by rw [← hv1]; exact box_into RB1.out.at_ 0 _ (over_3 ..))
 have O2 := hid (show Off b b ws v1 from ((Off.refl b b ws).below hb1 (Nat.le_refl _)).only1 (by rw [← hv1]; exact only_cells _ 0 (Only.refl _ _)))
 have N5 := hid hv1
 clear h1 hb1 hv1
 go_upto_block 0 with (refine stR rfl rfl rfl rfl RB1.out N5.out ?_)
 clear N5 RB1 RB0
 go_cut [6, 8, 9, 10, 11, 12, 13, 14, 15, 16, 17, 18, 19, 20, 21, 22, 23, 24, 25, 26] (fun o s8 s9 s10 s11 s12 s13 s14 s15 s16 s17 s18 s19 s20 s21 s22 s23 s24 s25 s26 wx => ∃ (Aj j : Nat) (v : Option Addr) (cap : Nat), o = .slice v j cap ∧ j ≤ cap ∧ j ≤ 1000 ∧ Hid (wx.heap[b]? = some (.cells (rdA S Aj c') 31 (0, 0))) ∧ Hid (At S Aj l') ∧ Hid (c' = 0 → j = xs.length ∧ CtrsUp ws.heap.size wx v xs) ∧ Hid (Off b b ws wx))
 case first =>
  go_wp2_with fail
  go_loopw [6, 8] (fun o i wr => ∃ (j Aj : Nat) (v : Option Addr) (cap : Nat) (LL : List Held), j ≤ n ∧ i = .int .i64 j ∧ o = .slice v j cap ∧ Hid ((repS ctrC.rd c1 l1 j).1 = 0 → LL.map (·.x) = repX ctrC.rd c1 l1 j) ∧ Hid (LL.length = j) ∧ Hid (wr.ownsRow ws.heap.size 74 11 (.slice v j cap) j (flat LL)) ∧ Hid (Gat ws.heap.size wr (.slice v j cap) LL) ∧ Hid (At S Aj (repS ctrC.rd c1 l1 j).2) ∧ Hid (wr.heap[b]? = some (.cells (rdA S Aj (repS ctrC.rd c1 l1 j).1) 31 (0, 0))) ∧ Hid (Off b b ws wr)) (fun _ i _ => n - (RowKit.intOf i).toNat)
  case atStart => exact ⟨0, A1, none, 0, [], Nat.zero_le _, rfl, rfl, fun _ => rfl, rfl, World.ownsRow_nil _ _ _ _, fun t ht => (by cases ht), H.out, RB2.out, O2.out⟩
  case round =>
   clear H RB2 O2
   obtain ⟨j, Aj, v, cap, LL, hj, rfl, rfl, HLX, HLL, R, G, H, RB, O⟩ := hrel
   obtain ⟨wo, hwo⟩ : ∃ v, v = wr := ⟨wr, rfl⟩; subst hwo; obtain ⟨cj, hcj⟩ : ∃ d, (repS ctrC.rd c1 l1 j).1 = d := ⟨_, rfl⟩; obtain ⟨lj, hlj⟩ : ∃ d, (repS ctrC.rd c1 l1 j).2 = d := ⟨_, rfl⟩; have HSJ := hid (show repS ctrC.rd c1 l1 j = (cj, lj) by rw [← hcj, ← hlj])
   rw [hcj] at RB HLX
   rw [hlj] at H
   have hcap : j ≤ cap := own_cap R.out
   have rc2 := box_cell RB.out 2 rfl
   have hjk : (j : Int) ≤ 1000 := by omega
   clear hcj hlj
   by_cases hgo : j < n ∧ cj = 0
   · obtain ⟨hlt, rfl⟩ := hgo
     have hlt' : (j : Int) < (n : Int) := by omega
     obtain ⟨⟨nm, d1, m1⟩, q1⟩ : ∃ t, (textC 16 (by decide)).rd 0 lj = t := ⟨_, rfl⟩; obtain ⟨⟨im, d2, m2⟩, q2⟩ : ∃ t, (textC 33 (by decide)).rd d1 m1 = t := ⟨_, rfl⟩; obtain ⟨⟨a1, e1, f1⟩, q31⟩ : ∃ t, bigC.rd d2 m2 = t := ⟨_, rfl⟩; obtain ⟨⟨a2, e2, f2⟩, q32⟩ : ∃ t, bigC.rd e1 f1 = t := ⟨_, rfl⟩; obtain ⟨⟨a3, d3, m3⟩, q33⟩ : ∃ t, bigC.rd e2 f2 = t := ⟨_, rfl⟩; obtain ⟨⟨a4, e4, f4⟩, q41⟩ : ∃ t, bigC.rd d3 m3 = t := ⟨_, rfl⟩; obtain ⟨⟨a5, e5, f5⟩, q42⟩ : ∃ t, bigC.rd e4 f4 = t := ⟨_, rfl⟩; obtain ⟨⟨a6, d4, m4⟩, q43⟩ : ∃ t, bigC.rd e5 f5 = t := ⟨_, rfl⟩; obtain ⟨kk, hkk⟩ : ∃ n, WirePure.numV 3 d4 m4 = n := ⟨_, rfl⟩; obtain ⟨c5, hc5⟩ : ∃ d, numE 3 d4 m4 = d := ⟨_, rfl⟩; obtain ⟨l5, hl5⟩ : ∃ d, numL 3 d4 m4 = d := ⟨_, rfl⟩
     have q5 : (intC 3 (by decide)).rd d4 m4 = ((kk : Int), c5, l5) := by rw [← hkk, ← hc5, ← hl5]; rfl
     have hkk3 : kk ≤ 3 := by rw [← hkk]; exact numV_le 3 d4 m4
     obtain ⟨⟨d6, m6⟩, q6⟩ : ∃ t, repS portC.rd c5 l5 kk = t := ⟨_, rfl⟩
     have qp : portsC.rd d4 m4 = ((if d6 = 0 then repX portC.rd c5 l5 kk else []), d6, m6) := by
      show ((if (repS portC.rd (numE 3 d4 m4) (numL 3 d4 m4) (numV 3 d4 m4)).1 = 0 then repX portC.rd (numE 3 d4 m4) (numL 3 d4 m4) (numV 3 d4 m4) else []), repS portC.rd (numE 3 d4 m4) (numL 3 d4 m4) (numV 3 d4 m4)) = _
      rw [hkk, hc5, hl5, q6]
     obtain ⟨⟨ev, d7, m7⟩, q7⟩ : ∃ t, (intC 1000 (by decide)).rd d6 m6 = t := ⟨_, rfl⟩; obtain ⟨⟨fl, d8, m8⟩, q8⟩ : ∃ t, (intC 10 (by decide)).rd d7 m7 = t := ⟨_, rfl⟩
     have qr1 : resC.rd d2 m2 = ((a1, a2, a3), d3, m3) := by
      show pairR bigC.rd (pairR bigC.rd bigC.rd) d2 m2 = _
      simp only [pairR, q31, q32, q33]
     have qr2 : resC.rd d3 m3 = ((a4, a5, a6), d4, m4) := by
      show pairR bigC.rd (pairR bigC.rd bigC.rd) d3 m3 = _
      simp only [pairR, q41, q42, q43]
     have q : ctrC.rd 0 lj = (⟨nm, im, a1, a2, a3, a4, a5, a6, (if d6 = 0 then repX portC.rd c5 l5 kk else []), ev, fl⟩, d8, m8) := by
      simp only [ctrC, mapC, pairC, probeC, pairR, q1, q2, qr1, qr2, qp, q7, q8]
     have HSZ := hid (show repS ctrC.rd c1 l1 (j + 1) = (d8, m8) by show (ctrC.rd _ _).2 = _; rw [HSJ.out, q])
     have HXJ := hid (show d6 = 0 → repX ctrC.rd c1 l1 (j + 1) = repX ctrC.rd c1 l1 j ++ [⟨nm, im, a1, a2, a3, a4, a5, a6, repX portC.rd c5 l5 kk, ev, fl⟩] from fun h6 => by
      show repX ctrC.rd c1 l1 j ++ [(ctrC.rd _ _).1] = _
      rw [HSJ.out, q]
      simp only [if_pos h6])
     have HFT := hid (ctr_fits q); have HD6 := hid (fun h0 : d8 = 0 => rd_zero q7 (rd_zero q8 h0))
     have K1 := hid q1
     have K2 := hid q2
     have K31 := hid q31
     have K32 := hid q32
     have K33 := hid q33
     have K41 := hid q41
     have K42 := hid q42
     have K43 := hid q43
     have K5 := hid q5
     have K6 := hid q6
     have K7 := hid q7
     have K8 := hid q8
     have hkk' : (kk : Int) ≤ 3 := by omega
     clear q qp qr1 qr2 hkk hc5 hl5 q1 q2 q31 q32 q33 q41 q42 q43 q5 q6 q7 q8; obtain ⟨wu, hwu⟩ : ∃ v, wo.alloc (.cells #[.string ⟨#[]⟩, .string ⟨#[]⟩, .int .i64 0, .int .i64 0, .int .i64 0, .int .i64 0, .int .i64 0, .int .i64 0, .slice none 0 0, .int .i64 0, .int .i64 0] 74) = v := ⟨_, rfl⟩
     have hbu : Below wo.heap.size wo wu := by rw [← hwu]; exact (Below.refl _ _).alloc (Nat.le_refl _) _
     have hu0 : wu.heap[wo.heap.size]? = some (.cells #[.string ⟨#[]⟩, .string ⟨#[]⟩, .int .i64 0, .int .i64 0, .int .i64 0, .int .i64 0, .int .i64 0, .int .i64 0, .slice none 0 0, .int .i64 0, .int .i64 0] 74 (0, 0)) := by rw [← hwu]; exact heap_alloc_new _ _
     have HWS := hid (show ws.heap.size ≤ wo.heap.size from O.out.size); have K := hid (show Rk wu b wo.heap.size 74 S Aj 0 [.string ⟨#[]⟩, .string ⟨#[]⟩, .int .i64 0, .int .i64 0, .int .i64 0, .int .i64 0, .int .i64 0, .int .i64 0, .slice none 0 0, .int .i64 0, .int .i64 0] wu from ⟨by have := HWS.out; have := HBZ.out; omega, by have := lt_of_block hu0; have := HWS.out; have := HBZ.out; omega, lt_of_block hu0, Off.refl _ _ _, (hbu.block _ (by have := HWS.out; have := HBZ.out; omega)).trans RB.out, hu0⟩)
     have HBU := hid hbu
     have HWL := hid (show wo.heap.size < wu.heap.size from lt_of_block hu0); clear hbu hu0
     go_wp2_with (first | refine ldR rfl rfl rfl K.out.rb ?_)
     clear hwu RB rc2
     refine (text_ref S HS.out 16 (by decide) 16 (by decide) (by decide) Aj 0 lj H.out nm d1 m1 K1.out _).mono ?_
     rintro e w2 ⟨A2, rfl, h_, hb_⟩; clear H
     have H := hid h_
     have K_ := hid (K.out.back hb_); clear K h_ hb_
     have K := K_
     clear K_
     obtain ⟨u2, v2, hu2, ⟨q0, q1, q2⟩, a4, a5, K_, o_⟩ := K.out.step A2 d1
     clear o_ K
     have K := hid K_
     clear K_
     have N4 := hid a4
     have N5 := hid a5
     clear a4 a5
     have xc := K.out.cell 0 rfl
     have xf := K.out.free 0
     have K_ := hid (K.out.set 0 (.string nm) [.string nm, .string ⟨#[]⟩, .int .i64 0, .int .i64 0, .int .i64 0, .int .i64 0, .int .i64 0, .int .i64 0, .slice none 0 0, .int .i64 0, .int .i64 0] rfl); obtain ⟨y2, hx2⟩ : ∃ v, v2.setCell ⟨wo.heap.size, 0, none⟩ (.string nm) = v := ⟨_, rfl⟩
     rw [hx2] at K_
     clear K
     have K := K_
     clear K_
     go_wp2_with (first | refine stR rfl rfl rfl rfl N4.out N5.out ?_ | refine ldR rfl rfl rfl K.out.rb ?_)
     clear N4 N5 q0 q1 q2 hu2 xc xf hx2
     refine (text_ref S HS.out 33 (by decide) 33 (by decide) (by decide) A2 d1 m1 H.out im d2 m2 K2.out _).mono ?_
     rintro e w3 ⟨A3, rfl, h_, hb_⟩; clear H
     have H := hid h_
     have K_ := hid (K.out.back hb_); clear K h_ hb_
     have K := K_
     clear K_
     obtain ⟨u3, v3, hu3, ⟨q0, q1, q2⟩, a4, a5, K_, o_⟩ := K.out.step A3 d2
     clear o_ K
     have K := hid K_
     clear K_
     have N4 := hid a4
     have N5 := hid a5
     clear a4 a5
     have xc := K.out.cell 1 rfl
     have xf := K.out.free 1
     have K_ := hid (K.out.set 1 (.string im) [.string nm, .string im, .int .i64 0, .int .i64 0, .int .i64 0, .int .i64 0, .int .i64 0, .int .i64 0, .slice none 0 0, .int .i64 0, .int .i64 0] rfl); obtain ⟨y3, hx3⟩ : ∃ v, v3.setCell ⟨wo.heap.size, 1, none⟩ (.string im) = v := ⟨_, rfl⟩
     rw [hx3] at K_
     clear K
     have K := K_
     clear K_
     go_wp2_with (first | refine stR rfl rfl rfl rfl N4.out N5.out ?_ | refine ldR rfl rfl rfl K.out.rb ?_)
     clear N4 N5 q0 q1 q2 hu3 xc xf hx3
     refine (three_ref S HS.out A3 d2 m2 H.out a1 a2 a3 e1 e2 d3 f1 f2 m3 K31.out K32.out K33.out _).mono ?_
     rintro e w4 ⟨A4, rfl, h_, hb_⟩; clear H
     have H := hid h_
     have K_ := hid (K.out.back hb_); clear K h_ hb_
     have K := K_
     clear K_
     obtain ⟨u4, v4, hu4, ⟨q0, q1, q2⟩, a4_, a5_, a6_, K_, o_⟩ := K.out.step2 A4 d3 70 #[.int .i64 a1, .int .i64 a2, .int .i64 a3]
     clear K o_
     have K := hid K_
     have N4 := hid a4_
     have N5 := hid a5_
     have N8 := hid a6_
     have KX := hid K.out.xb
     have KN := hid (K.out.sets 2 [.int .i64 a1, .int .i64 a2, .int .i64 a3] [.string nm, .string im, .int .i64 a1, .int .i64 a2, .int .i64 a3, .int .i64 0, .int .i64 0, .int .i64 0, .slice none 0 0, .int .i64 0, .int .i64 0] (over_11_2 _ _ _ _ _ _ _ _ _ _ _ _ _ _)); obtain ⟨y4, hy4⟩ : ∃ v, v4.setCells wo.heap.size 2 [.int .i64 a1, .int .i64 a2, .int .i64 a3] = v := ⟨_, rfl⟩
     rw [hy4] at KN
     have N9 := hid hy4
     clear K K_ a4_ a5_ a6_ hy4
     have K := KN
     clear KN
     go_wp2_with (first | refine stR rfl rfl rfl rfl N4.out N5.out ?_ | refine ldB 70 Tryz.underlying70 rfl [.int .i64 a1, .int .i64 a2, .int .i64 a3] (by kernel_rfl) rfl rfl rfl N8.out rfl ?_ | refine stB 70 [.int .i64 a1, .int .i64 a2, .int .i64 a3] (by kernel_rfl) (by simp [Value.oneCell']) rfl rfl rfl rfl KX.out (by simp) N9.out ?_ | refine ldR rfl rfl rfl K.out.rb ?_)
     clear N4 N5 N8 N9 KX q0 q1 q2 hu4
     refine (three_ref S HS.out A4 d3 m3 H.out a4 a5 a6 e4 e5 d4 f4 f5 m4 K41.out K42.out K43.out _).mono ?_
     rintro e w5 ⟨A5, rfl, h_, hb_⟩; clear H
     have H := hid h_
     have K_ := hid (K.out.back hb_); clear K h_ hb_
     have K := K_
     clear K_
     obtain ⟨u5, v5, hu5, ⟨q0, q1, q2⟩, a4_, a5_, a6_, K_, o_⟩ := K.out.step2 A5 d4 70 #[.int .i64 a4, .int .i64 a5, .int .i64 a6]
     clear K o_
     have K := hid K_
     have N4 := hid a4_
     have N5 := hid a5_
     have N8 := hid a6_
     have KX := hid K.out.xb
     have KN := hid (K.out.sets 5 [.int .i64 a4, .int .i64 a5, .int .i64 a6] [.string nm, .string im, .int .i64 a1, .int .i64 a2, .int .i64 a3, .int .i64 a4, .int .i64 a5, .int .i64 a6, .slice none 0 0, .int .i64 0, .int .i64 0] (over_11_5 _ _ _ _ _ _ _ _ _ _ _ _ _ _)); obtain ⟨y5, hy5⟩ : ∃ v, v5.setCells wo.heap.size 5 [.int .i64 a4, .int .i64 a5, .int .i64 a6] = v := ⟨_, rfl⟩
     rw [hy5] at KN
     have N9 := hid hy5
     clear K K_ a4_ a5_ a6_ hy5
     have K := KN
     clear KN
     go_wp2_with (first | refine stR rfl rfl rfl rfl N4.out N5.out ?_ | refine ldB 70 Tryz.underlying70 rfl [.int .i64 a4, .int .i64 a5, .int .i64 a6] (by kernel_rfl) rfl rfl rfl N8.out rfl ?_ | refine stB 70 [.int .i64 a4, .int .i64 a5, .int .i64 a6] (by kernel_rfl) (by simp [Value.oneCell']) rfl rfl rfl rfl KX.out (by simp) N9.out ?_ | refine ldR rfl rfl rfl K.out.rb ?_)
     clear N4 N5 N8 N9 KX q0 q1 q2 hu5
     refine (num_ref S HS.out 3 (by decide) 3 (by decide) (by decide) A5 d4 m4 H.out kk c5 l5 K5.out _).mono ?_
     rintro e w6 ⟨A6, rfl, h_, hb_⟩; clear H
     have H := hid h_
     have K_ := hid (K.out.back hb_); clear K h_ hb_
     have K := K_
     clear K_
     obtain ⟨u6, v6, hu6, ⟨q0, q1, q2⟩, a4, a5, K_, o_⟩ := K.out.step A6 c5
     clear o_ K
     have K := hid K_
     clear K_
     have N4 := hid a4
     have N5 := hid a5
     clear a4 a5; have OI := hid (show wu.heap.size ≤ v6.heap.size from K.out.off.size); obtain ⟨BI, hBI⟩ : ∃ B, v6.heap.size = B := ⟨_, rfl⟩
     rw [hBI] at OI
     have HBI := hid hBI
     clear hBI
     go_upto_block 2 with (first | refine stR rfl rfl rfl rfl N4.out N5.out ?_)
     clear N4 N5 q0 q1 q2 hu6
     go_cut [20, 21, 22] (fun s1 s2 s3 wx => ∃ (Ap p : Nat) (pv : Option Addr) (pc : Nat), p ≤ kk ∧ p ≤ pc ∧ Hid (Rk wu b wo.heap.size 74 S Ap d6 [.string nm, .string im, .int .i64 a1, .int .i64 a2, .int .i64 a3, .int .i64 a4, .int .i64 a5, .int .i64 a6, .slice pv p pc, .int .i64 0, .int .i64 0] wx) ∧ Hid (At S Ap m6) ∧ Hid (d6 = 0 → p = kk) ∧ Hid (wx.ownsRow BI 3 1 (.slice pv p pc) p (flatI (repX portC.rd c5 l5 p))))
     case first =>
      go_wp2_with fail
      go_loopw [20] (fun i wi => ∃ (p Ap : Nat) (pv : Option Addr) (pc : Nat), p ≤ kk ∧ i = .int .i64 p ∧ Hid (Rk wu b wo.heap.size 74 S Ap (repS portC.rd c5 l5 p).1 [.string nm, .string im, .int .i64 a1, .int .i64 a2, .int .i64 a3, .int .i64 a4, .int .i64 a5, .int .i64 a6, .slice pv p pc, .int .i64 0, .int .i64 0] wi) ∧ Hid (wi.ownsRow BI 3 1 (.slice pv p pc) p (flatI (repX portC.rd c5 l5 p))) ∧ Hid (At S Ap (repS portC.rd c5 l5 p).2) ∧ Hid (BI ≤ wi.heap.size)) (fun i _ => kk - (RowKit.intOf i).toNat)
      case atStart => exact ⟨0, A6, none, 0, Nat.zero_le _, rfl, K.out, World.ownsRow_nil _ _ _ _, H.out, by unfold Hid; rw [← HBI.out]; exact Nat.le_refl _⟩
      case round =>
       obtain ⟨wi, hwi⟩ : ∃ v, v = wr := ⟨wr, rfl⟩; subst hwi; clear K H
       obtain ⟨p, Ap, pv, pc, hp, rfl, K, PR, H, HLE⟩ := hrel
       obtain ⟨cp, hcp⟩ : ∃ d, (repS portC.rd c5 l5 p).1 = d := ⟨_, rfl⟩; obtain ⟨lp, hlp⟩ : ∃ d, (repS portC.rd c5 l5 p).2 = d := ⟨_, rfl⟩; have HSP := hid (show repS portC.rd c5 l5 p = (cp, lp) by rw [← hcp, ← hlp])
       rw [hcp] at K
       rw [hlp] at H
       have hpc : p ≤ pc := own_cap PR.out
       have rp2 := box_cell K.out.r 2 rfl
       clear hcp hlp
       by_cases hgo : p < kk ∧ cp = 0
       · obtain ⟨hpl, rfl⟩ := hgo
         have hpl' : (p : Int) < (kk : Int) := by omega
         obtain ⟨⟨x, c6, l6⟩, q⟩ : ∃ t, (intC 65535 (by decide)).rd 0 lp = t := ⟨_, rfl⟩
         have qp : portC.rd 0 lp = (x, c6, l6) := q
         have HSQ := hid (show repS portC.rd c5 l5 (p + 1) = (c6, l6) by show (portC.rd _ _).2 = _; rw [HSP.out, qp])
         have HXP := hid (show flatI (repX portC.rd c5 l5 (p + 1)) = flatI (repX portC.rd c5 l5 p) ++ [.int .i64 x] by
          show flatI (repX portC.rd c5 l5 p ++ [(portC.rd _ _).1]) = _
          rw [HSP.out, qp, flatI_snoc])
         have HXL := hid (show (flatI (repX portC.rd c5 l5 p)).length = p * 1 by rw [flatI_length, repX_len])
         have QP := hid q
         have OW := hid (Off.refl b wo.heap.size wi); clear q qp
         go_wp2_with (first | refine ldR rfl rfl rfl K.out.rb ?_)
         clear rp2
         refine (num_ref S HS.out 65535 (by decide) 65535 (by decide) (by decide) Ap 0 lp H.out x c6 l6 QP.out _).mono ?_
         rintro e w7 ⟨A7, rfl, h_, hb_⟩; clear H
         have H := hid h_
         have K_ := hid (K.out.back hb_); have OW_ := hid (OW.out.trans ((Off.refl _ _ _).below hb_ (Nat.le_refl _))); clear OW
         have OW := OW_
         clear OW_; clear K h_ hb_
         have K := K_
         clear K_
         obtain ⟨u7, v7, hu7, ⟨q0, q1, q2⟩, a4, a5, K_, o_⟩ := K.out.step A7 c6
         have OW_ := hid (OW.out.trans o_); clear OW
         have OW := OW_
         clear OW_; clear o_ K
         have K := hid K_
         clear K_
         have N4 := hid a4
         have N5 := hid a5
         clear a4 a5
         have x8_ := K.out.cell 8 rfl
         have RV := hid (Wire.owns_of PR.out (w' := v7) (fun r hr => OW.out.block r (Wire.owns_lt PR.out hr).2 (by have := (Wire.owns_lt PR.out hr).1; have := OI.out; have := HWL.out; have := HWS.out; have := HBZ.out; omega) (by have := (Wire.owns_lt PR.out hr).1; have := OI.out; have := HWL.out; omega))); have HOWN := hid (RV.out.alloc (.cells #[.int .i64 x] 3)); have HLT := hid (show BI ≤ v7.heap.size from Nat.le_trans HLE.out OW.out.size)
         go_wp2_with (first | refine stR rfl rfl rfl rfl N4.out N5.out ?_ | (at_builtin; refine wpList_append_own _ rfl _ _ 40 rfl BI 3 j0 _ 1 8 Tryz.underlying40 hj0 hy0 hy1 hy2 rfl (by decide) _ p (flatI (repX portC.rd c5 l5 p)) rfl HOWN.out ⟨v7.heap.size, 0, none⟩ 1 1 [.int .i64 x] rfl rfl ?c1 ?c2 ?c3 ?c4 ?c5 ?_))
         case c1 => exact (World.ownsRow_lit (base := 0) (size := 1) (e := 3) v7 ([.int .i64 x] : List Value).toArray 1 (Nat.zero_le _) (by decide) rfl).cells rfl
         case c2 =>
          intro u hu
          simp only [List.mem_cons, List.not_mem_nil, or_false] at hu
          rcases hu with rfl <;> rfl
         case c3 => unfold maxLen; omega
         case c4 => omega
         case c5 => have := HLT.out; simp; omega
         intro pv' w8 hown' hgrow _
         obtain ⟨qv, qc, rfl⟩ := own_form hown'
         have hbw : Below BI v7 w8 := ((Below.refl _ v7).alloc HLT.out _).grown hgrow (by have := HLT.out; simp; omega) (fun r hr => (HOWN.out.lt r hr).1)
         have K_ := hid (K.out.call hbw OI.out); have R8 := hid (ownsRow_setCell_below hown' (a := ⟨wo.heap.size, 8, none⟩) (by have := OI.out; have := HWL.out; show wo.heap.size < BI; omega) (.slice qv (p + 1) qc)); have HL8 := hid (show BI ≤ w8.heap.size from Nat.le_trans HLT.out hbw.size); clear K OW RV HOWN hgrow hbw hown' PR N4 N5 q0 q1 q2 hu7 x8_
         have K := K_
         clear K_
         have xc := K.out.cell 8 rfl
         have xf := K.out.free 8
         have K_ := hid (K.out.set 8 (.slice qv (p + 1) qc) [.string nm, .string im, .int .i64 a1, .int .i64 a2, .int .i64 a3, .int .i64 a4, .int .i64 a5, .int .i64 a6, .slice qv (p + 1) qc, .int .i64 0, .int .i64 0] rfl); obtain ⟨y8, hx8⟩ : ∃ v, w8.setCell ⟨wo.heap.size, 8, none⟩ (.slice qv (p + 1) qc) = v := ⟨_, rfl⟩
         rw [hx8] at K_
         clear K
         have K := K_
         clear K_
         rw [hx8] at R8
         have HL9 := hid (show BI ≤ y8.heap.size by rw [← hx8]; simpa using HL8.out); have K9 := hid (show Rk wu b wo.heap.size 74 S A7 (repS portC.rd c5 l5 (p + 1)).1 [.string nm, .string im, .int .i64 a1, .int .i64 a2, .int .i64 a3, .int .i64 a4, .int .i64 a5, .int .i64 a6, .slice qv (p + 1) qc, .int .i64 0, .int .i64 0] y8 by rw [HSQ.out]; exact K.out); have H9 := hid (show At S A7 (repS portC.rd c5 l5 (p + 1)).2 by rw [HSQ.out]; exact H.out); have R9 := hid (show y8.ownsRow BI 3 1 (.slice qv (p + 1) qc) (p + 1) (flatI (repX portC.rd c5 l5 (p + 1))) by rw [HXP.out]; exact R8.out); clear K H; go_wp2
         go_roundw
         case rel => exact ⟨p + 1, A7, qv, qc, by omega, by go_num, K9.out, R9.out, H9.out, HL9.out⟩
         case measure => simp [RowKit.intOf]; omega
       · have HE := hid (show (cp, lp) = (d6, m6) by
          have hst : (repS portC.rd c5 l5 p) = (repS portC.rd c5 l5 kk) := by
           by_cases hc0 : cp = 0
           · rw [show p = kk from Nat.le_antisymm hp (Nat.le_of_not_lt fun h => hgo ⟨h, hc0⟩)]
           · have hst := repS_stay portC (c := c5) (l := l5) (k := p) (by rw [HSP.out]; exact hc0) (kk - p)
             rw [show p + (kk - p) = kk by omega] at hst
             exact hst.symm
          rw [← HSP.out, hst, K6.out])
         have HJN := hid (show cp = 0 → p = kk from fun h => Nat.le_antisymm hp (Nat.le_of_not_lt fun h1 => hgo ⟨h1, h⟩))
         have hE := HE.out
         injection hE with hE1 hE2
         have hway : ¬ (p : Int) < (kk : Int) ∨ ((p : Int) < (kk : Int) ∧ (cp == 0) = false) := by
          by_cases h : p < kk
          · exact .inr ⟨by omega, by simpa using fun h0 => hgo ⟨h, h0⟩⟩
          · exact .inl (by omega)
         clear hgo HE; have K9 := hid (show Rk wu b wo.heap.size 74 S Ap d6 [.string nm, .string im, .int .i64 a1, .int .i64 a2, .int .i64 a3, .int .i64 a4, .int .i64 a5, .int .i64 a6, .slice pv p pc, .int .i64 0, .int .i64 0] wi by rw [← hE1]; exact K.out); have H9 := hid (show At S Ap m6 by rw [← hE2]; exact H.out); have HPK := hid (show d6 = 0 → p = kk from fun h => HJN.out (hE1.trans h)); clear K H
         rcases hway with hpl' | ⟨hpl', hcz'⟩
         all_goals
          go_wp2_with fail
          go_meet
          exact ⟨Ap, p, pv, pc, hp, hpc, K9, H9, HPK, PR⟩
     case rest =>
      obtain ⟨Ap, p, pv, pc, hpk, hpc, K_, H_, HPK, PR⟩ := hcut
      obtain ⟨w9, hwc_⟩ : ∃ v, v = wc := ⟨wc, rfl⟩; subst hwc_; clear K H
      have K := K_
      have H := H_
      clear K_ H_; obtain ⟨ps, hps⟩ : ∃ d, repX portC.rd c5 l5 p = d := ⟨_, rfl⟩; have HPL := hid (show ps.length = p by rw [← hps, repX_len]); have HPF := hid (show ∀ z ∈ ps, (Lit.int IntKind.i64 z).wf = true by rw [← hps]; exact port_fits c5 l5 p); have HPX := hid (show d6 = 0 → ps = repX portC.rd c5 l5 kk from fun h0 => by rw [← hps, HPK.out h0])
      rw [hps] at PR
      have HFX := hid (show Ctr.Fits ⟨nm, im, a1, a2, a3, a4, a5, a6, ps, ev, fl⟩ from ⟨HFT.out.rc, HFT.out.rm, HFT.out.rp, HFT.out.lc, HFT.out.lm, HFT.out.lp, HFT.out.ev, HFT.out.fl, by have := HPL.out; show ps.length ≤ _; omega⟩); have OP := hid (Off.refl b wo.heap.size w9); clear hps
      go_wp2_with (first | refine ldR rfl rfl rfl K.out.rb ?_)
      refine (num_ref S HS.out 1000 (by decide) 1000 (by decide) (by decide) Ap d6 m6 H.out ev d7 m7 K7.out _).mono ?_
      rintro e w10 ⟨A10, rfl, h_, hb_⟩; clear H
      have H := hid h_
      have K_ := hid (K.out.back hb_); have OP_ := hid (OP.out.trans ((Off.refl _ _ _).below hb_ (Nat.le_refl _))); clear OP
      have OP := OP_
      clear OP_; clear K h_ hb_
      have K := K_
      clear K_
      obtain ⟨u10, v10, hu10, ⟨q0, q1, q2⟩, a4, a5, K_, o_⟩ := K.out.step A10 d7
      have OP_ := hid (OP.out.trans o_); clear OP
      have OP := OP_
      clear OP_; clear o_ K
      have K := hid K_
      clear K_
      have N4 := hid a4
      have N5 := hid a5
      clear a4 a5
      have xc := K.out.cell 9 rfl
      have xf := K.out.free 9
      have K_ := hid (K.out.set 9 (.int .i64 ev) [.string nm, .string im, .int .i64 a1, .int .i64 a2, .int .i64 a3, .int .i64 a4, .int .i64 a5, .int .i64 a6, .slice pv p pc, .int .i64 ev, .int .i64 0] rfl); have OP_ := hid (OP.out.only2 (show Only wo.heap.size v10 (v10.setCell ⟨wo.heap.size, 9, none⟩ (.int .i64 ev)) from (Only.refl _ _).set 9 _)); obtain ⟨y10, hx10⟩ : ∃ v, v10.setCell ⟨wo.heap.size, 9, none⟩ (.int .i64 ev) = v := ⟨_, rfl⟩
      rw [hx10] at K_ OP_
      clear K OP
      have K := K_
      have OP := OP_
      clear K_ OP_
      go_wp2_with (first | refine stR rfl rfl rfl rfl N4.out N5.out ?_ | refine ldR rfl rfl rfl K.out.rb ?_)
      clear N4 N5 q0 q1 q2 hu10 xc xf hx10
      refine (num_ref S HS.out 10 (by decide) 10 (by decide) (by decide) A10 d7 m7 H.out fl d8 m8 K8.out _).mono ?_
      rintro e w11 ⟨A11, rfl, h_, hb_⟩; clear H
      have H := hid h_
      have K_ := hid (K.out.back hb_); have OP_ := hid (OP.out.trans ((Off.refl _ _ _).below hb_ (Nat.le_refl _))); clear OP
      have OP := OP_
      clear OP_; clear K h_ hb_
      have K := K_
      clear K_
      obtain ⟨u11, v11, hu11, ⟨q0, q1, q2⟩, a4, a5, K_, o_⟩ := K.out.step A11 d8
      have OP_ := hid (OP.out.trans o_); clear OP
      have OP := OP_
      clear OP_; clear o_ K
      have K := hid K_
      clear K_
      have N4 := hid a4
      have N5 := hid a5
      clear a4 a5
      have xc := K.out.cell 10 rfl
      have xf := K.out.free 10
      have K_ := hid (K.out.set 10 (.int .i64 fl) [.string nm, .string im, .int .i64 a1, .int .i64 a2, .int .i64 a3, .int .i64 a4, .int .i64 a5, .int .i64 a6, .slice pv p pc, .int .i64 ev, .int .i64 fl] rfl); have OP_ := hid (OP.out.only2 (show Only wo.heap.size v11 (v11.setCell ⟨wo.heap.size, 10, none⟩ (.int .i64 fl)) from (Only.refl _ _).set 10 _)); obtain ⟨y11, hx11⟩ : ∃ v, v11.setCell ⟨wo.heap.size, 10, none⟩ (.int .i64 fl) = v := ⟨_, rfl⟩
      rw [hx11] at K_ OP_
      clear K OP
      have K := K_
      have OP := OP_
      clear K_ OP_
      have ua0 := K.out.cell 0 rfl
      have ua1 := K.out.cell 1 rfl
      have ua2 := K.out.cell 2 rfl
      have ua3 := K.out.cell 3 rfl
      have ua4 := K.out.cell 4 rfl
      have ua5 := K.out.cell 5 rfl
      have ua6 := K.out.cell 6 rfl
      have ua7 := K.out.cell 7 rfl
      have ua8 := K.out.cell 8 rfl
      have ua9 := K.out.cell 9 rfl
      have ua10 := K.out.cell 10 rfl
      have HKO := hid (show Wire.Aside b wo y11 from by
       have h2 := K.out.off; have h3 := HBU.out
       exact ⟨h2.os.trans h3.os, h2.tape.trans h3.tape, h2.output.trans h3.output, Nat.le_trans h3.size h2.size, fun i hi => (h2.block i (Nat.lt_of_lt_of_le hi.1 h3.size) hi.2 (by have := hi.1; omega)).trans (h3.block i hi.1)⟩)
      have RV := hid (Wire.owns_of R.out (w' := y11) (fun r hr => HKO.out.block r ⟨(Wire.owns_lt R.out hr).2, by have := (Wire.owns_lt R.out hr).1; have := HBZ.out; omega⟩)); have PV := hid (Wire.owns_of PR.out (w' := y11) (fun r hr => OP.out.block r (Wire.owns_lt PR.out hr).2 (by have := (Wire.owns_lt PR.out hr).1; have := OI.out; have := HWL.out; have := HWS.out; have := HBZ.out; omega) (by have := (Wire.owns_lt PR.out hr).1; have := OI.out; have := HWL.out; omega)))
      have HG8 := hid (show Gat ws.heap.size y11 (.slice v j cap) (LL ++ [⟨⟨nm, im, a1, a2, a3, a4, a5, a6, ps, ev, fl⟩, pv, pc⟩]) from fun t ht => by
       rcases List.mem_append.1 ht with ht | ht
       · exact (G.out.aside HKO.out (by have := HBZ.out; omega)) t ht
       · rw [List.mem_singleton.1 ht]
         have hpr := PV.out
         rw [← HPL.out] at hpr
         obtain ⟨hn1, hn2⟩ := nums_own hpr HPF.out
         have hOI := OI.out
         have hWL := HWL.out
         have hWS := HWS.out
         refine ⟨HFX.out, hn1, fun a ha => by have := hn2 a ha; omega, ?_, fun _ y hy hr => ?_⟩
         · show ps.length ≤ pc
           rw [HPL.out]; exact hpc
         · have h3 := (Wire.owns_lt R.out (r := y.block) hr).2
           have h4 := hn2 y hy
           omega)
      have HLT := hid (show ws.heap.size ≤ y11.heap.size from Nat.le_trans HWS.out HKO.out.size); have HOWN := hid (RV.out.alloc (.cells #[.string nm, .string im, .int .i64 a1, .int .i64 a2, .int .i64 a3, .int .i64 a4, .int .i64 a5, .int .i64 a6, .slice pv p pc, .int .i64 ev, .int .i64 fl] 74)); have HCE := hid (show Held.cells ⟨⟨nm, im, a1, a2, a3, a4, a5, a6, ps, ev, fl⟩, pv, pc⟩ = [.string nm, .string im, .int .i64 a1, .int .i64 a2, .int .i64 a3, .int .i64 a4, .int .i64 a5, .int .i64 a6, .slice pv p pc, .int .i64 ev, .int .i64 fl] by rw [← HPL.out]; rfl)
      go_wp2_with (first | refine stR rfl rfl rfl rfl N4.out N5.out ?_ | (at_builtin; refine wpList_append_own_at _ rfl _ _ 26 rfl ws.heap.size 74 i0 _ 11 120 Tryz.underlying26 hi0 hz0 hz1 hz2 rfl (by decide) _ j (flat LL) rfl HOWN.out ⟨y11.heap.size, 0, none⟩ 1 1 [.string nm, .string im, .int .i64 a1, .int .i64 a2, .int .i64 a3, .int .i64 a4, .int .i64 a5, .int .i64 a6, .slice pv p pc, .int .i64 ev, .int .i64 fl] rfl rfl ?d1 ?d2 ?d3 ?d4 ?d5 ?_))
      case d1 => exact (World.ownsRow_lit (base := 0) (size := 11) (e := 74) y11 ([.string nm, .string im, .int .i64 a1, .int .i64 a2, .int .i64 a3, .int .i64 a4, .int .i64 a5, .int .i64 a6, .slice pv p pc, .int .i64 ev, .int .i64 fl] : List Value).toArray 1 (Nat.zero_le _) (by decide) rfl).cells rfl
      case d2 =>
       intro u hu
       simp only [List.mem_cons, List.not_mem_nil, or_false] at hu
       rcases hu with rfl | rfl | rfl | rfl | rfl | rfl | rfl | rfl | rfl | rfl | rfl <;> rfl
      case d3 => unfold maxLen; omega
      case d4 => omega
      case d5 => have := HLT.out; simp; omega
      intro pv' w12 hown' hgrow _ hat
      obtain ⟨qv, qc, rfl⟩ := own_form hown'
      have hbw : Below ws.heap.size y11 w12 := ((Below.refl _ y11).alloc HLT.out _).grown hgrow (by have := HLT.out; simp; omega) (fun r hr => (HOWN.out.lt r hr).1)
      have R9 := hid (show w12.ownsRow ws.heap.size 74 11 (.slice qv (j + 1) qc) (j + 1) (flat (LL ++ [⟨⟨nm, im, a1, a2, a3, a4, a5, a6, ps, ev, fl⟩, pv, pc⟩])) by rw [flat_snoc, HCE.out]; exact hown'); have G9 := hid (HG8.out.grown hgrow hat); have RB9 := hid (show w12.heap[b]? = some (.cells (rdA S A11 (repS ctrC.rd c1 l1 (j + 1)).1) 31 (0, 0)) by rw [HSZ.out]; exact (hbw.block _ (by have := HBZ.out; omega)).trans K.out.r); have H9 := hid (show At S A11 (repS ctrC.rd c1 l1 (j + 1)).2 by rw [HSZ.out]; exact H.out)
      have O9 := hid (show Off b b ws w12 from by
       have h1 := hbw; have h2 := HKO.out; have h4 := O.out
       exact ⟨h1.os.trans (h2.os.trans h4.os), h1.tape.trans (h2.tape.trans h4.tape), h1.output.trans (h2.output.trans h4.output), Nat.le_trans HLT.out h1.size, fun i i1 i2 _ => (h1.block i i1).trans ((h2.block i ⟨by have := h4.size; omega, i2⟩).trans (h4.block i i1 i2 i2))⟩)
      have HX9 := hid (show (repS ctrC.rd c1 l1 (j + 1)).1 = 0 → (LL ++ [(⟨⟨nm, im, a1, a2, a3, a4, a5, a6, ps, ev, fl⟩, pv, pc⟩ : Held)]).map (·.x) = repX ctrC.rd c1 l1 (j + 1) from fun h0 => by
       rw [HSZ.out] at h0
       have h6 := HD6.out h0
       rw [HXJ.out h6, List.map_append, HLX.out (by trivial), HPX.out h6]; rfl)
      have HL9 := hid (show (LL ++ [(⟨⟨nm, im, a1, a2, a3, a4, a5, a6, ps, ev, fl⟩, pv, pc⟩ : Held)]).length = j + 1 by rw [List.length_append, HLL.out]; rfl); clear hown' hgrow hbw HOWN hat RV PV K H O R G HG8; go_wp2
      go_roundw
      case rel => exact ⟨j + 1, A11, qv, qc, _, by omega, by go_num, rfl, HX9.out, HL9.out, R9.out, G9.out, H9.out, RB9.out, O9.out⟩
      case measure => simp [RowKit.intOf]; omega
   · have HE := hid (show (cj, lj) = (c', l') by
      have hst : (repS ctrC.rd c1 l1 j) = (repS ctrC.rd c1 l1 n) := by
       by_cases hc0 : cj = 0
       · rw [show j = n from Nat.le_antisymm hj (Nat.le_of_not_lt fun h => hgo ⟨h, hc0⟩)]
       · have hst := repS_stay ctrC (c := c1) (l := l1) (k := j) (by rw [HSJ.out]; exact hc0) (n - j)
         rw [show j + (n - j) = n by omega] at hst
         exact hst.symm
      rw [← HSJ.out, hst, HQ2.out])
     have HJN := hid (show cj = 0 → j = n from fun h => Nat.le_antisymm hj (Nat.le_of_not_lt fun h1 => hgo ⟨h1, h⟩))
     have hE := HE.out
     injection hE with hE1 hE2
     have hway : ¬ (j : Int) < (n : Int) ∨ ((j : Int) < (n : Int) ∧ (cj == 0) = false) := by
      by_cases h : j < n
      · exact .inr ⟨by omega, by simpa using fun h0 => hgo ⟨h, h0⟩⟩
      · exact .inl (by omega)
     clear hgo HE
     have HXS := hid (show cj = 0 → LL.map (·.x) = xs from fun h0 => by
      rw [HLX.out h0, HJN.out h0, ← HQ1.out, if_pos (by rw [HQ2.out]; exact hE1.symm.trans h0)])
     have HJ9 := hid (show At S Aj l' by rw [← hE2]; exact H.out); have RB9 := hid (show wo.heap[b]? = some (.cells (rdA S Aj c') 31 (0, 0)) by rw [← hE1]; exact RB.out)
     have G9 := hid (show c' = 0 → j = xs.length ∧ CtrsUp ws.heap.size wo v xs from fun h0 => by
      have hx := HXS.out (hE1.trans h0)
      have hup := G.out.up R.out
      rw [hx] at hup
      exact ⟨by rw [← hx, List.length_map, HLL.out], hup⟩)
     clear H RB G
     rcases hway with hlt' | ⟨hlt', hcz'⟩
     all_goals
      go_wp2_with fail
      go_meet
      exact ⟨Aj, j, v, cap, rfl, hcap, by omega, RB9, HJ9, G9, O⟩
 case rest =>
  obtain ⟨Aj, j, v, cap, rfl, hcap, hj1, RB, H, G, O⟩ := hcut
  obtain ⟨w9, hwc_⟩ : ∃ v, v = wc := ⟨wc, rfl⟩; subst hwc_; have RBX := hid (show BoxIs w9 b (rdA S Aj c') 31 from ⟨RB.out⟩); have PX := hid (show BoxIs w9 bP (rdA ⟨#[]⟩ 0 0) 31 from ⟨(O.out.block bP (by have := HBZ.out; omega) (by have := HBZ.out; omega) (by have := HBZ.out; omega)).trans P0.out⟩); obtain ⟨we, hwe⟩ : ∃ v, w9.setCells bP 0 (rdL S Aj c') = v := ⟨_, rfl⟩
  have HW := hid hwe
  have XE := hid (show we.heap[bP]? = some (.cells (rdA S Aj c') 31 (0, 0)) by rw [← hwe]; exact box_into PX.out.at_ 0 _ (over_3 ..)); have OE := hid (show Only bP w9 we by rw [← hwe]; exact only_cells _ 0 (Only.refl _ _)); clear hwe
  go_wp2_with (first | refine ldR rfl rfl rfl RBX.out ?_ | refine stR rfl rfl rfl rfl PX.out HW.out ?_)
  have r0 := box_cell XE.out 0 rfl
  have r1 := box_cell XE.out 1 rfl
  have r2 := box_cell XE.out 2 rfl
  refine bodyPost_ret (v := .tuple #[.agg (rdA S Aj c'), .slice v j cap]) ?hres rfl ?_
  case hres => simp [results, Tryz.results44, go_sem, r0, r1, r2]
  have hbl : Below w.heap.size w we := by
   have h0 := B0.out; have hk := O.out; have he := OE.out; have hz := HBZ.out
   exact ⟨he.os.trans (hk.os.trans h0.os), he.tape.trans (hk.tape.trans h0.tape), he.output.trans (hk.output.trans h0.output), Nat.le_trans h0.size (Nat.le_trans hk.size he.size), fun i hi => (he.block i (by omega)).trans ((hk.block i (by have := h0.size; omega) (by omega) (by omega)).trans (h0.block i hi))⟩
  exact ⟨Aj, v, j, cap, rfl, H.out, hcap, hj1, fun h0 => ⟨(G.out h0).1, ((G.out h0).2.move OE.out.size (fun i h1 h2 => OE.out.block i (by have := HBZ.out; omega))).less (by have := B0.out.size; omega)⟩, hbl⟩
end Tl
end Go.Proofs.YtljbpelogjmciaaGreatDoor
