/-
 The document's reading of a pod (provostref09.takePod) by contract. Condition: the text has at most 2^46 bytes.
-/
import Derived.Test.YtljbpelogjmciaaGreatDoorTellRk
import Derived.Test.YtljbpelogjmciaaGreatDoorTakeRk
import Derived.Test.YtljbpelogjmciaaGreatDoorRegionBack
import Derived.Test.YtljbpelogjmciaaGreatDoorTellB
set_option linter.unusedVariables false
set_option linter.unusedSimpArgs false
namespace Go.Proofs.YtljbpelogjmciaaGreatDoor
open Go.ChangeShapes Go.WideShapes Go.ChangeAt Go.RowKit Go.Lib
open LebMath WirePure Sd Wire SpecOwn SpecRef Book Pk
namespace Tl
theorem over_13s (a0 a1 a2 a3 a4 a5 a6 a7 a8 a9 a10 a11 a12 b0 b1 b2 b3 b4 b5 b6 : Value) : over #[a0, a1, a2, a3, a4, a5, a6, a7, a8, a9, a10, a11, a12] 2 [b0, b1, b2, b3, b4, b5, b6] = #[a0, a1, b0, b1, b2, b3, b4, b5, b6, a9, a10, a11, a12] := by
 simp [over]
def SpHere (c : Int) (n2 n3 n4 B : Nat) (Y : Spc) (w : World) (LA IA MA : Option Addr) : Prop := c = 0 → n2 = Y.labels.length ∧ n3 = Y.init.length ∧ n4 = Y.main.length ∧ SpcUp B Y w LA IA MA
theorem spc_move {B : Nat} {S : Spc} {w v : World} {LA IA MA : Option Addr} (h : SpcUp B S w LA IA MA) (hs : w.heap.size ≤ v.heap.size) (hb : ∀ i, B ≤ i → i < w.heap.size → v.heap[i]? = w.heap[i]?) : SpcUp B S v LA IA MA :=
 (PodUp.move (p := ⟨0, 0, S, 0, [], 0, 0⟩) (RA := none) ⟨h, fun k x hk => (by simp at hk), fun a ha => (by cases ha), by simp, by show (0 : Nat) < _; decide⟩ hs hb).spec
theorem big_ref (S : ByteArray) (hS : S.size ≤ 70368744177664) (A : Nat) (c : Int) (l : List UInt8) (hA : At S A l) (x : Nat) (c' : Int) (l' : List UInt8) (hq : revC.rd c l = (x, c', l')) (w : World) :
 Calls Tryz.prog 77 #[.agg #[.string S, .int .i64 A, .int .i64 c]] w fun e w' => ∃ A' : Nat, e = .returned (.tuple #[.agg #[.string S, .int .i64 A', .int .i64 c'], .int .u64 (x : Nat)]) ∧ At S A' l' ∧ Below w.heap.size w w' := by
 have e : (WirePure.numV 18446744073709551615 c l, numE 18446744073709551615 c l, numL 18446744073709551615 c l) = (x, c', l') := hq
 have ht := takeV_lt l
 have hE : numE 18446744073709551615 c l = bigE c l := by
  unfold numE bigE
  split
  · rfl
  · rw [if_neg (by omega)]
 have hV : WirePure.numV 18446744073709551615 c l = bigV c l := by unfold WirePure.numV bigV; rw [hE]
 have hK : numK 18446744073709551615 c l = bigK c l := by unfold numK bigK; rw [hE]
 injection e with e1 e2
 injection e2 with e2 e3
 rw [← e1, ← e2, ← e3, hV, hE]
 refine (rbig_ref S A c hS hA.1 l hA.2 w).mono ?_
 rintro e w1 ⟨rfl, hb⟩
 exact ⟨A + bigK c l, rfl, by rw [numL_drop, ← hK]; exact hA.more (numK_le 18446744073709551615 c l).1, hb⟩
def TpSays (S : ByteArray) (p : Pd) (c' : Int) (l' : List UInt8) (w : World) (e : Ending) (w' : World) : Prop := ∃ (A' : Nat) (LA IA MA RA : Option Addr) (n2 lc n3 ic n4 mc nr rc : Nat), e = .returned (.tuple #[.agg #[.string S, .int .i64 A', .int .i64 c'], .agg #[.int .i64 p.uid, .int .u64 p.rev, .string p.spec.name, .slice LA n2 lc, .slice IA n3 ic, .slice MA n4 mc, .int .i64 p.spec.restart, .int .i64 p.spec.grace, .int .i64 p.spec.prio, .int .i64 p.phase, .slice RA nr rc, .int .i64 p.mark, .int .i64 p.grace]]) ∧ At S A' l' ∧ (c' = 0 → (n2 = p.spec.labels.length ∧ n3 = p.spec.init.length ∧ n4 = p.spec.main.length ∧ nr = p.rs.length) ∧ PodUp w.heap.size p w' LA IA MA RA) ∧ Below w.heap.size w w'
theorem res_tp (tmps : Array Value) (w : World) (p z : Nat) (S : ByteArray) (A c : Int) (vs : List Value) (h2 : tmps.getD 2 undef = .pointer (some ⟨p, 0, none⟩)) (h3 : tmps.getD 3 undef = .pointer (some ⟨z, 0, none⟩)) (hX : w.heap[p]? = some (.cells (rdL S A c).toArray 31 (0, 0))) (hY : w.heap[z]? = some (.cells vs.toArray 42 (0, 0))) (hl : vs.length = 13) :
 (results Tryz.f78 tmps).run Tryz.prog w = .ok (.tuple #[.agg (rdA S A c), .agg vs.toArray]) w := by
 have h1 : (loadVar 31 ⟨p, 0, none⟩).run Tryz.prog w = .ok (.agg (rdL S A c).toArray) w := run_loadVar_mid w p 0 31 _ _ (range_at hX 0 (rdL S A c) rfl) Tryz.underlying31 rfl (by kernel_rfl)
 have h4 : (loadVar 42 ⟨z, 0, none⟩).run Tryz.prog w = .ok (.agg vs.toArray) w := run_loadVar_mid w z 0 42 vs _ (range_at hY 0 vs (by rw [List.drop_zero]; exact List.take_of_length_le (Nat.le_refl _))) Tryz.underlying42 rfl (by rw [hl]; kernel_rfl)
 simp only [results, Tryz.results78]
 simp only [Array.getD_eq_getD_getElem?] at h2 h3
 have ha : (asAddr (tmps[2]?.getD undef)).run Tryz.prog w = .ok ⟨p, 0, none⟩ w := by rw [h2]; rfl
 have hb : (asAddr (tmps[3]?.getD undef)).run Tryz.prog w = .ok ⟨z, 0, none⟩ w := by rw [h3]; rfl
 simp [Sem.run_bind, h1, h4, ha, hb]
set_option maxRecDepth 100000 in
set_option maxHeartbeats 4000000 in
theorem reftp_any (S : ByteArray) (hS : S.size ≤ 70368744177664) (A : Nat) (c : Int) (l : List UInt8) (hA : At S A l) (p : Pd) (c' : Int) (l' : List UInt8) (hq : podC.rd c l = (p, c', l')) (w : World) :
 Calls Tryz.prog 78 #[.agg #[.string S, .int .i64 A, .int .i64 c]] w (TpSays S p c' l' w) := by
 have HS := hid hS
 have H := hid hA
 obtain ⟨⟨x1, c1, l1⟩, q1⟩ : ∃ t, uidC.rd c l = t := ⟨_, rfl⟩
 obtain ⟨⟨x2, c2, l2⟩, q2⟩ : ∃ t, revC.rd c1 l1 = t := ⟨_, rfl⟩
 obtain ⟨⟨x3, c3, l3⟩, q3⟩ : ∃ t, specC.rd c2 l2 = t := ⟨_, rfl⟩
 obtain ⟨⟨x4, c4, l4⟩, q4⟩ : ∃ t, phaseC.rd c3 l3 = t := ⟨_, rfl⟩
 obtain ⟨c5, l5, q5⟩ : ∃ c5 l5, repS uidC.rd c4 l4 x3.main.length = (c5, l5) := ⟨_, _, rfl⟩
 obtain ⟨⟨x6, c6, l6⟩, q6⟩ : ∃ t, markC.rd c5 l5 = t := ⟨_, rfl⟩
 obtain ⟨⟨x7, c7, l7⟩, q7⟩ : ∃ t, graceC.rd c6 l6 = t := ⟨_, rfl⟩
 have hr : podC.rd c l = (⟨x1, x2, x3, x4, repX uidC.rd c4 l4 x3.main.length, x6, x7⟩, c7, l7) := by
  have e1 : (pairC uidC (pairC revC (pairC specC phaseC))).rd c l = ((x1, x2, x3, x4), c4, l4) := by
   simp only [pairC, pairR, q1, q2, q3, q4]
  have e2 : (pairC (vecC x3.main.length uidC) (pairC markC graceC)).rd c4 l4 = ((repX uidC.rd c4 l4 x3.main.length, x6, x7), c7, l7) := by
   simp only [pairC, pairR, vecC, q5, q6, q7]
  simp only [podC, mapC, depC, depR, e1, e2]
 rw [hr] at hq
 injection hq with hq1 hq2
 injection hq2 with hq2 hq3
 subst hq1 hq2 hq3
 have hrv := revC.okay c1 l1
 rw [q2] at hrv
 have HRV := hid (show x2 < 18446744073709551616 by have : x2 ≤ 18446744073709551615 := hrv; omega)
 have HZ := hid (show c5 = 0 → c4 = 0 from fun h0 => by
  by_cases hc : c4 = 0
  · exact hc
  · have := repS_err uidC hc l4 x3.main.length
    rw [q5] at this
    injection this with this _
    rw [← this]; exact h0)
 have HZ4 := hid (fun h0 : c4 = 0 => rd_zero q4 h0)
 have HZ7 := hid (fun h0 : c7 = 0 => rd_zero q6 (rd_zero q7 h0))
 have Q1 := hid q1
 have Q2 := hid q2
 have Q3 := hid q3
 have Q4 := hid q4
 have Q5 := hid q5
 have Q6 := hid q6
 have Q7 := hid q7
 clear hr hrv hA hS q1 q2 q3 q4 q5 q6 q7
 obtain ⟨i0, hi0, hz0, hz1, hz2⟩ := info_parts info_ports
 go_enter Tryz.func78, Tryz.ntmps78
 go_wp2_with fail
 obtain ⟨ws, hws⟩ : ∃ v, (((w.alloc (.cells (rdA S A c) 31)).alloc (.cells (rdA ⟨#[]⟩ 0 0) 31)).alloc (.cells Z13.toArray 42)).alloc (.cells Z13.toArray 42) = v := ⟨_, rfl⟩
 obtain ⟨k1, k2, k3, k4, k5⟩ := four_boxes w _ _ _ _ ws hws
 rw [hws]
 obtain ⟨b, hb⟩ : ∃ b, w.heap.size = b := ⟨_, rfl⟩
 rw [hb] at k2 k3 k4 k5 ⊢
 obtain ⟨bP, hbP⟩ : ∃ b', b + 1 = b' := ⟨_, rfl⟩
 obtain ⟨bZ, hbZ⟩ : ∃ b', bP + 1 = b' := ⟨_, rfl⟩
 obtain ⟨bX, hbX⟩ : ∃ b', bZ + 1 = b' := ⟨_, rfl⟩
 rw [hbP] at k3 k4 k5 ⊢
 rw [hbZ] at k4 k5 ⊢
 rw [hbX] at k5 ⊢
 have K := hid (show Rk ws b bX 42 S A c Z13 ws from ⟨by omega, by have := lt_of_block k5; omega, lt_of_block k5, Off.refl _ _ _, k2, k5⟩)
 have HBZ := hid (show w.heap.size = b ∧ b < bP ∧ bP < bZ ∧ bZ < bX ∧ bX < ws.heap.size from ⟨hb, by omega, by omega, by omega, lt_of_block k5⟩)
 have B0 := hid k1
 have P0 := hid k3
 have Z0 := hid k4
 clear hws k1 k2 k3 k4 k5 hb hbP hbZ hbX
 go_wp2_with (first | refine ldR rfl rfl rfl K.out.rb ?_)
 refine (num_ref S HS.out 1073741824 (by decide) 1073741824 (by decide) (by decide) A c l H.out x1 c1 l1 Q1.out _).mono ?_
 rintro e w1 ⟨A1, rfl, h_, hb_⟩
 clear H
 have H := hid h_
 have K_ := hid (K.out.back hb_)
 clear K h_ hb_
 have K := K_
 clear K_
 obtain ⟨u1, v1, hu1, ⟨q0, q1, q2⟩, a4, a5, K_, o_⟩ := K.out.step A1 c1
 clear o_ K
 have K := hid K_
 clear K_
 have N4 := hid a4
 have N5 := hid a5
 clear a4 a5
 have xc := K.out.cell 0 rfl
 have xf := K.out.free 0
 have K_ := hid (K.out.set 0 (.int .i64 x1) [.int .i64 x1, .int .u64 0, .string ⟨#[]⟩, .slice none 0 0, .slice none 0 0, .slice none 0 0, .int .i64 0, .int .i64 0, .int .i64 0, .int .i64 0, .slice none 0 0, .int .i64 0, .int .i64 0] rfl)
 obtain ⟨y1, hx1⟩ : ∃ v, v1.setCell ⟨bX, 0, none⟩ (.int .i64 x1) = v := ⟨_, rfl⟩
 rw [hx1] at K_
 clear K
 have K := K_
 clear K_
 go_wp2_with (first | refine stR rfl rfl rfl rfl N4.out N5.out ?_ | refine ldR rfl rfl rfl K.out.rb ?_)
 clear N4 N5 q0 q1 q2 hu1 xc xf hx1
 refine (big_ref S HS.out A1 c1 l1 H.out x2 c2 l2 Q2.out _).mono ?_
 rintro e w2 ⟨A2, rfl, h_, hb_⟩
 clear H
 have H := hid h_
 have K_ := hid (K.out.back hb_)
 clear K h_ hb_
 have K := K_
 clear K_
 obtain ⟨u2, v2, hu2, ⟨q0, q1, q2⟩, a4, a5, K_, o_⟩ := K.out.step A2 c2
 clear o_ K
 have K := hid K_
 clear K_
 have N4 := hid a4
 have N5 := hid a5
 clear a4 a5
 have xc := K.out.cell 1 rfl
 have xf := K.out.free 1
 have K_ := hid (K.out.set 1 (.int .u64 (x2 : Nat)) [.int .i64 x1, .int .u64 (x2 : Nat), .string ⟨#[]⟩, .slice none 0 0, .slice none 0 0, .slice none 0 0, .int .i64 0, .int .i64 0, .int .i64 0, .int .i64 0, .slice none 0 0, .int .i64 0, .int .i64 0] rfl)
 obtain ⟨y2, hx2⟩ : ∃ v, v2.setCell ⟨bX, 1, none⟩ (.int .u64 (x2 : Nat)) = v := ⟨_, rfl⟩
 rw [hx2] at K_
 clear K
 have K := K_
 clear K_
 go_wp2_with (first | refine stR rfl rfl rfl rfl N4.out N5.out ?_ | refine ldR rfl rfl rfl K.out.rb ?_)
 clear N4 N5 q0 q1 q2 hu2 xc xf hx2
 have HX2 := hid (show bX + 1 ≤ y2.heap.size from by have := K.out.off.size; have := HBZ.out; omega)
 refine (take_ref2 S HS.out A2 c2 l2 H.out x3 c3 l3 Q3.out _).mono ?_
 rintro e w3 ⟨A3, LA, IA, MA, n2, lc, n3, ic, n4, mc, rfl, h_, hup, hn4, hb_⟩
 clear H
 have H := hid h_
 have HUP := hid (show SpHere c3 n2 n3 n4 (bX + 1) x3 w3 LA IA MA from fun h0 => ⟨(hup h0).1, (hup h0).2.1, (hup h0).2.2.1, spc_down (hup h0).2.2.2 HX2.out⟩)
 have K_ := hid (K.out.back hb_)
 clear K h_ hup HX2 hb_
 have K := K_
 clear K_
 have O := hid (Off.refl b bX w3)
 obtain ⟨u3, v3, hu3, ⟨q0, q1, q2⟩, a4, a5, a6, K_, o_⟩ := K.out.step2 A3 c3 28 #[.string x3.name, .slice LA n2 lc, .slice IA n3 ic, .slice MA n4 mc, .int .i64 x3.restart, .int .i64 x3.grace, .int .i64 x3.prio]
 have O_ := hid (O.out.trans o_)
 clear O
 have O := O_
 clear O_
 clear o_ K
 have K := hid K_
 have N4 := hid a4
 have N5 := hid a5
 have N8 := hid a6
 clear K_ a4 a5 a6
 have K_ := hid (K.out.sets 2 [.string x3.name, .slice LA n2 lc, .slice IA n3 ic, .slice MA n4 mc, .int .i64 x3.restart, .int .i64 x3.grace, .int .i64 x3.prio] [.int .i64 x1, .int .u64 (x2 : Nat), .string x3.name, .slice LA n2 lc, .slice IA n3 ic, .slice MA n4 mc, .int .i64 x3.restart, .int .i64 x3.grace, .int .i64 x3.prio, .int .i64 0, .slice none 0 0, .int .i64 0, .int .i64 0] (over_13s ..))
 have O_ := hid (O.out.only2 (only_cells [.string x3.name, .slice LA n2 lc, .slice IA n3 ic, .slice MA n4 mc, .int .i64 x3.restart, .int .i64 x3.grace, .int .i64 x3.prio] 2 (Only.refl _ _)))
 have KX := hid K.out.xb
 obtain ⟨y3, hx3⟩ : ∃ v, v3.setCells bX 2 [.string x3.name, .slice LA n2 lc, .slice IA n3 ic, .slice MA n4 mc, .int .i64 x3.restart, .int .i64 x3.grace, .int .i64 x3.prio] = v := ⟨_, rfl⟩
 rw [hx3] at K_ O_
 have N9 := hid hx3
 clear K O hx3
 have K := K_
 have O := O_
 clear K_ O_
 go_wp2_with (first | refine stR rfl rfl rfl rfl N4.out N5.out ?_ | refine ldB 28 Tryz.underlying28 rfl [.string x3.name, .slice LA n2 lc, .slice IA n3 ic, .slice MA n4 mc, .int .i64 x3.restart, .int .i64 x3.grace, .int .i64 x3.prio] (by kernel_rfl) rfl rfl rfl N8.out rfl ?_ | refine stB 28 [.string x3.name, .slice LA n2 lc, .slice IA n3 ic, .slice MA n4 mc, .int .i64 x3.restart, .int .i64 x3.grace, .int .i64 x3.prio] (by kernel_rfl) (by simp [Value.oneCell']) rfl rfl rfl rfl KX.out (by simp) N9.out ?_ | refine ldR rfl rfl rfl K.out.rb ?_)
 clear N4 N5 N8 N9 KX q0 q1 q2 hu3
 refine (num_ref S HS.out 4 (by decide) 4 (by decide) (by decide) A3 c3 l3 H.out x4 c4 l4 Q4.out _).mono ?_
 rintro e w4 ⟨A4, rfl, h_, hb_⟩
 clear H
 have H := hid h_
 have K_ := hid (K.out.back hb_)
 have O_ := hid (O.out.trans ((Off.refl _ _ _).below hb_ (Nat.le_refl _)))
 clear O
 have O := O_
 clear O_
 clear K h_ hb_
 have K := K_
 clear K_
 obtain ⟨u4, v4, hu4, ⟨q0, q1, q2⟩, a4, a5, K_, o_⟩ := K.out.step A4 c4
 have O_ := hid (O.out.trans o_)
 clear O
 have O := O_
 clear O_
 clear o_ K
 have K := hid K_
 clear K_
 have N4 := hid a4
 have N5 := hid a5
 clear a4 a5
 have xc := K.out.cell 9 rfl
 have xf := K.out.free 9
 have K_ := hid (K.out.set 9 (.int .i64 x4) [.int .i64 x1, .int .u64 (x2 : Nat), .string x3.name, .slice LA n2 lc, .slice IA n3 ic, .slice MA n4 mc, .int .i64 x3.restart, .int .i64 x3.grace, .int .i64 x3.prio, .int .i64 x4, .slice none 0 0, .int .i64 0, .int .i64 0] rfl)
 have O_ := hid (O.out.only2 (show Only bX v4 (v4.setCell ⟨bX, 9, none⟩ (.int .i64 x4)) from (Only.refl _ _).set 9 _))
 obtain ⟨y4, hx4⟩ : ∃ v, v4.setCell ⟨bX, 9, none⟩ (.int .i64 x4) = v := ⟨_, rfl⟩
 rw [hx4] at K_ O_
 clear K O
 have K := K_
 have O := O_
 clear K_ O_
 have OX := hid (show ws.heap.size ≤ y4.heap.size from K.out.off.size)
 have HS3 := hid (show w3.heap.size ≤ y4.heap.size from O.out.size)
 obtain ⟨BL, hBL⟩ : ∃ B, y4.heap.size = B := ⟨_, rfl⟩
 rw [hBL] at OX
 have HBL := hid hBL
 clear hBL
 go_wp2_with (first | refine stR rfl rfl rfl rfl N4.out N5.out ?_)
 clear N4 N5 q0 q1 q2 hu4 xc xf hx4
 go_loopw [13] (fun i wr => ∃ (j Aj : Nat) (RA : Option Addr) (rc : Nat), j ≤ n4 ∧ i = .int .i64 j ∧ Hid (Rk ws b bX 42 S Aj (repS uidC.rd c4 l4 j).1 [.int .i64 x1, .int .u64 (x2 : Nat), .string x3.name, .slice LA n2 lc, .slice IA n3 ic, .slice MA n4 mc, .int .i64 x3.restart, .int .i64 x3.grace, .int .i64 x3.prio, .int .i64 x4, .slice RA j rc, .int .i64 0, .int .i64 0] wr) ∧ Hid (wr.ownsRow BL 3 1 (.slice RA j rc) j (flatI (repX uidC.rd c4 l4 j))) ∧ Hid (At S Aj (repS uidC.rd c4 l4 j).2) ∧ Hid (Off b bX w3 wr) ∧ Hid (BL ≤ wr.heap.size)) (fun i _ => n4 - (RowKit.intOf i).toNat)
 case atStart => exact ⟨0, A4, none, 0, Nat.zero_le _, rfl, K.out, World.ownsRow_nil _ _ _ _, H.out, O.out, by unfold Hid; rw [← HBL.out]; exact Nat.le_refl _⟩
 case round =>
  clear K H O
  obtain ⟨j, Aj, RA, rc, hj, rfl, K, R, H, O, HLE_⟩ := hrel
  obtain ⟨cj, hcj⟩ : ∃ d, (repS uidC.rd c4 l4 j).1 = d := ⟨_, rfl⟩; obtain ⟨lj, hlj⟩ : ∃ d, (repS uidC.rd c4 l4 j).2 = d := ⟨_, rfl⟩; have HSJ := hid (show repS uidC.rd c4 l4 j = (cj, lj) by rw [← hcj, ← hlj])
  rw [hcj] at K
  rw [hlj] at H
  have x5 := K.out.cell 5 rfl
  have hjk : (j : Int) ≤ 1000 := by omega
  have HLE := hid HLE_.out
  have hrc : j ≤ rc := own_cap R.out
  clear hcj hlj
  by_cases hlt : j < n4
  · have hlt' : (j : Int) < (n4 : Int) := by omega
    obtain ⟨⟨x, cz, lz⟩, q⟩ : ∃ t, uidC.rd cj lj = t := ⟨_, rfl⟩; have HSZ := hid (show repS uidC.rd c4 l4 (j + 1) = (cz, lz) by show (uidC.rd _ _).2 = _; rw [HSJ.out, q])
    have HXJ := hid (show flatI (repX uidC.rd c4 l4 (j + 1)) = flatI (repX uidC.rd c4 l4 j) ++ [.int .i64 x] by
     show flatI (repX uidC.rd c4 l4 j ++ [(uidC.rd _ _).1]) = _
     rw [HSJ.out, q, flatI_snoc])
    have HXL := hid (show (flatI (repX uidC.rd c4 l4 j)).length = j * 1 by rw [flatI_length, repX_len])
    have QZ := hid q
    have OW := hid (Off.refl b bX wr); clear q
    go_wp2_with (first | refine ldR rfl rfl rfl K.out.rb ?_)
    refine (num_ref S HS.out 1073741824 (by decide) 1073741824 (by decide) (by decide) Aj cj lj H.out x cz lz QZ.out _).mono ?_
    rintro e w7 ⟨A7, rfl, h_, hb_⟩; clear H
    have H := hid h_
    have K_ := hid (K.out.back hb_); have O_ := hid (O.out.trans ((Off.refl _ _ _).below hb_ (Nat.le_refl _))); clear O
    have O := O_
    clear O_; have OW_ := hid (OW.out.trans ((Off.refl _ _ _).below hb_ (Nat.le_refl _))); clear OW
    have OW := OW_
    clear OW_; clear K h_ hb_
    have K := K_
    clear K_
    obtain ⟨u7, v7, hu7, ⟨q0, q1, q2⟩, a4, a5, K_, o_⟩ := K.out.step A7 cz
    have O_ := hid (O.out.trans o_); clear O
    have O := O_
    clear O_; have OW_ := hid (OW.out.trans o_); clear OW
    have OW := OW_
    clear OW_; clear o_ K
    have K := hid K_
    clear K_
    have N4 := hid a4
    have N5 := hid a5
    clear a4 a5
    have x10 := K.out.cell 10 rfl
    have RV := hid (Wire.owns_of R.out (w' := v7) (fun r hr => OW.out.block r (Wire.owns_lt R.out hr).2 (by have := (Wire.owns_lt R.out hr).1; have := OX.out; have := HBZ.out; omega) (by have := (Wire.owns_lt R.out hr).1; have := OX.out; have := HBZ.out; omega))); have HOWN := hid (RV.out.alloc (.cells #[.int .i64 x] 3)); have HLT := hid (show BL ≤ v7.heap.size from by rw [← HBL.out]; exact (Nat.le_trans (by have := HBL.out; have := HLE.out; omega) OW.out.size))
    go_wp2_with (first | refine stR rfl rfl rfl rfl N4.out N5.out ?_ | (at_builtin; refine wpList_append_own _ rfl _ _ 40 rfl BL 3 i0 _ 1 8 Tryz.underlying40 hi0 hz0 hz1 hz2 rfl (by decide) _ j (flatI (repX uidC.rd c4 l4 j)) rfl HOWN.out ⟨v7.heap.size, 0, none⟩ 1 1 [.int .i64 x] rfl rfl ?c1 ?c2 ?c3 ?c4 ?c5 ?_))
    case c1 => exact (World.ownsRow_lit (base := 0) (size := 1) (e := 3) v7 ([.int .i64 x] : List Value).toArray 1 (Nat.zero_le _) (by decide) rfl).cells rfl
    case c2 =>
     intro u hu
     simp only [List.mem_cons, List.not_mem_nil, or_false] at hu
     rcases hu with rfl <;> rfl
    case c3 => unfold maxLen; omega
    case c4 => omega
    case c5 => have := HLT.out; simp; omega
    intro pv' w8 hown' hgrow _
    obtain ⟨qv, qc, rfl⟩ := own_form hown'
    have hbw : Below BL v7 w8 := ((Below.refl _ v7).alloc HLT.out _).grown hgrow (by have := HLT.out; simp; omega) (fun r hr => (HOWN.out.lt r hr).1)
    have K_ := hid (K.out.call hbw OX.out); have HL8 := hid (show BL ≤ w8.heap.size from Nat.le_trans HLT.out hbw.size); have O_ := hid (O.out.below hbw (by have := HS3.out; have := HBL.out; omega)); have R8 := hid (ownsRow_setCell_below hown' (a := ⟨bX, 10, none⟩) (by have := OX.out; have := HBZ.out; show bX < BL; omega) (.slice qv (j + 1) qc)); clear K O OW RV HOWN hgrow hbw hown' R N4 N5 q0 q1 q2 hu7 x10 x5
    have K := K_
    have O := O_
    clear K_ O_
    have xc := K.out.cell 10 rfl
    have xf := K.out.free 10
    have K_ := hid (K.out.set 10 (.slice qv (j + 1) qc) [.int .i64 x1, .int .u64 (x2 : Nat), .string x3.name, .slice LA n2 lc, .slice IA n3 ic, .slice MA n4 mc, .int .i64 x3.restart, .int .i64 x3.grace, .int .i64 x3.prio, .int .i64 x4, .slice qv (j + 1) qc, .int .i64 0, .int .i64 0] rfl); have O_ := hid (O.out.only2 (show Only bX w8 (w8.setCell ⟨bX, 10, none⟩ (.slice qv (j + 1) qc)) from (Only.refl _ _).set 10 _)); obtain ⟨y8, hx8⟩ : ∃ v, w8.setCell ⟨bX, 10, none⟩ (.slice qv (j + 1) qc) = v := ⟨_, rfl⟩
    rw [hx8] at K_ O_
    clear K O
    have K := K_
    have O := O_
    clear K_ O_
    rw [hx8] at R8
    have HL9 := hid (show BL ≤ y8.heap.size by rw [← hx8]; simpa using HL8.out); have K9 := hid (show Rk ws b bX 42 S A7 (repS uidC.rd c4 l4 (j + 1)).1 [.int .i64 x1, .int .u64 (x2 : Nat), .string x3.name, .slice LA n2 lc, .slice IA n3 ic, .slice MA n4 mc, .int .i64 x3.restart, .int .i64 x3.grace, .int .i64 x3.prio, .int .i64 x4, .slice qv (j + 1) qc, .int .i64 0, .int .i64 0] y8 by rw [HSZ.out]; exact K.out); have H9 := hid (show At S A7 (repS uidC.rd c4 l4 (j + 1)).2 by rw [HSZ.out]; exact H.out); have R9 := hid (show y8.ownsRow BL 3 1 (.slice qv (j + 1) qc) (j + 1) (flatI (repX uidC.rd c4 l4 (j + 1))) by rw [HXJ.out]; exact R8.out); go_wp2
    go_roundw
    case rel => exact ⟨j + 1, A7, qv, qc, by omega, by go_num, K9.out, R9.out, H9.out, O.out, HL9.out⟩
    case measure => simp [RowKit.intOf]; omega
  · obtain rfl : j = n4 := by omega
    have hlt' : ¬ (j : Int) < (j : Int) := by omega
    have HC4 := hid (show c4 = 0 → j = x3.main.length from fun h0 => (HUP.out (HZ4.out h0)).2.2.1)
    have HE := hid (show (cj, lj) = (c5, l5) by
     rw [← HSJ.out, ← Q5.out]
     by_cases hc : c4 = 0
     · rw [HC4.out hc]
     · rw [repS_err uidC hc, repS_err uidC hc])
    have hE := HE.out
    injection hE with hE1 hE2
    subst hE1 hE2
    have HPU := hid (show c7 = 0 → (n2 = x3.labels.length ∧ n3 = x3.init.length ∧ j = x3.main.length ∧ j = (repX uidC.rd c4 l4 x3.main.length).length) ∧ PodUp (bX + 1) ⟨x1, x2, x3, x4, repX uidC.rd c4 l4 x3.main.length, x6, x7⟩ wr LA IA MA RA from fun h0 => by
     have h4 := HZ.out (HZ7.out h0)
     have hj4 := HC4.out h4
     obtain ⟨e1, e2, e3, hsp⟩ := HUP.out (HZ4.out h4)
     have hI : ∀ z ∈ repX uidC.rd c4 l4 j, (Lit.int IntKind.i64 z).wf = true := fun z hz => i64_wf (int_rng (repX_ok uidC c4 l4 _ z hz)) (by decide)
     have hLn := repX_len uidC.rd c4 l4 j
     have ho := R.out
     rw [← hj4]; obtain ⟨Lr, hLe⟩ : ∃ Lr, repX uidC.rd c4 l4 j = Lr := ⟨_, rfl⟩
     rw [hLe] at hI hLn ho ⊢
     rw [← hLn] at ho
     obtain ⟨hnm, hfr⟩ := nums_own ho hI
     refine ⟨⟨e1, e2, rfl, hLn.symm⟩, ⟨spc_move hsp O.out.size (fun i h1 h2 => O.out.block i h2 (by have := HBZ.out; omega) (by omega)), hnm, fun a ha => by have := hfr a ha; have := OX.out; have := HBZ.out; omega, by show Lr.length ≤ _; omega, HRV.out⟩⟩)
    have OE := hid (Off.refl b bX wr); have HWR := hid (show bX < wr.heap.size from by have := K.out.off.size; have := HBZ.out; omega); clear O R HUP HE HSJ
    go_wp2_with (first | refine ldR rfl rfl rfl K.out.rb ?_)
    refine (num_ref S HS.out 2 (by decide) 2 (by decide) (by decide) Aj cj lj H.out x6 c6 l6 Q6.out _).mono ?_
    rintro e w9 ⟨A9, rfl, h_, hb_⟩; clear H
    have H := hid h_
    have K_ := hid (K.out.back hb_); have OE_ := hid (OE.out.trans ((Off.refl _ _ _).below hb_ (Nat.le_refl _))); clear OE
    have OE := OE_
    clear OE_; clear K h_ hb_
    have K := K_
    clear K_
    obtain ⟨u9, v9, hu9, ⟨q0, q1, q2⟩, a4, a5, K_, o_⟩ := K.out.step A9 c6
    have OE_ := hid (OE.out.trans o_); clear OE
    have OE := OE_
    clear OE_; clear o_ K
    have K := hid K_
    clear K_
    have N4 := hid a4
    have N5 := hid a5
    clear a4 a5
    have xc := K.out.cell 11 rfl
    have xf := K.out.free 11
    have K_ := hid (K.out.set 11 (.int .i64 x6) [.int .i64 x1, .int .u64 (x2 : Nat), .string x3.name, .slice LA n2 lc, .slice IA n3 ic, .slice MA j mc, .int .i64 x3.restart, .int .i64 x3.grace, .int .i64 x3.prio, .int .i64 x4, .slice RA j rc, .int .i64 x6, .int .i64 0] rfl); have OE_ := hid (OE.out.only2 (show Only bX v9 (v9.setCell ⟨bX, 11, none⟩ (.int .i64 x6)) from (Only.refl _ _).set 11 _)); obtain ⟨y9, hx9⟩ : ∃ v, v9.setCell ⟨bX, 11, none⟩ (.int .i64 x6) = v := ⟨_, rfl⟩
    rw [hx9] at K_ OE_
    clear K OE
    have K := K_
    have OE := OE_
    clear K_ OE_
    go_wp2_with (first | refine stR rfl rfl rfl rfl N4.out N5.out ?_ | refine ldR rfl rfl rfl K.out.rb ?_)
    clear N4 N5 q0 q1 q2 hu9 xc xf hx9
    refine (num_ref S HS.out 1000 (by decide) 1000 (by decide) (by decide) A9 c6 l6 H.out x7 c7 l7 Q7.out _).mono ?_
    rintro e w10 ⟨A10, rfl, h_, hb_⟩; clear H
    have H := hid h_
    have K_ := hid (K.out.back hb_); have OE_ := hid (OE.out.trans ((Off.refl _ _ _).below hb_ (Nat.le_refl _))); clear OE
    have OE := OE_
    clear OE_; clear K h_ hb_
    have K := K_
    clear K_
    obtain ⟨u10, v10, hu10, ⟨q0, q1, q2⟩, a4, a5, K_, o_⟩ := K.out.step A10 c7
    have OE_ := hid (OE.out.trans o_); clear OE
    have OE := OE_
    clear OE_; clear o_ K
    have K := hid K_
    clear K_
    have N4 := hid a4
    have N5 := hid a5
    clear a4 a5
    have xc := K.out.cell 12 rfl
    have xf := K.out.free 12
    have K_ := hid (K.out.set 12 (.int .i64 x7) [.int .i64 x1, .int .u64 (x2 : Nat), .string x3.name, .slice LA n2 lc, .slice IA n3 ic, .slice MA j mc, .int .i64 x3.restart, .int .i64 x3.grace, .int .i64 x3.prio, .int .i64 x4, .slice RA j rc, .int .i64 x6, .int .i64 x7] rfl); have OE_ := hid (OE.out.only2 (show Only bX v10 (v10.setCell ⟨bX, 12, none⟩ (.int .i64 x7)) from (Only.refl _ _).set 12 _)); obtain ⟨y10, hx10⟩ : ∃ v, v10.setCell ⟨bX, 12, none⟩ (.int .i64 x7) = v := ⟨_, rfl⟩
    rw [hx10] at K_ OE_
    clear K OE
    have K := K_
    have OE := OE_
    clear K_ OE_
    go_wp2_with (first | refine stR rfl rfl rfl rfl N4.out N5.out ?_)
    clear N4 N5 q0 q1 q2 hu10 xc xf hx10
    have KR := hid K.out.r
    have KX := hid K.out.x_
    have hne := HBZ.out
    have KP := hid ((K.out.off.block bP (by omega) (by omega) (by omega)).trans P0.out); have KZ := hid ((K.out.off.block bZ (by omega) (by omega) (by omega)).trans Z0.out)
    refine Back.wp_two (T := 31) (U := 42) (s0 := 1) (s1 := 4) (s2 := 2) (s3 := 3) (d0 := 88) (d1 := 89) (xs := rdL S A10 c7) (ys := [.int .i64 x1, .int .u64 (x2 : Nat), .string x3.name, .slice LA n2 lc, .slice IA n3 ic, .slice MA j mc, .int .i64 x3.restart, .int .i64 x3.grace, .int .i64 x3.prio, .int .i64 x4, .slice RA j rc, .int .i64 x6, .int .i64 x7]) (by kernel_rfl) rfl (by kernel_rfl) (by kernel_rfl) (by kernel_rfl) rfl rfl rfl rfl rfl KR.out KX.out KP.out KZ.out rfl rfl rfl rfl Tryz.underlying31 Tryz.underlying42 rfl rfl (by kernel_rfl) (by kernel_rfl) (by simp [Value.oneCell']) (by simp [Value.oneCell']) (by omega) ?_
    rintro a wv hs hdf ho ht hout hsz hblk ⟨X', hp', rfl⟩ ⟨Y', hq', rfl⟩; go_wp2_with fail
    refine bodyPost_ret (v := .tuple #[.agg (rdA S A10 c7), .agg #[.int .i64 x1, .int .u64 (x2 : Nat), .string x3.name, .slice LA n2 lc, .slice IA n3 ic, .slice MA j mc, .int .i64 x3.restart, .int .i64 x3.grace, .int .i64 x3.prio, .int .i64 x4, .slice RA j rc, .int .i64 x6, .int .i64 x7]]) (res_tp _ _ bP bZ S A10 c7 [.int .i64 x1, .int .u64 (x2 : Nat), .string x3.name, .slice LA n2 lc, .slice IA n3 ic, .slice MA j mc, .int .i64 x3.restart, .int .i64 x3.grace, .int .i64 x3.prio, .int .i64 x4, .slice RA j rc, .int .i64 x6, .int .i64 x7] ((hs 2 (by decide) (by decide)).trans rfl) ((hs 3 (by decide) (by decide)).trans rfl) hp' hq' rfl) (hdf.trans rfl) ?_
    have hbw : Below w.heap.size w wv := by
     have h0 := B0.out; have hk := K.out.off
     exact ⟨ho.trans (hk.os.trans h0.os), ht.trans (hk.tape.trans h0.tape), hout.trans (hk.output.trans h0.output), by have := h0.size; have := hk.size; omega, fun i hi => (hblk i (by omega) (by omega)).trans ((hk.block i (by have := h0.size; omega) (by omega) (by omega)).trans (h0.block i hi))⟩
    exact ⟨A10, LA, IA, MA, RA, n2, lc, n3, ic, j, mc, j, rc, rfl, H.out, fun h0 => ⟨(HPU.out h0).1, ((HPU.out h0).2.move (by have := OE.out.size; omega) (fun i h1 h2 => (hblk i (by omega) (by omega)).trans (OE.out.block i h2 (by omega) (by omega)))).less (by omega)⟩, hbw⟩
end Tl
end Go.Proofs.YtljbpelogjmciaaGreatDoor
