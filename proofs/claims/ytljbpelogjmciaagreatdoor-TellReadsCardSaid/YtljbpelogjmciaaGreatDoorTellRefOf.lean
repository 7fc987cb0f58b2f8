/-
 The document's answer to tell.Of (provostref09.Of) by contract. Conditions: the text has at most 2^46 bytes; the listed variables hold what the program's text lays (SLaid).
-/
import Derived.Test.YtljbpelogjmciaaGreatDoorTellRefTr
import Derived.Test.YtljbpelogjmciaaGreatDoorTellD
import Derived.Test.YtljbpelogjmciaaGreatDoorTellB
import Derived.Test.YtljbpelogjmciaaGreatDoorRegionBack
set_option linter.unusedVariables false
set_option linter.unusedSimpArgs false
namespace Go.Proofs.YtljbpelogjmciaaGreatDoor
open Go.ChangeShapes Go.WideShapes Go.ChangeAt Go.RowKit Go.Lib
open LebMath WirePure Sd Wire SpecOwn SpecRef Book Pk
namespace Tl
theorem over_24_11 (a0 a1 a2 a3 a4 a5 a6 a7 a8 a9 a10 a11 a12 a13 a14 a15 a16 a17 a18 a19 a20 a21 a22 a23 b0 b1 b2 b3 b4 b5 b6 b7 b8 b9 b10 b11 b12 : Value) : over #[a0, a1, a2, a3, a4, a5, a6, a7, a8, a9, a10, a11, a12, a13, a14, a15, a16, a17, a18, a19, a20, a21, a22, a23] 11 [b0, b1, b2, b3, b4, b5, b6, b7, b8, b9, b10, b11, b12] = #[a0, a1, a2, a3, a4, a5, a6, a7, a8, a9, a10, b0, b1, b2, b3, b4, b5, b6, b7, b8, b9, b10, b11, b12] := by
 simp [over]
theorem three_boxes (w : World) (o1 o2 o3 : Obj) (w0 : World) (h : ((w.alloc o1).alloc o2).alloc o3 = w0) :
 Below w.heap.size w w0 ∧ w0.heap[w.heap.size]? = some o1 ∧ w0.heap[w.heap.size + 1]? = some o2 ∧ w0.heap[w.heap.size + 1 + 1]? = some o3 := by
 obtain ⟨h1, h2, h3⟩ := two_boxes w o1 o2 _ rfl
 have h4 := heap_alloc_new ((w.alloc o1).alloc o2) o3
 have s2 : ((w.alloc o1).alloc o2).heap.size = w.heap.size + 1 + 1 := by simp
 have hk : Below (w.heap.size + 1 + 1) ((w.alloc o1).alloc o2) w0 := by rw [← h]; exact (Below.refl _ _).alloc (by omega) _
 rw [s2, h] at h4
 exact ⟨h1.trans (hk.mono (by omega)), (hk.block _ (by omega)).trans h2, (hk.block _ (by omega)).trans h3, h4⟩
theorem results_of (tmps : Array Value) (w : World) (b : Nat) (z : Int) (vs : List Value) (h2 : tmps.getD 2 undef = .pointer (some ⟨b, 0, none⟩)) (h3 : tmps.getD 3 undef = .int .i64 z) (hX : w.heap[b]? = some (.cells vs.toArray 50 (0, 0))) (hl : vs.length = 24) :
 (results Tryz.f31 tmps).run Tryz.prog w = .ok (.tuple #[.agg vs.toArray, .int .i64 z]) w := by
 have hr := range_at hX 0 vs (by rw [List.drop_zero]; exact List.take_of_length_le (Nat.le_refl _))
 have hld : (loadVar 50 ⟨b, 0, none⟩).run Tryz.prog w = .ok (.agg vs.toArray) w := run_loadVar_mid w b 0 50 vs _ hr Tryz.underlying50 rfl (by rw [hl]; kernel_rfl)
 simp only [results, Tryz.results31]
 simp only [Array.getD_eq_getD_getElem?] at h2 h3
 have ha : (asAddr (tmps[2]?.getD undef)).run Tryz.prog w = .ok ⟨b, 0, none⟩ w := by rw [h2]; rfl
 simp [Sem.run_bind, h3, hld, ha]
set_option maxRecDepth 100000 in
set_option maxHeartbeats 4000000 in
theorem refof_any (S : ByteArray) (hS : S.size ≤ 70368744177664) (w : World) (hL : SLaid w) :
 Calls Tryz.prog 31 #[.string S] w (OfSays S.data.toList w) := by
 have HS := hid hS
 have HL := hid hL
 obtain ⟨l, hl_⟩ : ∃ l, S.data.toList = l := ⟨_, rfl⟩
 have H := hid (show At S 0 l from ⟨Nat.zero_le _, hl_⟩)
 rw [hl_]
 obtain ⟨⟨x1, c1, l1⟩, q1⟩ : ∃ t, mkindC.rd 0 l = t := ⟨_, rfl⟩
 obtain ⟨⟨x2, c2, l2⟩, q2⟩ : ∃ t, uidC.rd c1 l1 = t := ⟨_, rfl⟩
 obtain ⟨⟨mm, c3, l3⟩, qm⟩ : ∃ t, msgC.rd 0 l = t := ⟨_, rfl⟩
 have Q1 := hid q1
 have Q2 := hid q2
 have QM := hid qm
 have hs' : (S.size : Int) ≤ 70368744177664 := by omega
 have h1k : ¬ x1 = 0 ∨ x1 = 0 := by omega
 clear hS hL hl_ q1 q2 qm h1k
 go_enter Tryz.func31, Tryz.ntmps31
 go_wp2_with fail
 obtain ⟨ws, hws⟩ : ∃ v, ((w.alloc (.cells Z24.toArray 50)).alloc (.cells Z24.toArray 50)).alloc (.cells (rdA S 0 0) 31) = v := ⟨_, rfl⟩
 obtain ⟨k1, k2, k3, k4⟩ := three_boxes w _ _ _ ws hws
 rw [hws]
 obtain ⟨bZ, hbZ⟩ : ∃ b, w.heap.size = b := ⟨_, rfl⟩
 rw [hbZ] at k2 k3 k4 ⊢
 obtain ⟨bX, hbX⟩ : ∃ b', bZ + 1 = b' := ⟨_, rfl⟩
 obtain ⟨b, hb⟩ : ∃ b', bX + 1 = b' := ⟨_, rfl⟩
 rw [hbX] at k3 k4 ⊢
 rw [hb] at k4 ⊢
 have K := hid (show Rk ws b bX 50 S (0 : Nat) 0 Z24 ws from ⟨by omega, lt_of_block k4, by have := lt_of_block k4; omega, Off.refl _ _ _, k4, k3⟩)
 have HBZ := hid (show w.heap.size = bZ ∧ bZ < bX ∧ bX < b ∧ b < ws.heap.size from ⟨hbZ, by omega, by omega, lt_of_block k4⟩)
 have B0 := hid k1
 have Z0 := hid k2
 clear hws k1 k2 k3 k4 hb hbZ hbX
 go_wp2_with (first | refine ldR rfl rfl rfl K.out.rb ?_)
 refine (num_ref S HS.out 2 (by decide) 2 (by decide) (by decide) 0 0 l H.out x1 c1 l1 Q1.out _).mono ?_
 rintro e w1 ⟨A1, rfl, h_, hb_⟩
 clear H
 have H := hid h_
 have K_ := hid (K.out.back hb_)
 clear K h_ hb_
 have K := K_
 clear K_
 obtain ⟨u1, v1, hu1, ⟨q0, q1, q2⟩, a4, a5, K_, o_⟩ := K.out.step A1 c1
 clear o_ K
 have K := hid K_
 clear K_
 have N4 := hid a4
 have N5 := hid a5
 clear a4 a5
 have xc := K.out.cell 0 rfl
 have xf := K.out.free 0
 have K_ := hid (K.out.set 0 (.int .i64 x1) (X24 x1 0 0) rfl)
 obtain ⟨y1, hx1⟩ : ∃ v, v1.setCell ⟨bX, 0, none⟩ (.int .i64 x1) = v := ⟨_, rfl⟩
 rw [hx1] at K_
 clear K
 have K := K_
 clear K_
 go_wp2_with (first | refine stR rfl rfl rfl rfl N4.out N5.out ?_ | refine ldR rfl rfl rfl K.out.rb ?_)
 clear N4 N5 q0 q1 q2 hu1 xc xf hx1
 refine (num_ref S HS.out 1073741824 (by decide) 1073741824 (by decide) (by decide) A1 c1 l1 H.out x2 c2 l2 Q2.out _).mono ?_
 rintro e w2 ⟨A2, rfl, h_, hb_⟩
 clear H
 have H := hid h_
 have K_ := hid (K.out.back hb_)
 clear K h_ hb_
 have K := K_
 clear K_
 obtain ⟨u2, v2, hu2, ⟨q0, q1, q2⟩, a4, a5, K_, o_⟩ := K.out.step A2 c2
 clear o_ K
 have K := hid K_
 clear K_
 have N4 := hid a4
 have N5 := hid a5
 clear a4 a5
 have xc := K.out.cell 1 rfl
 have xf := K.out.free 1
 have K_ := hid (K.out.set 1 (.int .i64 x2) (X24 x1 x2 0) rfl)
 obtain ⟨y2, hx2⟩ : ∃ v, v2.setCell ⟨bX, 1, none⟩ (.int .i64 x2) = v := ⟨_, rfl⟩
 rw [hx2] at K_
 clear K
 have K := K_
 clear K_
 have c0 := K.out.cell 0 rfl
 have HYB := hid (show b < y2.heap.size from by have := K.out.off.size; have := HBZ.out; omega)
 have HY := hid (show bX + 1 ≤ y2.heap.size from by have := K.out.off.size; have := HBZ.out; omega)
 go_upto_if 38 with (first | refine stR rfl rfl rfl rfl N4.out N5.out ?_)
 clear N4 N5 q0 q1 q2 hu2 xc xf hx2
 go_cut [10, 11] (fun s1 s2 wx => ∃ (Ad : Nat) (cd : Int) (ld : List UInt8) (xs : List Value), Hid (Rk ws b bX 50 S Ad cd xs wx) ∧ Hid (At S Ad ld) ∧ Hid (xs[0]? = some (.int .i64 x1)) ∧ Hid ((x1 = 1 ∧ cd = c3 ∧ ld = l3 ∧ (c3 = 0 → ∃ PA pc UA uc LA lc IA ic MA mc RA rc, xs = (M24 mm PA pc UA uc LA lc IA ic MA mc RA rc) ∧ MgUp (bX + 1) mm wx PA UA LA IA MA RA)) ∨ (x1 ≠ 1 ∧ cd = c2 ∧ ld = l2 ∧ xs = (X24 x1 x2 0))))
 case first =>
  by_cases hk1 : x1 = 1
  · subst hk1
    obtain ⟨⟨x3, d3, m3⟩, q3⟩ : ∃ t, replyC.rd c2 l2 = t := ⟨_, rfl⟩
    have Q3 := hid q3
    have hrd : msgC.rd 0 l = (⟨1, x2, x3, zeroE⟩, d3, m3) := msg_rd l (b := (x3, zeroE)) Q1.out Q2.out (by
     unfold bodyC
     rw [if_pos rfl]
     simp only [mapC, q3])
    rw [QM.out] at hrd
    injection hrd with e1 e2
    injection e2 with e2 e3
    subst e1 e2 e3
    clear q3
    go_wp2_with (first | refine ldR rfl rfl rfl K.out.rb ?_)
    refine (reftr_any S HS.out A2 c2 l2 H.out x3 c3 l3 Q3.out _).mono ?_
    rintro e w3 ⟨A3, PA, np, pc, UA, nu, uc, rfl, h_, hup, hb_⟩; clear H
    have H := hid h_
    have HUP := hid hup
    have K_ := hid (K.out.back hb_); clear K h_ hup hb_
    have K := K_
    clear K_
    obtain ⟨u3, v3, hu3, ⟨q0, q1, q2⟩, a4, a5, a6, K_, o_⟩ := K.out.step2 A3 c3 46 #[.int .i64 x3.code, .int .i64 x3.uid, .int .i64 x3.id, .int .u64 (x3.rev : Nat), .string x3.data, .slice PA np pc, .slice UA nu uc]
    have OV := hid o_
    clear o_ K
    have K := hid K_
    have N4 := hid a4
    have N5 := hid a5
    have N8 := hid a6
    clear K_ a4 a5 a6; have K_ := hid (K.out.sets 2 [.int .i64 x3.code, .int .i64 x3.uid, .int .i64 x3.id, .int .u64 (x3.rev : Nat), .string x3.data, .slice PA np pc, .slice UA nu uc] [.int .i64 1, .int .i64 x2, .int .i64 x3.code, .int .i64 x3.uid, .int .i64 x3.id, .int .u64 (x3.rev : Nat), .string x3.data, .slice PA np pc, .slice UA nu uc, .int .i64 0, .int .u64 0, .int .i64 0, .int .u64 0, .string ⟨#[]⟩, .slice none 0 0, .slice none 0 0, .slice none 0 0, .int .i64 0, .int .i64 0, .int .i64 0, .int .i64 0, .slice none 0 0, .int .i64 0, .int .i64 0] (over_24_2 _ _ _ _ _ _ _ _ _ _ _ _ _ _ _ _ _ _ _ _ _ _ _ _ _ _ _ _ _ _ _)); have OX := hid (show Only bX v3 (v3.setCells bX 2 [.int .i64 x3.code, .int .i64 x3.uid, .int .i64 x3.id, .int .u64 (x3.rev : Nat), .string x3.data, .slice PA np pc, .slice UA nu uc]) from only_cells _ 2 (Only.refl _ _))
    have KX := hid K.out.xb
    obtain ⟨y3, hx3⟩ : ∃ v, v3.setCells bX 2 [.int .i64 x3.code, .int .i64 x3.uid, .int .i64 x3.id, .int .u64 (x3.rev : Nat), .string x3.data, .slice PA np pc, .slice UA nu uc] = v := ⟨_, rfl⟩
    rw [hx3] at K_ OX
    have N9 := hid hx3
    clear K hx3
    have K := K_
    clear K_
    have d0 := K.out.cell 0 rfl
    go_wp2_with (first | refine stR rfl rfl rfl rfl N4.out N5.out ?_ | refine ldB 46 Tryz.underlying46 rfl [.int .i64 x3.code, .int .i64 x3.uid, .int .i64 x3.id, .int .u64 (x3.rev : Nat), .string x3.data, .slice PA np pc, .slice UA nu uc] (by kernel_rfl) rfl rfl rfl N8.out rfl ?_ | refine stB 46 [.int .i64 x3.code, .int .i64 x3.uid, .int .i64 x3.id, .int .u64 (x3.rev : Nat), .string x3.data, .slice PA np pc, .slice UA nu uc] (by kernel_rfl) (by simp [Value.oneCell']) rfl rfl rfl rfl KX.out (by simp) N9.out ?_)
    go_meet
    refine ⟨A3, c3, l3, _, K, H, rfl, .inl ⟨by trivial, by trivial, by trivial, fun h0 => ?_⟩⟩
    obtain ⟨⟨rfl, rfl⟩, hr⟩ := HUP.out h0
    refine ⟨PA, pc, UA, uc, none, 0, none, 0, none, 0, none, 0, rfl, ⟨RpUp.less (hr.move (by have := OV.out.size; have := OX.out.size; omega) (fun i h1 h2 => (OX.out.block i (by have := HY.out; omega)).trans (OV.out.block i h2 (by have := HYB.out; omega) (by have := HY.out; omega)))) HY.out, pod_zero _ _, by show (0 : Nat) < _; decide⟩⟩
  · have hkb : (x1 == 1) = false := by simpa using hk1
    go_wp2_with fail
    go_meet
    exact ⟨A2, c2, l2, _, K, H, rfl, .inr ⟨hk1, rfl, rfl, rfl⟩⟩
 case rest =>
  obtain ⟨Ad, cd, ld, xs, K_, H_, HX0, HD⟩ := hcut
  obtain ⟨w21, hwc_⟩ : ∃ v, v = wc := ⟨wc, rfl⟩; subst hwc_; clear K H c0 HYB HY
  have K := K_
  have H := H_
  clear K_ H_
  have c0 := K.out.cell 0 HX0.out
  go_upto_if 49 with fail
  go_cut [12, 13, 14, 15, 16, 17] (fun s3 s4 s5 s6 s7 s8 wx => ∃ (Ae : Nat) (xs : List Value), Hid (Rk ws b bX 50 S Ae c3 xs wx) ∧ Hid (At S Ae l3) ∧ Hid (c3 = 0 → ∃ PA pc UA uc LA lc IA ic MA mc RA rc, xs = (M24 mm PA pc UA uc LA lc IA ic MA mc RA rc) ∧ MgUp (bX + 1) mm wx PA UA LA IA MA RA))
  case first =>
   rcases HD.out with ⟨hk1, rfl, rfl, hg⟩ | ⟨hk1, rfl, rfl, rfl⟩
   · have hkc : (x1 == 2) = false := by rw [hk1]; rfl
     have HG := hid hg
     clear hg HD; go_wp2_with fail
     go_meet
     exact ⟨Ad, xs, K, H, HG⟩
   · clear HD HX0
     by_cases hk2 : x1 = 2
     · subst hk2
       obtain ⟨⟨z1, d1, m1⟩, qa⟩ : ∃ t, ekindC.rd cd ld = t := ⟨_, rfl⟩; obtain ⟨⟨z2, d2, m2⟩, qb⟩ : ∃ t, revC.rd d1 m1 = t := ⟨_, rfl⟩
       have QA := hid qa
       have QB := hid qb
       go_wp2_with (first | refine ldR rfl rfl rfl K.out.rb ?_)
       refine (num_ref S HS.out 5 (by decide) 5 (by decide) (by decide) Ad cd ld H.out z1 d1 m1 QA.out _).mono ?_
       rintro e w3 ⟨A3, rfl, h_, hb_⟩; clear H
       have H := hid h_
       have K_ := hid (K.out.back hb_); clear K h_ hb_
       have K := K_
       clear K_
       obtain ⟨u3, v3, hu3, ⟨q0, q1, q2⟩, a4, a5, K_, o_⟩ := K.out.step A3 d1
       clear o_ K
       have K := hid K_
       clear K_
       have N4 := hid a4
       have N5 := hid a5
       clear a4 a5
       have xc := K.out.cell 9 rfl
       have xf := K.out.free 9
       have K_ := hid (K.out.set 9 (.int .i64 z1) [.int .i64 2, .int .i64 x2, .int .i64 0, .int .i64 0, .int .i64 0, .int .u64 0, .string ⟨#[]⟩, .slice none 0 0, .slice none 0 0, .int .i64 z1, .int .u64 0, .int .i64 0, .int .u64 0, .string ⟨#[]⟩, .slice none 0 0, .slice none 0 0, .slice none 0 0, .int .i64 0, .int .i64 0, .int .i64 0, .int .i64 0, .slice none 0 0, .int .i64 0, .int .i64 0] rfl); obtain ⟨y3, hx3⟩ : ∃ v, v3.setCell ⟨bX, 9, none⟩ (.int .i64 z1) = v := ⟨_, rfl⟩
       rw [hx3] at K_
       clear K
       have K := K_
       clear K_
       go_wp2_with (first | refine stR rfl rfl rfl rfl N4.out N5.out ?_ | refine ldR rfl rfl rfl K.out.rb ?_)
       clear N4 N5 q0 q1 q2 hu3 xc xf hx3
       refine (big_ref S HS.out A3 d1 m1 H.out z2 d2 m2 QB.out _).mono ?_
       rintro e w4 ⟨A4, rfl, h_, hb_⟩; clear H
       have H := hid h_
       have K_ := hid (K.out.back hb_); clear K h_ hb_
       have K := K_
       clear K_
       obtain ⟨u4, v4, hu4, ⟨q0, q1, q2⟩, a4, a5, K_, o_⟩ := K.out.step A4 d2
       clear o_ K
       have K := hid K_
       clear K_
       have N4 := hid a4
       have N5 := hid a5
       clear a4 a5
       have xc := K.out.cell 10 rfl
       have xf := K.out.free 10
       have K_ := hid (K.out.set 10 (.int .u64 (z2 : Nat)) [.int .i64 2, .int .i64 x2, .int .i64 0, .int .i64 0, .int .i64 0, .int .u64 0, .string ⟨#[]⟩, .slice none 0 0, .slice none 0 0, .int .i64 z1, .int .u64 (z2 : Nat), .int .i64 0, .int .u64 0, .string ⟨#[]⟩, .slice none 0 0, .slice none 0 0, .slice none 0 0, .int .i64 0, .int .i64 0, .int .i64 0, .int .i64 0, .slice none 0 0, .int .i64 0, .int .i64 0] rfl); obtain ⟨y4, hx4⟩ : ∃ v, v4.setCell ⟨bX, 10, none⟩ (.int .u64 (z2 : Nat)) = v := ⟨_, rfl⟩
       rw [hx4] at K_
       clear K
       have K := K_
       clear K_
       have d9 := K.out.cell 9 rfl
       have HY4 := hid (show bX + 1 ≤ y4.heap.size ∧ b + 1 ≤ y4.heap.size from by have := K.out.off.size; have := HBZ.out; omega)
       by_cases hz : 1 ≤ z1 ∧ z1 ≤ 3
       · obtain ⟨⟨p, d3, m3⟩, q3⟩ : ∃ t, podC.rd d2 m2 = t := ⟨_, rfl⟩
         have Q3 := hid q3
         have hb1 : hasB z1 = true := inB_iff.2 hz
         obtain ⟨hz1, hz3⟩ := hz
         have hrd : msgC.rd 0 l = (⟨2, x2, zeroR, ⟨z1, z2, p⟩⟩, d3, m3) := msg_rd l (b := (zeroR, ⟨z1, z2, p⟩)) Q1.out Q2.out (by
          unfold bodyC
          rw [if_neg (by decide), if_pos rfl]
          have e1 : (pairC ekindC revC).rd cd ld = ((z1, z2), d2, m2) := by
           simp only [pairC, pairR, QA.out, QB.out]
          have e2 : (podIfC z1).rd d2 m2 = (p, d3, m3) := by
           unfold podIfC; rw [if_pos hb1, q3]
          simp only [mapC, eventC, depC, depR, e1, e2])
         rw [QM.out] at hrd
         injection hrd with e1 e2
         injection e2 with e2 e3
         subst e1 e2 e3
         clear q3 hb1
         go_wp2_with (first | refine stR rfl rfl rfl rfl N4.out N5.out ?_ | refine ldR rfl rfl rfl K.out.rb ?_)
         clear N4 N5 q0 q1 q2 hu4 xc xf hx4
         refine (reftp_any S HS.out A4 d2 m2 H.out p c3 l3 Q3.out _).mono ?_
         rintro e w5 ⟨A5, LA, IA, MA, RA, n2, lc, n3, ic, n4, mc, nr, rc, rfl, h_, hup, hb_⟩; clear H
         have H := hid h_
         have HUP := hid hup
         have K_ := hid (K.out.back hb_); clear K h_ hup hb_
         have K := K_
         clear K_
         obtain ⟨u5, v5, hu5, ⟨q0, q1, q2⟩, a4, a5, a6, K_, o_⟩ := K.out.step2 A5 c3 42 #[.int .i64 p.uid, .int .u64 p.rev, .string p.spec.name, .slice LA n2 lc, .slice IA n3 ic, .slice MA n4 mc, .int .i64 p.spec.restart, .int .i64 p.spec.grace, .int .i64 p.spec.prio, .int .i64 p.phase, .slice RA nr rc, .int .i64 p.mark, .int .i64 p.grace]
         have OV := hid o_
         clear o_ K
         have K := hid K_
         have N4 := hid a4
         have N5 := hid a5
         have N8 := hid a6
         clear K_ a4 a5 a6; have K_ := hid (K.out.sets 11 [.int .i64 p.uid, .int .u64 p.rev, .string p.spec.name, .slice LA n2 lc, .slice IA n3 ic, .slice MA n4 mc, .int .i64 p.spec.restart, .int .i64 p.spec.grace, .int .i64 p.spec.prio, .int .i64 p.phase, .slice RA nr rc, .int .i64 p.mark, .int .i64 p.grace] [.int .i64 2, .int .i64 x2, .int .i64 0, .int .i64 0, .int .i64 0, .int .u64 0, .string ⟨#[]⟩, .slice none 0 0, .slice none 0 0, .int .i64 z1, .int .u64 (z2 : Nat), .int .i64 p.uid, .int .u64 p.rev, .string p.spec.name, .slice LA n2 lc, .slice IA n3 ic, .slice MA n4 mc, .int .i64 p.spec.restart, .int .i64 p.spec.grace, .int .i64 p.spec.prio, .int .i64 p.phase, .slice RA nr rc, .int .i64 p.mark, .int .i64 p.grace] (over_24_11 _ _ _ _ _ _ _ _ _ _ _ _ _ _ _ _ _ _ _ _ _ _ _ _ _ _ _ _ _ _ _ _ _ _ _ _ _)); have OX := hid (show Only bX v5 (v5.setCells bX 11 [.int .i64 p.uid, .int .u64 p.rev, .string p.spec.name, .slice LA n2 lc, .slice IA n3 ic, .slice MA n4 mc, .int .i64 p.spec.restart, .int .i64 p.spec.grace, .int .i64 p.spec.prio, .int .i64 p.phase, .slice RA nr rc, .int .i64 p.mark, .int .i64 p.grace]) from only_cells _ 11 (Only.refl _ _))
         have KX := hid K.out.xb
         obtain ⟨y5, hx5⟩ : ∃ v, v5.setCells bX 11 [.int .i64 p.uid, .int .u64 p.rev, .string p.spec.name, .slice LA n2 lc, .slice IA n3 ic, .slice MA n4 mc, .int .i64 p.spec.restart, .int .i64 p.spec.grace, .int .i64 p.spec.prio, .int .i64 p.phase, .slice RA nr rc, .int .i64 p.mark, .int .i64 p.grace] = v := ⟨_, rfl⟩
         rw [hx5] at K_ OX
         have N9 := hid hx5
         clear K hx5
         have K := K_
         clear K_
         go_wp2_with (first | refine stR rfl rfl rfl rfl N4.out N5.out ?_ | refine ldB 42 Tryz.underlying42 rfl [.int .i64 p.uid, .int .u64 p.rev, .string p.spec.name, .slice LA n2 lc, .slice IA n3 ic, .slice MA n4 mc, .int .i64 p.spec.restart, .int .i64 p.spec.grace, .int .i64 p.spec.prio, .int .i64 p.phase, .slice RA nr rc, .int .i64 p.mark, .int .i64 p.grace] (by kernel_rfl) rfl rfl rfl N8.out rfl ?_ | refine stB 42 [.int .i64 p.uid, .int .u64 p.rev, .string p.spec.name, .slice LA n2 lc, .slice IA n3 ic, .slice MA n4 mc, .int .i64 p.spec.restart, .int .i64 p.spec.grace, .int .i64 p.spec.prio, .int .i64 p.phase, .slice RA nr rc, .int .i64 p.mark, .int .i64 p.grace] (by kernel_rfl) (by simp [Value.oneCell']) rfl rfl rfl rfl KX.out (by simp) N9.out ?_)
         go_meet
         refine ⟨A5, _, K, H, fun h0 => ?_⟩
         obtain ⟨⟨rfl, rfl, rfl, rfl⟩, hp⟩ := HUP.out h0
         refine ⟨none, 0, none, 0, LA, lc, IA, ic, MA, mc, RA, rc, rfl, ⟨rp_zero _ _, PodUp.less (hp.move (by have := OV.out.size; have := OX.out.size; omega) (fun i h1 h2 => (OX.out.block i (by have := HY4.out; omega)).trans (OV.out.block i h2 (by have := HY4.out; omega) (by have := HY4.out; omega)))) HY4.out.1, ?_⟩⟩
         have hv := revC.okay d1 m1
         rw [QB.out] at hv
         have : z2 ≤ 18446744073709551615 := hv
         show z2 < _
         omega
       · obtain ⟨d3, hd3⟩ : ∃ c, d2 = c := ⟨_, rfl⟩
         obtain ⟨m3, hm3⟩ : ∃ c, m2 = c := ⟨_, rfl⟩
         have hb1 : ¬ hasB z1 = true := fun h => hz (inB_iff.1 h)
         have hrd : msgC.rd 0 l = (⟨2, x2, zeroR, ⟨z1, z2, zeroP⟩⟩, d3, m3) := msg_rd l (b := (zeroR, ⟨z1, z2, zeroP⟩)) Q1.out Q2.out (by
          unfold bodyC
          rw [if_neg (by decide), if_pos rfl]
          have e1 : (pairC ekindC revC).rd cd ld = ((z1, z2), d2, m2) := by
           simp only [pairC, pairR, QA.out, QB.out]
          have e2 : (podIfC z1).rd d2 m2 = (zeroP, d3, m3) := by
           unfold podIfC; rw [if_neg hb1, ← hd3, ← hm3]; rfl
          simp only [mapC, eventC, depC, depR, e1, e2])
         rw [QM.out] at hrd
         injection hrd with e1 e2
         injection e2 with e2 e3
         subst e1 e2 e3
         subst hd3 hm3
         have hway : ¬ 1 ≤ z1 ∨ (1 ≤ z1 ∧ ¬ z1 ≤ 3) := by omega
         clear hb1 hz
         rcases hway with hz1 | ⟨hz1, hz3⟩
         all_goals
          go_wp2_with (first | refine stR rfl rfl rfl rfl N4.out N5.out ?_)
          go_meet
          refine ⟨A4, _, K, H, fun h0 => ⟨none, 0, none, 0, none, 0, none, 0, none, 0, none, 0, rfl, ⟨rp_zero _ _, pod_zero _ _, ?_⟩⟩⟩
          have hv := revC.okay d1 m1
          rw [QB.out] at hv
          have : z2 ≤ 18446744073709551615 := hv
          show z2 < _
          omega
     · have hkc : (x1 == 2) = false := by simpa using hk2
       have hrd : msgC.rd 0 l = (⟨x1, x2, zeroR, zeroE⟩, cd, ld) := msg_rd l (b := (zeroR, zeroE)) Q1.out Q2.out (by unfold bodyC; rw [if_neg hk1, if_neg hk2]; rfl)
       rw [QM.out] at hrd
       injection hrd with e1 e2
       injection e2 with e2 e3
       subst e1 e2 e3
       go_wp2_with fail
       go_meet
       exact ⟨Ad, _, K, H, fun h0 => ⟨none, 0, none, 0, none, 0, none, 0, none, 0, none, 0, rfl, ⟨rp_zero _ _, pod_zero _ _, by show (0 : Nat) < _; decide⟩⟩⟩
  case rest =>
   obtain ⟨Ae, xs, K_, H_, G⟩ := hcut
   obtain ⟨w6, hwc_⟩ : ∃ v, v = wc := ⟨wc, rfl⟩; subst hwc_; clear K H c0
   have K := K_
   have H := H_
   clear K_ H_
   have rc1 := box_cell K.out.r 1 rfl
   have rc2 := box_cell K.out.r 2 rfl
   have hle := H.out.1
   have hln := H.out.len
   have hA' : (Ae : Int) ≤ 70368744177664 := by omega
   by_cases hc : c3 = 0
   · subst hc
     obtain ⟨PA, pc, UA, uc, LA, lc, IA, ic, MA, mc, RA, rc, rfl, hmu⟩ := G.out rfl
     have HMU := hid hmu
     clear G hmu
     by_cases hl : l3 = []
     · have HEE := hid (show endE 0 l3 = 0 by rw [hl]; rfl)
       have hnl : ¬ (Ae : Int) < (S.size : Int) := by rw [hl] at hln; simp at hln; omega
       clear hle hln hl
       have BW := hid (show Below w.heap.size w w6 from by
        have h0 := B0.out; have hk := K.out.off; have hz := HBZ.out
        exact ⟨hk.os.trans h0.os, hk.tape.trans h0.tape, hk.output.trans h0.output, Nat.le_trans h0.size hk.size, fun i hi => (hk.block i (by have := h0.size; omega) (by omega) (by omega)).trans (h0.block i hi)⟩)
       have ZB := hid ((K.out.off.block bZ (by have := HBZ.out; omega) (by have := HBZ.out; omega) (by have := HBZ.out; omega)).trans Z0.out); have HLT := hid (show LightM mm from msg_light (by have h_ := msgC.okay 0 l; rw [QM.out] at h_; exact h_))
       have KX := hid K.out.xb
       have RG := hid (range_at K.out.x_ 0 (M24 mm PA pc UA uc LA lc IA ic MA mc RA rc) rfl)
       go_wp2_with (refine wpList_load_midG rfl 50 _ rfl _ _ rfl _ _ RG.out Tryz.underlying50 rfl (by kernel_rfl) ?_)
       refine (refcheck_any mm PA pc UA uc LA lc IA ic MA mc RA rc HLT.out w6 (HL.out.below BW.out) HMU.out.in).mono ?_
       rintro e w7 ⟨rfl, hb7⟩; have K_ := hid (K.out.back hb7); have HMU7 := hid (HMU.out.move hb7.size (fun i h1 h2 => hb7.block i h2)); clear K BW ZB KX RG rc1 rc2 hb7 HMU
       have K := K_
       clear K_
       have rc2 := box_cell K.out.r 2 rfl
       obtain ⟨bb, hbb⟩ : ∃ q, msgB mm = q := ⟨_, rfl⟩; rw [hbb]
       have HBB := hid hbb
       clear hbb
       cases bb with
       | true =>
        have BW := hid (show Below w.heap.size w w7 from by
         have h0 := B0.out; have hk := K.out.off; have hz := HBZ.out
         exact ⟨hk.os.trans h0.os, hk.tape.trans h0.tape, hk.output.trans h0.output, Nat.le_trans h0.size hk.size, fun i hi => (hk.block i (by have := h0.size; omega) (by omega) (by omega)).trans (h0.block i hi)⟩)
        have ZB := hid ((K.out.off.block bZ (by have := HBZ.out; omega) (by have := HBZ.out; omega) (by have := HBZ.out; omega)).trans Z0.out)
        have KX := hid K.out.xb
        have ZD := hid (show BoxIs w7 bZ Z24.toArray 50 from ⟨ZB.out⟩); obtain ⟨we, hwe⟩ : ∃ v, w7.setCells bZ 0 (M24 mm PA pc UA uc LA lc IA ic MA mc RA rc) = v := ⟨_, rfl⟩
        have HW := hid hwe
        have XE := hid (show we.heap[bZ]? = some (.cells ((M24 mm PA pc UA uc LA lc IA ic MA mc RA rc) : List Value).toArray 50 (0, 0)) by rw [← hwe]; exact box_into ZD.out.at_ 0 _ (over_24 _ _ _ _ _ _ _ _ _ _ _ _ _ _ _ _ _ _ _ _ _ _ _ _ _ _ _ _ _ _ _ _ _ _ _ _ _ _ _ _ _ _ _ _ _ _ _ _)); have OE := hid (show Only bZ w7 we by rw [← hwe]; exact only_cells _ 0 (Only.refl _ _)); clear hwe
        go_wp2_with (first | refine ldB 50 Tryz.underlying50 rfl (M24 mm PA pc UA uc LA lc IA ic MA mc RA rc) (by kernel_rfl) rfl rfl rfl KX.out rfl ?_ | refine stB 50 (M24 mm PA pc UA uc LA lc IA ic MA mc RA rc) (by kernel_rfl) (by simp [Value.oneCell']) rfl rfl rfl rfl ZD.out (by simp) HW.out ?_)
        refine bodyPost_ret (v := .tuple #[.agg (M24 mm PA pc UA uc LA lc IA ic MA mc RA rc).toArray, .int .i64 0]) (results_of _ _ bZ 0 (M24 mm PA pc UA uc LA lc IA ic MA mc RA rc) rfl rfl XE.out rfl) rfl ?_
        have hbl : Below w.heap.size w we := below_only BW.out OE.out (by have := HBZ.out; omega)
        exact of_yes QM.out HEE.out HBB.out PA pc UA uc LA lc IA ic MA mc RA rc rfl ((HMU7.out.move OE.out.size (fun i h1 h2 => OE.out.block i (by have := HBZ.out; omega))).in) hbl
       | false =>
        have rf2 := box_free K.out.r 2
        obtain ⟨w8, hw8⟩ : ∃ v, w7.setCell ⟨b, 2, none⟩ (.int .i64 4) = v := ⟨_, rfl⟩; have RC := hid (show w8.heap[b]? = some (.cells #[.string S, .int .i64 Ae, .int .i64 4] 31 (0, 0)) by rw [← hw8]; exact box_set K.out.r 2 _ rfl); have OC := hid (K.out.off.only1 (show Only b w7 w8 by rw [← hw8]; exact (Only.refl _ _).set 2 _))
        have BW := hid (show Below w.heap.size w w8 from by
         have h0 := B0.out; have hk := OC.out; have hz := HBZ.out
         exact ⟨hk.os.trans h0.os, hk.tape.trans h0.tape, hk.output.trans h0.output, Nat.le_trans h0.size hk.size, fun i hi => (hk.block i (by have := h0.size; omega) (by omega) (by omega)).trans (h0.block i hi)⟩)
        have ZB := hid ((OC.out.block bZ (by have := HBZ.out; omega) (by have := HBZ.out; omega) (by have := HBZ.out; omega)).trans Z0.out)
        have rd2 := box_cell RC.out 2 rfl
        clear K
        have hcc : w8.cell? ⟨b, 2, none⟩ = some (.int .i64 4) := by first | exact rd2 | exact rc2
        go_wp2_with fail
        refine Back.wp_zero (T := 50) (s2 := 2) (s3 := 3) (s5 := 5) (d0 := 110) (d1 := 111) (d2 := 112) (zs := Z24) (by kernel_rfl) rfl (by kernel_rfl) (by kernel_rfl) (by kernel_rfl) (by kernel_rfl) rfl rfl rfl ?ax0 ?ax1 ?ax2 ?ax3 ?ax4 hcc ZB.out rfl (by kernel_rfl) (by simp [Value.oneCell']) (by have := HBZ.out; omega) ?aend
        case ax0 => intro o ho a u; obtain rfl := Option.some.inj ho; simp [execOp, go_sem]
        case ax1 => intro o ho a u h; obtain rfl := Option.some.inj ho; simp [execOp, go_sem, Act.eval, h]
        case ax2 => intro o ho a u h h2; obtain rfl := Option.some.inj ho; simp [execOp, go_sem, Act.eval, h, h2]
        case ax3 => intro o ho; obtain rfl := Option.some.inj ho; rfl
        case ax4 => intro o ho a u h; obtain rfl := Option.some.inj ho; simp [execOp, go_sem, Act.eval, h]
        rintro a we h2 h3 hdf ho ht hout hsz hblk ⟨Y', hy, rfl⟩
        have hbl : Below w.heap.size w we := by
         have h0 := BW.out; have hz := HBZ.out
         exact ⟨ho.trans h0.os, ht.trans h0.tape, hout.trans h0.output, by have := h0.size; omega, fun i hi => (hblk i (by omega)).trans (h0.block i hi)⟩
        go_wp2_with fail
        refine bodyPost_ret (v := .tuple #[.agg Z24.toArray, .int .i64 4]) (results_of _ _ bZ (4) Z24 h2 h3 hy rfl) (hdf.trans rfl) ?_
        exact of_shape QM.out HEE.out HBB.out hbl
     · have HEE := hid (show endE 0 l3 = 3 by unfold endE; rw [if_neg hl]; rfl)
       have hnl : (Ae : Int) < (S.size : Int) := by have := List.length_pos_iff.2 hl; omega
       clear hle hln hl
       have rf2 := box_free K.out.r 2
       obtain ⟨w8, hw8⟩ : ∃ v, w6.setCell ⟨b, 2, none⟩ (.int .i64 3) = v := ⟨_, rfl⟩; have RC := hid (show w8.heap[b]? = some (.cells #[.string S, .int .i64 Ae, .int .i64 3] 31 (0, 0)) by rw [← hw8]; exact box_set K.out.r 2 _ rfl); have OC := hid (K.out.off.only1 (show Only b w6 w8 by rw [← hw8]; exact (Only.refl _ _).set 2 _))
       have BW := hid (show Below w.heap.size w w8 from by
        have h0 := B0.out; have hk := OC.out; have hz := HBZ.out
        exact ⟨hk.os.trans h0.os, hk.tape.trans h0.tape, hk.output.trans h0.output, Nat.le_trans h0.size hk.size, fun i hi => (hk.block i (by have := h0.size; omega) (by omega) (by omega)).trans (h0.block i hi)⟩)
       have ZB := hid ((OC.out.block bZ (by have := HBZ.out; omega) (by have := HBZ.out; omega) (by have := HBZ.out; omega)).trans Z0.out)
       have rd2 := box_cell RC.out 2 rfl
       clear K
       have hcc : w8.cell? ⟨b, 2, none⟩ = some (.int .i64 3) := by first | exact rd2 | exact rc2
       go_wp2_with fail
       refine Back.wp_zero (T := 50) (s2 := 2) (s3 := 3) (s5 := 5) (d0 := 110) (d1 := 111) (d2 := 112) (zs := Z24) (by kernel_rfl) rfl (by kernel_rfl) (by kernel_rfl) (by kernel_rfl) (by kernel_rfl) rfl rfl rfl ?bx0 ?bx1 ?bx2 ?bx3 ?bx4 hcc ZB.out rfl (by kernel_rfl) (by simp [Value.oneCell']) (by have := HBZ.out; omega) ?bend
       case bx0 => intro o ho a u; obtain rfl := Option.some.inj ho; simp [execOp, go_sem]
       case bx1 => intro o ho a u h; obtain rfl := Option.some.inj ho; simp [execOp, go_sem, Act.eval, h]
       case bx2 => intro o ho a u h h2; obtain rfl := Option.some.inj ho; simp [execOp, go_sem, Act.eval, h, h2]
       case bx3 => intro o ho; obtain rfl := Option.some.inj ho; rfl
       case bx4 => intro o ho a u h; obtain rfl := Option.some.inj ho; simp [execOp, go_sem, Act.eval, h]
       rintro a we h2 h3 hdf ho ht hout hsz hblk ⟨Y', hy, rfl⟩
       have hbl : Below w.heap.size w we := by
        have h0 := BW.out; have hz := HBZ.out
        exact ⟨ho.trans h0.os, ht.trans h0.tape, hout.trans h0.output, by have := h0.size; omega, fun i hi => (hblk i (by omega)).trans (h0.block i hi)⟩
       go_wp2_with fail
       refine bodyPost_ret (v := .tuple #[.agg Z24.toArray, .int .i64 3]) (results_of _ _ bZ (3) Z24 h2 h3 hy rfl) (hdf.trans rfl) ?_
       exact of_err QM.out HEE.out (by decide) hbl
   · have HC := hid hc
     have hc' : (c3 != 0) = true := by simpa using hc
     have hc2 : (c3 == 0) = false := by simpa using hc
     have HEE := hid (show endE c3 l3 = c3 by unfold endE fst; split <;> simp [hc]); clear hle hln hc G
     have BW := hid (show Below w.heap.size w w6 from by
      have h0 := B0.out; have hk := K.out.off; have hz := HBZ.out
      exact ⟨hk.os.trans h0.os, hk.tape.trans h0.tape, hk.output.trans h0.output, Nat.le_trans h0.size hk.size, fun i hi => (hk.block i (by have := h0.size; omega) (by omega) (by omega)).trans (h0.block i hi)⟩)
     have ZB := hid ((K.out.off.block bZ (by have := HBZ.out; omega) (by have := HBZ.out; omega) (by have := HBZ.out; omega)).trans Z0.out)
     have hcc : w6.cell? ⟨b, 2, none⟩ = some (.int .i64 c3) := by first | exact rd2 | exact rc2
     go_wp2_with fail
     refine Back.wp_zero (T := 50) (s2 := 2) (s3 := 3) (s5 := 5) (d0 := 110) (d1 := 111) (d2 := 112) (zs := Z24) (by kernel_rfl) rfl (by kernel_rfl) (by kernel_rfl) (by kernel_rfl) (by kernel_rfl) rfl rfl rfl ?cx0 ?cx1 ?cx2 ?cx3 ?cx4 hcc ZB.out rfl (by kernel_rfl) (by simp [Value.oneCell']) (by have := HBZ.out; omega) ?cend
     case cx0 => intro o ho a u; obtain rfl := Option.some.inj ho; simp [execOp, go_sem]
     case cx1 => intro o ho a u h; obtain rfl := Option.some.inj ho; simp [execOp, go_sem, Act.eval, h]
     case cx2 => intro o ho a u h h2; obtain rfl := Option.some.inj ho; simp [execOp, go_sem, Act.eval, h, h2]
     case cx3 => intro o ho; obtain rfl := Option.some.inj ho; rfl
     case cx4 => intro o ho a u h; obtain rfl := Option.some.inj ho; simp [execOp, go_sem, Act.eval, h]
     rintro a we h2 h3 hdf ho ht hout hsz hblk ⟨Y', hy, rfl⟩
     have hbl : Below w.heap.size w we := by
      have h0 := BW.out; have hz := HBZ.out
      exact ⟨ho.trans h0.os, ht.trans h0.tape, hout.trans h0.output, by have := h0.size; omega, fun i hi => (hblk i (by omega)).trans (h0.block i hi)⟩
     go_wp2_with fail
     refine bodyPost_ret (v := .tuple #[.agg Z24.toArray, .int .i64 c3]) (results_of _ _ bZ (c3) Z24 h2 h3 hy rfl) (hdf.trans rfl) ?_
     exact of_err QM.out HEE.out HC.out hbl
end Tl
end Go.Proofs.YtljbpelogjmciaaGreatDoor
