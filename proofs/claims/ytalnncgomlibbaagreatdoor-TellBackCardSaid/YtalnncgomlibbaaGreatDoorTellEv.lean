/-
 What reads an event (tell.takeEvent): the event of the bytes, in memory of the call's own; the reader behind. What was there, but the reader, is left as it was. Condition: the bytes are few (PackTake).
-/
import Derived.Test.YtalnncgomlibbaaGreatDoorTellRep
import Derived.Test.YtalnncgomlibbaaGreatDoorTellCheck
set_option linter.unusedVariables false
set_option linter.unusedSimpArgs false
namespace Go.Proofs.YtalnncgomlibbaaGreatDoor
open Go.ChangeShapes Go.WideShapes Go.ChangeAt Go.RowKit Go.Lib
open LebMath WirePure Sd Wire SpecOwn SpecRef Book Pk
namespace Tl
theorem over_15 (a0 a1 a2 a3 a4 a5 a6 a7 a8 a9 a10 a11 a12 a13 a14 b0 b1 b2 b3 b4 b5 b6 b7 b8 b9 b10 b11 b12 b13 b14 : Value) : over #[a0, a1, a2, a3, a4, a5, a6, a7, a8, a9, a10, a11, a12, a13, a14] 0 [b0, b1, b2, b3, b4, b5, b6, b7, b8, b9, b10, b11, b12, b13, b14] = #[b0, b1, b2, b3, b4, b5, b6, b7, b8, b9, b10, b11, b12, b13, b14] := by
 simp [over]
theorem over_15_2 (a0 a1 a2 a3 a4 a5 a6 a7 a8 a9 a10 a11 a12 a13 a14 b0 b1 b2 b3 b4 b5 b6 b7 b8 b9 b10 b11 b12 : Value) : over #[a0, a1, a2, a3, a4, a5, a6, a7, a8, a9, a10, a11, a12, a13, a14] 2 [b0, b1, b2, b3, b4, b5, b6, b7, b8, b9, b10, b11, b12] = #[a0, a1, b0, b1, b2, b3, b4, b5, b6, b7, b8, b9, b10, b11, b12] := by
 simp [over]
theorem pod_zero (B : Nat) (w : World) : PodUp B zeroP w none none none none :=
 ⟨⟨fun k x hk => (by simp [zeroP, zeroS] at hk), fun a ha => (by cases ha), fun k x hk => (by simp [zeroP, zeroS] at hk), fun k x hk => (by simp [zeroP, zeroS] at hk), ⟨⟨by decide, by decide, by decide⟩, i64_rng (m := 0) ⟨by decide, by decide⟩ (by decide), i64_rng (m := 0) ⟨by decide, by decide⟩ (by decide), i64_rng (m := 0) ⟨by decide, by decide⟩ (by decide)⟩⟩, fun k x hk => (by simp [zeroP] at hk), fun a ha => (by cases ha), by decide, by decide⟩
set_option maxRecDepth 100000 in
set_option maxHeartbeats 4000000 in
theorem event_rd (g : Nat) (c : Int) (l : List UInt8) (hl : Few l) (u : Ev) (c' : Int) (l' : List UInt8) (hq : eventC.rd c l = (u, c', l')) (w : World) (h : Rd w g c l) :
 Calls Tryz.prog 74 #[.pointer (some ⟨g, 0, none⟩)] w fun e w' => ∃ LA lc IA ic MA mc RA rc, e = .returned (.agg #[.int .i64 u.kind, .int .u64 u.rev, .int .i64 u.pod.uid, .int .u64 u.pod.rev, .string u.pod.spec.name, .slice LA u.pod.spec.labels.length lc, .slice IA u.pod.spec.init.length ic, .slice MA u.pod.spec.main.length mc, .int .i64 u.pod.spec.restart, .int .i64 u.pod.spec.grace, .int .i64 u.pod.spec.prio, .int .i64 u.pod.phase, .slice RA u.pod.rs.length rc, .int .i64 u.pod.mark, .int .i64 u.pod.grace]) ∧ PodUp w.heap.size u.pod w' LA IA MA RA ∧ u.rev < 18446744073709551616 ∧ Rd w' g c' l' ∧ Wire.Aside g w w' := by
 have hgl := h.lt
 obtain ⟨⟨x1, c1, l1⟩, q1⟩ : ∃ t, ekindC.rd c l = t := ⟨_, rfl⟩
 obtain ⟨⟨x2, c2, l2⟩, q2⟩ : ∃ t, revC.rd c1 l1 = t := ⟨_, rfl⟩
 obtain ⟨⟨x3, c3, l3⟩, q3⟩ : ∃ t, (podIfC x1).rd c2 l2 = t := ⟨_, rfl⟩
 have hr : eventC.rd c l = (⟨x1, x2, x3⟩, c3, l3) := by
  have e1 : (pairC ekindC revC).rd c l = ((x1, x2), c2, l2) := by
   simp only [pairC, pairR, q1, q2]
  simp only [eventC, mapC, depC, depR, e1, q3]
 rw [hr] at hq
 injection hq with hq1 hq2
 injection hq2 with hq2 hq3
 subst hq1 hq2 hq3
 clear hr
 have hrv := revC.okay c1 l1
 rw [q2] at hrv
 have HRV := Lib.hid (show x2 < 18446744073709551616 by have : x2 ≤ 18446744073709551615 := hrv; omega)
 have few1 : Few l1 := few q1 hl
 have few2 : Few l2 := few q2 few1
 have FW0 := Lib.hid hl
 have FW1 := Lib.hid few1
 have FW2 := Lib.hid few2
 have Q1 := Lib.hid q1
 have Q2 := Lib.hid q2
 have Q3 := Lib.hid q3
 clear hl hrv few1 few2 q1 q2 q3
 obtain ⟨w1, hw1⟩ : ∃ v, w.alloc (.cells #[.int .i64 0, .int .u64 0, .int .i64 0, .int .u64 0, .string ⟨#[]⟩, .slice none 0 0, .slice none 0 0, .slice none 0 0, .int .i64 0, .int .i64 0, .int .i64 0, .int .i64 0, .slice none 0 0, .int .i64 0, .int .i64 0] 48) = v := ⟨_, rfl⟩
 have hb1 : Below w.heap.size w w1 := by rw [← hw1]; exact (Below.refl _ _).alloc (Nat.le_refl _) _
 have Z1 := Lib.hid (show w1.heap[w.heap.size]? = some (.cells #[.int .i64 0, .int .u64 0, .int .i64 0, .int .u64 0, .string ⟨#[]⟩, .slice none 0 0, .slice none 0 0, .slice none 0 0, .int .i64 0, .int .i64 0, .int .i64 0, .int .i64 0, .slice none 0 0, .int .i64 0, .int .i64 0] 48 (0, 0)) by rw [← hw1]; exact heap_alloc_new w _)
 have H1 := Lib.hid (h.below hb1)
 have K1 := Lib.hid (Wire.Aside.of_below (g := g) hb1)
 clear h hb1
 go_enter Tryz.func74, Tryz.ntmps74
 go_wp2_with fail
 refine (num_rd g 5 5 (by decide) (by decide) (by decide) c l FW0.out x1 c1 l1 Q1.out w1 H1.out).mono ?_
 rintro e w2 ⟨rfl, h_, k_⟩
 have H2 := Lib.hid h_
 have K2 := Lib.hid (K1.out.trans k_)
 have Z2 := Lib.hid ((k_.block w.heap.size ⟨lt_of_block Z1.out, by omega⟩).trans Z1.out)
 clear h_ k_ Z1 H1 K1 hw1
 go_wp2_with fail
 refine (big_rd g c1 l1 FW1.out x2 c2 l2 Q2.out w2 H2.out).mono ?_
 rintro e w3 ⟨rfl, h_, k_⟩
 have H3 := Lib.hid h_
 have K3 := Lib.hid (K2.out.trans k_)
 have Z3 := Lib.hid ((k_.block w.heap.size ⟨lt_of_block Z2.out, by omega⟩).trans Z2.out)
 clear h_ k_ Z2 H2 K2
 have hx6 := heap_alloc_new w3 (.cells #[.int .i64 0, .int .u64 0, .int .i64 0, .int .u64 0, .string ⟨#[]⟩, .slice none 0 0, .slice none 0 0, .slice none 0 0, .int .i64 0, .int .i64 0, .int .i64 0, .int .i64 0, .slice none 0 0, .int .i64 0, .int .i64 0] 48)
 obtain ⟨wa, hwa⟩ : ∃ v, w3.alloc (.cells #[.int .i64 0, .int .u64 0, .int .i64 0, .int .u64 0, .string ⟨#[]⟩, .slice none 0 0, .slice none 0 0, .slice none 0 0, .int .i64 0, .int .i64 0, .int .i64 0, .int .i64 0, .slice none 0 0, .int .i64 0, .int .i64 0] 48) = v := ⟨_, rfl⟩
 rw [hwa] at hx6
 have hba : Below w3.heap.size w3 wa := by rw [← hwa]; exact (Below.refl _ _).alloc (Nat.le_refl _) _
 obtain ⟨w4, hw4⟩ : ∃ v, wa.setCells w3.heap.size 0 [.int .i64 x1, .int .u64 x2, .int .i64 0, .int .u64 0, .string ⟨#[]⟩, .slice none 0 0, .slice none 0 0, .slice none 0 0, .int .i64 0, .int .i64 0, .int .i64 0, .int .i64 0, .slice none 0 0, .int .i64 0, .int .i64 0] = v := ⟨_, rfl⟩
 have X4 := Lib.hid (show w4.heap[w3.heap.size]? = some (.cells #[.int .i64 x1, .int .u64 x2, .int .i64 0, .int .u64 0, .string ⟨#[]⟩, .slice none 0 0, .slice none 0 0, .slice none 0 0, .int .i64 0, .int .i64 0, .int .i64 0, .int .i64 0, .slice none 0 0, .int .i64 0, .int .i64 0] 48 (0, 0)) by rw [← hw4]; exact box_into hx6 0 _ (over_15 _ _ _ _ _ _ _ _ _ _ _ _ _ _ _ _ _ _ _ _ _ _ _ _ _ _ _ _ _ _))
 have hb4 : Below w3.heap.size w3 w4 := by rw [← hw4]; exact below_cells (Nat.le_refl _) _ 0 hba
 have TH := Lib.hid (show wa.there w3.heap.size 0 15 from box_there hx6 0 15 (by decide))
 have HV := Lib.hid hw4
 have HWA := Lib.hid hwa
 have ONE := Lib.hid (show (#[.int .i64 x1, .int .u64 x2, .int .i64 0, .int .u64 0, .string ⟨#[]⟩, .slice none 0 0, .slice none 0 0, .slice none 0 0, .int .i64 0, .int .i64 0, .int .i64 0, .int .i64 0, .slice none 0 0, .int .i64 0, .int .i64 0] : Array Value).all (·.oneCell') = true by simp [Value.oneCell'])
 clear hw4 hx6 hwa
 have H4 := Lib.hid (H3.out.below hb4)
 have K34 := Lib.hid (Wire.Aside.of_below (g := g) hb4)
 clear hb4 hba
 have c0 := box_cell X4.out 0 rfl
 have hg5 : g < w3.heap.size := H3.out.lt
 go_wp2_with (refine wpList_store_to rfl _ _ _ rfl _ _ _ rfl rfl ?th (by kernel_rfl) ?one (v := w4) ?hv ?_)
 case th => rw [HWA.out]; exact TH.out
 case one => exact ONE.out
 case hv => rw [HWA.out]; exact HV.out
 clear HV HWA TH ONE
 obtain ⟨b, hb⟩ : ∃ b, hasB x1 = b := ⟨_, rfl⟩
 have HBV := Lib.hid hb
 have HRUN := Lib.hid (hasB_any x1 w4)
 rw [hb] at HRUN
 clear hb
 refine HRUN.out.mono ?_
 rintro e_ wy_ ⟨rfl, rfl⟩
 clear c0 HRUN
 cases b with
 | false =>
  have hq3 := Q3.out
  unfold podIfC at hq3
  rw [if_neg (by rw [HBV.out]; decide)] at hq3
  have hq4 : (zeroP, c2, l2) = (x3, c3, l3) := hq3
  injection hq4 with hq4 hq5
  injection hq5 with hq5 hq6
  subst hq4 hq5 hq6
  clear hq3
  have RG := Lib.hid (range_at X4.out 0 [.int .i64 x1, .int .u64 x2, .int .i64 0, .int .u64 0, .string ⟨#[]⟩, .slice none 0 0, .slice none 0 0, .slice none 0 0, .int .i64 0, .int .i64 0, .int .i64 0, .int .i64 0, .slice none 0 0, .int .i64 0, .int .i64 0] rfl)
  have ZD := Lib.hid ((K34.out.block w.heap.size ⟨lt_of_block Z3.out, by omega⟩).trans Z3.out)
  have TH := Lib.hid (show w4.there w.heap.size 0 15 from box_there ZD.out 0 15 (by decide))
  have ONE := Lib.hid (show (#[.int .i64 x1, .int .u64 x2, .int .i64 0, .int .u64 0, .string ⟨#[]⟩, .slice none 0 0, .slice none 0 0, .slice none 0 0, .int .i64 0, .int .i64 0, .int .i64 0, .int .i64 0, .slice none 0 0, .int .i64 0, .int .i64 0] : Array Value).all (·.oneCell') = true by simp [Value.oneCell'])
  obtain ⟨ve, hve⟩ : ∃ v, w4.setCells w.heap.size 0 [.int .i64 x1, .int .u64 x2, .int .i64 0, .int .u64 0, .string ⟨#[]⟩, .slice none 0 0, .slice none 0 0, .slice none 0 0, .int .i64 0, .int .i64 0, .int .i64 0, .int .i64 0, .slice none 0 0, .int .i64 0, .int .i64 0] = v := ⟨_, rfl⟩
  have HV := Lib.hid hve
  have XE := Lib.hid (show ve.heap[w.heap.size]? = some (.cells #[.int .i64 x1, .int .u64 x2, .int .i64 0, .int .u64 0, .string ⟨#[]⟩, .slice none 0 0, .slice none 0 0, .slice none 0 0, .int .i64 0, .int .i64 0, .int .i64 0, .int .i64 0, .slice none 0 0, .int .i64 0, .int .i64 0] 48 (0, 0)) by rw [← hve]; exact box_into ZD.out 0 _ (over_15 _ _ _ _ _ _ _ _ _ _ _ _ _ _ _ _ _ _ _ _ _ _ _ _ _ _ _ _ _ _))
  have OE := Lib.hid (show Only w.heap.size w4 ve by rw [← hve]; exact only_cells _ 0 (Only.refl _ _))
  clear hve
  go_wp2_with (first | (refine wpList_load_mid rfl _ _ rfl _ _ rfl _ _ RG.out Tryz.underlying48 rfl (by kernel_rfl) ?_) | (refine wpList_store_to rfl _ _ _ rfl _ _ _ rfl rfl TH.out (by kernel_rfl) ONE.out HV.out ?_))
  clear RG TH ONE HV
  have r0 := box_cell XE.out 0 rfl
  have r1 := box_cell XE.out 1 rfl
  have r2 := box_cell XE.out 2 rfl
  have r3 := box_cell XE.out 3 rfl
  have r4 := box_cell XE.out 4 rfl
  have r5 := box_cell XE.out 5 rfl
  have r6 := box_cell XE.out 6 rfl
  have r7 := box_cell XE.out 7 rfl
  have r8 := box_cell XE.out 8 rfl
  have r9 := box_cell XE.out 9 rfl
  have r10 := box_cell XE.out 10 rfl
  have r11 := box_cell XE.out 11 rfl
  have r12 := box_cell XE.out 12 rfl
  have r13 := box_cell XE.out 13 rfl
  have r14 := box_cell XE.out 14 rfl
  refine bodyPost_ret (v := .agg #[.int .i64 x1, .int .u64 x2, .int .i64 0, .int .u64 0, .string ⟨#[]⟩, .slice none 0 0, .slice none 0 0, .slice none 0 0, .int .i64 0, .int .i64 0, .int .i64 0, .int .i64 0, .slice none 0 0, .int .i64 0, .int .i64 0]) ?hres rfl ?_
  case hres => simp [results, Tryz.results74, go_sem, r0, r1, r2, r3, r4, r5, r6, r7, r8, r9, r10, r11, r12, r13, r14]
  have hgw : g ≠ w.heap.size := by omega
  have hwb : w.heap.size < w3.heap.size := lt_of_block Z3.out
  have hrd := OE.out.rd H4.out hgw
  have hks := OE.out.aside (K3.out.trans K34.out) (Nat.le_refl _)
  exact ⟨none, 0, none, 0, none, 0, none, 0, rfl, pod_zero _ _, HRV.out, hrd, hks⟩
 | true =>
  have hq3 := Q3.out
  unfold podIfC at hq3
  rw [if_pos HBV.out] at hq3
  have HQ3 := Lib.hid hq3
  clear hq3
  have HRUN := Lib.hid (pod_rd g c2 l2 FW2.out x3 c3 l3 HQ3.out w4 H4.out)
  have hl4 := lt_of_block X4.out
  go_wp2_with fail
  refine HRUN.out.mono ?_
  rintro e w5 ⟨LA, lc, IA, ic, MA, mc, RA, rc, rfl, hpu, h5, k5⟩
  have X5 := Lib.hid ((k5.block w3.heap.size ⟨hl4, by omega⟩).trans X4.out)
  have TH2 := Lib.hid (show w5.there w3.heap.size 2 13 from box_there X5.out 2 13 (by simp))
  have ONE2 := Lib.hid (show (#[.int .i64 x3.uid, .int .u64 x3.rev, .string x3.spec.name, .slice LA x3.spec.labels.length lc, .slice IA x3.spec.init.length ic, .slice MA x3.spec.main.length mc, .int .i64 x3.spec.restart, .int .i64 x3.spec.grace, .int .i64 x3.spec.prio, .int .i64 x3.phase, .slice RA x3.rs.length rc, .int .i64 x3.mark, .int .i64 x3.grace] : Array Value).all (·.oneCell') = true by simp [Value.oneCell'])
  obtain ⟨w6, hw6⟩ : ∃ v, w5.setCells w3.heap.size 2 [.int .i64 x3.uid, .int .u64 x3.rev, .string x3.spec.name, .slice LA x3.spec.labels.length lc, .slice IA x3.spec.init.length ic, .slice MA x3.spec.main.length mc, .int .i64 x3.spec.restart, .int .i64 x3.spec.grace, .int .i64 x3.spec.prio, .int .i64 x3.phase, .slice RA x3.rs.length rc, .int .i64 x3.mark, .int .i64 x3.grace] = v := ⟨_, rfl⟩
  have HV2 := Lib.hid hw6
  have X6 := Lib.hid (show w6.heap[w3.heap.size]? = some (.cells #[.int .i64 x1, .int .u64 x2, .int .i64 x3.uid, .int .u64 x3.rev, .string x3.spec.name, .slice LA x3.spec.labels.length lc, .slice IA x3.spec.init.length ic, .slice MA x3.spec.main.length mc, .int .i64 x3.spec.restart, .int .i64 x3.spec.grace, .int .i64 x3.spec.prio, .int .i64 x3.phase, .slice RA x3.rs.length rc, .int .i64 x3.mark, .int .i64 x3.grace] 48 (0, 0)) by rw [← hw6]; exact box_into X5.out 2 _ (over_15_2 _ _ _ _ _ _ _ _ _ _ _ _ _ _ _ _ _ _ _ _ _ _ _ _ _ _ _ _))
  have hb6 : Only w3.heap.size w5 w6 := by rw [← hw6]; exact only_cells _ 2 (Only.refl _ _)
  have HPU := Lib.hid (hpu.only hb6 hl4)
  have H6 := Lib.hid (hb6.rd h5 (by omega))
  have K6 := Lib.hid (hb6.aside (K34.out.trans k5) (Nat.le_refl _))
  clear hw6 hb6 hpu h5 k5 X5 HRUN
  have RG := Lib.hid (range_at X6.out 0 [.int .i64 x1, .int .u64 x2, .int .i64 x3.uid, .int .u64 x3.rev, .string x3.spec.name, .slice LA x3.spec.labels.length lc, .slice IA x3.spec.init.length ic, .slice MA x3.spec.main.length mc, .int .i64 x3.spec.restart, .int .i64 x3.spec.grace, .int .i64 x3.spec.prio, .int .i64 x3.phase, .slice RA x3.rs.length rc, .int .i64 x3.mark, .int .i64 x3.grace] rfl)
  have ZD := Lib.hid ((K6.out.block w.heap.size ⟨lt_of_block Z3.out, by omega⟩).trans Z3.out)
  have TH := Lib.hid (show w6.there w.heap.size 0 15 from box_there ZD.out 0 15 (by decide))
  have ONE := Lib.hid (show (#[.int .i64 x1, .int .u64 x2, .int .i64 x3.uid, .int .u64 x3.rev, .string x3.spec.name, .slice LA x3.spec.labels.length lc, .slice IA x3.spec.init.length ic, .slice MA x3.spec.main.length mc, .int .i64 x3.spec.restart, .int .i64 x3.spec.grace, .int .i64 x3.spec.prio, .int .i64 x3.phase, .slice RA x3.rs.length rc, .int .i64 x3.mark, .int .i64 x3.grace] : Array Value).all (·.oneCell') = true by simp [Value.oneCell'])
  obtain ⟨ve, hve⟩ : ∃ v, w6.setCells w.heap.size 0 [.int .i64 x1, .int .u64 x2, .int .i64 x3.uid, .int .u64 x3.rev, .string x3.spec.name, .slice LA x3.spec.labels.length lc, .slice IA x3.spec.init.length ic, .slice MA x3.spec.main.length mc, .int .i64 x3.spec.restart, .int .i64 x3.spec.grace, .int .i64 x3.spec.prio, .int .i64 x3.phase, .slice RA x3.rs.length rc, .int .i64 x3.mark, .int .i64 x3.grace] = v := ⟨_, rfl⟩
  have HV := Lib.hid hve
  have XE := Lib.hid (show ve.heap[w.heap.size]? = some (.cells #[.int .i64 x1, .int .u64 x2, .int .i64 x3.uid, .int .u64 x3.rev, .string x3.spec.name, .slice LA x3.spec.labels.length lc, .slice IA x3.spec.init.length ic, .slice MA x3.spec.main.length mc, .int .i64 x3.spec.restart, .int .i64 x3.spec.grace, .int .i64 x3.spec.prio, .int .i64 x3.phase, .slice RA x3.rs.length rc, .int .i64 x3.mark, .int .i64 x3.grace] 48 (0, 0)) by rw [← hve]; exact box_into ZD.out 0 _ (over_15 _ _ _ _ _ _ _ _ _ _ _ _ _ _ _ _ _ _ _ _ _ _ _ _ _ _ _ _ _ _))
  have OE := Lib.hid (show Only w.heap.size w6 ve by rw [← hve]; exact only_cells _ 0 (Only.refl _ _))
  clear hve
  go_wp2_with (first | (refine wpList_store_to rfl _ _ _ rfl _ _ _ rfl rfl TH2.out (by kernel_rfl) ONE2.out HV2.out ?_) | (refine wpList_load_mid rfl _ _ rfl _ _ rfl _ _ RG.out Tryz.underlying48 rfl (by kernel_rfl) ?_) | (refine wpList_store_to rfl _ _ _ rfl _ _ _ rfl rfl TH.out (by kernel_rfl) ONE.out HV.out ?_))
  clear RG TH ONE HV
  have r0 := box_cell XE.out 0 rfl
  have r1 := box_cell XE.out 1 rfl
  have r2 := box_cell XE.out 2 rfl
  have r3 := box_cell XE.out 3 rfl
  have r4 := box_cell XE.out 4 rfl
  have r5 := box_cell XE.out 5 rfl
  have r6 := box_cell XE.out 6 rfl
  have r7 := box_cell XE.out 7 rfl
  have r8 := box_cell XE.out 8 rfl
  have r9 := box_cell XE.out 9 rfl
  have r10 := box_cell XE.out 10 rfl
  have r11 := box_cell XE.out 11 rfl
  have r12 := box_cell XE.out 12 rfl
  have r13 := box_cell XE.out 13 rfl
  have r14 := box_cell XE.out 14 rfl
  refine bodyPost_ret (v := .agg #[.int .i64 x1, .int .u64 x2, .int .i64 x3.uid, .int .u64 x3.rev, .string x3.spec.name, .slice LA x3.spec.labels.length lc, .slice IA x3.spec.init.length ic, .slice MA x3.spec.main.length mc, .int .i64 x3.spec.restart, .int .i64 x3.spec.grace, .int .i64 x3.spec.prio, .int .i64 x3.phase, .slice RA x3.rs.length rc, .int .i64 x3.mark, .int .i64 x3.grace]) ?hres rfl ?_
  case hres => simp [results, Tryz.results74, go_sem, r0, r1, r2, r3, r4, r5, r6, r7, r8, r9, r10, r11, r12, r13, r14]
  have hgw : g ≠ w.heap.size := by omega
  have hwb : w.heap.size < w3.heap.size := lt_of_block Z3.out
  have hrd := OE.out.rd H6.out hgw
  have hks := OE.out.aside (K3.out.trans K6.out) (Nat.le_refl _)
  exact ⟨LA, lc, IA, ic, MA, mc, RA, rc, rfl, (HPU.out.only OE.out (by omega)).less (by omega), HRV.out, hrd, hks⟩

end Tl
end Go.Proofs.YtalnncgomlibbaaGreatDoor
