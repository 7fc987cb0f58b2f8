/-
 What reads a pod (tell.takePod): the pod of the bytes, in memory of the call's own; the reader behind. What was there, but the reader, is left as it was. Condition: the bytes are few (PackTake).
-/
import Derived.Test.YtalnncgomlibbaaGreatDoorTellMem
set_option linter.unusedVariables false
set_option linter.unusedSimpArgs false
namespace Go.Proofs.YtalnncgomlibbaaGreatDoor
open Go.ChangeShapes Go.WideShapes Go.ChangeAt Go.RowKit Go.Lib
open LebMath WirePure Sd Wire SpecOwn SpecRef Book Pk
namespace Tl
set_option maxRecDepth 100000 in
set_option maxHeartbeats 4000000 in
theorem pod_rd (g : Nat) (c : Int) (l : List UInt8) (hl : Few l) (p : Pd) (c' : Int) (l' : List UInt8) (hq : podC.rd c l = (p, c', l')) (w : World) (h : Rd w g c l) :
 Calls Tryz.prog 125 #[.pointer (some ⟨g, 0, none⟩)] w fun e w' => ∃ LA lc IA ic MA mc RA rc, e = .returned (.agg #[.int .i64 p.uid, .int .u64 p.rev, .string p.spec.name, .slice LA p.spec.labels.length lc, .slice IA p.spec.init.length ic, .slice MA p.spec.main.length mc, .int .i64 p.spec.restart, .int .i64 p.spec.grace, .int .i64 p.spec.prio, .int .i64 p.phase, .slice RA p.rs.length rc, .int .i64 p.mark, .int .i64 p.grace]) ∧ PodUp w.heap.size p w' LA IA MA RA ∧ Rd w' g c' l' ∧ Wire.Aside g w w' := by
 have hgl := h.lt
 obtain ⟨⟨x1, c1, l1⟩, q1⟩ : ∃ t, uidC.rd c l = t := ⟨_, rfl⟩
 obtain ⟨⟨x2, c2, l2⟩, q2⟩ : ∃ t, revC.rd c1 l1 = t := ⟨_, rfl⟩
 obtain ⟨⟨x3, c3, l3⟩, q3⟩ : ∃ t, specC.rd c2 l2 = t := ⟨_, rfl⟩
 obtain ⟨⟨x4, c4, l4⟩, q4⟩ : ∃ t, phaseC.rd c3 l3 = t := ⟨_, rfl⟩
 obtain ⟨c5, l5, q5⟩ : ∃ c5 l5, repS uidC.rd c4 l4 x3.main.length = (c5, l5) := ⟨_, _, rfl⟩
 obtain ⟨⟨x6, c6, l6⟩, q6⟩ : ∃ t, markC.rd c5 l5 = t := ⟨_, rfl⟩
 obtain ⟨⟨x7, c7, l7⟩, q7⟩ : ∃ t, graceC.rd c6 l6 = t := ⟨_, rfl⟩
 have hr : podC.rd c l = (⟨x1, x2, x3, x4, repX uidC.rd c4 l4 x3.main.length, x6, x7⟩, c7, l7) := by
  have e1 : (pairC uidC (pairC revC (pairC specC phaseC))).rd c l = ((x1, x2, x3, x4), c4, l4) := by
   simp only [pairC, pairR, q1, q2, q3, q4]
  have e2 : (pairC (vecC x3.main.length uidC) (pairC markC graceC)).rd c4 l4 = ((repX uidC.rd c4 l4 x3.main.length, x6, x7), c7, l7) := by
   simp only [pairC, pairR, vecC, q5, q6, q7]
  simp only [podC, mapC, depC, depR, e1, e2]
 rw [hr] at hq
 injection hq with hq1 hq2
 injection hq2 with hq2 hq3
 subst hq1 hq2 hq3
 clear hr
 have hsp := specC.okay c2 l2
 rw [q3] at hsp
 have hrv := revC.okay c1 l1
 rw [q2] at hrv
 have HRV := Lib.hid (show x2 < 18446744073709551616 by have : x2 ≤ 18446744073709551615 := hrv; omega)
 have hn20 : x3.main.length ≤ 20 := by have h1 : x3.main.length ≤ 8 := (spec_light hsp).1.2.2.2; omega
 clear hsp hrv
 have few1 : Few l1 := few q1 hl
 have few2 : Few l2 := few q2 few1
 have few3 : Few l3 := few q3 few2
 have few4 : Few l4 := few q4 few3
 have few5 : Few l5 := by have := repS_len uidC c4 l4 x3.main.length; rw [q5] at this; exact Nat.le_trans this few4
 have few6 : Few l6 := few q6 few5
 have FW0 := Lib.hid hl
 have FW1 := Lib.hid few1
 have FW2 := Lib.hid few2
 have FW3 := Lib.hid few3
 have FW4 := Lib.hid few4
 have FW5 := Lib.hid few5
 have FW6 := Lib.hid few6
 have Q1 := Lib.hid q1
 have Q2 := Lib.hid q2
 have Q3 := Lib.hid q3
 have Q4 := Lib.hid q4
 have Q5 := Lib.hid q5
 have Q6 := Lib.hid q6
 have Q7 := Lib.hid q7
 clear hl few1 few2 few3 few4 few5 few6 q1 q2 q3 q4 q5 q6 q7
 obtain ⟨w1, hw1⟩ : ∃ v, w.alloc (.cells #[.int .i64 0, .int .u64 0, .string ⟨#[]⟩, .slice none 0 0, .slice none 0 0, .slice none 0 0, .int .i64 0, .int .i64 0, .int .i64 0, .int .i64 0, .slice none 0 0, .int .i64 0, .int .i64 0] 42) = v := ⟨_, rfl⟩
 have hb1 : Below w.heap.size w w1 := by rw [← hw1]; exact (Below.refl _ _).alloc (Nat.le_refl _) _
 have Z1 := Lib.hid (show w1.heap[w.heap.size]? = some (.cells #[.int .i64 0, .int .u64 0, .string ⟨#[]⟩, .slice none 0 0, .slice none 0 0, .slice none 0 0, .int .i64 0, .int .i64 0, .int .i64 0, .int .i64 0, .slice none 0 0, .int .i64 0, .int .i64 0] 42 (0, 0)) by rw [← hw1]; exact heap_alloc_new w _)
 have H1 := Lib.hid (h.below hb1)
 have K1 := Lib.hid (Wire.Aside.of_below (g := g) hb1)
 clear h hb1
 go_enter Tryz.func125, Tryz.ntmps125
 go_wp2_with fail
 refine (num_rd g 1073741824 1073741824 (by decide) (by decide) (by decide) c l FW0.out x1 c1 l1 Q1.out w1 H1.out).mono ?_
 rintro e w2 ⟨rfl, h2, k2⟩
 have H2 := Lib.hid h2
 have K2 := Lib.hid (K1.out.trans k2)
 have Z2 := Lib.hid ((k2.block w.heap.size ⟨lt_of_block Z1.out, by omega⟩).trans Z1.out)
 clear h2 k2 Z1 H1 K1 hw1
 go_wp2_with fail
 refine (big_rd g c1 l1 FW1.out x2 c2 l2 Q2.out w2 H2.out).mono ?_
 rintro e w3 ⟨rfl, h3, k3⟩
 have H3 := Lib.hid h3
 have K3 := Lib.hid (K2.out.trans k3)
 have Z3 := Lib.hid ((k3.block w.heap.size ⟨lt_of_block Z2.out, by omega⟩).trans Z2.out)
 clear h3 k3 Z2 H2 K2
 go_wp2_with fail
 refine (raw_rd g c2 l2 FW2.out x3 c3 l3 Q3.out w3 H3.out).mono ?_
 rintro e w4 ⟨LA, lc, IA, ic, MA, mc, rfl, hs4, h4, k4⟩
 have H4 := Lib.hid h4
 have K4 := Lib.hid (K3.out.trans k4)
 have Z4 := Lib.hid ((k4.block w.heap.size ⟨lt_of_block Z3.out, by omega⟩).trans Z3.out)
 have hz3 := lt_of_block Z3.out
 obtain ⟨B3, hB3⟩ : ∃ B3, w3.heap.size = B3 := ⟨_, rfl⟩
 rw [hB3] at hs4 hz3
 have S4 := Lib.hid hs4
 have HB3 := Lib.hid (show w.heap.size < B3 from hz3)
 clear h4 k4 hs4 Z3 H3 K3 hz3 hB3
 go_wp2_with fail
 refine (num_rd g 4 4 (by decide) (by decide) (by decide) c3 l3 FW3.out x4 c4 l4 Q4.out w4 H4.out).mono ?_
 rintro e w5 ⟨rfl, h5, k5⟩
 have H5 := Lib.hid h5
 have K5 := Lib.hid (K4.out.trans k5)
 have Z5 := Lib.hid ((k5.block w.heap.size ⟨lt_of_block Z4.out, by omega⟩).trans Z4.out)
 have S5 := Lib.hid (S4.out.aside (by have := HB3.out; omega) k5)
 clear h5 k5 Z4 H4 K4 S4
 have hx6 := heap_alloc_new w5 (.cells #[.int .i64 0, .int .u64 0, .string ⟨#[]⟩, .slice none 0 0, .slice none 0 0, .slice none 0 0, .int .i64 0, .int .i64 0, .int .i64 0, .int .i64 0, .slice none 0 0, .int .i64 0, .int .i64 0] 42)
 obtain ⟨w6, hw6⟩ : ∃ v, w5.alloc (.cells #[.int .i64 0, .int .u64 0, .string ⟨#[]⟩, .slice none 0 0, .slice none 0 0, .slice none 0 0, .int .i64 0, .int .i64 0, .int .i64 0, .int .i64 0, .slice none 0 0, .int .i64 0, .int .i64 0] 42) = v := ⟨_, rfl⟩
 rw [hw6] at hx6
 have hb6 : Below w5.heap.size w5 w6 := by rw [← hw6]; exact (Below.refl _ _).alloc (Nat.le_refl _) _
 obtain ⟨w7, hw7⟩ : ∃ v, w6.setCells w5.heap.size 0 [.int .i64 x1, .int .u64 x2, .string x3.name, .slice LA x3.labels.length lc, .slice IA x3.init.length ic, .slice MA x3.main.length mc, .int .i64 x3.restart, .int .i64 x3.grace, .int .i64 x3.prio, .int .i64 x4, .slice none 0 0, .int .i64 0, .int .i64 0] = v := ⟨_, rfl⟩
 have HX7 := Lib.hid (show w7.heap[w5.heap.size]? = some (.cells #[.int .i64 x1, .int .u64 x2, .string x3.name, .slice LA x3.labels.length lc, .slice IA x3.init.length ic, .slice MA x3.main.length mc, .int .i64 x3.restart, .int .i64 x3.grace, .int .i64 x3.prio, .int .i64 x4, .slice none 0 0, .int .i64 0, .int .i64 0] 42 (0, 0)) by rw [← hw7]; exact box_into hx6 0 _ (over_13 _ _ _ _ _ _ _ _ _ _ _ _ _ _ _ _ _ _ _ _ _ _ _ _ _ _))
 have hb7 : Below w5.heap.size w5 w7 := by rw [← hw7]; exact below_cells (Nat.le_refl _) _ 0 hb6
 have TH := Lib.hid (show w6.there w5.heap.size 0 13 from box_there hx6 0 13 (by decide))
 have HV := Lib.hid hw7
 have HW6 := Lib.hid hw6
 have ONE := Lib.hid (show (#[.int .i64 x1, .int .u64 x2, .string x3.name, .slice LA x3.labels.length lc, .slice IA x3.init.length ic, .slice MA x3.main.length mc, .int .i64 x3.restart, .int .i64 x3.grace, .int .i64 x3.prio, .int .i64 x4, .slice none 0 0, .int .i64 0, .int .i64 0] : Array Value).all (·.oneCell') = true by simp [Value.oneCell'])
 clear hw7 hx6 hw6
 have H7 := Lib.hid (H5.out.below hb7)
 have K57 := Lib.hid (Wire.Aside.of_below (g := g) hb7)
 clear hb7 hb6
 have c5 := box_cell HX7.out 5 rfl
 obtain ⟨i0, hi0, hz0, hz1, hz2⟩ := info_parts info_ports
 go_wp2_with (refine wpList_store_to rfl _ _ _ rfl _ _ _ rfl rfl ?th (by kernel_rfl) ?one (v := w7) ?hv ?_)
 case th => rw [HW6.out]; exact TH.out
 case one => exact ONE.out
 case hv => rw [HW6.out]; exact HV.out
 clear HV HW6 TH ONE c5
 go_loopw [17] (fun i wr => ∃ (j : Nat) (RA : Option Addr) (rc : Nat), j ≤ x3.main.length ∧ i = .int .i64 j ∧ Hid (wr.heap[w5.heap.size]? = some (.cells #[.int .i64 x1, .int .u64 x2, .string x3.name, .slice LA x3.labels.length lc, .slice IA x3.init.length ic, .slice MA x3.main.length mc, .int .i64 x3.restart, .int .i64 x3.grace, .int .i64 x3.prio, .int .i64 x4, .slice RA j rc, .int .i64 0, .int .i64 0] 42 (0, 0))) ∧ Hid (wr.ownsRow (w5.heap.size + 1) 3 1 (.slice RA j rc) j (flatI (repX uidC.rd c4 l4 j))) ∧ Hid (Rd wr g (repS uidC.rd c4 l4 j).1 (repS uidC.rd c4 l4 j).2) ∧ Hid (Wire.Aside g w5 wr)) (fun i _ => x3.main.length - (RowKit.intOf i).toNat)
 case atStart => exact ⟨0, none, 0, Nat.zero_le _, rfl, HX7.out, World.ownsRow_nil _ _ _ _, H7.out, K57.out⟩
 case round =>
  obtain ⟨j, RA, rc, hj, rfl, HX, HO, HR, HK⟩ := hrel
  clear HX7 H7 K57
  by_cases hlt : j < x3.main.length
  · have hlt' : (j : Int) < (x3.main.length : Int) := by omega
    have fewj : Few (repS uidC.rd c4 l4 j).2 := Nat.le_trans (repS_len uidC c4 l4 j) FW4.out
    obtain ⟨⟨x, cz, lz⟩, q⟩ : ∃ t, uidC.rd (repS uidC.rd c4 l4 j).1 (repS uidC.rd c4 l4 j).2 = t := ⟨_, rfl⟩
    have HSJ := Lib.hid (show repS uidC.rd c4 l4 (j + 1) = (cz, lz) by show (uidC.rd _ _).2 = _; rw [q])
    have HXJ := Lib.hid (show flatI (repX uidC.rd c4 l4 (j + 1)) = flatI (repX uidC.rd c4 l4 j) ++ [.int .i64 x] by
     show flatI (repX uidC.rd c4 l4 j ++ [(uidC.rd _ _).1]) = _
     rw [q, flatI_snoc])
    have HXL := Lib.hid (show (flatI (repX uidC.rd c4 l4 j)).length = j * 1 by rw [flatI_length, repX_len])
    have HRUN := Lib.hid (fun (v : World) (hv : Rd v g _ _) => num_rd g 1073741824 1073741824 (by decide) (by decide) (by decide) _ _ fewj x cz lz q v hv)
    have c10 := box_cell HX.out 10 rfl
    have hg5 : g < w5.heap.size := by have := H5.out.lt; omega
    have hlb := lt_of_block HX.out
    clear q fewj
    go_wp2_with fail
    go_region_law
     (first
      | (refine step_call rfl 41 #[.pointer (some ⟨g, 0, none⟩), .int .i64 1073741824] (by first | rfl | simp [go_sem, Act.eval]) ((HRUN.out wr.drew HR.out).mono ?_); rintro e wn ⟨rfl, hn2, kn0⟩; refine ⟨_, rfl, ?_⟩;
         have kn : Wire.Aside g wr wn := ⟨kn0.os, kn0.tape, kn0.output, kn0.size, kn0.block⟩;
         have hbl := kn.block w5.heap.size ⟨hlb, by omega⟩;
         have hS : wn.cell? ⟨w5.heap.size, 10, none⟩ = some (.slice RA j rc) := (World.cell?_of_block (w := wr) hbl).trans (box_cell HX.out 10 rfl);
         have hlw : w5.heap.size < wn.heap.size := Nat.lt_of_lt_of_le hlb kn.size;
         have hS2 : ∀ o, (wn.alloc o).cell? ⟨w5.heap.size, 10, none⟩ = some (.slice RA j rc) := fun o => (World.cell?_alloc_lt _ _ _ hlw).trans hS)
      | (refine AppendAny.step_append_any rfl _ _ 40 rfl (w5.heap.size + 1) 3 i0 (.int .i64 0) 1 8 Tryz.underlying40 hi0 hz0 hz1 hz2 rfl (by decide) (.slice RA j rc) j (flatI (repX uidC.rd c4 l4 j)) rfl ((Wire.owns_of HO.out (w' := wn) (fun r hr => kn.block r (by have := Wire.owns_lt HO.out hr; exact ⟨this.2, by omega⟩))).alloc (.cells #[.int .i64 x] 3)) (some ⟨wn.heap.size, 0, none⟩) 1 1 [.int .i64 x] rfl rfl (.inr ⟨_, rfl, (World.ownsRow_lit (base := 0) (size := 1) (e := 3) wn ([.int .i64 x] : List Value).toArray 1 (Nat.zero_le _) (by decide) rfl).cells rfl⟩) (fun u hu => by simp only [List.mem_cons, List.not_mem_nil, or_false] at hu; rcases hu with rfl <;> rfl) (by unfold maxLen; omega) (by omega) (by have := hlw; simp; omega) ?_;
         intro A' c' w1 hown1 hgrow;
         have hne : some w5.heap.size ≠ (Value.slice RA j rc).ownBlock := fun e => by { have := (HO.out.lt _ e.symm).1; omega };
         have hX1 := (hgrow.block w5.heap.size (by simp; omega) hne).trans ((((Below.refl wn.heap.size wn).alloc (Nat.le_refl _) _).block w5.heap.size hlw).trans (hbl.trans HX.out));
         have hk10 := box_cell hX1 10 rfl;
         have hf10 := box_free hX1 10))
    all_goals
     obtain ⟨w8, hw8⟩ : ∃ v, w1.setCell ⟨w5.heap.size, 10, none⟩ (.slice A' (j + 1) c') = v := ⟨_, rfl⟩
     rw [hw8]
     have HX8 := Lib.hid (show w8.heap[w5.heap.size]? = some (.cells #[.int .i64 x1, .int .u64 x2, .string x3.name, .slice LA x3.labels.length lc, .slice IA x3.init.length ic, .slice MA x3.main.length mc, .int .i64 x3.restart, .int .i64 x3.grace, .int .i64 x3.prio, .int .i64 x4, .slice A' (j + 1) c', .int .i64 0, .int .i64 0] 42 (0, 0)) by rw [← hw8]; exact box_set hX1 10 _ rfl)
     have HO8 := Lib.hid (show w8.ownsRow (w5.heap.size + 1) 3 1 (.slice A' (j + 1) c') (j + 1) (flatI (repX uidC.rd c4 l4 (j + 1))) by rw [HXJ.out, ← hw8]; exact ownsRow_setCell_below hown1 (a := ⟨w5.heap.size, 10, none⟩) (by simp) _)
     have hbw : Below w5.heap.size wn w8 := by rw [← hw8]; exact (((Below.refl w5.heap.size wn).alloc (by omega) _).grown hgrow (by simp; omega) (fun k hk => by have := (HO.out.lt k hk).1; omega)).setCell (p := ⟨w5.heap.size, 10, none⟩) (Nat.le_refl _) _
     have HR8 := Lib.hid (show Rd w8 g (repS uidC.rd c4 l4 (j + 1)).1 (repS uidC.rd c4 l4 (j + 1)).2 by rw [HSJ.out]; exact (hbw.block g hg5).trans hn2)
     have HK8 := Lib.hid (show Wire.Aside g w5 w8 from (HK.out.trans kn).trans2 hbw)
     clear hw8 hbw hown1 hgrow hX1 hk10 hf10 hS hS2 hn2 kn kn0 hbl hlw hne
     go_wp2
     go_roundw
     case rel => exact ⟨j + 1, A', c', by omega, by go_num, HX8.out, HO8.out, HR8.out, HK8.out⟩
     case measure => simp [RowKit.intOf]; omega
  · obtain rfl : j = x3.main.length := by omega
    have hlt' : ¬ (x3.main.length : Int) < (x3.main.length : Int) := by omega
    have hg5 : g < w5.heap.size := by have := H5.out.lt; omega
    have hgb : g ≠ w5.heap.size := by omega
    have hrr := HR.out
    rw [Q5.out] at hrr
    have HRW := Lib.hid hrr
    clear hrr
    go_wp2_with fail
    refine (num_rd g 2 2 (by decide) (by decide) (by decide) c5 l5 FW5.out x6 c6 l6 Q6.out wr HRW.out).mono ?_
    rintro e wa ⟨rfl, ha, ka⟩
    have KA := Lib.hid (HK.out.trans ka)
    have HA := Lib.hid ha
    have XA := Lib.hid ((ka.block w5.heap.size ⟨lt_of_block HX.out, Ne.symm hgb⟩).trans HX.out)
    have HOA := Lib.hid (Wire.owns_of HO.out (w' := wa) (fun r hr => ka.block r (by have := Wire.owns_lt HO.out hr; exact ⟨this.2, by omega⟩)))
    clear ha ka HX HO HR HK HRW
    have c11 := box_cell XA.out 11 rfl
    have f11 := box_free XA.out 11
    have XB := Lib.hid (box_set XA.out 11 (.int .i64 x6) (B := #[.int .i64 x1, .int .u64 x2, .string x3.name, .slice LA x3.labels.length lc, .slice IA x3.init.length ic, .slice MA x3.main.length mc, .int .i64 x3.restart, .int .i64 x3.grace, .int .i64 x3.prio, .int .i64 x4, .slice RA x3.main.length rc, .int .i64 x6, .int .i64 0]) rfl)
    have OB := Lib.hid ((Only.refl w5.heap.size wa).set 11 (.int .i64 x6))
    have HOB := Lib.hid (ownsRow_setCell_below HOA.out (a := ⟨w5.heap.size, 11, none⟩) (by simp) (.int .i64 x6))
    obtain ⟨vb, hvb⟩ : ∃ v, wa.setCell ⟨w5.heap.size, 11, none⟩ (.int .i64 x6) = v := ⟨_, rfl⟩
    rw [hvb] at XB OB HOB
    have HB := Lib.hid (OB.out.rd HA.out hgb)
    have KB := Lib.hid (OB.out.aside KA.out (Nat.le_refl _))
    go_wp2_with fail
    refine (num_rd g 1000 1000 (by decide) (by decide) (by decide) c6 l6 FW6.out x7 c7 l7 Q7.out vb HB.out).mono ?_
    rintro e wc ⟨rfl, hc_, kc⟩
    have KC := Lib.hid (KB.out.trans kc)
    have HC := Lib.hid hc_
    have XC := Lib.hid ((kc.block w5.heap.size ⟨lt_of_block XB.out, Ne.symm hgb⟩).trans XB.out)
    have HOC := Lib.hid (Wire.owns_of HOB.out (w' := wc) (fun r hr => kc.block r (by have := Wire.owns_lt HOB.out hr; exact ⟨this.2, by omega⟩)))
    clear hc_ kc hvb XA XB OB HOA HOB HA HB KA KB c11 f11
    have c12 := box_cell XC.out 12 rfl
    have f12 := box_free XC.out 12
    have XD := Lib.hid (box_set XC.out 12 (.int .i64 x7) (B := #[.int .i64 x1, .int .u64 x2, .string x3.name, .slice LA x3.labels.length lc, .slice IA x3.init.length ic, .slice MA x3.main.length mc, .int .i64 x3.restart, .int .i64 x3.grace, .int .i64 x3.prio, .int .i64 x4, .slice RA x3.main.length rc, .int .i64 x6, .int .i64 x7]) rfl)
    have OD := Lib.hid ((Only.refl w5.heap.size wc).set 12 (.int .i64 x7))
    have HOD := Lib.hid (ownsRow_setCell_below HOC.out (a := ⟨w5.heap.size, 12, none⟩) (by simp) (.int .i64 x7))
    obtain ⟨vd, hvd⟩ : ∃ v, wc.setCell ⟨w5.heap.size, 12, none⟩ (.int .i64 x7) = v := ⟨_, rfl⟩
    rw [hvd] at XD OD HOD
    have HD := Lib.hid (OD.out.rd HC.out hgb)
    have KD := Lib.hid (OD.out.aside KC.out (Nat.le_refl _))
    have RG := Lib.hid (range_at XD.out 0 [.int .i64 x1, .int .u64 x2, .string x3.name, .slice LA x3.labels.length lc, .slice IA x3.init.length ic, .slice MA x3.main.length mc, .int .i64 x3.restart, .int .i64 x3.grace, .int .i64 x3.prio, .int .i64 x4, .slice RA x3.main.length rc, .int .i64 x6, .int .i64 x7] rfl)
    have ZD := Lib.hid ((KD.out.block w.heap.size ⟨lt_of_block Z5.out, by omega⟩).trans Z5.out)
    have TH := Lib.hid (show vd.there w.heap.size 0 13 from box_there ZD.out 0 13 (by decide))
    have ONE := Lib.hid (show (#[.int .i64 x1, .int .u64 x2, .string x3.name, .slice LA x3.labels.length lc, .slice IA x3.init.length ic, .slice MA x3.main.length mc, .int .i64 x3.restart, .int .i64 x3.grace, .int .i64 x3.prio, .int .i64 x4, .slice RA x3.main.length rc, .int .i64 x6, .int .i64 x7] : Array Value).all (·.oneCell') = true by simp [Value.oneCell'])
    obtain ⟨ve, hve⟩ : ∃ v, vd.setCells w.heap.size 0 [.int .i64 x1, .int .u64 x2, .string x3.name, .slice LA x3.labels.length lc, .slice IA x3.init.length ic, .slice MA x3.main.length mc, .int .i64 x3.restart, .int .i64 x3.grace, .int .i64 x3.prio, .int .i64 x4, .slice RA x3.main.length rc, .int .i64 x6, .int .i64 x7] = v := ⟨_, rfl⟩
    have HV := Lib.hid hve
    have XE := Lib.hid (show ve.heap[w.heap.size]? = some (.cells #[.int .i64 x1, .int .u64 x2, .string x3.name, .slice LA x3.labels.length lc, .slice IA x3.init.length ic, .slice MA x3.main.length mc, .int .i64 x3.restart, .int .i64 x3.grace, .int .i64 x3.prio, .int .i64 x4, .slice RA x3.main.length rc, .int .i64 x6, .int .i64 x7] 42 (0, 0)) by rw [← hve]; exact box_into ZD.out 0 _ (over_13 _ _ _ _ _ _ _ _ _ _ _ _ _ _ _ _ _ _ _ _ _ _ _ _ _ _))
    have OE := Lib.hid (show Only w.heap.size vd ve by rw [← hve]; exact only_cells _ 0 (Only.refl _ _))
    clear hve
    go_wp2_with (first | (refine wpList_load_mid rfl _ _ rfl _ _ rfl _ _ RG.out Tryz.underlying42 rfl (by kernel_rfl) ?_) | (refine wpList_store_to rfl _ _ _ rfl _ _ _ rfl rfl TH.out (by kernel_rfl) ONE.out HV.out ?_))
    clear c12 f12 hvd RG TH ONE HV
    have r0 := box_cell XE.out 0 rfl
    have r1 := box_cell XE.out 1 rfl
    have r2 := box_cell XE.out 2 rfl
    have r3 := box_cell XE.out 3 rfl
    have r4 := box_cell XE.out 4 rfl
    have r5 := box_cell XE.out 5 rfl
    have r6 := box_cell XE.out 6 rfl
    have r7 := box_cell XE.out 7 rfl
    have r8 := box_cell XE.out 8 rfl
    have r9 := box_cell XE.out 9 rfl
    have r10 := box_cell XE.out 10 rfl
    have r11 := box_cell XE.out 11 rfl
    have r12 := box_cell XE.out 12 rfl
    refine bodyPost_ret (v := .agg #[.int .i64 x1, .int .u64 x2, .string x3.name, .slice LA x3.labels.length lc, .slice IA x3.init.length ic, .slice MA x3.main.length mc, .int .i64 x3.restart, .int .i64 x3.grace, .int .i64 x3.prio, .int .i64 x4, .slice RA x3.main.length rc, .int .i64 x6, .int .i64 x7]) ?hres rfl ?_
    case hres => simp [results, Tryz.results125, go_sem, r0, r1, r2, r3, r4, r5, r6, r7, r8, r9, r10, r11, r12]
    have hgw : g ≠ w.heap.size := by omega
    have hL := repX_len uidC.rd c4 l4 x3.main.length
    have hI : ∀ z ∈ repX uidC.rd c4 l4 x3.main.length, (Lit.int IntKind.i64 z).wf = true := fun z hz => i64_wf (int_rng (repX_ok uidC c4 l4 _ z hz)) (by decide)
    obtain ⟨L, hLe⟩ : ∃ L, repX uidC.rd c4 l4 x3.main.length = L := ⟨_, rfl⟩
    have ho := HOD.out
    rw [hLe] at ho hI hL
    rw [← hL] at ho
    obtain ⟨hnm, hfr⟩ := nums_own ho hI
    refine ⟨LA, lc, IA, ic, MA, mc, RA, rc, by rw [hLe, hL], ?_, OE.out.rd HD.out hgw, OE.out.aside (K5.out.trans KD.out) (Nat.le_refl _)⟩
    rw [hLe]
    exact ⟨spc_down (spc_only (S5.out.aside (by have := HB3.out; omega) KD.out) OE.out HB3.out) (Nat.le_of_lt HB3.out), OE.out.nums hnm (fun a ha => by have := hfr a ha; have := lt_of_block Z5.out; omega), fun a ha => by have := hfr a ha; have := lt_of_block Z5.out; omega, by show L.length ≤ _; omega, HRV.out⟩


end Tl
end Go.Proofs.YtalnncgomlibbaaGreatDoor
