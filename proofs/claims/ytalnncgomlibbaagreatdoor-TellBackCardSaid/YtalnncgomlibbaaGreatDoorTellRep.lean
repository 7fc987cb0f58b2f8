/-
 What reads a reply (tell.takeReply): the reply of the bytes, in memory of the call's own; the reader behind. What was there, but the reader, is left as it was. Condition: the bytes are few (PackTake).
-/
import Derived.Test.YtalnncgomlibbaaGreatDoorTellRow
set_option linter.unusedVariables false
set_option linter.unusedSimpArgs false
namespace Go.Proofs.YtalnncgomlibbaaGreatDoor
open Go.ChangeShapes Go.WideShapes Go.ChangeAt Go.RowKit Go.Lib
open LebMath WirePure Sd Wire SpecOwn SpecRef Book Pk
namespace Tl
theorem GatP.moved {B : Nat} {w w' : World} {v v' : Value} {L : List HP} (h : GatP B w v L) (hv : v'.ownBlock = v.ownBlock ∨ ∃ r, v'.ownBlock = some r ∧ w.heap.size ≤ r) (hs : w.heap.size ≤ w'.heap.size) (hb : ∀ i, B ≤ i → i < w.heap.size → (∀ r, v.ownBlock = some r → i ≠ r) → w'.heap[i]? = w.heap[i]?) : GatP B w' v' L := fun t ht => by
 obtain ⟨h1, h2, h3, h4, _⟩ := (h.move hs hb) t ht
 obtain ⟨_, _, _, _, h5⟩ := (h.row hv) t ht
 exact ⟨h1, h2, h3, h4, h5⟩
theorem podsup_less {B B' : Nat} {w : World} {A : Option Addr} {l : List Pd} (h : PodsUp B w A l) (hB : B' ≤ B) : PodsUp B' w A l := fun k p hk => by
 obtain ⟨a, LA, lc, IA, ic, MA, mc, RA, rc, h1, h2, h3, h4, h5⟩ := h k p hk
 exact ⟨a, LA, lc, IA, ic, MA, mc, RA, rc, h1, Nat.le_trans hB h2, h3, h4, h5.less hB⟩
theorem usesup_less {B B' : Nat} {w : World} {A : Option Addr} {l : List (Int × Int × Int)} (h : UsesUp B w A l) (hB : B' ≤ B) : UsesUp B' w A l := fun k u hk => by
 obtain ⟨a, h1, h2, h3, h4⟩ := h k u hk
 exact ⟨a, h1, Nat.le_trans hB h2, h3, h4⟩
theorem over_7 (a0 a1 a2 a3 a4 a5 a6 b0 b1 b2 b3 b4 b5 b6 : Value) : over #[a0, a1, a2, a3, a4, a5, a6] 0 [b0, b1, b2, b3, b4, b5, b6] = #[b0, b1, b2, b3, b4, b5, b6] := by
 simp [over]
theorem info_pod : (Tryz.prog.info? 42).map (fun i => (i.zero, i.size, i.bytes)) = some (some (.agg #[.int .i64 0, .int .u64 0, .string ⟨#[]⟩, .slice none 0 0, .slice none 0 0, .slice none 0 0, .int .i64 0, .int .i64 0, .int .i64 0, .int .i64 0, .slice none 0 0, .int .i64 0, .int .i64 0]), 13, 176) := by kernel_rfl
theorem info_use : (Tryz.prog.info? 70).map (fun i => (i.zero, i.size, i.bytes)) = some (some (.agg #[.int .i64 0, .int .i64 0, .int .i64 0]), 3, 24) := by kernel_rfl
set_option maxRecDepth 100000 in
set_option maxHeartbeats 4000000 in
theorem reply_rd (g : Nat) (c : Int) (l : List UInt8) (hl : Few l) (y : Rp) (c' : Int) (l' : List UInt8) (hq : replyC.rd c l = (y, c', l')) (w : World) (h : Rd w g c l) :
 Calls Tryz.prog 73 #[.pointer (some ⟨g, 0, none⟩)] w fun e w' => ∃ PA pc UA uc, e = .returned (.agg #[.int .i64 y.code, .int .i64 y.uid, .int .i64 y.id, .int .u64 y.rev, .string y.data, .slice PA y.pods.length pc, .slice UA y.use.length uc]) ∧ RpUp w.heap.size y w' PA UA ∧ Rd w' g c' l' ∧ Wire.Aside g w w' := by
 have hgl := h.lt
 obtain ⟨⟨x1, c1, l1⟩, q1⟩ : ∃ t, codeC.rd c l = t := ⟨_, rfl⟩
 obtain ⟨⟨x2, c2, l2⟩, q2⟩ : ∃ t, uidC.rd c1 l1 = t := ⟨_, rfl⟩
 obtain ⟨⟨x3, c3, l3⟩, q3⟩ : ∃ t, uidC.rd c2 l2 = t := ⟨_, rfl⟩
 obtain ⟨⟨x4, c4, l4⟩, q4⟩ : ∃ t, revC.rd c3 l3 = t := ⟨_, rfl⟩
 obtain ⟨⟨x5, c5, l5⟩, q5⟩ : ∃ t, dataC.rd c4 l4 = t := ⟨_, rfl⟩
 obtain ⟨n, hn⟩ : ∃ n, numV 16 c5 l5 = n := ⟨_, rfl⟩
 obtain ⟨c6, hc6⟩ : ∃ d, numE 16 c5 l5 = d := ⟨_, rfl⟩
 obtain ⟨l6, hl6⟩ : ∃ d, numL 16 c5 l5 = d := ⟨_, rfl⟩
 have q6 : (intC 16 (by decide)).rd c5 l5 = ((n : Int), c6, l6) := by rw [← hn, ← hc6, ← hl6]; rfl
 have hn16 : n ≤ 16 := by rw [← hn]; exact numV_le 16 c5 l5
 obtain ⟨c7, l7, q7⟩ : ∃ c7 l7, repS podC.rd c6 l6 n = (c7, l7) := ⟨_, _, rfl⟩
 obtain ⟨n2, hn2⟩ : ∃ n, numV 4 c7 l7 = n := ⟨_, rfl⟩
 obtain ⟨c8, hc8⟩ : ∃ d, numE 4 c7 l7 = d := ⟨_, rfl⟩
 obtain ⟨l8, hl8⟩ : ∃ d, numL 4 c7 l7 = d := ⟨_, rfl⟩
 have q8 : (intC 4 (by decide)).rd c7 l7 = ((n2 : Int), c8, l8) := by rw [← hn2, ← hc8, ← hl8]; rfl
 have hn4 : n2 ≤ 4 := by rw [← hn2]; exact numV_le 4 c7 l7
 obtain ⟨c9, l9, q9⟩ : ∃ c9 l9, repS resC.rd c8 l8 n2 = (c9, l9) := ⟨_, _, rfl⟩
 have hr : replyC.rd c l = (⟨x1, x2, x3, x4, x5, repX podC.rd c6 l6 n, repX resC.rd c8 l8 n2⟩, c9, l9) := by
  have e1 : podsC.rd c5 l5 = (repX podC.rd c6 l6 n, c7, l7) := by
   show (repX podC.rd (numE 16 c5 l5) (numL 16 c5 l5) (numV 16 c5 l5), repS podC.rd (numE 16 c5 l5) (numL 16 c5 l5) (numV 16 c5 l5)) = _
   rw [hn, hc6, hl6, q7]
  have e2 : usesC.rd c7 l7 = (repX resC.rd c8 l8 n2, c9, l9) := by
   show (repX resC.rd (numE 4 c7 l7) (numL 4 c7 l7) (numV 4 c7 l7), repS resC.rd (numE 4 c7 l7) (numL 4 c7 l7) (numV 4 c7 l7)) = _
   rw [hn2, hc8, hl8, q9]
  simp only [replyC, mapC, pairC, pairR, q1, q2, q3, q4, q5, e1, e2]
 rw [hr] at hq
 injection hq with hq1 hq2
 injection hq2 with hq2 hq3
 subst hq1 hq2 hq3
 clear hr hn hc6 hl6 hn2 hc8 hl8
 have hrv := revC.okay c3 l3
 rw [q4] at hrv
 have HRV := Lib.hid (show x4 < 18446744073709551616 by have : x4 ≤ 18446744073709551615 := hrv; omega)
 have few1 : Few l1 := few q1 hl
 have few2 : Few l2 := few q2 few1
 have few3 : Few l3 := few q3 few2
 have few4 : Few l4 := few q4 few3
 have few5 : Few l5 := few q5 few4
 have few6 : Few l6 := few q6 few5
 have few7 : Few l7 := by have := repS_len podC c6 l6 n; rw [q7] at this; exact Nat.le_trans this few6
 have few8 : Few l8 := few q8 few7
 have FW0 := Lib.hid hl
 have FW1 := Lib.hid few1
 have FW2 := Lib.hid few2
 have FW3 := Lib.hid few3
 have FW4 := Lib.hid few4
 have FW5 := Lib.hid few5
 have FW6 := Lib.hid few6
 have FW7 := Lib.hid few7
 have FW8 := Lib.hid few8
 have Q1 := Lib.hid q1
 have Q2 := Lib.hid q2
 have Q3 := Lib.hid q3
 have Q4 := Lib.hid q4
 have Q5 := Lib.hid q5
 have Q6 := Lib.hid q6
 have Q7 := Lib.hid q7
 have Q8 := Lib.hid q8
 have Q9 := Lib.hid q9
 clear hl hrv few1 few2 few3 few4 few5 few6 few7 few8 q1 q2 q3 q4 q5 q6 q7 q8 q9
 obtain ⟨i13, hi13, hz130, hz131, hz132⟩ := info_parts info_pod
 obtain ⟨i3, hi3, hz30, hz31, hz32⟩ := info_parts info_use
 obtain ⟨w1, hw1⟩ : ∃ v, w.alloc (.cells #[.int .i64 0, .int .i64 0, .int .i64 0, .int .u64 0, .string ⟨#[]⟩, .slice none 0 0, .slice none 0 0] 46) = v := ⟨_, rfl⟩
 have hb1 : Below w.heap.size w w1 := by rw [← hw1]; exact (Below.refl _ _).alloc (Nat.le_refl _) _
 have Z1 := Lib.hid (show w1.heap[w.heap.size]? = some (.cells #[.int .i64 0, .int .i64 0, .int .i64 0, .int .u64 0, .string ⟨#[]⟩, .slice none 0 0, .slice none 0 0] 46 (0, 0)) by rw [← hw1]; exact heap_alloc_new w _)
 have H1 := Lib.hid (h.below hb1)
 have K1 := Lib.hid (Wire.Aside.of_below (g := g) hb1)
 clear h hb1
 go_enter Tryz.func73, Tryz.ntmps73
 go_wp2_with fail
 refine (num_rd g 999 999 (by decide) (by decide) (by decide) c l FW0.out x1 c1 l1 Q1.out w1 H1.out).mono ?_
 rintro e w2 ⟨rfl, h_, k_⟩
 have H2 := Lib.hid h_
 have K2 := Lib.hid (K1.out.trans k_)
 have Z2 := Lib.hid ((k_.block w.heap.size ⟨lt_of_block Z1.out, by omega⟩).trans Z1.out)
 clear h_ k_ Z1 H1 K1 hw1
 go_wp2_with fail
 refine (num_rd g 1073741824 1073741824 (by decide) (by decide) (by decide) c1 l1 FW1.out x2 c2 l2 Q2.out w2 H2.out).mono ?_
 rintro e w3 ⟨rfl, h_, k_⟩
 have H3 := Lib.hid h_
 have K3 := Lib.hid (K2.out.trans k_)
 have Z3 := Lib.hid ((k_.block w.heap.size ⟨lt_of_block Z2.out, by omega⟩).trans Z2.out)
 clear h_ k_ Z2 H2 K2
 go_wp2_with fail
 refine (num_rd g 1073741824 1073741824 (by decide) (by decide) (by decide) c2 l2 FW2.out x3 c3 l3 Q3.out w3 H3.out).mono ?_
 rintro e w4 ⟨rfl, h_, k_⟩
 have H4 := Lib.hid h_
 have K4 := Lib.hid (K3.out.trans k_)
 have Z4 := Lib.hid ((k_.block w.heap.size ⟨lt_of_block Z3.out, by omega⟩).trans Z3.out)
 clear h_ k_ Z3 H3 K3
 go_wp2_with fail
 refine (big_rd g c3 l3 FW3.out x4 c4 l4 Q4.out w4 H4.out).mono ?_
 rintro e w5 ⟨rfl, h_, k_⟩
 have H5 := Lib.hid h_
 have K5 := Lib.hid (K4.out.trans k_)
 have Z5 := Lib.hid ((k_.block w.heap.size ⟨lt_of_block Z4.out, by omega⟩).trans Z4.out)
 clear h_ k_ Z4 H4 K4
 go_wp2_with fail
 refine (text_rd g 32 32 (by decide) (by decide) (by decide) c4 l4 FW4.out x5 c5 l5 Q5.out w5 H5.out).mono ?_
 rintro e w6 ⟨rfl, h_, k_⟩
 have H6 := Lib.hid h_
 have K6 := Lib.hid (K5.out.trans k_)
 have Z6 := Lib.hid ((k_.block w.heap.size ⟨lt_of_block Z5.out, by omega⟩).trans Z5.out)
 clear h_ k_ Z5 H5 K5
 have hx6 := heap_alloc_new w6 (.cells #[.int .i64 0, .int .i64 0, .int .i64 0, .int .u64 0, .string ⟨#[]⟩, .slice none 0 0, .slice none 0 0] 46)
 obtain ⟨wa, hwa⟩ : ∃ v, w6.alloc (.cells #[.int .i64 0, .int .i64 0, .int .i64 0, .int .u64 0, .string ⟨#[]⟩, .slice none 0 0, .slice none 0 0] 46) = v := ⟨_, rfl⟩
 rw [hwa] at hx6
 have hba : Below w6.heap.size w6 wa := by rw [← hwa]; exact (Below.refl _ _).alloc (Nat.le_refl _) _
 obtain ⟨w7, hw7⟩ : ∃ v, wa.setCells w6.heap.size 0 [.int .i64 x1, .int .i64 x2, .int .i64 x3, .int .u64 x4, .string x5, .slice none 0 0, .slice none 0 0] = v := ⟨_, rfl⟩
 have HX7 := Lib.hid (show w7.heap[w6.heap.size]? = some (.cells #[.int .i64 x1, .int .i64 x2, .int .i64 x3, .int .u64 x4, .string x5, .slice none 0 0, .slice none 0 0] 46 (0, 0)) by rw [← hw7]; exact box_into hx6 0 _ (over_7 _ _ _ _ _ _ _ _ _ _ _ _ _ _))
 have hb7 : Below w6.heap.size w6 w7 := by rw [← hw7]; exact below_cells (Nat.le_refl _) _ 0 hba
 have TH := Lib.hid (show wa.there w6.heap.size 0 7 from box_there hx6 0 7 (by decide))
 have HV := Lib.hid hw7
 have HWA := Lib.hid hwa
 have ONE := Lib.hid (show (#[.int .i64 x1, .int .i64 x2, .int .i64 x3, .int .u64 x4, .string x5, .slice none 0 0, .slice none 0 0] : Array Value).all (·.oneCell') = true by simp [Value.oneCell'])
 clear hw7 hx6 hwa
 have H7 := Lib.hid (H6.out.below hb7)
 have K67 := Lib.hid (Wire.Aside.of_below (g := g) hb7)
 clear hb7 hba
 go_wp2_with (refine wpList_store_to rfl _ _ _ rfl _ _ _ rfl rfl ?th (by kernel_rfl) ?one (v := w7) ?hv ?_)
 case th => rw [HWA.out]; exact TH.out
 case one => exact ONE.out
 case hv => rw [HWA.out]; exact HV.out
 clear HV HWA TH ONE
 refine (num_rd g 16 16 (by decide) (by decide) (by decide) c5 l5 FW5.out n c6 l6 Q6.out w7 H7.out).mono ?_
 rintro e wb ⟨rfl, hb_, kb⟩
 have HBR := Lib.hid hb_
 have KB := Lib.hid (K67.out.trans kb)
 have XB := Lib.hid ((kb.block w6.heap.size ⟨lt_of_block HX7.out, by have := H6.out.lt; omega⟩).trans HX7.out)
 clear hb_ kb H7 K67 HX7
 go_wp2_with fail
 go_loopw [17] (fun i wr => ∃ (j : Nat) (PA : Option Addr) (pc : Nat) (L : List HP), j ≤ n ∧ i = .int .i64 j ∧ Hid (L.map (·.x) = repX podC.rd c6 l6 j) ∧ Hid (wr.heap[w6.heap.size]? = some (.cells #[.int .i64 x1, .int .i64 x2, .int .i64 x3, .int .u64 x4, .string x5, .slice PA j pc, .slice none 0 0] 46 (0, 0))) ∧ Hid (wr.ownsRow (w6.heap.size + 1) 42 13 (.slice PA j pc) j (flatP L)) ∧ Hid (GatP (w6.heap.size + 1) wr (.slice PA j pc) L) ∧ Hid (Rd wr g (repS podC.rd c6 l6 j).1 (repS podC.rd c6 l6 j).2) ∧ Hid (Wire.Aside g w6 wr)) (fun i _ => n - (RowKit.intOf i).toNat)
 case atStart => exact ⟨0, none, 0, [], Nat.zero_le _, rfl, rfl, XB.out, World.ownsRow_nil _ _ _ _, GatP.nil _ _ _, HBR.out, KB.out⟩
 case round =>
  obtain ⟨j, PA, pc, L, hj, rfl, HLX, HX, HO, HG, HR, HK⟩ := hrel
  clear XB HBR KB
  have hg5 : g < w6.heap.size := by have := H6.out.lt; omega
  have hlb := lt_of_block HX.out
  by_cases hlt : j < n
  · have hlt' : (j : Int) < (n : Int) := by omega
    have fewj : Few (repS podC.rd c6 l6 j).2 := Nat.le_trans (repS_len podC c6 l6 j) FW6.out
    obtain ⟨⟨x, cz, lz⟩, q⟩ : ∃ t, podC.rd (repS podC.rd c6 l6 j).1 (repS podC.rd c6 l6 j).2 = t := ⟨_, rfl⟩
    have HSJ := Lib.hid (show repS podC.rd c6 l6 (j + 1) = (cz, lz) by show (podC.rd _ _).2 = _; rw [q])
    have HXJ := Lib.hid (show repX podC.rd c6 l6 (j + 1) = repX podC.rd c6 l6 j ++ [x] by
     show repX podC.rd c6 l6 j ++ [(podC.rd _ _).1] = _
     rw [q])
    have HRUN := Lib.hid (fun (v : World) (hv : Rd v g _ _) => pod_rd g _ _ fewj x cz lz q v hv)
    have c10 := box_cell HX.out 5 rfl
    clear q fewj
    go_wp2_with fail
    go_region_law
     (first
      | (refine step_call rfl 125 #[.pointer (some ⟨g, 0, none⟩)] (by first | rfl | simp [go_sem, Act.eval]) ((HRUN.out wr.drew HR.out).mono ?_); rintro e wn ⟨LA, lc, IA, ic, MA, mc, RA, rc, rfl, hpu0, hn2, kn0⟩; refine ⟨_, rfl, ?_⟩;
         have kn : Wire.Aside g wr wn := ⟨kn0.os, kn0.tape, kn0.output, kn0.size, kn0.block⟩;
         have hbl := kn.block w6.heap.size ⟨hlb, by omega⟩;
         have hS : wn.cell? ⟨w6.heap.size, 5, none⟩ = some (.slice PA j pc) := (World.cell?_of_block (w := wr) hbl).trans (box_cell HX.out 5 rfl);
         have hlw : w6.heap.size < wn.heap.size := Nat.lt_of_lt_of_le hlb kn.size;
         have hS2 : ∀ o, (wn.alloc o).cell? ⟨w6.heap.size, 5, none⟩ = some (.slice PA j pc) := fun o => (World.cell?_alloc_lt _ _ _ hlw).trans hS)
      | (refine step_append_lay rfl _ _ 43 rfl (w6.heap.size + 1) 42 i13 (.agg #[.int .i64 0, .int .u64 0, .string ⟨#[]⟩, .slice none 0 0, .slice none 0 0, .slice none 0 0, .int .i64 0, .int .i64 0, .int .i64 0, .int .i64 0, .slice none 0 0, .int .i64 0, .int .i64 0]) 13 176 Tryz.underlying43 hi13 hz130 hz131 hz132 rfl (by decide) (.slice PA j pc) j (flatP L) rfl ((Wire.owns_of HO.out (w' := wn) (fun r hr => kn.block r (by have := Wire.owns_lt HO.out hr; exact ⟨this.2, by omega⟩))).alloc (.cells #[.int .i64 x.uid, .int .u64 x.rev, .string x.spec.name, .slice LA x.spec.labels.length lc, .slice IA x.spec.init.length ic, .slice MA x.spec.main.length mc, .int .i64 x.spec.restart, .int .i64 x.spec.grace, .int .i64 x.spec.prio, .int .i64 x.phase, .slice RA x.rs.length rc, .int .i64 x.mark, .int .i64 x.grace] 42)) ⟨wn.heap.size, 0, none⟩ 1 1 [.int .i64 x.uid, .int .u64 x.rev, .string x.spec.name, .slice LA x.spec.labels.length lc, .slice IA x.spec.init.length ic, .slice MA x.spec.main.length mc, .int .i64 x.spec.restart, .int .i64 x.spec.grace, .int .i64 x.spec.prio, .int .i64 x.phase, .slice RA x.rs.length rc, .int .i64 x.mark, .int .i64 x.grace] rfl rfl ((World.ownsRow_lit (base := 0) (size := 13) (e := 42) wn ([.int .i64 x.uid, .int .u64 x.rev, .string x.spec.name, .slice LA x.spec.labels.length lc, .slice IA x.spec.init.length ic, .slice MA x.spec.main.length mc, .int .i64 x.spec.restart, .int .i64 x.spec.grace, .int .i64 x.spec.prio, .int .i64 x.phase, .slice RA x.rs.length rc, .int .i64 x.mark, .int .i64 x.grace] : List Value).toArray 1 (Nat.zero_le _) (by decide) rfl).cells rfl) (fun u hu => by simp only [List.mem_cons, List.not_mem_nil, or_false] at hu; rcases hu with rfl | rfl | rfl | rfl | rfl | rfl | rfl | rfl | rfl | rfl | rfl | rfl | rfl <;> rfl) (by unfold maxLen; omega) (by omega) (by have := hlw; have := kn.size; simp; omega) ?_;
         intro A' c' w1 hown1 hgrow hat;
         have hne : some w6.heap.size ≠ (Value.slice PA j pc).ownBlock := fun e => by { have := (HO.out.lt _ e.symm).1; omega };
         have hX1 := (hgrow.block w6.heap.size (by simp; omega) hne).trans ((((Below.refl wn.heap.size wn).alloc (Nat.le_refl _) _).block w6.heap.size hlw).trans (hbl.trans HX.out));
         have hk10 := box_cell hX1 5 rfl;
         have hf10 := box_free hX1 5))
    all_goals
     obtain ⟨w8, hw8⟩ : ∃ v, w1.setCell ⟨w6.heap.size, 5, none⟩ (.slice A' (j + 1) c') = v := ⟨_, rfl⟩
     rw [hw8]
     have hbw : Below w6.heap.size wn w8 := by rw [← hw8]; exact (((Below.refl w6.heap.size wn).alloc (by omega) _).grown hgrow (by simp; omega) (fun k hk => by have := (HO.out.lt k hk).1; omega)).setCell (p := ⟨w6.heap.size, 5, none⟩) (Nat.le_refl _) _
     have hmv : ∀ i, i ≠ w6.heap.size → i < wn.heap.size → some i ≠ (Value.slice PA j pc).ownBlock → w8.heap[i]? = wn.heap[i]? := fun i h1 h2 h3 => by rw [← hw8]; exact ((Below.heap_setCell w1 ⟨w6.heap.size, 5, none⟩ _ i h1).trans (hgrow.block i (by simp; omega) h3)).trans (Below.heap_alloc wn _ i h2)
     have hsw : wn.heap.size ≤ w8.heap.size := hbw.size
     have hpu : PodUp wr.heap.size x wn LA IA MA RA := hpu0
     have HX8 := Lib.hid (show w8.heap[w6.heap.size]? = some (.cells #[.int .i64 x1, .int .i64 x2, .int .i64 x3, .int .u64 x4, .string x5, .slice A' (j + 1) c', .slice none 0 0] 46 (0, 0)) by rw [← hw8]; exact box_set hX1 5 _ rfl)
     have HO8 := Lib.hid (show w8.ownsRow (w6.heap.size + 1) 42 13 (.slice A' (j + 1) c') (j + 1) (flatP (L ++ [⟨x, LA, lc, IA, ic, MA, mc, RA, rc, wr.heap.size, wn⟩])) by rw [flatP_snoc, ← hw8]; exact ownsRow_setCell_below hown1 (a := ⟨w6.heap.size, 5, none⟩) (by simp) _)
     have hg1 := (HG.out.move kn.size (fun i h1 h2 _ => kn.block i ⟨h2, by omega⟩)).snoc ⟨x, LA, lc, IA, ic, MA, mc, RA, rc, wr.heap.size, wn⟩ hlb hpu (Nat.le_refl _) (fun i _ _ => rfl) (fun r hr => .inl (HO.out.lt r hr).2)
     have HG8 := Lib.hid (hg1.moved (v' := .slice A' (j + 1) c') (hat.imp id (fun e => ⟨_, e, by simp⟩)) hsw (fun i h1 h2 h3 => hmv i (by omega) h2 (fun e => h3 i e.symm rfl)))
     have HL8 := Lib.hid (show (L ++ [(⟨x, LA, lc, IA, ic, MA, mc, RA, rc, wr.heap.size, wn⟩ : HP)]).map (·.x) = repX podC.rd c6 l6 (j + 1) by rw [List.map_append, HLX.out, HXJ.out]; rfl)
     have HR8 := Lib.hid (show Rd w8 g (repS podC.rd c6 l6 (j + 1)).1 (repS podC.rd c6 l6 (j + 1)).2 by rw [HSJ.out]; exact (hbw.block g hg5).trans hn2)
     have HK8 := Lib.hid (show Wire.Aside g w6 w8 from (HK.out.trans kn).trans2 hbw)
     clear hpu hpu0 hg1 hsw
     clear hw8 hbw hmv hown1 hgrow hX1 hk10 hf10 hS hS2 hn2 kn kn0 hbl hlw hne hat
     go_wp2
     go_roundw
     case rel => exact ⟨j + 1, A', c', _, by omega, by go_num, HL8.out, HX8.out, HO8.out, HG8.out, HR8.out, HK8.out⟩
     case measure => simp [RowKit.intOf]; omega
  · obtain rfl : j = n := by omega
    have hlt' : ¬ (j : Int) < (j : Int) := by omega
    obtain ⟨we, hwe⟩ : ∃ v, v = wr := ⟨_, rfl⟩
    subst hwe
    obtain ⟨n, hnj⟩ : ∃ n, n = j := ⟨_, rfl⟩
    subst hnj
    have hrr := HR.out
    rw [Q7.out] at hrr
    have HRW := Lib.hid hrr
    have hpu := HG.out.up HO.out
    rw [HLX.out] at hpu
    clear hrr
    go_wp2_with fail
    refine (num_rd g 4 4 (by decide) (by decide) (by decide) c7 l7 FW7.out n2 c8 l8 Q8.out we HRW.out).mono ?_
    rintro e wk ⟨rfl, hk_, kk⟩
    have HKR := Lib.hid hk_
    have KK := Lib.hid (HK.out.trans kk)
    have XK := Lib.hid ((kk.block w6.heap.size ⟨hlb, by omega⟩).trans HX.out)
    have HPU := Lib.hid (hpu.move kk.size (fun i h1 h2 => kk.block i ⟨h2, by omega⟩))
    have hbk : w6.heap.size < wk.heap.size := Nat.lt_of_lt_of_le hlb kk.size
    clear hk_ kk HX HO HG HR HK HRW hpu HLX hlb hj hlt hlt'
    go_wp2_with fail
    go_loopw [29] (fun i wr => ∃ (j : Nat) (UA : Option Addr) (uc : Nat), j ≤ n2 ∧ i = .int .i64 j ∧ Hid (wr.heap[w6.heap.size]? = some (.cells #[.int .i64 x1, .int .i64 x2, .int .i64 x3, .int .u64 x4, .string x5, .slice PA n pc, .slice UA j uc] 46 (0, 0))) ∧ Hid (wr.ownsRow wk.heap.size 70 3 (.slice UA j uc) j (flatU (repX resC.rd c8 l8 j))) ∧ Hid (wk.heap.size ≤ wr.heap.size ∧ ∀ i, i < wk.heap.size → i ≠ g → i ≠ w6.heap.size → wr.heap[i]? = wk.heap[i]?) ∧ Hid (Rd wr g (repS resC.rd c8 l8 j).1 (repS resC.rd c8 l8 j).2) ∧ Hid (Wire.Aside g w6 wr)) (fun i _ => n2 - (RowKit.intOf i).toNat)
    case atStart => exact ⟨0, none, 0, Nat.zero_le _, rfl, XK.out, World.ownsRow_nil _ _ _ _, ⟨Nat.le_refl _, fun i _ _ _ => rfl⟩, HKR.out, KK.out⟩
    case round =>
     obtain ⟨j, UA, uc, hj, rfl, HX, HO, HQ, HR, HK⟩ := hrel
     clear XK HKR KK
     have hlb := lt_of_block HX.out
     by_cases hlt : j < n2
     · have hlt' : (j : Int) < (n2 : Int) := by omega
       have fewj : Few (repS resC.rd c8 l8 j).2 := Nat.le_trans (repS_len resC c8 l8 j) FW8.out
       obtain ⟨⟨x, cz, lz⟩, q⟩ : ∃ t, resC.rd (repS resC.rd c8 l8 j).1 (repS resC.rd c8 l8 j).2 = t := ⟨_, rfl⟩
       have HSJ := Lib.hid (show repS resC.rd c8 l8 (j + 1) = (cz, lz) by show (resC.rd _ _).2 = _; rw [q])
       have HXJ := Lib.hid (show flatU (repX resC.rd c8 l8 (j + 1)) = flatU (repX resC.rd c8 l8 j) ++ useVals x by
        show flatU (repX resC.rd c8 l8 j ++ [(resC.rd _ _).1]) = _
        rw [q, flatU_snoc])
       have HRUN := Lib.hid (fun (v : World) (hv : Rd v g _ _) => use_rd g _ _ fewj x.1 x.2.1 x.2.2 cz lz q v hv)
       have c10 := box_cell HX.out 6 rfl
       have hwk := HQ.out.1
       clear q fewj
       go_wp2_with fail
       go_region_law
        (first
         | (refine step_call rfl 126 #[.pointer (some ⟨g, 0, none⟩)] (by first | rfl | simp [go_sem, Act.eval]) ((HRUN.out wr.drew HR.out).mono ?_); rintro e wn ⟨rfl, hn2, kn0⟩; refine ⟨_, rfl, ?_⟩;
            have kn : Wire.Aside g wr wn := ⟨kn0.os, kn0.tape, kn0.output, kn0.size, kn0.block⟩;
            have hbl := kn.block w6.heap.size ⟨hlb, by omega⟩;
            have hS : wn.cell? ⟨w6.heap.size, 6, none⟩ = some (.slice UA j uc) := (World.cell?_of_block (w := wr) hbl).trans (box_cell HX.out 6 rfl);
            have hlw : w6.heap.size < wn.heap.size := Nat.lt_of_lt_of_le hlb kn.size;
            have hS2 : ∀ o, (wn.alloc o).cell? ⟨w6.heap.size, 6, none⟩ = some (.slice UA j uc) := fun o => (World.cell?_alloc_lt _ _ _ hlw).trans hS)
         | (refine step_append_lay rfl _ _ 44 rfl (wk.heap.size) 70 i3 (.agg #[.int .i64 0, .int .i64 0, .int .i64 0]) 3 24 Tryz.underlying44 hi3 hz30 hz31 hz32 rfl (by decide) (.slice UA j uc) j (flatU (repX resC.rd c8 l8 j)) rfl ((Wire.owns_of HO.out (w' := wn) (fun r hr => kn.block r (by have := Wire.owns_lt HO.out hr; exact ⟨this.2, by omega⟩))).alloc (.cells #[.int .i64 x.1, .int .i64 x.2.1, .int .i64 x.2.2] 70)) ⟨wn.heap.size, 0, none⟩ 1 1 [.int .i64 x.1, .int .i64 x.2.1, .int .i64 x.2.2] rfl rfl ((World.ownsRow_lit (base := 0) (size := 3) (e := 70) wn ([.int .i64 x.1, .int .i64 x.2.1, .int .i64 x.2.2] : List Value).toArray 1 (Nat.zero_le _) (by decide) rfl).cells rfl) (fun u hu => by simp only [List.mem_cons, List.not_mem_nil, or_false] at hu; rcases hu with rfl | rfl | rfl <;> rfl) (by unfold maxLen; omega) (by omega) (by have := hlw; have := kn.size; simp; omega) ?_;
            intro A' c' w1 hown1 hgrow hat;
            have hne : some w6.heap.size ≠ (Value.slice UA j uc).ownBlock := fun e => by { have := (HO.out.lt _ e.symm).1; omega };
            have hX1 := (hgrow.block w6.heap.size (by simp; omega) hne).trans ((((Below.refl wn.heap.size wn).alloc (Nat.le_refl _) _).block w6.heap.size hlw).trans (hbl.trans HX.out));
            have hk10 := box_cell hX1 6 rfl;
            have hf10 := box_free hX1 6))
       all_goals
        obtain ⟨w8, hw8⟩ : ∃ v, w1.setCell ⟨w6.heap.size, 6, none⟩ (.slice A' (j + 1) c') = v := ⟨_, rfl⟩
        rw [hw8]
        have hbw : Below w6.heap.size wn w8 := by rw [← hw8]; exact (((Below.refl w6.heap.size wn).alloc (by omega) _).grown hgrow (by simp; omega) (fun k hk => by have := (HO.out.lt k hk).1; omega)).setCell (p := ⟨w6.heap.size, 6, none⟩) (Nat.le_refl _) _
        have hmv : ∀ i, i ≠ w6.heap.size → i < wn.heap.size → some i ≠ (Value.slice UA j uc).ownBlock → w8.heap[i]? = wn.heap[i]? := fun i h1 h2 h3 => by rw [← hw8]; exact ((Below.heap_setCell w1 ⟨w6.heap.size, 6, none⟩ _ i h1).trans (hgrow.block i (by simp; omega) h3)).trans (Below.heap_alloc wn _ i h2)
        have HX8 := Lib.hid (show w8.heap[w6.heap.size]? = some (.cells #[.int .i64 x1, .int .i64 x2, .int .i64 x3, .int .u64 x4, .string x5, .slice PA n pc, .slice A' (j + 1) c'] 46 (0, 0)) by rw [← hw8]; exact box_set hX1 6 _ rfl)
        have HO8 := Lib.hid (show w8.ownsRow wk.heap.size 70 3 (.slice A' (j + 1) c') (j + 1) (flatU (repX resC.rd c8 l8 (j + 1))) by rw [HXJ.out, ← hw8]; exact ownsRow_setCell_below hown1 (a := ⟨w6.heap.size, 6, none⟩) hbk _)
        have HQ8 := Lib.hid (show ∀ i, i < wk.heap.size → i ≠ g → i ≠ w6.heap.size → w8.heap[i]? = wk.heap[i]? from fun i h1 h2 h3 => ((hmv i h3 (by have := HQ.out.1; have := kn.size; omega) (fun e => by have := (HO.out.lt _ e.symm).1; omega)).trans (kn.block i ⟨by have := HQ.out.1; omega, h2⟩)).trans (HQ.out.2 i h1 h2 h3))
        have HQ9 := Lib.hid (show wk.heap.size ≤ w8.heap.size from Nat.le_trans HQ.out.1 (Nat.le_trans kn.size hbw.size))
        have HR8 := Lib.hid (show Rd w8 g (repS resC.rd c8 l8 (j + 1)).1 (repS resC.rd c8 l8 (j + 1)).2 by rw [HSJ.out]; exact (hbw.block g hg5).trans hn2)
        have HK8 := Lib.hid (show Wire.Aside g w6 w8 from (HK.out.trans kn).trans2 hbw)
        clear hw8 hbw hmv hown1 hgrow hX1 hk10 hf10 hS hS2 hn2 kn kn0 hbl hlw hne hat
        go_wp2
        go_roundw
        case rel => exact ⟨j + 1, A', c', by omega, by go_num, HX8.out, HO8.out, ⟨HQ9.out, HQ8.out⟩, HR8.out, HK8.out⟩
        case measure => simp [RowKit.intOf]; omega
     · obtain rfl : j = n2 := by omega
       have hlt' : ¬ (j : Int) < (j : Int) := by omega
       have hrr := HR.out
       rw [Q9.out] at hrr
       have HRW := Lib.hid hrr
       have RG := Lib.hid (range_at HX.out 0 [.int .i64 x1, .int .i64 x2, .int .i64 x3, .int .u64 x4, .string x5, .slice PA n pc, .slice UA j uc] rfl)
       have ZD := Lib.hid ((HK.out.block w.heap.size ⟨lt_of_block Z6.out, by omega⟩).trans Z6.out)
       have TH := Lib.hid (show wr.there w.heap.size 0 7 from box_there ZD.out 0 7 (by decide))
       have ONE := Lib.hid (show (#[.int .i64 x1, .int .i64 x2, .int .i64 x3, .int .u64 x4, .string x5, .slice PA n pc, .slice UA j uc] : Array Value).all (·.oneCell') = true by simp [Value.oneCell'])
       obtain ⟨ve, hve⟩ : ∃ v, wr.setCells w.heap.size 0 [.int .i64 x1, .int .i64 x2, .int .i64 x3, .int .u64 x4, .string x5, .slice PA n pc, .slice UA j uc] = v := ⟨_, rfl⟩
       have HV := Lib.hid hve
       have XE := Lib.hid (show ve.heap[w.heap.size]? = some (.cells #[.int .i64 x1, .int .i64 x2, .int .i64 x3, .int .u64 x4, .string x5, .slice PA n pc, .slice UA j uc] 46 (0, 0)) by rw [← hve]; exact box_into ZD.out 0 _ (over_7 _ _ _ _ _ _ _ _ _ _ _ _ _ _))
       have OE := Lib.hid (show Only w.heap.size wr ve by rw [← hve]; exact only_cells _ 0 (Only.refl _ _))
       clear hve hrr
       go_wp2_with (first | (refine wpList_load_mid rfl _ _ rfl _ _ rfl _ _ RG.out Tryz.underlying46 rfl (by kernel_rfl) ?_) | (refine wpList_store_to rfl _ _ _ rfl _ _ _ rfl rfl TH.out (by kernel_rfl) ONE.out HV.out ?_))
       clear RG TH ONE HV
       have r0 := box_cell XE.out 0 rfl
       have r1 := box_cell XE.out 1 rfl
       have r2 := box_cell XE.out 2 rfl
       have r3 := box_cell XE.out 3 rfl
       have r4 := box_cell XE.out 4 rfl
       have r5 := box_cell XE.out 5 rfl
       have r6 := box_cell XE.out 6 rfl
       refine bodyPost_ret (v := .agg #[.int .i64 x1, .int .i64 x2, .int .i64 x3, .int .u64 x4, .string x5, .slice PA n pc, .slice UA j uc]) ?hres rfl ?_
       case hres => simp [results, Tryz.results73, go_sem, r0, r1, r2, r3, r4, r5, r6]
       have hgw : g ≠ w.heap.size := by omega
       have hwb : w.heap.size < w6.heap.size := lt_of_block Z6.out
       have hLP := repX_len podC.rd c6 l6 n
       have hLU := repX_len resC.rd c8 l8 j
       have hup := uses_up HO.out
       have hpq := HPU.out.move HQ.out.1 (fun i h1 h2 => HQ.out.2 i h2 (by omega) (by omega))
       refine ⟨PA, pc, UA, ⟨uc, by rw [hLP, hLU]⟩, ⟨?_, ?_, by show (repX podC.rd c6 l6 n).length ≤ _; omega, by show (repX resC.rd c8 l8 j).length ≤ _; omega, HRV.out⟩, OE.out.rd HRW.out hgw, OE.out.aside (K6.out.trans HK.out) (Nat.le_refl _)⟩
       · exact podsup_less (hpq.move OE.out.size (fun i h1 h2 => OE.out.block i (by omega))) (by omega)
       · exact usesup_less (hup.move OE.out.size (fun i h1 h2 => OE.out.block i (by omega))) (by omega)

end Tl
end Go.Proofs.YtalnncgomlibbaaGreatDoor
