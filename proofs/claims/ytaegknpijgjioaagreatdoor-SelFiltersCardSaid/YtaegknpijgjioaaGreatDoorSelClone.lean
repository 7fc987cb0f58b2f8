/-
  The contract of sel.clone: a pod wholly at new places. All that was there is left as it was. Condition: the pod is light.
-/
import Derived.Test.YtaegknpijgjioaaGreatDoorTellCloneAll
set_option linter.unusedVariables false
set_option linter.unusedSimpArgs false
namespace Go.Proofs.YtaegknpijgjioaaGreatDoor
open Go.ChangeShapes Go.WideShapes Go.ChangeAt Go.RowKit Go.Lib
open LebMath WirePure Sd Wire SpecOwn SpecRef Book Pk Tl
namespace Sl

theorem results_clone (tmps : Array Value) (w : World) (b : Nat) (vs : List Value) (h2 : tmps.getD 2 undef = .pointer (some ⟨b, 0, none⟩)) (hX : w.heap[b]? = some (.cells vs.toArray 33 (0, 0))) (hl : vs.length = 13) :
    (results Tryz.f26 tmps).run Tryz.prog w = .ok (.agg vs.toArray) w := by
  have hr := range_at hX 0 vs (by rw [List.drop_zero]; exact List.take_of_length_le (Nat.le_refl _))
  have hld : (loadVar 33 ⟨b, 0, none⟩).run Tryz.prog w = .ok (.agg vs.toArray) w := run_loadVar_mid w b 0 33 vs _ hr Tryz.underlying33 rfl (by rw [hl]; kernel_rfl)
  simp only [results, Tryz.results26]
  simp only [Array.getD_eq_getD_getElem?] at h2
  have ha : (asAddr (tmps[2]?.getD undef)).run Tryz.prog w = .ok ⟨b, 0, none⟩ w := by rw [h2]; rfl
  simp [Sem.run_bind, hld, ha]
set_option maxRecDepth 100000 in
set_option maxHeartbeats 4000000 in
theorem clonePod_any (p : Pd) (LA : Option Addr) (lc : Nat) (IA : Option Addr) (ic : Nat) (MA : Option Addr) (mc : Nat) (RA : Option Addr) (rc : Nat) (hp : LightP p) (w : World) (h : p.In w LA lc IA ic MA mc RA) :
    Calls Tryz.prog 26 #[.agg #[.int .i64 p.uid, .int .u64 p.rev, .string p.spec.name, .slice LA p.spec.labels.length lc, .slice IA p.spec.init.length ic, .slice MA p.spec.main.length mc, .int .i64 p.spec.restart, .int .i64 p.spec.grace, .int .i64 p.spec.prio, .int .i64 p.phase, .slice RA p.rs.length rc, .int .i64 p.mark, .int .i64 p.grace]] w fun e w' => ∃ CL cl CI ci CM cm CR cr, e = .returned (.agg #[.int .i64 p.uid, .int .u64 p.rev, .string p.spec.name, .slice CL p.spec.labels.length cl, .slice CI p.spec.init.length ci, .slice CM p.spec.main.length cm, .int .i64 p.spec.restart, .int .i64 p.spec.grace, .int .i64 p.spec.prio, .int .i64 p.phase, .slice CR p.rs.length cr, .int .i64 p.mark, .int .i64 p.grace]) ∧ PodFrom w.heap.size p w' CL CI CM CR ∧ Below w.heap.size w w' := by
  have HCP := Lib.hid (fun (v : World) (hv : p.spec.In v LA lc IA ic MA mc) => SpecOwn.clone_any p.spec LA lc IA ic MA mc (by have := hp.spec.1.1; omega) (by have := hp.spec.1.2.1; omega) (fun x hx => by obtain ⟨h1, h2⟩ := hp.spec.2.1 x hx; omega) (by have := hp.spec.1.2.2.1; omega) (fun x hx => by obtain ⟨h1, h2, h3⟩ := hp.spec.2.2.1 x hx; omega) (by have := hp.spec.1.2.2.2; omega) (fun x hx => by obtain ⟨h1, h2, h3⟩ := hp.spec.2.2.2 x hx; omega) v hv)
  have HRS := Lib.hid (show p.rs.length ≤ 100000 by have := hp.rs; omega)
  have H := Lib.hid h
  clear h hp
  obtain ⟨w0, hw0⟩ : ∃ v, (w.alloc (.cells #[.int .i64 p.uid, .int .u64 p.rev, .string p.spec.name, .slice LA p.spec.labels.length lc, .slice IA p.spec.init.length ic, .slice MA p.spec.main.length mc, .int .i64 p.spec.restart, .int .i64 p.spec.grace, .int .i64 p.spec.prio, .int .i64 p.phase, .slice RA p.rs.length rc, .int .i64 p.mark, .int .i64 p.grace] 33)).alloc (.cells #[.int .i64 0, .int .u64 0, .string ⟨#[]⟩, .slice none 0 0, .slice none 0 0, .slice none 0 0, .int .i64 0, .int .i64 0, .int .i64 0, .int .i64 0, .slice none 0 0, .int .i64 0, .int .i64 0] 33) = v := ⟨_, rfl⟩
  have B0 := Lib.hid (show Below w.heap.size w w0 by rw [← hw0]; exact ((Below.refl _ _).alloc (Nat.le_refl _) _).alloc (by simp) _)
  have X0 := Lib.hid (show w0.heap[w.heap.size]? = some (.cells #[.int .i64 p.uid, .int .u64 p.rev, .string p.spec.name, .slice LA p.spec.labels.length lc, .slice IA p.spec.init.length ic, .slice MA p.spec.main.length mc, .int .i64 p.spec.restart, .int .i64 p.spec.grace, .int .i64 p.spec.prio, .int .i64 p.phase, .slice RA p.rs.length rc, .int .i64 p.mark, .int .i64 p.grace] 33 (0, 0)) by rw [← hw0]; exact (two_new w _ _).1)
  have Y0 := Lib.hid (show w0.heap[w.heap.size + 1]? = some (.cells #[.int .i64 0, .int .u64 0, .string ⟨#[]⟩, .slice none 0 0, .slice none 0 0, .slice none 0 0, .int .i64 0, .int .i64 0, .int .i64 0, .int .i64 0, .slice none 0 0, .int .i64 0, .int .i64 0] 33 (0, 0)) by rw [← hw0]; exact (two_new w _ _).2)
  have RG0 := Lib.hid (range_at X0.out 2 [.string p.spec.name, .slice LA p.spec.labels.length lc, .slice IA p.spec.init.length ic, .slice MA p.spec.main.length mc, .int .i64 p.spec.restart, .int .i64 p.spec.grace, .int .i64 p.spec.prio] rfl)
  have LT0 := Lib.hid (lt_of_block Y0.out)
  go_enter Tryz.func26, Tryz.ntmps26
  go_wp2_with (first | (refine wpList_load_mid rfl 30 _ rfl _ _ rfl _ _ RG0.out Tryz.underlying30 rfl (by kernel_rfl) ?_))
  clear hw0 RG0
  refine (HCP.out w0 (H.out.spec.below B0.out)).mono ?_
  rintro e w1 ⟨CL, cl, CI, ci, CM, cm, rfl, hc, fL, tL, fI, fM, _, _, _, hb1, _⟩
  have X1 := Lib.hid ((hb1.block w.heap.size (lt_of_block X0.out)).trans X0.out)
  have Y1 := Lib.hid ((hb1.block (w.heap.size + 1) (lt_of_block Y0.out)).trans Y0.out)
  have B1 := Lib.hid (B0.out.trans (hb1.mono B0.out.size))
  have S1 := Lib.hid hb1.size
  obtain ⟨v1, hv1⟩ : ∃ v, w1.setCells w.heap.size 2 [.string p.spec.name, .slice CL p.spec.labels.length cl, .slice CI p.spec.init.length ci, .slice CM p.spec.main.length cm, .int .i64 p.spec.restart, .int .i64 p.spec.grace, .int .i64 p.spec.prio] = v := ⟨_, rfl⟩
  have X2 := Lib.hid (show v1.heap[w.heap.size]? = some (.cells #[.int .i64 p.uid, .int .u64 p.rev, .string p.spec.name, .slice CL p.spec.labels.length cl, .slice CI p.spec.init.length ci, .slice CM p.spec.main.length cm, .int .i64 p.spec.restart, .int .i64 p.spec.grace, .int .i64 p.spec.prio, .int .i64 p.phase, .slice RA p.rs.length rc, .int .i64 p.mark, .int .i64 p.grace] 33 (0, 0)) by rw [← hv1]; exact box_into X1.out 2 _ (over_13_2 _ _ _ _ _ _ _ _ _ _ _ _ _ _ _ _ _ _ _ _))
  have hO : Only w.heap.size w1 v1 := by rw [← hv1]; exact only_cells _ 2 (Only.refl _ _)
  have Y2 := Lib.hid ((hO.block (w.heap.size + 1) (by omega)).trans Y1.out)
  have B2 := Lib.hid (show Below w.heap.size w v1 by rw [← hv1]; exact below_cells (Nat.le_refl _) _ 2 B1.out)
  have hk1 : Ab w0.heap.size w1 v1 := ⟨hO.size, fun i h1 h2 => hO.block i (by have := LT0.out; omega)⟩
  have S2 := Lib.hid (show w0.heap.size ≤ v1.heap.size from Nat.le_trans S1.out hO.size)
  have PL := Lib.hid (lbls_ab hk1 hc.labels fL)
  have PT := Lib.hid (tL.ab hk1 fL)
  have PI := Lib.hid (ctrs_ab hk1 (Nat.le_refl _) fI)
  have PM := Lib.hid (ctrs_ab hk1 (Nat.le_refl _) fM)
  have PF := Lib.hid fL
  have TH1 := Lib.hid (show w1.there w.heap.size 2 7 from box_there X1.out 2 7 (by show 2 + 7 ≤ 13; omega))
  have ONE1 := Lib.hid (show (#[.string p.spec.name, .slice CL p.spec.labels.length cl, .slice CI p.spec.init.length ci, .slice CM p.spec.main.length cm, .int .i64 p.spec.restart, .int .i64 p.spec.grace, .int .i64 p.spec.prio] : Array Value).all (·.oneCell') = true by simp [Value.oneCell'])
  have HV1 := Lib.hid hv1
  have cX10 := box_cell X2.out 10 rfl
  clear hc fL tL fI fM hb1 hv1 hO hk1 X0 Y0
  go_wp2_with (first | (refine wpList_store_to rfl 30 _ _ rfl _ _ _ rfl rfl TH1.out (by kernel_rfl) ONE1.out HV1.out ?_))
  refine (SpecOwn.cloneInts_any RA rc p.rs HRS.out v1 (Sd.Nums.below H.out.rs B2.out)).mono ?_
  rintro e w2 ⟨CR, cr, rfl, hn2, fR, tR, _, hb2⟩
  have X3 := Lib.hid ((hb2.block w.heap.size (lt_of_block X2.out)).trans X2.out)
  have Y3 := Lib.hid ((hb2.block (w.heap.size + 1) (lt_of_block Y2.out)).trans Y2.out)
  have B3 := Lib.hid (B2.out.trans (hb2.mono B2.out.size))
  clear cX10 TH1 ONE1 HV1
  obtain ⟨v2, hv2⟩ : ∃ v, w2.setCell ⟨w.heap.size, 10, none⟩ (.slice CR p.rs.length cr) = v := ⟨_, rfl⟩
  have X4 := Lib.hid (show v2.heap[w.heap.size]? = some (.cells #[.int .i64 p.uid, .int .u64 p.rev, .string p.spec.name, .slice CL p.spec.labels.length cl, .slice CI p.spec.init.length ci, .slice CM p.spec.main.length cm, .int .i64 p.spec.restart, .int .i64 p.spec.grace, .int .i64 p.spec.prio, .int .i64 p.phase, .slice CR p.rs.length cr, .int .i64 p.mark, .int .i64 p.grace] 33 (0, 0)) by rw [← hv2]; exact box_set X3.out 10 _ rfl)
  have Y4 := Lib.hid (show v2.heap[w.heap.size + 1]? = some (.cells #[.int .i64 0, .int .u64 0, .string ⟨#[]⟩, .slice none 0 0, .slice none 0 0, .slice none 0 0, .int .i64 0, .int .i64 0, .int .i64 0, .int .i64 0, .slice none 0 0, .int .i64 0, .int .i64 0] 33 (0, 0)) by rw [← hv2]; exact (Below.heap_setCell _ _ _ _ (by show w.heap.size + 1 ≠ w.heap.size; omega)).trans Y3.out)
  have B4 := Lib.hid (show Below w.heap.size w v2 by rw [← hv2]; exact B3.out.setCell (p := ⟨w.heap.size, 10, none⟩) (Nat.le_refl _) _)
  have hk4 : Ab w0.heap.size w2 v2 := by rw [← hv2]; exact (⟨Nat.le_refl _, fun _ _ _ => rfl⟩ : Ab w0.heap.size w2 w2).set ⟨w.heap.size, 10, none⟩ (by show w.heap.size < _; have := LT0.out; omega) _
  obtain ⟨v3, hv3⟩ : ∃ v, v2.setCells (w.heap.size + 1) 0 [.int .i64 p.uid, .int .u64 p.rev, .string p.spec.name, .slice CL p.spec.labels.length cl, .slice CI p.spec.init.length ci, .slice CM p.spec.main.length cm, .int .i64 p.spec.restart, .int .i64 p.spec.grace, .int .i64 p.spec.prio, .int .i64 p.phase, .slice CR p.rs.length cr, .int .i64 p.mark, .int .i64 p.grace] = v := ⟨_, rfl⟩
  have Y5 := Lib.hid (show v3.heap[w.heap.size + 1]? = some (.cells #[.int .i64 p.uid, .int .u64 p.rev, .string p.spec.name, .slice CL p.spec.labels.length cl, .slice CI p.spec.init.length ci, .slice CM p.spec.main.length cm, .int .i64 p.spec.restart, .int .i64 p.spec.grace, .int .i64 p.spec.prio, .int .i64 p.phase, .slice CR p.rs.length cr, .int .i64 p.mark, .int .i64 p.grace] 33 (0, 0)) by rw [← hv3]; exact box_into Y4.out 0 _ (over_13 _ _ _ _ _ _ _ _ _ _ _ _ _ _ _ _ _ _ _ _ _ _ _ _ _ _))
  have hO : Only (w.heap.size + 1) v2 v3 := by rw [← hv3]; exact only_cells _ 0 (Only.refl _ _)
  have B5 := Lib.hid (show Below w.heap.size w v3 by rw [← hv3]; exact below_cells (by omega) _ 0 B4.out)
  have hk5 : Ab w0.heap.size v2 v3 := ⟨hO.size, fun i h1 h2 => hO.block i (by have := LT0.out; omega)⟩
  have hk45 := hk4.trans hk5
  have PD := Lib.hid (show PodFrom w0.heap.size p v3 CL CI CM CR from by
    have k3 : Ab w0.heap.size v1 w2 := ⟨hb2.size, fun i _ h2 => hb2.block i h2⟩
    have fR' : From w0.heap.size CR := fun a ha => Nat.le_trans S2.out (fR a ha)
    exact (PodFrom.ab (⟨lbls_ab k3 PL.out PF.out, PF.out, PT.out.ab k3 PF.out, ctrs_ab k3 (Nat.le_refl _) PI.out, ctrs_ab k3 (Nat.le_refl _) PM.out, hn2, fR', tR⟩ : PodFrom w0.heap.size p w2 CL CI CM CR) hk45))
  have RG2 := Lib.hid (range_at X4.out 0 [.int .i64 p.uid, .int .u64 p.rev, .string p.spec.name, .slice CL p.spec.labels.length cl, .slice CI p.spec.init.length ci, .slice CM p.spec.main.length cm, .int .i64 p.spec.restart, .int .i64 p.spec.grace, .int .i64 p.spec.prio, .int .i64 p.phase, .slice CR p.rs.length cr, .int .i64 p.mark, .int .i64 p.grace] rfl)
  have TH2 := Lib.hid (show v2.there (w.heap.size + 1) 0 13 from box_there Y4.out 0 13 (by decide))
  have ONE2 := Lib.hid (show (#[.int .i64 p.uid, .int .u64 p.rev, .string p.spec.name, .slice CL p.spec.labels.length cl, .slice CI p.spec.init.length ci, .slice CM p.spec.main.length cm, .int .i64 p.spec.restart, .int .i64 p.spec.grace, .int .i64 p.spec.prio, .int .i64 p.phase, .slice CR p.rs.length cr, .int .i64 p.mark, .int .i64 p.grace] : Array Value).all (·.oneCell') = true by simp [Value.oneCell'])
  have HV2 := Lib.hid hv3
  have cX10 := box_cell X3.out 10 rfl
  have fX10 := box_free X3.out 10
  clear hn2 fR tR hb2 hk4 hk5 hk45 hO hv3 PL PT PI PM PF
  go_wp2_with (first | (refine wpList_load_mid rfl 33 _ rfl _ _ rfl _ _ RG2.out Tryz.underlying33 rfl (by kernel_rfl) ?_) | (refine wpList_store_to rfl 33 _ _ rfl _ _ _ rfl rfl TH2.out (by kernel_rfl) ONE2.out HV2.out ?_))
  clear hv2 cX10 fX10
  refine bodyPost_ret (v := .agg #[.int .i64 p.uid, .int .u64 p.rev, .string p.spec.name, .slice CL p.spec.labels.length cl, .slice CI p.spec.init.length ci, .slice CM p.spec.main.length cm, .int .i64 p.spec.restart, .int .i64 p.spec.grace, .int .i64 p.spec.prio, .int .i64 p.phase, .slice CR p.rs.length cr, .int .i64 p.mark, .int .i64 p.grace]) (results_clone _ _ (w.heap.size + 1) [.int .i64 p.uid, .int .u64 p.rev, .string p.spec.name, .slice CL p.spec.labels.length cl, .slice CI p.spec.init.length ci, .slice CM p.spec.main.length cm, .int .i64 p.spec.restart, .int .i64 p.spec.grace, .int .i64 p.spec.prio, .int .i64 p.phase, .slice CR p.rs.length cr, .int .i64 p.mark, .int .i64 p.grace] rfl Y5.out rfl) rfl ?_
  exact ⟨CL, cl, CI, ci, CM, cm, CR, cr, rfl, PD.out.less B0.out.size, B5.out⟩
end Sl
end Go.Proofs.YtaegknpijgjioaaGreatDoor
