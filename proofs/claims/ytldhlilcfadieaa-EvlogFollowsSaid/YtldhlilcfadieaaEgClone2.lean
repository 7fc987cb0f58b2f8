/-
  evlog.clone: the event of a log again, its restarts in new memory. What was there is left as it was. Condition: the restarts can be read, and are one at most.
-/
import Derived.Test.YtldhlilcfadieaaEgClone
set_option linter.unusedVariables false
set_option linter.unusedSimpArgs false
namespace Go.Proofs.Ytldhlilcfadieaa
open Go.ChangeShapes Go.WideShapes Go.ChangeAt Go.RowKit Go.Lib
open Lists
namespace Eg

theorem results_clone (tmps : Array Value) (w : World) (b : Nat) (vs : List Value) (h2 : tmps.getD 2 undef = .pointer (some ⟨b, 0, none⟩)) (hX : w.heap[b]? = some (.cells vs.toArray 40 (0, 0))) (hl : vs.length = 15) :
    (results Try.f15 tmps).run Try.prog w = .ok (.agg vs.toArray) w := by
  have hr := range_at hX 0 vs (by rw [List.drop_zero]; exact List.take_of_length_le (Nat.le_refl _))
  have hld : (loadVar 40 ⟨b, 0, none⟩).run Try.prog w = .ok (.agg vs.toArray) w := run_loadVar_mid w b 0 40 vs _ hr Try.underlying40 rfl (by rw [hl]; kernel_rfl)
  simp only [results, Try.results15]
  simp only [Array.getD_eq_getD_getElem?] at h2
  have ha : (asAddr (tmps[2]?.getD undef)).run Try.prog w = .ok ⟨b, 0, none⟩ w := by rw [h2]; rfl
  simp [Sem.run_bind, hld, ha]

set_option maxRecDepth 100000 in
set_option maxHeartbeats 2000000 in
theorem clone_any (x : Evt) (w : World) (hl : x.zs.length ≤ 1) (h : Nums .i64 w x.RA x.zs) :
    Calls Try.prog 15 #[.agg #[.int .i64 x.kind, .int .u64 x.rev, .int .i64 x.uid, .int .u64 0, .string ⟨#[]⟩, .slice none 0 0, .slice none 0 0, .slice none 0 0, .int .i64 0, .int .i64 0, .int .i64 0, .int .i64 0, .slice x.RA x.zs.length x.rc, .int .i64 0, .int .i64 0]] w fun e w' => ∃ CR cr, e = .returned (.agg #[.int .i64 x.kind, .int .u64 x.rev, .int .i64 x.uid, .int .u64 0, .string ⟨#[]⟩, .slice none 0 0, .slice none 0 0, .slice none 0 0, .int .i64 0, .int .i64 0, .int .i64 0, .int .i64 0, .slice CR x.zs.length cr, .int .i64 0, .int .i64 0]) ∧ Nums .i64 w' CR x.zs ∧ (∀ a, CR = some a → w.heap.size ≤ a.block ∧ a.block < w'.heap.size) ∧ Below w.heap.size w w' := by
  have HZ := Lib.hid (show x.zs.length ≤ 100000 by omega)
  have H := Lib.hid h
  clear h hl
  obtain ⟨w0, hw0⟩ : ∃ v, (w.alloc (.cells #[.int .i64 x.kind, .int .u64 x.rev, .int .i64 x.uid, .int .u64 0, .string ⟨#[]⟩, .slice none 0 0, .slice none 0 0, .slice none 0 0, .int .i64 0, .int .i64 0, .int .i64 0, .int .i64 0, .slice x.RA x.zs.length x.rc, .int .i64 0, .int .i64 0] 40)).alloc (.cells #[.int .i64 0, .int .u64 0, .int .i64 0, .int .u64 0, .string ⟨#[]⟩, .slice none 0 0, .slice none 0 0, .slice none 0 0, .int .i64 0, .int .i64 0, .int .i64 0, .int .i64 0, .slice none 0 0, .int .i64 0, .int .i64 0] 40) = v := ⟨_, rfl⟩
  have B0 := Lib.hid (show Below w.heap.size w w0 by rw [← hw0]; exact ((Below.refl _ _).alloc (Nat.le_refl _) _).alloc (by simp) _)
  have X0 := Lib.hid (show w0.heap[w.heap.size]? = some (.cells #[.int .i64 x.kind, .int .u64 x.rev, .int .i64 x.uid, .int .u64 0, .string ⟨#[]⟩, .slice none 0 0, .slice none 0 0, .slice none 0 0, .int .i64 0, .int .i64 0, .int .i64 0, .int .i64 0, .slice x.RA x.zs.length x.rc, .int .i64 0, .int .i64 0] 40 (0, 0)) by rw [← hw0]; exact (two_new w _ _).1)
  have Y0 := Lib.hid (show w0.heap[w.heap.size + 1]? = some (.cells #[.int .i64 0, .int .u64 0, .int .i64 0, .int .u64 0, .string ⟨#[]⟩, .slice none 0 0, .slice none 0 0, .slice none 0 0, .int .i64 0, .int .i64 0, .int .i64 0, .int .i64 0, .slice none 0 0, .int .i64 0, .int .i64 0] 40 (0, 0)) by rw [← hw0]; exact (two_new w _ _).2)
  have cX12 := box_cell X0.out 12 rfl
  go_enter Try.func15, Try.ntmps15
  go_wp2_with fail
  clear hw0 cX12
  refine (cloneInts_any x.RA x.rc x.zs HZ.out w0 (nums_move H.out B0.out.size (fun a _ hl => B0.out.block _ hl))).mono ?_
  rintro e w1 ⟨CR, cr, rfl, hn1, hf1, hb1⟩
  have X1 := Lib.hid (show w1.heap[w.heap.size]? = some (.cells #[.int .i64 x.kind, .int .u64 x.rev, .int .i64 x.uid, .int .u64 0, .string ⟨#[]⟩, .slice none 0 0, .slice none 0 0, .slice none 0 0, .int .i64 0, .int .i64 0, .int .i64 0, .int .i64 0, .slice x.RA x.zs.length x.rc, .int .i64 0, .int .i64 0] 40 (0, 0)) from (hb1.block w.heap.size (lt_of_block X0.out)).trans X0.out)
  have Y1 := Lib.hid (show w1.heap[w.heap.size + 1]? = some (.cells #[.int .i64 0, .int .u64 0, .int .i64 0, .int .u64 0, .string ⟨#[]⟩, .slice none 0 0, .slice none 0 0, .slice none 0 0, .int .i64 0, .int .i64 0, .int .i64 0, .int .i64 0, .slice none 0 0, .int .i64 0, .int .i64 0] 40 (0, 0)) from (hb1.block (w.heap.size + 1) (lt_of_block Y0.out)).trans Y0.out)
  have B1 := Lib.hid (B0.out.trans (hb1.mono B0.out.size))
  have hsz0 : w.heap.size + 2 ≤ w0.heap.size := by have := lt_of_block Y0.out; omega
  have N1 := Lib.hid hn1
  have F1 := Lib.hid (show ∀ a, CR = some a → w.heap.size + 2 ≤ a.block ∧ a.block < w1.heap.size from fun a ha => ⟨Nat.le_trans hsz0 (hf1 a ha).1, (hf1 a ha).2⟩)
  have cX12 := box_cell X1.out 12 rfl
  have fX12 := box_free X1.out 12
  clear hn1 hf1 hb1 hsz0
  obtain ⟨v1, hv1⟩ : ∃ v, w1.setCell ⟨w.heap.size, 12, none⟩ (.slice CR x.zs.length cr) = v := ⟨_, rfl⟩
  have X2 := Lib.hid (show v1.heap[w.heap.size]? = some (.cells #[.int .i64 x.kind, .int .u64 x.rev, .int .i64 x.uid, .int .u64 0, .string ⟨#[]⟩, .slice none 0 0, .slice none 0 0, .slice none 0 0, .int .i64 0, .int .i64 0, .int .i64 0, .int .i64 0, .slice CR x.zs.length cr, .int .i64 0, .int .i64 0] 40 (0, 0)) by rw [← hv1]; exact box_set X1.out 12 _ rfl)
  have HV1 := Lib.hid (show (∀ i, i ≠ w.heap.size → v1.heap[i]? = w1.heap[i]?) ∧ v1.heap.size = w1.heap.size by rw [← hv1]; exact ⟨fun i hi => Below.heap_setCell _ _ _ _ hi, by simp [World.setCell]⟩)
  have B2 := Lib.hid (show Below w.heap.size w v1 by rw [← hv1]; exact B1.out.setCell (p := ⟨w.heap.size, 12, none⟩) (Nat.le_refl _) _)
  have cX4 := box_cell X2.out 4 rfl
  go_wp2_with fail
  clear hv1 cX12 fX12
  refine (str_none _).mono ?_
  rintro e w2 ⟨rfl, rfl⟩

  have cs4 := box_cell X2.out 4 rfl
  have fs4 := box_free X2.out 4
  have cl5 := box_cell X2.out 5 rfl
  go_wp2_with fail
  obtain ⟨v2, hv⟩ : ∃ v, v1.setCell ⟨w.heap.size, 4, none⟩ (.string ⟨#[]⟩) = v := ⟨_, rfl⟩
  rw [hv]
  have Xv2 := Lib.hid (show v2.heap[w.heap.size]? = some (.cells #[.int .i64 x.kind, .int .u64 x.rev, .int .i64 x.uid, .int .u64 0, .string ⟨#[]⟩, .slice none 0 0, .slice none 0 0, .slice none 0 0, .int .i64 0, .int .i64 0, .int .i64 0, .int .i64 0, .slice CR x.zs.length cr, .int .i64 0, .int .i64 0] 40 (0, 0)) by rw [← hv]; exact box_set X2.out 4 _ rfl)
  have HV2 := Lib.hid (show (∀ i, i ≠ w.heap.size → v2.heap[i]? = w1.heap[i]?) ∧ v2.heap.size = w1.heap.size by rw [← hv]; exact ⟨fun i hi => (Below.heap_setCell _ _ _ _ hi).trans (HV1.out.1 i hi), by have := HV1.out.2; simp [World.setCell]; exact this⟩)
  have Bv2 := Lib.hid (show Below w.heap.size w v2 by rw [← hv]; exact B2.out.setCell (p := ⟨w.heap.size, 4, none⟩) (Nat.le_refl _) _)
  clear hv cs4 fs4 cl5
  refine (cloneLabels_none _).mono ?_
  rintro e w2 ⟨rfl, rfl⟩
  have cl5 := box_cell Xv2.out 5 rfl
  have fl5 := box_free Xv2.out 5
  go_wp2_with fail
  clear cl5 fl5
  obtain ⟨v3, hv⟩ : ∃ v, v2.setCell ⟨w.heap.size, 5, none⟩ (.slice none 0 0) = v := ⟨_, rfl⟩
  rw [hv]
  have Xv3 := Lib.hid (show v3.heap[w.heap.size]? = some (.cells #[.int .i64 x.kind, .int .u64 x.rev, .int .i64 x.uid, .int .u64 0, .string ⟨#[]⟩, .slice none 0 0, .slice none 0 0, .slice none 0 0, .int .i64 0, .int .i64 0, .int .i64 0, .int .i64 0, .slice CR x.zs.length cr, .int .i64 0, .int .i64 0] 40 (0, 0)) by rw [← hv]; exact box_set Xv2.out 5 _ rfl)
  have HV3 := Lib.hid (show (∀ i, i ≠ w.heap.size → v3.heap[i]? = w1.heap[i]?) ∧ v3.heap.size = w1.heap.size by rw [← hv]; exact ⟨fun i hi => (Below.heap_setCell _ _ _ _ hi).trans (HV2.out.1 i hi), by have := HV2.out.2; simp [World.setCell]; exact this⟩)
  have Bv3 := Lib.hid (show Below w.heap.size w v3 by rw [← hv]; exact Bv2.out.setCell (p := ⟨w.heap.size, 5, none⟩) (Nat.le_refl _) _)
  clear hv
  go_loop [41] (fun i => i = .int .i64 0) (fun _ => 0)
  case atStart => rfl
  case round =>
  obtain rfl := hrel
  have cl6 := box_cell Xv3.out 6 rfl
  go_wp2_with fail
  refine (clones_none _).mono ?_
  rintro e w2 ⟨rfl, rfl⟩
  clear cl6
  have cs6 := box_cell Xv3.out 6 rfl
  have fs6 := box_free Xv3.out 6
  have cl7 := box_cell Xv3.out 7 rfl
  go_wp2_with fail
  obtain ⟨v4, hv⟩ : ∃ v, v3.setCell ⟨w.heap.size, 6, none⟩ (.slice none 0 0) = v := ⟨_, rfl⟩
  rw [hv]
  have Xv4 := Lib.hid (show v4.heap[w.heap.size]? = some (.cells #[.int .i64 x.kind, .int .u64 x.rev, .int .i64 x.uid, .int .u64 0, .string ⟨#[]⟩, .slice none 0 0, .slice none 0 0, .slice none 0 0, .int .i64 0, .int .i64 0, .int .i64 0, .int .i64 0, .slice CR x.zs.length cr, .int .i64 0, .int .i64 0] 40 (0, 0)) by rw [← hv]; exact box_set Xv3.out 6 _ rfl)
  have HV4 := Lib.hid (show (∀ i, i ≠ w.heap.size → v4.heap[i]? = w1.heap[i]?) ∧ v4.heap.size = w1.heap.size by rw [← hv]; exact ⟨fun i hi => (Below.heap_setCell _ _ _ _ hi).trans (HV3.out.1 i hi), by have := HV3.out.2; simp [World.setCell]; exact this⟩)
  have Bv4 := Lib.hid (show Below w.heap.size w v4 by rw [← hv]; exact Bv3.out.setCell (p := ⟨w.heap.size, 6, none⟩) (Nat.le_refl _) _)
  clear hv cs6 fs6 cl7
  refine (clones_none _).mono ?_
  rintro e w2 ⟨rfl, rfl⟩
  have cs7 := box_cell Xv4.out 7 rfl
  have fs7 := box_free Xv4.out 7
  obtain ⟨v5, hv5⟩ : ∃ v, v4.setCell ⟨w.heap.size, 7, none⟩ (.slice none 0 0) = v := ⟨_, rfl⟩
  have Xv5 := Lib.hid (show v5.heap[w.heap.size]? = some (.cells #[.int .i64 x.kind, .int .u64 x.rev, .int .i64 x.uid, .int .u64 0, .string ⟨#[]⟩, .slice none 0 0, .slice none 0 0, .slice none 0 0, .int .i64 0, .int .i64 0, .int .i64 0, .int .i64 0, .slice CR x.zs.length cr, .int .i64 0, .int .i64 0] 40 (0, 0)) by rw [← hv5]; exact box_set Xv4.out 7 _ rfl)
  have HV5 := Lib.hid (show (∀ i, i ≠ w.heap.size → v5.heap[i]? = w1.heap[i]?) ∧ v5.heap.size = w1.heap.size by rw [← hv5]; exact ⟨fun i hi => (Below.heap_setCell _ _ _ _ hi).trans (HV4.out.1 i hi), by have := HV4.out.2; simp [World.setCell]; exact this⟩)
  have Bv5 := Lib.hid (show Below w.heap.size w v5 by rw [← hv5]; exact Bv4.out.setCell (p := ⟨w.heap.size, 7, none⟩) (Nat.le_refl _) _)
  have Y5 := Lib.hid (show v5.heap[w.heap.size + 1]? = some (.cells #[.int .i64 0, .int .u64 0, .int .i64 0, .int .u64 0, .string ⟨#[]⟩, .slice none 0 0, .slice none 0 0, .slice none 0 0, .int .i64 0, .int .i64 0, .int .i64 0, .int .i64 0, .slice none 0 0, .int .i64 0, .int .i64 0] 40 (0, 0)) from (HV5.out.1 _ (by omega)).trans Y1.out)
  obtain ⟨v6, hv6⟩ : ∃ v, v5.setCells (w.heap.size + 1) 0 [.int .i64 x.kind, .int .u64 x.rev, .int .i64 x.uid, .int .u64 0, .string ⟨#[]⟩, .slice none 0 0, .slice none 0 0, .slice none 0 0, .int .i64 0, .int .i64 0, .int .i64 0, .int .i64 0, .slice CR x.zs.length cr, .int .i64 0, .int .i64 0] = v := ⟨_, rfl⟩
  have Y6 := Lib.hid (show v6.heap[w.heap.size + 1]? = some (.cells #[.int .i64 x.kind, .int .u64 x.rev, .int .i64 x.uid, .int .u64 0, .string ⟨#[]⟩, .slice none 0 0, .slice none 0 0, .slice none 0 0, .int .i64 0, .int .i64 0, .int .i64 0, .int .i64 0, .slice CR x.zs.length cr, .int .i64 0, .int .i64 0] 40 (0, 0)) by rw [← hv6]; exact box_into Y5.out 0 _ (over_15 _ _ _ _ _ _ _ _ _ _ _ _ _ _ _ _ _ _ _ _ _ _ _ _ _ _ _ _ _ _))
  have B6 := Lib.hid (show Below w.heap.size w v6 by rw [← hv6]; exact below_cells (by omega) _ 0 Bv5.out)
  have HV6 := Lib.hid (show (∀ i, i ≠ w.heap.size → i ≠ w.heap.size + 1 → v6.heap[i]? = w1.heap[i]?) ∧ v6.heap.size = w1.heap.size by rw [← hv6]; exact ⟨fun i h1 h2 => ((setCells_other h2 _ 0 v5).1).trans (HV5.out.1 i h1), ((setCells_other (i := w.heap.size) (by omega) _ 0 v5).2).trans HV5.out.2⟩)
  have NE := Lib.hid (show Nums .i64 v6 CR x.zs from nums_move N1.out (Nat.le_of_eq HV6.out.2.symm) (fun a ha _ => HV6.out.1 _ (by have := (F1.out a ha).1; omega) (by have := (F1.out a ha).1; omega)))
  have FE := Lib.hid (show ∀ a, CR = some a → w.heap.size ≤ a.block ∧ a.block < v6.heap.size from fun a ha => ⟨by have := (F1.out a ha).1; omega, by have := (F1.out a ha).2; rw [HV6.out.2]; exact this⟩)
  have HV := Lib.hid hv6
  clear hv6
  have RG := Lib.hid (range_at Xv5.out 0 [.int .i64 x.kind, .int .u64 x.rev, .int .i64 x.uid, .int .u64 0, .string ⟨#[]⟩, .slice none 0 0, .slice none 0 0, .slice none 0 0, .int .i64 0, .int .i64 0, .int .i64 0, .int .i64 0, .slice CR x.zs.length cr, .int .i64 0, .int .i64 0] rfl)
  have TH := Lib.hid (show v5.there (w.heap.size + 1) 0 15 from box_there Y5.out 0 15 (by decide))
  have ONE := Lib.hid (show (#[.int .i64 x.kind, .int .u64 x.rev, .int .i64 x.uid, .int .u64 0, .string ⟨#[]⟩, .slice none 0 0, .slice none 0 0, .slice none 0 0, .int .i64 0, .int .i64 0, .int .i64 0, .int .i64 0, .slice CR x.zs.length cr, .int .i64 0, .int .i64 0] : Array Value).all (·.oneCell') = true by simp [Value.oneCell'])
  go_wp2_with (first | (refine wpList_load_mid rfl 40 _ rfl _ _ rfl _ _ RG.out Try.underlying40 rfl (by kernel_rfl) ?_) | (refine wpList_store_to rfl 40 _ _ rfl _ _ _ rfl rfl TH.out (by kernel_rfl) ONE.out HV.out ?_))
  refine bodyPost_ret (v := .agg #[.int .i64 x.kind, .int .u64 x.rev, .int .i64 x.uid, .int .u64 0, .string ⟨#[]⟩, .slice none 0 0, .slice none 0 0, .slice none 0 0, .int .i64 0, .int .i64 0, .int .i64 0, .int .i64 0, .slice CR x.zs.length cr, .int .i64 0, .int .i64 0]) (results_clone _ _ (w.heap.size + 1) [.int .i64 x.kind, .int .u64 x.rev, .int .i64 x.uid, .int .u64 0, .string ⟨#[]⟩, .slice none 0 0, .slice none 0 0, .slice none 0 0, .int .i64 0, .int .i64 0, .int .i64 0, .int .i64 0, .slice CR x.zs.length cr, .int .i64 0, .int .i64 0] rfl Y6.out rfl) rfl ?_
  exact ⟨CR, cr, rfl, NE.out, FE.out, B6.out⟩
end Eg
end Go.Proofs.Ytldhlilcfadieaa
