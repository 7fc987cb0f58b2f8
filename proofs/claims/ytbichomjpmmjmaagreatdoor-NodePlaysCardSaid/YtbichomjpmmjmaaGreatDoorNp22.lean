/-
  The program's node: Release. Condition: the node is one (Nn).
-/
import Derived.Test.YtbichomjpmmjmaaGreatDoorNp19
import Derived.Test.YtbichomjpmmjmaaGreatDoorNp21
import Derived.Test.YtbichomjpmmjmaaGreatDoorNp10
import Derived.Test.YtbichomjpmmjmaaGreatDoorNp18
set_option linter.unusedVariables false
set_option linter.unusedSimpArgs false
namespace Go.Proofs.YtbichomjpmmjmaaGreatDoor
open Go.ChangeShapes Go.WideShapes Go.ChangeAt Go.RowKit Go.Lib
open NumMath
namespace Nn
open Re Nd
theorem rel_in {l : Pods} {u : Int} (h : isIn u l = true) : relC l u = 0 := by unfold relC; rw [if_pos h]
theorem rel_out {l : Pods} {u : Int} (h : isIn u l = false) : relC l u = 390 := by unfold relC; rw [if_neg (by rw [h]; decide)]
set_option maxRecDepth 100000 in
set_option maxHeartbeats 4000000 in
theorem release_any {B : Nat} {g : Nat} {has : Rx} {l : Pods} (ui : Int) (w : World) (h : Nn B w g has l) : Calls Tryz.prog 23 #[.pointer (some ⟨g, 0, none⟩), .int .i64 ui] w fun e w' => e = .returned (.int .i64 (relC l ui)) ∧ Nn B w' g has (cut ui l) ∧ Kn B w w' := by
  obtain ⟨m, p, T, h⟩ := h
  have H := Lib.hid h
  have HLK := Lib.hid (look_any h ui)
  have c6 := h.asked
  obtain ⟨l2, hl2⟩ : ∃ l2, cut ui l = l2 := ⟨_, rfl⟩
  have HL2 := Lib.hid hl2
  cases hi : isIn ui l with
  | false =>
    rw [rel_out hi]
    have HN := Lib.hid (cut_none hi)
    rw [hi] at HLK
    obtain ⟨a, ha⟩ : ∃ a, ofU l ui = a := ⟨_, rfl⟩
    rw [ha] at HLK
    clear hi ha h hl2
    obtain ⟨w2a, hw2a⟩ : ∃ v, w.alloc (.cells #[.int .i64 0, .int .i64 0, .int .i64 0] 23) = v := ⟨_, rfl⟩
    have ZB := Lib.hid (show w2a.heap[w.heap.size]? = some (.cells #[.int .i64 0, .int .i64 0, .int .i64 0] 23 (0, 0)) by rw [← hw2a]; exact heap_alloc_new _ _)
    have BU := Lib.hid (show Below w.heap.size w w2a by rw [← hw2a]; exact (Below.refl _ _).alloc (Nat.le_refl _) _)
    obtain ⟨w2, hw2⟩ : ∃ v, w2a.setCells w.heap.size 0 (R3 a) = v := ⟨_, rfl⟩
    have THz := Lib.hid (show w2a.there w.heap.size 0 3 from Back.th ZB.out rfl)
    have ONEz := Lib.hid (show ((R3 a) : List Value).toArray.all (·.oneCell') = true by simp [Value.oneCell'])
    have HVz := Lib.hid hw2
    have ZA := Lib.hid (show w2.heap[w.heap.size]? = some (.cells ((R3 a) : List Value).toArray 23 (0, 0)) by rw [← hw2]; exact Back.st ZB.out rfl)
    have BX := Lib.hid (show Below w.heap.size w w2 by rw [← hw2]; exact bel_set BU.out (Nat.le_refl _))
    clear hw2
    go_enter Tryz.func23, Tryz.ntmps23
    go_wp2_with (first | (refine Mp.wpList_lookup_run rfl _ _ _ _ rfl _ _ _ rfl rfl HLK.out ?_) | (refine wpList_store_at rfl 23 _ _ rfl _ _ _ rfl rfl THz.out (by kernel_rfl) ONEz.out HVz.out ?_))
    go_ret
    exact ⟨rfl, by rw [HN.out]; exact ⟨m, p, T, H.out.below BX.out⟩, Kn.of_below BX.out⟩
  | true =>
    rw [rel_in hi]
    obtain ⟨x, hx1, hx2⟩ := idx_at hi
    have HSUB := Lib.hid (used_cut h.ok hx1)
    have HSAME := Lib.hid (h.same.free h.ok (u := ui) (by have := (h.ok.one x (List.mem_of_getElem? hx1)).1.1; omega))
    have HOK := Lib.hid (h.ok.cut ui)
    have HIN := Lib.hid hi
    have HXO := Lib.hid (show x.ask.Ok by
      have h1 := (h.ok.one x (List.mem_of_getElem? hx1)).2
      have h2 := h.ok.within
      have e := h.ok.used
      have s := congrArg Prod.fst (used_cut h.ok hx1)
      have g1 := (h.ok.cut ui).within
      have h4 := h.ok.hc; have h5 := h.ok.hm; have h6 := h.ok.hp
      have q := tot_perm Rx.c ((cut_perm hx1).map Pod.ask)
      have q2 := tot_perm Rx.m ((cut_perm hx1).map Pod.ask)
      have q3 := tot_perm Rx.p ((cut_perm hx1).map Pod.ask)
      simp only [List.map_cons, tot_cons] at q q2 q3
      have f := (h.ok.cut ui).used
      rw [e] at h2
      rw [f] at g1
      dsimp only at h2 g1
      exact ⟨fits_iff.2 (by omega), fits_iff.2 (by omega), fits_iff.2 (by omega)⟩)
    rw [hi, ofU_in hx1] at HLK
    obtain ⟨a, ha⟩ : ∃ a, x.ask = a := ⟨_, rfl⟩
    rw [ha] at HLK HSUB HXO
    obtain ⟨us, hus⟩ : ∃ us, usedR l = us := ⟨_, rfl⟩
    obtain ⟨us2, hus2⟩ : ∃ us2, usedR (cut ui l) = us2 := ⟨_, rfl⟩
    have HUS2 := Lib.hid hus2
    rw [hus, hus2] at HSUB
    clear hi ha h hl2 hx1 hx2 hus2
    obtain ⟨w4a, hw4a⟩ : ∃ v, w.alloc (.cells #[.int .i64 0, .int .i64 0, .int .i64 0] 23) = v := ⟨_, rfl⟩
    have ZB := Lib.hid (show w4a.heap[w.heap.size]? = some (.cells #[.int .i64 0, .int .i64 0, .int .i64 0] 23 (0, 0)) by rw [← hw4a]; exact heap_alloc_new _ _)
    have BU := Lib.hid (show Below w.heap.size w w4a by rw [← hw4a]; exact (Below.refl _ _).alloc (Nat.le_refl _) _)
    obtain ⟨w4, hw4⟩ : ∃ v, w4a.setCells w.heap.size 0 (R3 a) = v := ⟨_, rfl⟩
    have THz := Lib.hid (show w4a.there w.heap.size 0 3 from Back.th ZB.out rfl)
    have ONEz := Lib.hid (show ((R3 a) : List Value).toArray.all (·.oneCell') = true by simp [Value.oneCell'])
    have HVz := Lib.hid hw4
    have ZA := Lib.hid (show w4.heap[w.heap.size]? = some (.cells ((R3 a) : List Value).toArray 23 (0, 0)) by rw [← hw4]; exact Back.st ZB.out rfl)
    have BX := Lib.hid (show Below w.heap.size w w4 by rw [← hw4]; exact bel_set BU.out (Nat.le_refl _))
    clear hw4
    have B4 := Lib.hid BX.out
    have H4 := Lib.hid (H.out.below B4.out)
    have HG := Lib.hid (show ∀ v, Below w4.heap.size w4 v → v.heap[g]? = some (.cells (cells8 has us m p).toArray 68 (0, 0)) from fun v hv => by rw [← hus]; exact (H4.out.below hv).box)
    have HU := Lib.hid (show ∀ v, Below w4.heap.size w4 v → v.rangeAt g 3 (R3 us) from fun v hv => by rw [← hus]; exact (H4.out.below hv).used3)
    have HO := Lib.hid (show us.Ok by rw [← hus]; exact H.out.ok.used_ok)
    have CA := Lib.hid (fun v => sub_any us a HO.out HXO.out v)
    rw [HSUB.out] at CA
    clear hus
    go_enter Tryz.func23, Tryz.ntmps23
    go_wp2_with (first | (refine Mp.wpList_lookup_run rfl _ _ _ _ rfl _ _ _ rfl rfl HLK.out ?_) | (refine wpList_store_at rfl 23 _ _ rfl _ _ _ rfl rfl THz.out (by kernel_rfl) ONEz.out HVz.out ?_))
    clear hw4a THz ONEz HVz ZB BX BU c6 HLK
    refine Vls.wp_region (by kernel_rfl) (Jx.JX (fun u => Below w4.heap.size w4 u) (fun u => u.heap[g]? = some (.cells (cells8 has us2 m p).toArray 68 (0, 0)) ∧ Jx.But w4.heap.size g w4 u) 12 101 (fun _ _ => True) [(2, 1), (3, 2), (4, 3), (6, 4), (6, 5), (7, 6), (8, 7), (9, 7), (10, 0), (11, 10), (12, 11), (12, 8)] [.pointer (some ⟨g, 0, none⟩), .pointer (some ⟨g, 0, none⟩), .pointer (some ⟨g, 0, none⟩), .pointer (some ⟨g, 3, none⟩), .agg (R3 us).toArray, .agg (R3 a).toArray, .tuple #[.agg (R3 us2).toArray, .bool true], .tuple #[.agg (R3 us2).toArray, .bool true], .agg (R3 us2).toArray, .bool true, .pointer (some ⟨g, 0, none⟩), .pointer (some ⟨g, 3, none⟩), undef]) (by kernel_rfl) (fun _ => undef) (Jx.JX.start (P := fun u => Below w4.heap.size w4 u) (Below.drew (Below.refl _ _)) _) ?_ ?_
    · refine ⟨?_, ?_, ?_, ?_, ?_, ?_, ?_, ?_, ?_, ?_, ?_, ?_, ?_, trivial⟩
      · intro s_ a_ u V hs hd hfr hpo hJ
        have f0 : a_.tmps.getD 0 undef = .pointer (some ⟨g, 0, none⟩) := hfr 0 (by kernel_rfl)
        refine .inl ⟨rfl, ?_⟩
        unfold Oper.wp
        rw [show (execOp a_.eval _).run Tryz.prog u = .ok (.value (.pointer (some ⟨g, 0, none⟩))) u from by simp [go_sem, Act.eval, f0]]
        exact ⟨_, rfl, hJ.stay 0 (by decide) (by decide) rfl rfl⟩
      · intro s_ a_ u V hs hd hfr hpo hJ
        have f0 : a_.tmps.getD 0 undef = .pointer (some ⟨g, 0, none⟩) := hfr 0 (by kernel_rfl)
        refine .inl ⟨rfl, ?_⟩
        unfold Oper.wp
        rw [show (execOp a_.eval _).run Tryz.prog u = .ok (.value (.pointer (some ⟨g, 0, none⟩))) u from by simp [go_sem, Act.eval, f0]]
        exact ⟨_, rfl, hJ.stay 1 (by decide) (by decide) rfl rfl⟩
      · intro s_ a_ u V hs hd hfr hpo hJ
        have e1 : a_.tmps.getD 20 undef = .pointer (some ⟨g, 0, none⟩) := (hpo 1 20 (by kernel_rfl)).trans (hJ.get 1 (by decide) (by decide) (hd 1 (by kernel_rfl)) rfl)
        refine .inl ⟨rfl, ?_⟩
        unfold Oper.wp
        rw [show (execOp a_.eval _).run Tryz.prog u = .ok (.value (.pointer (some ⟨g, 0, none⟩))) u from by simp [go_sem, Act.eval, e1]]
        exact ⟨_, rfl, hJ.stay 2 (by decide) (by decide) (by show (s_ 1 && true) = true; rw [hd 1 (by kernel_rfl)]; rfl) rfl⟩
      · intro s_ a_ u V hs hd hfr hpo hJ
        have e2 : a_.tmps.getD 21 undef = .pointer (some ⟨g, 0, none⟩) := (hpo 2 21 (by kernel_rfl)).trans (hJ.get 2 (by decide) (by decide) (hd 2 (by kernel_rfl)) rfl)
        refine .inl ⟨rfl, ?_⟩
        unfold Oper.wp
        rw [show (execOp a_.eval _).run Tryz.prog u = .ok (.value (.pointer (some ⟨g, 3, none⟩))) u from by simp [go_sem, Act.eval, e2]]
        exact ⟨_, rfl, hJ.stay 3 (by decide) (by decide) (by show (s_ 2 && true) = true; rw [hd 2 (by kernel_rfl)]; rfl) rfl⟩
      · intro s_ a_ u V hs hd hfr hpo hJ
        have e3 : a_.tmps.getD 22 undef = .pointer (some ⟨g, 3, none⟩) := (hpo 3 22 (by kernel_rfl)).trans (hJ.get 3 (by decide) (by decide) (hd 3 (by kernel_rfl)) rfl)
        have hn_ : s_ 12 = false := (hJ.back 12 (by simp) (hJ.back 8 (by simp) (hJ.back 7 (by simp) (hJ.back 6 (by simp) hs))))
        have hP := hJ.pre hn_
        refine .inl ⟨rfl, ?_⟩
        exact wp_load_mid 23 (.tmp 22) rfl (g) (3) e3 (R3 us) _ (HU.out u hP) Tryz.underlying23 rfl (by kernel_rfl) ⟨_, rfl, hJ.stay 4 (by decide) (by decide) (by show (s_ 3 && true) = true; rw [hd 3 (by kernel_rfl)]; rfl) rfl⟩
      · intro s_ a_ u V hs hd hfr hpo hJ
        have f5 : a_.tmps.getD 5 undef = .pointer (some ⟨w.heap.size, 0, none⟩) := hfr 5 (by kernel_rfl)
        have hn_ : s_ 12 = false := (hJ.back 12 (by simp) (hJ.back 8 (by simp) (hJ.back 7 (by simp) (hJ.back 6 (by simp) hs))))
        have hP := hJ.pre hn_
        refine .inl ⟨rfl, ?_⟩
        exact wp_load_mid 23 (.tmp 5) rfl (w.heap.size) (0) f5 (R3 a) _ (range_box ((hP.block _ (lt_of_block ZA.out)).trans ZA.out)) Tryz.underlying23 rfl (by kernel_rfl) ⟨_, rfl, hJ.stay 5 (by decide) (by decide) rfl rfl⟩
      · intro s_ a_ u V hs hd hfr hpo hJ
        have e4 : a_.tmps.getD 23 undef = .agg (R3 us).toArray := (hpo 4 23 (by kernel_rfl)).trans (hJ.get 4 (by decide) (by decide) (hd 4 (by kernel_rfl)) rfl)
        have e5 : a_.tmps.getD 24 undef = .agg (R3 a).toArray := (hpo 5 24 (by kernel_rfl)).trans (hJ.get 5 (by decide) (by decide) (hd 5 (by kernel_rfl)) rfl)
        have hn_ : s_ 12 = false := (hJ.back 12 (by simp) (hJ.back 8 (by simp) (hJ.back 7 (by simp) hs)))
        have hP := hJ.pre hn_
        refine .inl ⟨rfl, ?_⟩
        unfold Oper.wp
        rw [show (execOp a_.eval _).run Tryz.prog u = .ok (.enter 38 #[.agg (R3 us).toArray, .agg (R3 a).toArray]) u from by simp [go_sem, Act.eval, e4, e5]]
        refine Calls.mono (CA.out u) ?_
        rintro e u2 ⟨rfl, hb⟩
        exact ⟨_, rfl, hJ.step 6 (by decide) (by decide) (by show (s_ 4 && (s_ 5 && true)) = true; rw [hd 4 (by kernel_rfl), hd 5 (by kernel_rfl)]; rfl) (fun _ hP => hP.trans (hb.mono hP.size)) (fun hq => by rw [hn_] at hq; cases hq) (fun _ _ hR => hR) rfl⟩
      · intro s_ a_ u V hs hd hfr hpo hJ
        have e6 : a_.tmps.getD 25 undef = .tuple #[.agg (R3 us2).toArray, .bool true] := (hpo 6 25 (by kernel_rfl)).trans (hJ.get 6 (by decide) (by decide) (hd 6 (by kernel_rfl)) rfl)
        refine .inl ⟨rfl, ?_⟩
        unfold Oper.wp
        rw [show (execOp a_.eval _).run Tryz.prog u = .ok (.value (.tuple #[.agg (R3 us2).toArray, .bool true])) u from by simp [go_sem, Act.eval, e6]]
        exact ⟨_, rfl, hJ.stay 7 (by decide) (by decide) (by show (s_ 6 && true) = true; rw [hd 6 (by kernel_rfl)]; rfl) rfl⟩
      · intro s_ a_ u V hs hd hfr hpo hJ
        have e7 : a_.tmps.getD 18 undef = .tuple #[.agg (R3 us2).toArray, .bool true] := (hpo 7 18 (by kernel_rfl)).trans (hJ.get 7 (by decide) (by decide) (hd 7 (by kernel_rfl)) rfl)
        refine .inl ⟨rfl, ?_⟩
        unfold Oper.wp
        rw [show (execOp a_.eval _).run Tryz.prog u = .ok (.value (.agg (R3 us2).toArray)) u from by simp [go_sem, Act.eval, e7]]
        exact ⟨_, rfl, hJ.stay 8 (by decide) (by decide) (by show (s_ 7 && true) = true; rw [hd 7 (by kernel_rfl)]; rfl) rfl⟩
      · intro s_ a_ u V hs hd hfr hpo hJ
        have e7 : a_.tmps.getD 18 undef = .tuple #[.agg (R3 us2).toArray, .bool true] := (hpo 7 18 (by kernel_rfl)).trans (hJ.get 7 (by decide) (by decide) (hd 7 (by kernel_rfl)) rfl)
        refine .inl ⟨rfl, ?_⟩
        unfold Oper.wp
        rw [show (execOp a_.eval _).run Tryz.prog u = .ok (.value (.bool true)) u from by simp [go_sem, Act.eval, e7]]
        exact ⟨_, rfl, hJ.stay 9 (by decide) (by decide) (by show (s_ 7 && true) = true; rw [hd 7 (by kernel_rfl)]; rfl) rfl⟩
      · intro s_ a_ u V hs hd hfr hpo hJ
        have e0 : a_.tmps.getD 19 undef = .pointer (some ⟨g, 0, none⟩) := (hpo 0 19 (by kernel_rfl)).trans (hJ.get 0 (by decide) (by decide) (hd 0 (by kernel_rfl)) rfl)
        refine .inl ⟨rfl, ?_⟩
        unfold Oper.wp
        rw [show (execOp a_.eval _).run Tryz.prog u = .ok (.value (.pointer (some ⟨g, 0, none⟩))) u from by simp [go_sem, Act.eval, e0]]
        exact ⟨_, rfl, hJ.stay 10 (by decide) (by decide) (by show (s_ 0 && true) = true; rw [hd 0 (by kernel_rfl)]; rfl) rfl⟩
      · intro s_ a_ u V hs hd hfr hpo hJ
        have e10 : a_.tmps.getD 28 undef = .pointer (some ⟨g, 0, none⟩) := (hpo 10 28 (by kernel_rfl)).trans (hJ.get 10 (by decide) (by decide) (hd 10 (by kernel_rfl)) rfl)
        refine .inl ⟨rfl, ?_⟩
        unfold Oper.wp
        rw [show (execOp a_.eval _).run Tryz.prog u = .ok (.value (.pointer (some ⟨g, 3, none⟩))) u from by simp [go_sem, Act.eval, e10]]
        exact ⟨_, rfl, hJ.stay 11 (by decide) (by decide) (by show (s_ 10 && true) = true; rw [hd 10 (by kernel_rfl)]; rfl) rfl⟩
      · intro s_ a_ u V hs hd hfr hpo hJ
        have e11 : a_.tmps.getD 29 undef = .pointer (some ⟨g, 3, none⟩) := (hpo 11 29 (by kernel_rfl)).trans (hJ.get 11 (by decide) (by decide) (hd 11 (by kernel_rfl)) rfl)
        have e8 : a_.tmps.getD 26 undef = .agg (R3 us2).toArray := (hpo 8 26 (by kernel_rfl)).trans (hJ.get 8 (by decide) (by decide) (hd 8 (by kernel_rfl)) rfl)
        have hn_ : s_ 12 = false := hs
        have hP := hJ.pre hn_
        have G := HG.out u hP
        refine .inl ⟨rfl, ?_⟩
        exact wp_store_mid 23 (.tmp 29) (.tmp 26) rfl g 3 (R3 us2).toArray e11 e8 (th_mid G 3 3 (show 3 + 3 ≤ 8 by decide)) (by kernel_rfl) (by simp [Value.oneCell']) ⟨undef, rfl, hJ.fire (by show (s_ 11 && (s_ 8 && true)) = true; rw [hd 11 (by kernel_rfl), hd 8 (by kernel_rfl)]; rfl) ⟨set_used us2 G, but_set hP 3 (R3 us2)⟩ _⟩
    · intro s_ V w5 hall hJ
      obtain ⟨hG5, hb5⟩ := hJ.post (hall 12 (by decide))
      obtain ⟨hm5, ht5⟩ := H4.out.but hb5
      have G5 := Lib.hid hG5
      have M5 := Lib.hid hm5
      have T5 := Lib.hid ht5
      have K5 := Lib.hid ((Kn.of_below B4.out).trans (Kn.of_but hb5 H.out.hB H4.out.isN))
      clear hall hJ hG5 hb5 hm5 ht5 CA HU HG ZA H4
      simp only [Bxs.puts, Nat.reduceAdd, put_none, Re.put_lit, List.set_cons_succ, List.set_cons_zero]
      have d6 : w5.cell? ⟨g, 6, none⟩ = some (.map (some m)) := Pt.box_cell G5.out 6 rfl
      obtain ⟨w6, hrun, hm6, ho6⟩ := Mp.run_del Tryz.underlying64 Tryz.underlying3 M5.out (key_in HIN.out)
      have HRUN := Lib.hid hrun
      have G7 := Lib.hid (only_box ho6 G5.out M5.out)
      have T7 := Lib.hid (only_tab ho6 M5.out T5.out)
      have M7 := Lib.hid (show Mp.MapAt w6 m (kvs (cut ui l)) from hm6.perm (kvs_cut H.out.ok HIN.out))
      have K7 := Lib.hid (K5.out.trans (Kn.only ho6 H.out.hm (by obtain ⟨es, c, e, _⟩ := M5.out; exact .inr (.inr (.inr ⟨es, c, e⟩)))))
      have d7 : w6.cell? ⟨g, 7, none⟩ = some (.pointer (some ⟨p, 0, none⟩)) := Pt.box_cell G7.out 7 rfl
      have CFR := Lib.hid (Pt.free_any ui w6 T7.out (by have := H.out.few; omega))
      obtain ⟨dl, hdl⟩ : ∃ dl, ((T.length : Int) - ((Pt.freeL T ui).length : Int)) = dl := ⟨_, rfl⟩
      rw [hdl] at CFR
      clear hrun hm6 ho6 hdl
      go_wp2_with (first
        | (refine Mp.wpList_delete_run rfl _ _ _ _ rfl _ _ w6 rfl rfl HRUN.out ?_)
        | (go_at_call 44; refine CFR.out.mono ?_; rintro e w8 ⟨rfl, hT8, hK8⟩; have T8 := Lib.hid hT8; have G8 := Lib.hid (kt_box hK8 T7.out G7.out); have M8 := Lib.hid (kt_map hK8 T7.out M7.out); have K8 := Lib.hid (K7.out.trans (Kn.of_kt hK8 T7.out)); clear hT8 hK8))
      go_ret
      exact ⟨rfl, ⟨m, p, _, H.out.hB, by rw [HUS2.out]; exact G8.out, H.out.hm, M8.out, T8.out, HSAME.out, HOK.out⟩, K8.out⟩
end Nn
end Go.Proofs.YtbichomjpmmjmaaGreatDoor

/-
  A region that draws its order, whatever it does: what is true of each operation that is done (F: of the values and the world) and of the world (W). Condition: what is true of one speaks of what it waits for alone (Loc).
-/
set_option linter.unusedVariables false
set_option linter.unusedSimpArgs false
namespace Go.Proofs.YtbichomjpmmjmaaGreatDoor
open Go.RowKit
namespace Jx
abbrev Fs := Nat → (Nat → Bool) → (Nat → Value) → World → Prop
def Loc (F : Fs) (D : List (Nat × Nat)) : Prop := ∀ j s V V' u, (∀ k, k = j ∨ (j, k) ∈ D → V' k = V k) → F j s V u → F j s V' u
def Mono (F : Fs) : Prop := ∀ j s i V u u', Below u.heap.size u u' → F j s V u → F j (fun k => s k || k == i) V u'
structure GJ (F : Fs) (D : List (Nat × Nat)) (W : (Nat → Bool) → World → Prop) (s : Nat → Bool) (V : Nat → Value) (u : World) : Prop where
  f : ∀ j, s j = true → F j s V u
  cl : ∀ p ∈ D, s p.1 = true → s p.2 = true
  w : W s u
variable {F : Fs} {D : List (Nat × Nat)} {W : (Nat → Bool) → World → Prop} {s : Nat → Bool} {V : Nat → Value} {u : World}
theorem GJ.start (h : W (fun _ => false) u) (V : Nat → Value) : GJ F D W (fun _ => false) V u :=
  ⟨fun _ h => Bool.noConfusion h, fun _ _ h => Bool.noConfusion h, h⟩
theorem GJ.step (h : GJ F D W s V u) (i : Nat) (hi : s i = false) (hc : (D.filter fun p => p.1 == i).all (fun p => s p.2) = true) (hL : Loc F D) {u' : World} {v : Value}
    (hs : ∀ j, s j = true → F j s V u → F j (fun k => s k || k == i) V u') (hw : W (fun k => s k || k == i) u')
    (hf : F i (fun k => s k || k == i) (fun k => if k = i then v else V k) u') : GJ F D W (fun k => s k || k == i) (fun k => if k = i then v else V k) u' := by
  refine ⟨fun j hj => ?_, cl_add h.cl hc, hw⟩
  by_cases hji : j = i
  · subst hji; exact hf
  · have hj' : s j = true := by simpa [hji] using hj
    refine hL j _ V _ u' (fun k hk => ?_) (hs j hj' (h.f j hj'))
    have hki : ¬ k = i := by
      rcases hk with rfl | hk
      · exact hji
      · intro e
        have := h.cl _ hk hj'
        rw [e, hi] at this
        cases this
    rw [if_neg hki]
/-- a part of a tuple -/
def tupAt (v : Value) (i : Nat) : Value := match v with
  | .tuple a => a.getD i undef
  | _ => undef
end Jx
end Go.Proofs.YtbichomjpmmjmaaGreatDoor

/-
  The program's node and the document's beside boxes that are written: both stay. No condition.
-/
set_option linter.unusedVariables false
set_option linter.unusedSimpArgs false
namespace Go.Proofs.YtbichomjpmmjmaaGreatDoor
open Go.ChangeShapes Go.WideShapes Go.ChangeAt Go.RowKit Go.Lib
namespace Nn
open Re Nd
section
variable {B : Nat} {w u : World} {g : Nat} {has : Rx} {l : Pods}
theorem Kn.set {b : Nat} (h : Kn B w u) (hb : w.heap.size ≤ b) (o : Nat) (vs : List Value) : Kn B w (u.setCells b o vs) := by
  have f := Back.far b vs o u
  exact ⟨f.1.trans h.os, f.2.1.trans h.tape, f.2.2.1.trans h.output, by rw [f.2.2.2.1]; exact h.size, fun k hk hd => (f.2.2.2.2 k (by omega)).trans (h.block k hk hd)⟩
theorem Nn.set {b : Nat} {X : Array Value} {t : TypeId} (h : Nn B u g has l) (hX : u.heap[b]? = some (.cells X t (0, 0))) (h1 : t ≠ 68) (h2 : t ≠ 100) (h3 : t ≠ 110) (o : Nat) (vs : List Value) : Nn B (u.setCells b o vs) g has l := by
  obtain ⟨m, p, T, h⟩ := h
  exact ⟨m, p, T, h.keep fun k hk hn => (Back.far b vs o u).2.2.2.2 k fun e => by subst e; exact not_n hX h1 h2 h3 hn⟩
theorem Nn.kept {v : World} (h : Nn B u g has l) (hk : ∀ k, k < u.heap.size → IsN u k → v.heap[k]? = u.heap[k]?) : Nn B v g has l := by
  obtain ⟨m, p, T, h⟩ := h
  exact ⟨m, p, T, h.keep hk⟩
end
theorem nl_set {B b : Nat} {u : World} {A : Option Addr} {c : Nat} {ds : List Pd} {X : Array Value} {t : TypeId} (h : Nl u B A c ds) (hX : u.heap[b]? = some (.cells X t (0, 0))) (h1 : t ≠ 51) (h2 : t ≠ 3) (o : Nat) (vs : List Value) : Nl (u.setCells b o vs) B A c ds :=
  h.keep fun r cur _ hr => (Back.far b vs o u).2.2.2.2 r fun e => by
    subst e
    rcases hr with hr | hr <;> rw [hX] at hr <;> injection hr with hr <;> injection hr
    · exact h1 ‹_›
    · exact h2 ‹_›
end Nn
end Go.Proofs.YtbichomjpmmjmaaGreatDoor

/-
  A region that draws its order and lays a row of two pieces into a box's cell 3 (append(append([]T{}, l[:i]...), l[i+1:]...), the operations 0, 5, 11, 13), whatever the types. No condition.
-/
set_option linter.unusedVariables false
set_option linter.unusedSimpArgs false
namespace Go.Proofs.YtbichomjpmmjmaaGreatDoor
open Go.ChangeShapes Go.WideShapes Go.ChangeAt Go.RowKit Go.Lib
namespace Jx
theorem But.grown {B b : Nat} {v u w' : World} {row : Option Nat} (h : But B b v u) (hB : B ≤ v.heap.size) (hg : u.grownBy w' row) (hr : ∀ k, row = some k → B ≤ k) : But B b v w' := by
  have g := (Below.refl B u).grown hg (Nat.le_trans hB h.size) hr
  exact ⟨g.os.trans h.os, g.tape.trans h.tape, g.output.trans h.output, Nat.le_trans h.size g.size, fun k hk hb => (g.block k hk).trans (h.block k hk hb)⟩
/-- a row made of two pieces, in a region that draws -/
structure JC (te tb : TypeId) (sz : Nat) (v : World) (b : Nat) (cs vs : List Value) (n1 n2 : Nat) (x1 x2 : List Value) (s : Nat → Bool) (V : Nat → Value) (u : World) : Prop where
  but : But v.heap.size b v u
  val : ∀ j, j ≠ 0 → j ≠ 5 → j ≠ 11 → j ≠ 13 → s j = true → V j = vs.getD j undef
  o5 : s 5 = true → s 0 = true
  o11 : s 11 = true → s 5 = true
  o13 : s 13 = true → s 11 = true
  r0 : s 0 = true → s 5 = false → ∃ A c, V 0 = .slice A 0 c ∧ u.ownsRow v.heap.size te sz (.slice A 0 c) 0 []
  r5 : s 5 = true → s 11 = false → ∃ A c, V 5 = .slice A n1 c ∧ u.ownsRow v.heap.size te sz (.slice A n1 c) n1 x1
  r11 : s 11 = true → ∃ A c, V 11 = .slice A n2 c ∧ u.ownsRow v.heap.size te sz (.slice A n2 c) n2 (x1 ++ x2) ∧ (s 13 = true → u.heap[b]? = some (.cells (cs.set 3 (.slice A n2 c)).toArray tb (0, 0)))
  bx : s 13 = false → u.heap[b]? = some (.cells cs.toArray tb (0, 0))
section
variable {te tb : TypeId} {sz : Nat} {v u : World} {b n1 n2 : Nat} {cs vs x1 x2 : List Value} {s : Nat → Bool} {V : Nat → Value}
theorem JC.start (hb : v.heap[b]? = some (.cells cs.toArray tb (0, 0))) (V : Nat → Value) : JC te tb sz v b cs vs n1 n2 x1 x2 (fun _ => false) V v.drew :=
  ⟨⟨rfl, rfl, rfl, Nat.le_refl _, fun _ _ _ => rfl⟩, fun _ _ _ _ _ h => Bool.noConfusion h, fun h => Bool.noConfusion h, fun h => Bool.noConfusion h, fun h => Bool.noConfusion h, fun h => Bool.noConfusion h, fun h => Bool.noConfusion h, fun h => Bool.noConfusion h, fun _ => hb⟩
theorem JC.get (h : JC te tb sz v b cs vs n1 n2 x1 x2 s V u) (j : Nat) (h0 : j ≠ 0) (h5 : j ≠ 5) (h11 : j ≠ 11) (h13 : j ≠ 13) (hs : s j = true) {x : Value} (hx : vs.getD j undef = x) : V j = x := (h.val j h0 h5 h11 h13 hs).trans hx
theorem JC.step (h : JC te tb sz v b cs vs n1 n2 x1 x2 s V u) (i : Nat) (h0 : i ≠ 0) (h5 : i ≠ 5) (h11 : i ≠ 11) (h13 : i ≠ 13) {x : Value} (hx : x = vs.getD i undef) : JC te tb sz v b cs vs n1 n2 x1 x2 (fun j => s j || j == i) (fun j => if j = i then x else V j) u := by
  have e0 : (0 == i) = false := by simp; omega
  have e5 : (5 == i) = false := by simp; omega
  have e11 : (11 == i) = false := by simp; omega
  have e13 : (13 == i) = false := by simp; omega
  refine ⟨h.but, fun j g0 g5 g11 g13 hs => ?_, ?_, ?_, ?_, ?_, ?_, ?_, ?_⟩
  · by_cases hji : j = i
    · subst hji; rw [if_pos rfl]; exact hx
    · rw [if_neg hji]; exact h.val j g0 g5 g11 g13 (by simpa [hji] using hs)
  all_goals simp only [e0, e5, e11, e13, Bool.or_false, if_neg (Ne.symm h0), if_neg (Ne.symm h5), if_neg (Ne.symm h11)]
  · exact h.o5
  · exact h.o11
  · exact h.o13
  · exact h.r0
  · exact h.r5
  · exact h.r11
  · exact h.bx
theorem JC.not5 (h : JC te tb sz v b cs vs n1 n2 x1 x2 s V u) (hs : s 0 = false) : s 5 = false := by
  cases h5 : s 5 with
  | false => rfl
  | true => rw [h.o5 h5] at hs; cases hs
theorem JC.not11 (h : JC te tb sz v b cs vs n1 n2 x1 x2 s V u) (hs : s 5 = false) : s 11 = false := by
  cases h5 : s 11 with
  | false => rfl
  | true => rw [h.o11 h5] at hs; cases hs
theorem JC.not13 (h : JC te tb sz v b cs vs n1 n2 x1 x2 s V u) (hs : s 11 = false) : s 13 = false := by
  cases h5 : s 13 with
  | false => rfl
  | true => rw [h.o13 h5] at hs; cases hs
theorem JC.mk0 (h : JC te tb sz v b cs vs n1 n2 x1 x2 s V u) (hs : s 0 = false) (hbv : b < v.heap.size) : JC te tb sz v b cs vs n1 n2 x1 x2 (fun j => s j || j == 0) (fun j => if j = 0 then .slice (some ⟨u.heap.size, 0, none⟩) 0 0 else V j) (u.alloc (.cells #[] te (0, 0))) := by
  have n5 := h.not5 hs
  have n11 := h.not11 n5
  have n13 := h.not13 n11
  have hb : Below u.heap.size u (u.alloc (.cells #[] te (0, 0))) := (Below.refl _ _).alloc (Nat.le_refl _) _
  refine ⟨⟨hb.os.trans h.but.os, hb.tape.trans h.but.tape, hb.output.trans h.but.output, Nat.le_trans h.but.size hb.size, fun k hk hkb => (hb.block k (Nat.lt_of_lt_of_le hk h.but.size)).trans (h.but.block k hk hkb)⟩, fun j g0 g5 g11 g13 hs => ?_, ?_, ?_, ?_, ?_, ?_, ?_, ?_⟩
  · rw [if_neg g0]; exact h.val j g0 g5 g11 g13 (by simpa [g0] using hs)
  all_goals simp only [show ((0 : Nat) == 0) = true from rfl, show ((5 : Nat) == 0) = false from rfl, show ((11 : Nat) == 0) = false from rfl, show ((13 : Nat) == 0) = false from rfl, Bool.or_false, Bool.or_true, n5, n11, n13]
  · exact fun h => Bool.noConfusion h
  · exact fun h => Bool.noConfusion h
  · exact fun h => Bool.noConfusion h
  · exact fun _ _ => ⟨_, _, if_pos trivial, World.ownsRow_made u #[] 0 h.but.size (Nat.zero_le _) (by simp)⟩
  · exact fun h => Bool.noConfusion h
  · exact fun h => Bool.noConfusion h
  · exact fun _ => (hb.block b (Nat.lt_of_lt_of_le hbv h.but.size)).trans (h.bx n13)
theorem keep_box {w' : World} {row : Option Nat} (hg : u.grownBy w' row) (hr : ∀ k, row = some k → v.heap.size ≤ k) (hbv : b < v.heap.size) (hsz : v.heap.size ≤ u.heap.size) : w'.heap[b]? = u.heap[b]? :=
  ((Below.refl v.heap.size u).grown hg hsz hr).block b hbv
theorem JC.ap5 (h : JC te tb sz v b cs vs n1 n2 x1 x2 s V u) (hs : s 5 = false) (h0 : s 0 = true) (hbv : b < v.heap.size) {A : Option Addr} {c : Nat} {w' : World} {row : Option Nat} (ho : w'.ownsRow v.heap.size te sz (.slice A n1 c) n1 x1) (hg : u.grownBy w' row) (hr : ∀ k, row = some k → v.heap.size ≤ k) : JC te tb sz v b cs vs n1 n2 x1 x2 (fun j => s j || j == 5) (fun j => if j = 5 then .slice A n1 c else V j) w' := by
  have n11 := h.not11 hs
  have n13 := h.not13 n11
  refine ⟨h.but.grown (Nat.le_refl _) hg hr, fun j g0 g5 g11 g13 hs => ?_, ?_, ?_, ?_, ?_, ?_, ?_, ?_⟩
  · rw [if_neg g5]; exact h.val j g0 g5 g11 g13 (by simpa [g5] using hs)
  all_goals simp only [show ((0 : Nat) == 5) = false from rfl, show ((5 : Nat) == 5) = true from rfl, show ((11 : Nat) == 5) = false from rfl, show ((13 : Nat) == 5) = false from rfl, Bool.or_false, Bool.or_true, n11, n13]
  · exact fun _ => h0
  · exact fun h => Bool.noConfusion h
  · exact fun h => Bool.noConfusion h
  · exact fun _ h => Bool.noConfusion h
  · exact fun _ _ => ⟨_, _, if_pos trivial, ho⟩
  · exact fun h => Bool.noConfusion h
  · exact fun _ => (keep_box hg hr hbv h.but.size).trans (h.bx n13)
theorem JC.ap11 (h : JC te tb sz v b cs vs n1 n2 x1 x2 s V u) (hs : s 11 = false) (h5 : s 5 = true) (hbv : b < v.heap.size) {A : Option Addr} {c : Nat} {w' : World} {row : Option Nat} (ho : w'.ownsRow v.heap.size te sz (.slice A n2 c) n2 (x1 ++ x2)) (hg : u.grownBy w' row) (hr : ∀ k, row = some k → v.heap.size ≤ k) : JC te tb sz v b cs vs n1 n2 x1 x2 (fun j => s j || j == 11) (fun j => if j = 11 then .slice A n2 c else V j) w' := by
  have n13 := h.not13 hs
  refine ⟨h.but.grown (Nat.le_refl _) hg hr, fun j g0 g5 g11 g13 hs => ?_, ?_, ?_, ?_, ?_, ?_, ?_, ?_⟩
  · rw [if_neg g11]; exact h.val j g0 g5 g11 g13 (by simpa [g11] using hs)
  all_goals simp only [show ((0 : Nat) == 11) = false from rfl, show ((5 : Nat) == 11) = false from rfl, show ((11 : Nat) == 11) = true from rfl, show ((13 : Nat) == 11) = false from rfl, Bool.or_false, Bool.or_true, n13, h5]
  · exact fun _ => h.o5 h5
  · exact fun _ => trivial
  · exact fun h => Bool.noConfusion h
  · exact fun _ h => Bool.noConfusion h
  · exact fun _ h => Bool.noConfusion h
  · exact fun _ => ⟨_, _, if_pos trivial, ho, fun h => Bool.noConfusion h⟩
  · exact fun _ => (keep_box hg hr hbv h.but.size).trans (h.bx n13)
theorem JC.st13 (h : JC te tb sz v b cs vs n1 n2 x1 x2 s V u) (hs : s 13 = false) (h11 : s 11 = true) (hbv : b < v.heap.size) {A : Option Addr} {c : Nat} (hV : V 11 = .slice A n2 c) (hc : 3 < cs.length) (x : Value) : JC te tb sz v b cs vs n1 n2 x1 x2 (fun j => s j || j == 13) (fun j => if j = 13 then x else V j) (u.setCell ⟨b, 3, none⟩ (.slice A n2 c)) := by
  have hbx := h.bx hs
  have far : ∀ k, k ≠ b → (u.setCell ⟨b, 3, none⟩ (.slice A n2 c)).heap[k]? = u.heap[k]? := fun k hk => Below.heap_setCell u _ _ k hk
  have sz : (u.setCell ⟨b, 3, none⟩ (.slice A n2 c)).heap.size = u.heap.size := by simp
  have hB : Below 0 u (u.setCell ⟨b, 3, none⟩ (.slice A n2 c)) := (Below.refl 0 u).setCell (p := ⟨b, 3, none⟩) (Nat.zero_le _) _
  refine ⟨⟨hB.os.trans h.but.os, hB.tape.trans h.but.tape, hB.output.trans h.but.output, Nat.le_trans h.but.size hB.size, fun k hk hkb => (far k hkb).trans (h.but.block k hk hkb)⟩, fun j g0 g5 g11 g13 hs => ?_, ?_, ?_, ?_, ?_, ?_, ?_, ?_⟩
  · rw [if_neg g13]; exact h.val j g0 g5 g11 g13 (by simpa [g13] using hs)
  all_goals simp only [show ((0 : Nat) == 13) = false from rfl, show ((5 : Nat) == 13) = false from rfl, show ((11 : Nat) == 13) = false from rfl, show ((13 : Nat) == 13) = true from rfl, Bool.or_false, Bool.or_true, h11, if_neg (show ¬ (0 : Nat) = 13 by decide), if_neg (show ¬ (5 : Nat) = 13 by decide), if_neg (show ¬ (11 : Nat) = 13 by decide)]
  · exact h.o5
  · exact fun _ => h.o11 h11
  · exact fun _ => trivial
  · intro _ h5
    rw [h.o11 h11] at h5
    cases h5
  · exact fun _ h => Bool.noConfusion h
  · intro _
    obtain ⟨A', c', e, ho, _⟩ := h.r11 h11
    rw [hV] at e
    injection e with e1 _ e3
    subst e1 e3
    refine ⟨A, c, hV, ?_, fun _ => ?_⟩
    · obtain ⟨h1, h2⟩ := ho
      refine ⟨h1, ?_⟩
      rcases h2 with h2 | ⟨g, cap, cur, e, e1, hg, e2⟩
      · exact .inl h2
      · exact .inr ⟨g, cap, cur, e, e1, (far g (by omega)).trans hg, e2⟩
    · have := heap_setCell_same u b 3 _ _ (.slice A n2 c) hbx
      rw [this]
      simp [hc]
  · exact fun h => Bool.noConfusion h
end
end Jx
end Go.Proofs.YtbichomjpmmjmaaGreatDoor

/-
  The document's answers for nodes: a node of some resources, a pod that goes. All that was there is left as it was. Conditions: the pods lie in a row.
-/
set_option linter.unusedVariables false
set_option linter.unusedSimpArgs false
namespace Go.Proofs.YtbichomjpmmjmaaGreatDoor
open Go.ChangeShapes Go.WideShapes Go.ChangeAt Go.RowKit Go.Lib
open NumMath
namespace Nd
open Re Sd
theorem run_to (r n c k : Nat) (hk : k ≤ c) (u : World) : (Instr.slice 27 (.slice (some ⟨r, 0, none⟩) n c) none (some (.int .i64 (k : Int))) none).run Tryz.prog u = .ok (.slice (some ⟨r, 0, none⟩) k c) u := by
  rw [run_slice_h (ht := (by kernel_rfl : Tryz.prog.underlying 27 = some (.slice (Tryz.prog.elem 27)))) (kh := .i64) (h := (k : Int)) (h0 := by omega) (h2 := by omega)]
  rw [show (sizeOf (Tryz.prog.elem 27)).run Tryz.prog u = .ok 5 u from by kernel_rfl]
  simp [Result.andThen, sliced, Addr.add]
theorem run_from (r n c k : Nat) (hk : k + 1 ≤ n) (hn : n ≤ c) : ∃ q : Addr, (q = ⟨r, (k + 1) * 5, none⟩ ∨ n = k + 1) ∧ ∀ u : World, (Instr.slice 27 (.slice (some ⟨r, 0, none⟩) n c) (some (.int .i64 ((k : Int) + 1))) none none).run Tryz.prog u = .ok (.slice (some q) (n - (k + 1)) (c - (k + 1))) u := by
  have e : ((k : Int) + 1).toNat = k + 1 := by omega
  by_cases hq : c = k + 1
  · refine ⟨⟨r, 0, none⟩, .inr (by omega), fun u => ?_⟩
    rw [run_slice_l (ht := (by kernel_rfl : Tryz.prog.underlying 27 = some (.slice (Tryz.prog.elem 27)))) (kl := .i64) (l := (k : Int) + 1) (h0 := by omega) (h1 := by omega)]
    rw [show (sizeOf (Tryz.prog.elem 27)).run Tryz.prog u = .ok 5 u from by kernel_rfl]
    simp [Result.andThen, sliced, e, hq]
  · refine ⟨⟨r, (k + 1) * 5, none⟩, .inl rfl, fun u => ?_⟩
    rw [run_slice_l (ht := (by kernel_rfl : Tryz.prog.underlying 27 = some (.slice (Tryz.prog.elem 27)))) (kl := .i64) (l := (k : Int) + 1) (h0 := by omega) (h1 := by omega)]
    rw [show (sizeOf (Tryz.prog.elem 27)).run Tryz.prog u = .ok 5 u from by kernel_rfl]
    simp [Result.andThen, sliced, e, hq, at_one]
theorem src_to {w u : World} {base : Nat} {e : TypeId} {n c r : Nat} {l : List Pd} (h : w.ownsRow base e 5 (.slice (some ⟨r, 0, none⟩) n c) n (flat5 l)) (hb : u.heap[r]? = w.heap[r]?) (k : Nat) : ∀ (j : Nat) v, (flat5 (l.take k))[j]? = some v → u.cell? ((⟨r, 0, none⟩ : Addr).add j) = some v := fun j v hv => by
  rw [← flat_take] at hv
  have hl := (List.getElem?_eq_some_iff.1 hv).1
  rw [List.length_take] at hl
  rw [at_one, World.cell?_of_block hb, h.cellAt j (by have := h.1; omega)]
  rwa [List.getElem?_take_of_lt (by omega)] at hv
theorem src_from {w u : World} {base : Nat} {e : TypeId} {n c r : Nat} {l : List Pd} (h : w.ownsRow base e 5 (.slice (some ⟨r, 0, none⟩) n c) n (flat5 l)) (hb : u.heap[r]? = w.heap[r]?) (k : Nat) {q : Addr} (hq : q = ⟨r, (k + 1) * 5, none⟩ ∨ l.length = k + 1) : ∀ (j : Nat) v, (flat5 (l.drop (k + 1)))[j]? = some v → u.cell? (q.add j) = some v := fun j v hv => by
  rcases hq with rfl | hq
  · rw [← flat_drop, List.getElem?_drop] at hv
    have hl := (List.getElem?_eq_some_iff.1 hv).1
    rw [show (⟨r, (k + 1) * 5, none⟩ : Addr).add j = ⟨r, (k + 1) * 5 + j, none⟩ by unfold Addr.add; split <;> simp_all, World.cell?_of_block hb, h.cellAt _ (by have := h.1; omega)]
    exact hv
  · rw [List.drop_eq_nil_of_le (by omega)] at hv
    simp [flat5] at hv
theorem info_pod : ∃ i, Tryz.prog.info? 51 = some i ∧ i.zero = some (.agg #[.int .i64 0, .int .i64 0, .int .i64 0, .int .i64 0, .slice none 0 0]) ∧ i.size = 5 ∧ i.bytes = 56 :=
  info_parts (by kernel_rfl)
theorem res_rel (tmps : Array Value) (w : World) (p : Nat) (xs : List Value) (x : Value) (h2 : tmps.getD 4 undef = .pointer (some ⟨p, 0, none⟩)) (h3 : tmps.getD 5 undef = x) (hX : w.heap[p]? = some (.cells xs.toArray 29 (0, 0))) (hm : xs.length = 4) :
    (results Tryz.f34 tmps).run Tryz.prog w = .ok (.tuple #[.agg xs.toArray, x]) w := by
  have h1 : (loadVar 29 ⟨p, 0, none⟩).run Tryz.prog w = .ok (.agg xs.toArray) w := run_loadVar_mid w p 0 29 _ _ (range_box hX) Tryz.underlying29 rfl (by rw [hm]; kernel_rfl)
  simp only [results, Tryz.results34]
  simp only [Array.getD_eq_getD_getElem?] at h2 h3
  have ha : (asAddr (tmps[4]?.getD undef)).run Tryz.prog w = .ok ⟨p, 0, none⟩ w := by rw [h2]; rfl
  simp [Sem.run_bind, h1, ha, h3]
set_option maxRecDepth 100000 in
set_option maxHeartbeats 8000000 in
theorem refrelease_any {B : Nat} {ds : List Pd} {A : Option Addr} {c : Nat} (has : Rx) (u : Int) (w : World) (h : Nl w B A c ds) :
    Calls Tryz.prog 34 #[.agg #[.int .i64 has.c, .int .i64 has.m, .int .i64 has.p, .slice (A) ds.length c], .int .i64 u] w fun e w' => ∃ (A' : Option Addr) (c' : Nat) (ds' : List Pd), e = .returned (.tuple #[.agg #[.int .i64 has.c, .int .i64 has.m, .int .i64 has.p, .slice A' ds'.length c'], .int .i64 (relC (pods ds) u)]) ∧ pods ds' = cut u (pods ds) ∧ Nl w' 0 A' c' ds' ∧ Below w.heap.size w w' := by
  have H := Lib.hid h
  obtain ⟨n, hln⟩ : ∃ n, ds.length = n := ⟨_, rfl⟩
  have HLN := Lib.hid hln
  have HNM := Lib.hid (show n ≤ 100000 by rw [← hln]; exact h.few)
  have NI := refindex_any has u (h := h)
  rw [hln] at NI ⊢
  clear h hln
  obtain ⟨w0, hw0⟩ : ∃ v, (w.alloc (.cells #[.int .i64 has.c, .int .i64 has.m, .int .i64 has.p, .slice (A) n c] 29)).alloc (.cells #[.int .i64 0, .int .i64 0, .int .i64 0, .slice none 0 0] 29) = v := ⟨_, rfl⟩
  have N0 := Lib.hid (show w0.heap[w.heap.size]? = some (.cells ([.int .i64 has.c, .int .i64 has.m, .int .i64 has.p, .slice (A) n c] : List Value).toArray 29 (0, 0)) by rw [← hw0, Below.heap_alloc _ _ _ (by simp)]; exact heap_alloc_new w _)
  have Z0 := Lib.hid (show w0.heap[w.heap.size + 1]? = some (.cells #[.int .i64 0, .int .i64 0, .int .i64 0, .slice none 0 0] 29 (0, 0)) by rw [← hw0]; have := heap_alloc_new (w.alloc (.cells #[.int .i64 has.c, .int .i64 has.m, .int .i64 has.p, .slice (A) n c] 29)) (.cells #[.int .i64 0, .int .i64 0, .int .i64 0, .slice none 0 0] 29); rw [World.size_alloc] at this; exact this)
  have B0 := Lib.hid (show Below w.heap.size w w0 by rw [← hw0]; go_grown)
  have RN := Lib.hid (show w0.rangeAt w.heap.size 0 [.int .i64 has.c, .int .i64 has.m, .int .i64 has.p, .slice (A) n c] from range_box N0.out)
  clear NI
  go_enter Tryz.func34, Tryz.ntmps34
  go_wp2_with (first | (refine wpList_load_mid rfl 29 _ rfl _ _ rfl _ _ RN.out Tryz.underlying29 rfl (by kernel_rfl) ?_))
  clear hw0
  refine (show Calls Tryz.prog 19 #[.agg #[.int .i64 has.c, .int .i64 has.m, .int .i64 has.p, .slice (A) n c], .int .i64 u] w0 _ by rw [← HLN.out]; exact refindex_any has u w0 (H.out.below B0.out)).mono ?_
  rintro e v1 ⟨rfl, hb1⟩
  have B1 := Lib.hid (B0.out.trans (hb1.mono B0.out.size))
  have N1 := Lib.hid ((hb1.block _ (lt_of_block N0.out)).trans N0.out)
  have Z1 := Lib.hid ((hb1.block _ (lt_of_block Z0.out)).trans Z0.out)
  clear hb1 RN
  cases hin : isIn u (pods ds) with
  | false =>
    have e0 : idxI u (pods ds) = -1 := by unfold idxI; rw [hin, if_neg (by decide)]
    rw [e0]
    have HE := Lib.hid (show relC (pods ds) u = 390 by unfold relC; rw [hin, if_neg (by decide)])
    have HC := Lib.hid (cut_none hin)
    clear e0 hin
    have RN := Lib.hid (show v1.rangeAt w.heap.size 0 [.int .i64 has.c, .int .i64 has.m, .int .i64 has.p, .slice (A) n c] from range_box N1.out)
    obtain ⟨w6, hw6⟩ : ∃ v, v1.setCells (w.heap.size + 1) 0 [.int .i64 has.c, .int .i64 has.m, .int .i64 has.p, .slice (A) n c] = v := ⟨_, rfl⟩
    have THy := Lib.hid (show v1.there (w.heap.size + 1) 0 4 from Back.th Z1.out rfl)
    have ONEy := Lib.hid (show ([.int .i64 has.c, .int .i64 has.m, .int .i64 has.p, .slice (A) n c] : List Value).toArray.all (·.oneCell') = true by simp [Value.oneCell'])
    have HVy := Lib.hid hw6
    have Z6 := Lib.hid (show w6.heap[w.heap.size + 1]? = some (.cells ([.int .i64 has.c, .int .i64 has.m, .int .i64 has.p, .slice (A) n c] : List Value).toArray 29 (0, 0)) by rw [← hw6]; exact Back.st Z1.out rfl)
    have B6 := Lib.hid (show Below w.heap.size w w6 by rw [← hw6]; exact bel_set B1.out (by omega))
    clear hw6
    go_wp2_with (first | (refine wpList_load_mid rfl 29 _ rfl _ _ rfl _ _ RN.out Tryz.underlying29 rfl (by kernel_rfl) ?_) | (refine wpList_store_at rfl 29 _ _ rfl _ _ _ rfl rfl THy.out (by kernel_rfl) ONEy.out HVy.out ?_))
    refine bodyPost_ret (v := .tuple #[.agg ([.int .i64 has.c, .int .i64 has.m, .int .i64 has.p, .slice (A) n c] : List Value).toArray, .int .i64 390]) (res_rel _ _ _ [.int .i64 has.c, .int .i64 has.m, .int .i64 has.p, .slice (A) n c] _ rfl rfl Z6.out rfl) rfl ?_
    exact ⟨A, c, ds, by rw [HE.out, HLN.out], HC.out.symm, (H.out.below B6.out).base (Nat.zero_le _), B6.out⟩
  | true =>
    obtain ⟨k, hk⟩ : ∃ k, idx u (pods ds) = k := ⟨_, rfl⟩
    have e0 : idxI u (pods ds) = (k : Int) := by unfold idxI; rw [hin, if_pos rfl, hk]
    have HKN := Lib.hid (show k < n by unfold isIn at hin; rw [decide_eq_true_eq, hk, List.length_map, HLN.out] at hin; exact hin)
    have HE := Lib.hid (show relC (pods ds) u = 0 by unfold relC; rw [hin, if_pos rfl])
    have HC := Lib.hid (show cut u (pods ds) = pods (ds.take k ++ ds.drop (k + 1)) by unfold cut; rw [hk]; simp [pods])
    rw [e0]
    clear e0 hin hk
    have RO0 := Lib.hid (show v1.ownsRow B 51 5 (.slice A n c) n (flat5 ds) by have := (H.out.below B1.out).row; rwa [HLN.out] at this)
    obtain ⟨r, rfl, hrw⟩ : ∃ r, A = some ⟨r, 0, none⟩ ∧ r < w.heap.size := by
      have := H.out.row
      rw [HLN.out] at this
      rcases own_addr this with ⟨_, h2, _⟩ | ⟨r, h2, _, h3⟩
      · have := HKN.out; omega
      · exact ⟨r, h2, h3⟩
    have RO := Lib.hid RO0.out
    have RLT := Lib.hid (show r < v1.heap.size by have := B1.out.size; omega)
    have RNE := Lib.hid (show r ≠ w.heap.size by omega)
    have NLT := Lib.hid (lt_of_block N1.out)
    obtain ⟨i0, hi, hz0, hz1, hz2⟩ := info_pod
    have hcap := (own_cap RO.out).1
    have hkn := HKN.out
    have hnm := HNM.out
    obtain ⟨q, hq, HFrom⟩ := run_from r n c k (by omega) hcap
    have HQ := Lib.hid hq
    have HTo := run_to r n c k (by omega)
    have wi : wrap64 ((k : Int) + 1) = (k : Int) + 1 := IntWalk.wrap64_in _ (by omega)
    have wi2 : IntKind.i64.wrap ((k : Int) + 1) = (k : Int) + 1 := IntWalk.i64_in _ (by omega)
    have hlt0 : decide ((k : Int) < 0) = false := decide_eq_false (by omega)
    have hge0 : ¬ (k : Int) < 0 := by omega
    clear hq hrw RO0
    go_wp2_with fail
    refine Vls.wp_region (by kernel_rfl) (fun s V u => Jx.JC 51 29 5 v1 w.heap.size [.int .i64 has.c, .int .i64 has.m, .int .i64 has.p, .slice (some ⟨r, 0, none⟩) n c] [undef, .pointer (some ⟨w.heap.size, 3, none⟩), .slice (some ⟨r, 0, none⟩) n c, .int .i64 k, .slice (some ⟨r, 0, none⟩) k c, undef, .pointer (some ⟨w.heap.size, 3, none⟩), .slice (some ⟨r, 0, none⟩) n c, .int .i64 k, .int .i64 ((k : Int) + 1), .slice (some q) (n - (k + 1)) (c - (k + 1)), undef, .pointer (some ⟨w.heap.size, 3, none⟩), undef] k (n - 1) (flat5 (ds.take k)) (flat5 (ds.drop (k + 1))) s V u ∧ ∀ p ∈ ([(2, 1), (4, 2), (4, 3), (5, 0), (5, 4), (7, 6), (9, 8), (10, 7), (10, 9), (11, 5), (11, 10), (13, 12), (13, 11)] : List (Nat × Nat)), s p.1 = true → s p.2 = true) (by kernel_rfl) (fun _ => undef) ⟨Jx.JC.start N1.out _, fun _ _ h => Bool.noConfusion h⟩ ?_ ?_
    · refine ⟨?_, ?_, ?_, ?_, ?_, ?_, ?_, ?_, ?_, ?_, ?_, ?_, ?_, ?_, trivial⟩
      · intro s_ a_ u V hs hd hfr hpo hJ
        obtain ⟨hJ, hcl⟩ := hJ
        refine .inl ⟨rfl, ?_⟩
        unfold Oper.wp
        rw [show (execOp a_.eval _).run Tryz.prog u = .ok (.value (.slice (some ⟨u.heap.size, 0, none⟩) 0 0)) (u.alloc (.cells #[] 51 (0, 0))) from by simp [go_sem, Act.eval]]
        exact ⟨_, rfl, hJ.mk0 hs NLT.out, (Jx.cl_add hcl rfl)⟩
      · intro s_ a_ u V hs hd hfr hpo hJ
        obtain ⟨hJ, hcl⟩ := hJ
        have f2 : a_.tmps.getD 2 undef = .pointer (some ⟨w.heap.size, 0, none⟩) := hfr 2 (by kernel_rfl)
        refine .inl ⟨rfl, ?_⟩
        unfold Oper.wp
        rw [show (execOp a_.eval _).run Tryz.prog u = .ok (.value (.pointer (some ⟨w.heap.size, 3, none⟩))) u from by simp [go_sem, Act.eval, f2]]
        exact ⟨_, rfl, hJ.step 1 (by decide) (by decide) (by decide) (by decide) rfl, (Jx.cl_add hcl rfl)⟩
      · intro s_ a_ u V hs hd hfr hpo hJ
        obtain ⟨hJ, hcl⟩ := hJ
        have e1 : a_.tmps.getD 14 undef = .pointer (some ⟨w.heap.size, 3, none⟩) := (hpo 1 14 (by kernel_rfl)).trans (hJ.get 1 (by decide) (by decide) (by decide) (by decide) (hd 1 (by kernel_rfl)) rfl)
        have n13 : s_ 13 = false := by
          cases h13 : s_ 13 with
          | false => rfl
          | true => exact absurd (hcl (4, 2) (by simp) (hcl (5, 4) (by simp) (hJ.o11 (hJ.o13 h13)))) (by rw [hs]; decide)
        have cx := box_cell (hJ.bx n13) 3 (v := .slice (some ⟨r, 0, none⟩) n c) rfl
        refine .inl ⟨rfl, ?_⟩
        unfold Oper.wp
        rw [show (execOp a_.eval _).run Tryz.prog u = .ok (.value (.slice (some ⟨r, 0, none⟩) n c)) u from by simp [go_sem, Act.eval, e1, cx]]
        exact ⟨_, rfl, hJ.step 2 (by decide) (by decide) (by decide) (by decide) rfl, (Jx.cl_add hcl (by show (s_ 1 && true) = true; rw [hd 1 (by kernel_rfl)]; rfl))⟩
      · intro s_ a_ u V hs hd hfr hpo hJ
        obtain ⟨hJ, hcl⟩ := hJ
        have f6 : a_.tmps.getD 6 undef = .int .i64 k := hfr 6 (by kernel_rfl)
        refine .inl ⟨rfl, ?_⟩
        unfold Oper.wp
        rw [show (execOp a_.eval _).run Tryz.prog u = .ok (.value (.int .i64 k)) u from by simp [go_sem, Act.eval, f6]]
        exact ⟨_, rfl, hJ.step 3 (by decide) (by decide) (by decide) (by decide) rfl, (Jx.cl_add hcl rfl)⟩
      · intro s_ a_ u V hs hd hfr hpo hJ
        obtain ⟨hJ, hcl⟩ := hJ
        have e2 : a_.tmps.getD 15 undef = .slice (some ⟨r, 0, none⟩) n c := (hpo 2 15 (by kernel_rfl)).trans (hJ.get 2 (by decide) (by decide) (by decide) (by decide) (hd 2 (by kernel_rfl)) rfl)
        have e3 : a_.tmps.getD 16 undef = .int .i64 k := (hpo 3 16 (by kernel_rfl)).trans (hJ.get 3 (by decide) (by decide) (by decide) (by decide) (hd 3 (by kernel_rfl)) rfl)
        refine .inl ⟨rfl, ?_⟩
        unfold Oper.wp
        rw [show (execOp a_.eval _).run Tryz.prog u = .ok (.value (.slice (some ⟨r, 0, none⟩) k c)) u from by simp [go_sem, Act.eval, e2, e3, HTo]]
        exact ⟨_, rfl, hJ.step 4 (by decide) (by decide) (by decide) (by decide) rfl, (Jx.cl_add hcl (by show (s_ 2 && (s_ 3 && true)) = true; rw [hd 2 (by kernel_rfl), hd 3 (by kernel_rfl)]; rfl))⟩
      · intro s_ a_ u V hs hd hfr hpo hJ
        obtain ⟨hJ, hcl⟩ := hJ
        have h0 : s_ 0 = true := hd 0 (by kernel_rfl)
        obtain ⟨A0, c0, hV0, ho0⟩ := hJ.r0 h0 hs
        have e0 : a_.tmps.getD 13 undef = .slice A0 0 c0 := (hpo 0 13 (by kernel_rfl)).trans hV0
        have e4 : a_.tmps.getD 17 undef = .slice (some ⟨r, 0, none⟩) k c := (hpo 4 17 (by kernel_rfl)).trans (hJ.get 4 (by decide) (by decide) (by decide) (by decide) (hd 4 (by kernel_rfl)) rfl)
        refine .inl ⟨rfl, ?_⟩
        refine wp_append_own u (.tmp 13) (.tmp 17) 27 rfl v1.heap.size 51 i0 (.agg #[.int .i64 0, .int .i64 0, .int .i64 0, .int .i64 0, .slice none 0 0]) 5 56 Tryz.underlying27 hi hz0 hz1 hz2 rfl (by decide) (.slice A0 0 c0) 0 [] e0 ho0 ⟨r, 0, none⟩ k c (flat5 (ds.take k)) e4 (by rw [flat_length, List.length_take, HLN.out, Nat.min_eq_left (Nat.le_of_lt HKN.out)]) (src_to RO.out (hJ.but.block _ RLT.out RNE.out) k) (flat_one _) (by unfold maxLen; have := HNM.out; omega) (by have := HNM.out; omega) hJ.but.size (fun v' w' h1 h2 h3 => ?_)
        obtain ⟨A', c', rfl⟩ := own_form h1
        refine ⟨_, rfl, ?_, (Jx.cl_add hcl (by show (s_ 0 && (s_ 4 && true)) = true; rw [hd 0 (by kernel_rfl), hd 4 (by kernel_rfl)]; rfl))⟩
        · have q := hJ.ap5 hs h0 NLT.out (A := A') (c := c') (w' := w') (by simpa using h1) h2 (fun z hz => (ho0.lt z hz).1)
          simpa using q
      · intro s_ a_ u V hs hd hfr hpo hJ
        obtain ⟨hJ, hcl⟩ := hJ
        have f2 : a_.tmps.getD 2 undef = .pointer (some ⟨w.heap.size, 0, none⟩) := hfr 2 (by kernel_rfl)
        refine .inl ⟨rfl, ?_⟩
        unfold Oper.wp
        rw [show (execOp a_.eval _).run Tryz.prog u = .ok (.value (.pointer (some ⟨w.heap.size, 3, none⟩))) u from by simp [go_sem, Act.eval, f2]]
        exact ⟨_, rfl, hJ.step 6 (by decide) (by decide) (by decide) (by decide) rfl, (Jx.cl_add hcl rfl)⟩
      · intro s_ a_ u V hs hd hfr hpo hJ
        obtain ⟨hJ, hcl⟩ := hJ
        have e6 : a_.tmps.getD 19 undef = .pointer (some ⟨w.heap.size, 3, none⟩) := (hpo 6 19 (by kernel_rfl)).trans (hJ.get 6 (by decide) (by decide) (by decide) (by decide) (hd 6 (by kernel_rfl)) rfl)
        have n13 : s_ 13 = false := by
          cases h13 : s_ 13 with
          | false => rfl
          | true => exact absurd (hcl (10, 7) (by simp) (hcl (11, 10) (by simp) (hJ.o13 h13))) (by rw [hs]; decide)
        have cx := box_cell (hJ.bx n13) 3 (v := .slice (some ⟨r, 0, none⟩) n c) rfl
        refine .inl ⟨rfl, ?_⟩
        unfold Oper.wp
        rw [show (execOp a_.eval _).run Tryz.prog u = .ok (.value (.slice (some ⟨r, 0, none⟩) n c)) u from by simp [go_sem, Act.eval, e6, cx]]
        exact ⟨_, rfl, hJ.step 7 (by decide) (by decide) (by decide) (by decide) rfl, (Jx.cl_add hcl (by show (s_ 6 && true) = true; rw [hd 6 (by kernel_rfl)]; rfl))⟩
      · intro s_ a_ u V hs hd hfr hpo hJ
        obtain ⟨hJ, hcl⟩ := hJ
        have f6 : a_.tmps.getD 6 undef = .int .i64 k := hfr 6 (by kernel_rfl)
        refine .inl ⟨rfl, ?_⟩
        unfold Oper.wp
        rw [show (execOp a_.eval _).run Tryz.prog u = .ok (.value (.int .i64 k)) u from by simp [go_sem, Act.eval, f6]]
        exact ⟨_, rfl, hJ.step 8 (by decide) (by decide) (by decide) (by decide) rfl, (Jx.cl_add hcl rfl)⟩
      · intro s_ a_ u V hs hd hfr hpo hJ
        obtain ⟨hJ, hcl⟩ := hJ
        have e8 : a_.tmps.getD 21 undef = .int .i64 k := (hpo 8 21 (by kernel_rfl)).trans (hJ.get 8 (by decide) (by decide) (by decide) (by decide) (hd 8 (by kernel_rfl)) rfl)
        refine .inl ⟨rfl, ?_⟩
        unfold Oper.wp
        rw [show (execOp a_.eval _).run Tryz.prog u = .ok (.value (.int .i64 ((k : Int) + 1))) u from by simp [go_sem, Act.eval, e8, wi, wi2]]
        exact ⟨_, rfl, hJ.step 9 (by decide) (by decide) (by decide) (by decide) rfl, (Jx.cl_add hcl (by show (s_ 8 && true) = true; rw [hd 8 (by kernel_rfl)]; rfl))⟩
      · intro s_ a_ u V hs hd hfr hpo hJ
        obtain ⟨hJ, hcl⟩ := hJ
        have e7 : a_.tmps.getD 20 undef = .slice (some ⟨r, 0, none⟩) n c := (hpo 7 20 (by kernel_rfl)).trans (hJ.get 7 (by decide) (by decide) (by decide) (by decide) (hd 7 (by kernel_rfl)) rfl)
        have e9 : a_.tmps.getD 22 undef = .int .i64 ((k : Int) + 1) := (hpo 9 22 (by kernel_rfl)).trans (hJ.get 9 (by decide) (by decide) (by decide) (by decide) (hd 9 (by kernel_rfl)) rfl)
        refine .inl ⟨rfl, ?_⟩
        unfold Oper.wp
        rw [show (execOp a_.eval _).run Tryz.prog u = .ok (.value (.slice (some q) (n - (k + 1)) (c - (k + 1)))) u from by simp [go_sem, Act.eval, e7, e9, HFrom]]
        exact ⟨_, rfl, hJ.step 10 (by decide) (by decide) (by decide) (by decide) rfl, (Jx.cl_add hcl (by show (s_ 7 && (s_ 9 && true)) = true; rw [hd 7 (by kernel_rfl), hd 9 (by kernel_rfl)]; rfl))⟩
      · intro s_ a_ u V hs hd hfr hpo hJ
        obtain ⟨hJ, hcl⟩ := hJ
        have h5 : s_ 5 = true := hd 5 (by kernel_rfl)
        obtain ⟨A0, c0, hV0, ho0⟩ := hJ.r5 h5 hs
        have e0 : a_.tmps.getD 18 undef = .slice A0 k c0 := (hpo 5 18 (by kernel_rfl)).trans hV0
        have e4 : a_.tmps.getD 23 undef = .slice (some q) (n - (k + 1)) (c - (k + 1)) := (hpo 10 23 (by kernel_rfl)).trans (hJ.get 10 (by decide) (by decide) (by decide) (by decide) (hd 10 (by kernel_rfl)) rfl)
        refine .inl ⟨rfl, ?_⟩
        refine wp_append_own u (.tmp 18) (.tmp 23) 27 rfl v1.heap.size 51 i0 (.agg #[.int .i64 0, .int .i64 0, .int .i64 0, .int .i64 0, .slice none 0 0]) 5 56 Tryz.underlying27 hi hz0 hz1 hz2 rfl (by decide) (.slice A0 k c0) k (flat5 (ds.take k)) e0 ho0 q (n - (k + 1)) (c - (k + 1)) (flat5 (ds.drop (k + 1))) e4 (by rw [flat_length, List.length_drop, HLN.out]) (src_from RO.out (hJ.but.block _ RLT.out RNE.out) k (by rw [HLN.out]; exact HQ.out)) (flat_one _) (by unfold maxLen; have := HNM.out; omega) (by have := HNM.out; have := HKN.out; omega) hJ.but.size (fun v' w' h1 h2 h3 => ?_)
        obtain ⟨A', c', rfl⟩ := own_form h1
        have hkn := HKN.out
        rw [show k + (n - (k + 1)) = n - 1 by omega] at h1 ⊢
        exact ⟨_, rfl, hJ.ap11 hs h5 NLT.out h1 h2 (fun z hz => (ho0.lt z hz).1), (Jx.cl_add hcl (by show (s_ 5 && (s_ 10 && true)) = true; rw [hd 5 (by kernel_rfl), hd 10 (by kernel_rfl)]; rfl))⟩
      · intro s_ a_ u V hs hd hfr hpo hJ
        obtain ⟨hJ, hcl⟩ := hJ
        have f2 : a_.tmps.getD 2 undef = .pointer (some ⟨w.heap.size, 0, none⟩) := hfr 2 (by kernel_rfl)
        refine .inl ⟨rfl, ?_⟩
        unfold Oper.wp
        rw [show (execOp a_.eval _).run Tryz.prog u = .ok (.value (.pointer (some ⟨w.heap.size, 3, none⟩))) u from by simp [go_sem, Act.eval, f2]]
        exact ⟨_, rfl, hJ.step 12 (by decide) (by decide) (by decide) (by decide) rfl, (Jx.cl_add hcl rfl)⟩
      · intro s_ a_ u V hs hd hfr hpo hJ
        obtain ⟨hJ, hcl⟩ := hJ
        have h11 : s_ 11 = true := hd 11 (by kernel_rfl)
        obtain ⟨A1, c1, hV, ho, _⟩ := hJ.r11 h11
        have e11 : a_.tmps.getD 24 undef = .slice A1 (n - 1) c1 := (hpo 11 24 (by kernel_rfl)).trans hV
        have e12 : a_.tmps.getD 25 undef = .pointer (some ⟨w.heap.size, 3, none⟩) := (hpo 12 25 (by kernel_rfl)).trans (hJ.get 12 (by decide) (by decide) (by decide) (by decide) (hd 12 (by kernel_rfl)) rfl)
        have cg := box_cell (hJ.bx hs) 3 (v := .slice (some ⟨r, 0, none⟩) n c) rfl
        have fg := box_free (hJ.bx hs) 3
        refine .inl ⟨rfl, ?_⟩
        unfold Oper.wp
        rw [show (execOp a_.eval _).run Tryz.prog u = .ok .skip (u.setCell ⟨w.heap.size, 3, none⟩ (.slice A1 (n - 1) c1)) from by simp [go_sem, Act.eval, e11, e12, cg, fg]]
        exact ⟨undef, rfl, hJ.st13 hs h11 NLT.out hV (by simp) undef, (Jx.cl_add hcl (by show (s_ 12 && (s_ 11 && true)) = true; rw [hd 12 (by kernel_rfl), hd 11 (by kernel_rfl)]; rfl))⟩
    · intro s_ V u5 hall hJ
      obtain ⟨hJ, hcl⟩ := hJ
      obtain ⟨A1, c1, hV, ho, hbx⟩ := hJ.r11 (hall 11 (by decide))
      have X5 := Lib.hid (show u5.heap[w.heap.size]? = some (.cells ([.int .i64 has.c, .int .i64 has.m, .int .i64 has.p, .slice A1 (n - 1) c1] : List Value).toArray 29 (0, 0)) from hbx (hall 13 (by decide)))
      have Z5 := Lib.hid ((hJ.but.block _ (lt_of_block Z1.out) (by omega)).trans Z1.out)
      have B5 := Lib.hid (hJ.but.below B1.out B1.out.size (Nat.le_refl _))
      have L5 := Lib.hid (show (ds.take k ++ ds.drop (k + 1)).length = n - 1 by rw [List.length_append, List.length_take, List.length_drop, HLN.out]; omega)
      have O5 := Lib.hid (show u5.ownsRow 0 51 5 (.slice A1 (n - 1) c1) (n - 1) (flat5 (ds.take k ++ ds.drop (k + 1))) by rw [flat_cat]; exact owns_base ho (Nat.zero_le _))
      clear hall hcl hJ ho hbx hV HTo HFrom wi wi2 hlt0 hge0
      simp only [Bxs.puts, Nat.reduceAdd, put_none, put_lit, List.set_cons_succ, List.set_cons_zero]
      have RN := Lib.hid (range_box X5.out)
      obtain ⟨w6, hw6⟩ : ∃ v, u5.setCells (w.heap.size + 1) 0 [.int .i64 has.c, .int .i64 has.m, .int .i64 has.p, .slice A1 (n - 1) c1] = v := ⟨_, rfl⟩
      have THy := Lib.hid (show u5.there (w.heap.size + 1) 0 4 from Back.th Z5.out rfl)
      have ONEy := Lib.hid (show ([.int .i64 has.c, .int .i64 has.m, .int .i64 has.p, .slice A1 (n - 1) c1] : List Value).toArray.all (·.oneCell') = true by simp [Value.oneCell'])
      have HVy := Lib.hid hw6
      have Z6 := Lib.hid (show w6.heap[w.heap.size + 1]? = some (.cells ([.int .i64 has.c, .int .i64 has.m, .int .i64 has.p, .slice A1 (n - 1) c1] : List Value).toArray 29 (0, 0)) by rw [← hw6]; exact Back.st Z5.out rfl)
      have B6 := Lib.hid (show Below w.heap.size w w6 by rw [← hw6]; exact bel_set B5.out (by omega))
      have O6 := Lib.hid (show w6.ownsRow 0 51 5 (.slice A1 (n - 1) c1) (n - 1) (flat5 (ds.take k ++ ds.drop (k + 1))) from owns_of O5.out fun r2 hr2 => by
        obtain ⟨_, cur, h2⟩ := owns_at O5.out hr2
        have hne : r2 ≠ w.heap.size + 1 := fun e => by
          rw [e, Z5.out] at h2
          injection h2 with h2
          injection h2 with h2 h3
          exact absurd h3 (by decide)
        rw [← hw6]; exact (Back.far _ _ 0 u5).2.2.2.2 r2 hne)
      clear hw6
      go_wp2_with (first | (refine wpList_load_mid rfl 29 _ rfl _ _ rfl _ _ RN.out Tryz.underlying29 rfl (by kernel_rfl) ?_) | (refine wpList_store_at rfl 29 _ _ rfl _ _ _ rfl rfl THy.out (by kernel_rfl) ONEy.out HVy.out ?_))
      refine bodyPost_ret (v := .tuple #[.agg ([.int .i64 has.c, .int .i64 has.m, .int .i64 has.p, .slice A1 (n - 1) c1] : List Value).toArray, .int .i64 0]) (res_rel _ _ _ [.int .i64 has.c, .int .i64 has.m, .int .i64 has.p, .slice A1 (n - 1) c1] _ rfl rfl Z6.out rfl) rfl ?_
      have HM : ∀ d ∈ ds.take k ++ ds.drop (k + 1), d ∈ ds := fun d hd => by
        rcases List.mem_append.1 hd with h | h
        · exact List.mem_of_mem_take h
        · exact List.mem_of_mem_drop h
      exact ⟨A1, c1, ds.take k ++ ds.drop (k + 1), by rw [HE.out, L5.out], HC.out.symm, ⟨by rw [L5.out]; exact O6.out, fun d hd => owns_base ((H.out.below B6.out).ps d (HM d hd)) (Nat.zero_le _), by rw [L5.out]; omega, fun d hd => H.out.ask d (HM d hd)⟩, B6.out⟩
end Nd
end Go.Proofs.YtbichomjpmmjmaaGreatDoor
