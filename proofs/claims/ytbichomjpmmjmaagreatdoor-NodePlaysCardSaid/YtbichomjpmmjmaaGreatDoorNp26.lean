/-
  The chapter's example of package node holds. All that was there is left as it was. Condition: the listed variables are laid.
-/
import Derived.Test.YtbichomjpmmjmaaGreatDoorNp21
import Derived.Test.YtbichomjpmmjmaaGreatDoorNp25
import Derived.Test.YtbichomjpmmjmaaGreatDoorNp22
set_option linter.unusedVariables false
set_option linter.unusedSimpArgs false
namespace Go.Proofs.YtbichomjpmmjmaaGreatDoor
open Go.ChangeShapes Go.WideShapes Go.ChangeAt Go.RowKit Go.Lib
open NumMath
namespace Nn
open Re Nd Sd SpecOwn
def wC (a : Rx) : Ctr := ⟨⟨#[97]⟩, ⟨#[98, 58, 49]⟩, a.c, a.m, a.p, 0, 0, 0, [], 0, 0⟩
def wS (a : Rx) : Spc := ⟨⟨#[119]⟩, [], [], [wC a], 1, 0, 0⟩
def a310 : Rx := ⟨3, 1, 0⟩
def n444 : Rx := ⟨4, 4, 4⟩
theorem w_fine : checkV (wS a310) = fine := by decide +kernel
theorem w_ask : askS (wS a310) = ⟨true, a310, []⟩ := by
  unfold askS
  rw [w_fine]
  rfl
theorem w_light (a : Rx) : Book.Light (wS a) := by
  refine ⟨⟨show (⟨#[119]⟩ : ByteArray).size ≤ 100 by decide, by simp [wS], by simp [wS], by simp [wS]⟩, ?_, ?_, ?_⟩
  · intro x hx; cases hx
  · intro x hx; cases hx
  · intro x hx
    simp only [wS, List.mem_cons, List.not_mem_nil, or_false] at hx
    subst hx
    exact ⟨show (⟨#[97]⟩ : ByteArray).size ≤ 100 by decide, show (⟨#[98, 58, 49]⟩ : ByteArray).size ≤ 100 by decide, by simp [wC]⟩
theorem w_adm1 : admC n444 [] 1 (askS (wS a310)) = 0 := by rw [w_ask]; decide +kernel
theorem w_adm1l : admL n444 [] 1 (askS (wS a310)) = [⟨1, a310, []⟩] := by rw [adm_come w_adm1, w_ask]; rfl
theorem w_adm2 : admC n444 [⟨1, a310, []⟩] 2 (askS (wS a310)) = 160 := by rw [w_ask]; decide +kernel
theorem w_adm2l : admL n444 [⟨1, a310, []⟩] 2 (askS (wS a310)) = [⟨1, a310, []⟩] := adm_stay (by rw [w_adm2]; decide)
theorem w_left : (subR n444 (usedR [⟨1, a310, []⟩])).1 = ⟨1, 3, 4⟩ := by rfl
/-- the example's container -/
def WcIn (w : World) (q : Nat) (a : Rx) : Prop := w.heap[q]? = some (.cells ([.string ⟨#[97]⟩, .string ⟨#[98, 58, 49]⟩, .int .i64 a.c, .int .i64 a.m, .int .i64 a.p, .int .i64 0, .int .i64 0, .int .i64 0, .slice none 0 0, .int .i64 0, .int .i64 0] : List Value).toArray 105 (0, 0))
theorem WcIn.spec {w : World} {q : Nat} {a : Rx} (h : WcIn w q a) (ha : a.Ok) : (wS a).In w none 0 none 0 (some ⟨q, 0, none⟩) 1 := by
  have lt1 := lt_of_block h
  have h1 := fits_iff.1 ha.c; have h2 := fits_iff.1 ha.m; have h3 := fits_iff.1 ha.p
  refine ⟨?_, ?_, ?_, by simp [wS], by simp [wS], by simp [wS], by show I64 1; unfold I64; decide, i64_0, i64_0⟩
  · intro k x hk; simp [wS] at hk
  · intro k x hk; simp [wS] at hk
  · intro k x hk
    rcases k with _ | k
    · simp only [wS, List.getElem?_cons_zero, Option.some.injEq] at hk
      subst hk
      refine ⟨⟨by show I64 a.c; unfold I64; omega, by show I64 a.m; unfold I64; omega, by show I64 a.p; unfold I64; omega, i64_0, i64_0, i64_0, i64_0, i64_0, by simp [wC]⟩, ⟨q, 0, none⟩, none, 0, rfl, lt1, ?_, fun k z hz => by simp [wC] at hz⟩
      unfold WcIn at h
      simp [Ctr.cellsAt, wC, World.cell?, Addr.add, h]
    · simp [wS] at hk
theorem WcIn.kn {B : Nat} {w u : World} {q : Nat} {a : Rx} (h : WcIn w q a) (hk : Kn B w u) : WcIn u q a := (hk.block q (lt_of_block h) (.inr (not_n h (by decide) (by decide) (by decide)))).trans h
theorem res_asks (tmps : Array Value) (w : World) (p : Nat) (xs : List Value) (h2 : tmps.getD 2 undef = .pointer (some ⟨p, 0, none⟩)) (hX : w.heap[p]? = some (.cells xs.toArray 35 (0, 0))) (hm : xs.length = 7) :
    (results Tryz.f32 tmps).run Tryz.prog w = .ok (.agg xs.toArray) w := by
  have h1 : (loadVar 35 ⟨p, 0, none⟩).run Tryz.prog w = .ok (.agg xs.toArray) w := run_loadVar_mid w p 0 35 _ _ (range_box hX) Tryz.underlying35 rfl (by rw [hm]; kernel_rfl)
  simp only [results, Tryz.results32]
  simp only [Array.getD_eq_getD_getElem?] at h2
  have ha : (asAddr (tmps[2]?.getD undef)).run Tryz.prog w = .ok ⟨p, 0, none⟩ w := by rw [h2]; rfl
  simp [Sem.run_bind, h1, ha]
set_option maxRecDepth 100000 in
set_option maxHeartbeats 1000000 in
theorem asks_any (a : Rx) (w : World) : Calls Tryz.prog 32 #[.agg (R3 a).toArray] w fun e w' => ∃ q, e = .returned (.agg ([.string ⟨#[119]⟩, .slice none 0 0, .slice none 0 0, .slice (some ⟨q, 0, none⟩) 1 1, .int .i64 1, .int .i64 0, .int .i64 0] : List Value).toArray) ∧ WcIn w' q a ∧ Below w.heap.size w w' := by
  obtain ⟨w1, hw1⟩ : ∃ v, w.alloc (.cells (R3 a).toArray 23) = v := ⟨_, rfl⟩
  have hs1 : w1.heap.size = w.heap.size + 1 := by rw [← hw1]; simp
  have R1 : w1.heap[w.heap.size]? = some (.cells (R3 a).toArray 23 (0, 0)) := by rw [← hw1]; exact heap_alloc_new w _
  have B1 := Lib.hid (show Below w.heap.size w w1 by rw [← hw1]; exact (Below.refl _ _).alloc (Nat.le_refl _) _)
  obtain ⟨w2, hw2⟩ : ∃ v, w1.alloc (.cells #[.string ⟨#[]⟩, .slice none 0 0, .slice none 0 0, .slice none 0 0, .int .i64 0, .int .i64 0, .int .i64 0] 35) = v := ⟨_, rfl⟩
  have hb2 : Below w1.heap.size w1 w2 := by rw [← hw2]; exact (Below.refl _ _).alloc (Nat.le_refl _) _
  have Z2 : w2.heap[w1.heap.size]? = some (.cells #[.string ⟨#[]⟩, .slice none 0 0, .slice none 0 0, .slice none 0 0, .int .i64 0, .int .i64 0, .int .i64 0] 35 (0, 0)) := by rw [← hw2]; exact heap_alloc_new w1 _
  have RR := Lib.hid (range_box ((hb2.block _ (lt_of_block R1)).trans R1))
  have B2 := Lib.hid (B1.out.trans (hb2.mono B1.out.size))
  obtain ⟨w3, hw3⟩ : ∃ v, w2.alloc (.cells ([.string ⟨#[97]⟩, .string ⟨#[98, 58, 49]⟩, .int .i64 a.c, .int .i64 a.m, .int .i64 a.p, .int .i64 0, .int .i64 0, .int .i64 0, .slice none 0 0, .int .i64 0, .int .i64 0] : List Value).toArray 105) = v := ⟨_, rfl⟩
  have hb3 : Below w2.heap.size w2 w3 := by rw [← hw3]; exact (Below.refl _ _).alloc (Nat.le_refl _) _
  have C3 : WcIn w3 w2.heap.size a := by rw [← hw3]; exact heap_alloc_new w2 _
  have Z3 := (hb3.block _ (lt_of_block Z2)).trans Z2
  have B3 := Lib.hid (B2.out.trans (hb3.mono B2.out.size))
  obtain ⟨w4, hw4⟩ : ∃ v, w3.setCells w1.heap.size 0 ([.string ⟨#[119]⟩, .slice none 0 0, .slice none 0 0, .slice (some ⟨w2.heap.size, 0, none⟩) 1 1, .int .i64 1, .int .i64 0, .int .i64 0]) = v := ⟨_, rfl⟩
  have THy := Lib.hid (show w3.there w1.heap.size 0 7 from Back.th Z3 rfl)
  have ONEy := Lib.hid (show ([.string ⟨#[119]⟩, .slice none 0 0, .slice none 0 0, .slice (some ⟨w2.heap.size, 0, none⟩) 1 1, .int .i64 1, .int .i64 0, .int .i64 0] : List Value).toArray.all (·.oneCell') = true by simp [Value.oneCell'])
  have HVy := Lib.hid hw4
  have Z4 := Lib.hid (show w4.heap[w1.heap.size]? = some (.cells ([.string ⟨#[119]⟩, .slice none 0 0, .slice none 0 0, .slice (some ⟨w2.heap.size, 0, none⟩) 1 1, .int .i64 1, .int .i64 0, .int .i64 0] : List Value).toArray 35 (0, 0)) by rw [← hw4]; exact Back.st Z3 rfl)
  have B4 := Lib.hid (show Below w.heap.size w w4 by rw [← hw4]; exact bel_set B3.out B1.out.size)
  have C4 := Lib.hid (show WcIn w4 w2.heap.size a by rw [← hw4]; exact ((Back.far w1.heap.size ([.string ⟨#[119]⟩, .slice none 0 0, .slice none 0 0, .slice (some ⟨w2.heap.size, 0, none⟩) 1 1, .int .i64 1, .int .i64 0, .int .i64 0]) 0 w3).2.2.2.2 _ (by have := lt_of_block Z2; omega)).trans C3)
  clear hw4 Z2 Z3 R1 hb2 hb3 C3 hs1
  go_enter Tryz.func32, Tryz.ntmps32
  go_wp2_with (first
    | (refine wpList_load_mid rfl 23 _ rfl _ _ rfl _ _ RR.out Tryz.underlying23 rfl (by kernel_rfl) ?_)
    | (refine wpList_store_at rfl 35 _ _ rfl _ _ _ rfl rfl THy.out (by kernel_rfl) ONEy.out HVy.out ?_))
  refine bodyPost_ret (v := .agg ([.string ⟨#[119]⟩, .slice none 0 0, .slice none 0 0, .slice (some ⟨w2.heap.size, 0, none⟩) 1 1, .int .i64 1, .int .i64 0, .int .i64 0] : List Value).toArray) (res_asks _ _ _ ([.string ⟨#[119]⟩, .slice none 0 0, .slice none 0 0, .slice (some ⟨w2.heap.size, 0, none⟩) 1 1, .int .i64 1, .int .i64 0, .int .i64 0]) rfl Z4.out rfl) rfl ?_
  exact ⟨_, rfl, C4.out, B4.out⟩
theorem a310_ok : a310.Ok := ⟨by decide, by decide, by decide⟩
theorem n444_ok : n444.Ok := ⟨by decide, by decide, by decide⟩
def wkF (g q : Nat) (j : Nat) (s : Nat → Bool) (V : Nat → Value) (u : World) : Prop := match j with
  | 0 => V 0 = .pointer (some ⟨g, 0, none⟩)
  | 1 => V 1 = .agg ([.string ⟨#[119]⟩, .slice none 0 0, .slice none 0 0, .slice (some ⟨q, 0, none⟩) 1 1, .int .i64 1, .int .i64 0, .int .i64 0] : List Value).toArray
  | 2 => V 2 = .int .i64 0
  | 3 => V 3 = .pointer (some ⟨g, 0, none⟩)
  | 4 => V 4 = .agg ([.string ⟨#[119]⟩, .slice none 0 0, .slice none 0 0, .slice (some ⟨q, 0, none⟩) 1 1, .int .i64 1, .int .i64 0, .int .i64 0] : List Value).toArray
  | 5 => V 5 = .int .i64 160
  | 6 => V 6 = .int .i64 0
  | 7 => V 7 = .int .i64 160
  | _ => True
theorem wkF_loc (g q : Nat) : Jx.Loc (wkF g q) [(2, 0), (2, 1), (5, 3), (5, 4), (5, 2), (6, 2), (7, 5)] := fun j s V V' u hk h => match j, hk, h with
  | 0, hk, h => by
    show V' 0 = .pointer (some ⟨g, 0, none⟩)
    rw [hk 0 (.inl rfl)]
    exact h
  | 1, hk, h => by
    show V' 1 = .agg ([.string ⟨#[119]⟩, .slice none 0 0, .slice none 0 0, .slice (some ⟨q, 0, none⟩) 1 1, .int .i64 1, .int .i64 0, .int .i64 0] : List Value).toArray
    rw [hk 1 (.inl rfl)]
    exact h
  | 2, hk, h => by
    show V' 2 = .int .i64 0
    rw [hk 2 (.inl rfl)]
    exact h
  | 3, hk, h => by
    show V' 3 = .pointer (some ⟨g, 0, none⟩)
    rw [hk 3 (.inl rfl)]
    exact h
  | 4, hk, h => by
    show V' 4 = .agg ([.string ⟨#[119]⟩, .slice none 0 0, .slice none 0 0, .slice (some ⟨q, 0, none⟩) 1 1, .int .i64 1, .int .i64 0, .int .i64 0] : List Value).toArray
    rw [hk 4 (.inl rfl)]
    exact h
  | 5, hk, h => by
    show V' 5 = .int .i64 160
    rw [hk 5 (.inl rfl)]
    exact h
  | 6, hk, h => by
    show V' 6 = .int .i64 0
    rw [hk 6 (.inl rfl)]
    exact h
  | 7, hk, h => by
    show V' 7 = .int .i64 160
    rw [hk 7 (.inl rfl)]
    exact h
  | n + 8, _, _ => trivial
theorem wkF_mono (g q : Nat) : Jx.Mono (wkF g q) := fun j s i V u u' hb h => match j, h with
  | 0, h => h
  | 1, h => h
  | 2, h => h
  | 3, h => h
  | 4, h => h
  | 5, h => h
  | 6, h => h
  | 7, h => h
  | n + 8, _ => trivial
theorem wk_keep (g q : Nat) (j : Nat) (s s' : Nat → Bool) (V : Nat → Value) (u u' : World) (h : wkF g q j s V u) : wkF g q j s' V u' := match j, h with
  | 0, h => h
  | 1, h => h
  | 2, h => h
  | 3, h => h
  | 4, h => h
  | 5, h => h
  | 6, h => h
  | 7, h => h
  | n + 8, _ => trivial
set_option maxRecDepth 100000 in
set_option maxHeartbeats 4000000 in
theorem works_any (w : World) (hSL : SLaid w) : Calls Tryz.prog 9 #[] w fun e w' => e = .returned (.bool true) ∧ Below w.heap.size w w' := by
  have HSL := Lib.hid hSL
  clear hSL
  go_enter Tryz.func9, Tryz.ntmps9
  go_wp2_with fail
  refine (show Calls Tryz.prog 6 #[.agg (R3 n444).toArray] w _ from new_any n444 n444_ok w).mono ?_
  rintro e w1 ⟨g, rfl, hN, hb1⟩
  have N1 := Lib.hid (show Nn w.heap.size w1 g n444 [] from hN)
  have B1 := Lib.hid hb1
  clear hN hb1
  go_wp2_with fail
  refine (show Calls Tryz.prog 32 #[.agg (R3 a310).toArray] w1 _ from asks_any a310 w1).mono ?_
  rintro e w2 ⟨q, rfl, hC, hb2⟩
  have B2 := Lib.hid (B1.out.trans (hb2.mono B1.out.size))
  have N2 := Lib.hid (N1.out.below hb2)
  have C2 := Lib.hid hC
  clear hC hb2
  obtain ⟨w3, hw3⟩ : ∃ v, w2.alloc (.cells #[.string ⟨#[]⟩, .slice none 0 0, .slice none 0 0, .slice none 0 0, .int .i64 0, .int .i64 0, .int .i64 0] 35) = v := ⟨_, rfl⟩
  have hb3 : Below w2.heap.size w2 w3 := by rw [← hw3]; exact (Below.refl _ _).alloc (Nat.le_refl _) _
  have Z3 : w3.heap[w2.heap.size]? = some (.cells #[.string ⟨#[]⟩, .slice none 0 0, .slice none 0 0, .slice none 0 0, .int .i64 0, .int .i64 0, .int .i64 0] 35 (0, 0)) := by rw [← hw3]; exact heap_alloc_new w2 _
  obtain ⟨w4, hw4⟩ : ∃ v, w3.setCells w2.heap.size 0 ([.string ⟨#[119]⟩, .slice none 0 0, .slice none 0 0, .slice (some ⟨q, 0, none⟩) 1 1, .int .i64 1, .int .i64 0, .int .i64 0]) = v := ⟨_, rfl⟩
  have THy := Lib.hid (show w3.there w2.heap.size 0 7 from Back.th Z3 rfl)
  have ONEy := Lib.hid (show ([.string ⟨#[119]⟩, .slice none 0 0, .slice none 0 0, .slice (some ⟨q, 0, none⟩) 1 1, .int .i64 1, .int .i64 0, .int .i64 0] : List Value).toArray.all (·.oneCell') = true by simp [Value.oneCell'])
  have HVy := Lib.hid hw4
  have Z4 := Lib.hid (show w4.heap[w2.heap.size]? = some (.cells ([.string ⟨#[119]⟩, .slice none 0 0, .slice none 0 0, .slice (some ⟨q, 0, none⟩) 1 1, .int .i64 1, .int .i64 0, .int .i64 0] : List Value).toArray 35 (0, 0)) by rw [← hw4]; exact Back.st Z3 rfl)
  have hb4 : Below w2.heap.size w2 w4 := by rw [← hw4]; exact bel_set hb3 (Nat.le_refl _)
  have B4 := Lib.hid (B2.out.trans (hb4.mono B2.out.size))
  have N4 := Lib.hid (N2.out.below hb4)
  have C4 := Lib.hid (show WcIn w4 q a310 from (hb4.block _ (lt_of_block C2.out)).trans C2.out)
  clear hw4 Z3 hb3 hb4
  go_wp2_with (first
    | (refine wpList_store_at rfl 35 _ _ rfl _ _ _ rfl rfl THy.out (by kernel_rfl) ONEy.out HVy.out ?_))
  clear hw3 THy ONEy HVy
  refine Vls.wp_region (by kernel_rfl) (Jx.GJ (wkF g q) [(2, 0), (2, 1), (5, 3), (5, 4), (5, 2), (6, 2), (7, 5)] (fun s u => Kn w.heap.size w4 u ∧ Nn w.heap.size u g n444 (if s 2 = true then [⟨1, a310, []⟩] else []))) (by kernel_rfl) (fun _ => undef) (Jx.GJ.start (⟨Kn.of_below (Below.drew (Below.refl _ _)), by rw [if_neg (by decide)]; exact N4.out.below (Below.drew (Below.refl _ _))⟩) _) ?_ ?_
  · refine ⟨?_, ?_, ?_, ?_, ?_, ?_, ?_, ?_, trivial⟩
    · intro s_ a_ u V hs hd hfr hpo hJ
      have hW := hJ.w
      have f1 : a_.tmps.getD 1 undef = .pointer (some ⟨g, 0, none⟩) := hfr 1 (by kernel_rfl)
      refine .inl ⟨rfl, ?_⟩
      unfold Oper.wp
      rw [show (execOp a_.eval _).run Tryz.prog u = .ok (.value (.pointer (some ⟨g, 0, none⟩))) u from by simp [go_sem, Act.eval, f1]]
      exact ⟨_, rfl, hJ.step 0 hs rfl (wkF_loc g q) (fun j _ h => wkF_mono g q j _ _ _ _ _ (Below.refl _ _) h) (by simpa using hW) (rfl)⟩
    · intro s_ a_ u V hs hd hfr hpo hJ
      have hW := hJ.w
      have f2 : a_.tmps.getD 2 undef = .pointer (some ⟨w2.heap.size, 0, none⟩) := hfr 2 (by kernel_rfl)
      refine .inl ⟨rfl, ?_⟩
      exact wp_load_mid 35 (.tmp 2) rfl (w2.heap.size) (0) f2 [.string ⟨#[119]⟩, .slice none 0 0, .slice none 0 0, .slice (some ⟨q, 0, none⟩) 1 1, .int .i64 1, .int .i64 0, .int .i64 0] _ (range_box ((hW.1.block _ (lt_of_block Z4.out) (.inr (not_n Z4.out (by decide) (by decide) (by decide)))).trans Z4.out)) Tryz.underlying35 rfl (by kernel_rfl) ⟨_, rfl, hJ.step 1 hs rfl (wkF_loc g q) (fun j _ h => wkF_mono g q j _ _ _ _ _ (Below.refl _ _) h) (by simpa using hW) (rfl)⟩
    · intro s_ a_ u V hs hd hfr hpo hJ
      have hW := hJ.w
      have e0 : a_.tmps.getD 11 undef = .pointer (some ⟨g, 0, none⟩) := (hpo 0 11 (by kernel_rfl)).trans (show V 0 = .pointer (some ⟨g, 0, none⟩) from hJ.f 0 (hd 0 (by kernel_rfl)))
      have e1 : a_.tmps.getD 12 undef = .agg ([.string ⟨#[119]⟩, .slice none 0 0, .slice none 0 0, .slice (some ⟨q, 0, none⟩) 1 1, .int .i64 1, .int .i64 0, .int .i64 0] : List Value).toArray := (hpo 1 12 (by kernel_rfl)).trans (show V 1 = .agg ([.string ⟨#[119]⟩, .slice none 0 0, .slice none 0 0, .slice (some ⟨q, 0, none⟩) 1 1, .int .i64 1, .int .i64 0, .int .i64 0] : List Value).toArray from hJ.f 1 (hd 1 (by kernel_rfl)))
      have hW := (show Kn w.heap.size w4 u ∧ Nn w.heap.size u g n444 [] from ⟨hW.1, by have := hW.2; rw [if_neg (by rw [hs]; decide)] at this; exact this⟩)
      refine .inl ⟨rfl, ?_⟩
      unfold Oper.wp
      rw [show (execOp a_.eval _).run Tryz.prog u = .ok (.enter 21 #[.pointer (some ⟨g, 0, none⟩), .int .i64 1, .agg ([.string ⟨#[119]⟩, .slice none 0 0, .slice none 0 0, .slice (some ⟨q, 0, none⟩) 1 1, .int .i64 1, .int .i64 0, .int .i64 0] : List Value).toArray]) u from by simp [go_sem, Act.eval, e0, e1]]
      have CA := admit_any 1 (wS a310) none 0 none 0 (some ⟨q, 0, none⟩) 1 (by decide) (w_light _) u hW.2 (HSL.out.below (hW.1.below B4.out.size (Nat.le_refl _) |> B4.out.trans)) (fun v hv => ((C4.out.kn hW.1).kn hv).spec a310_ok)
      rw [w_adm1, w_adm1l] at CA
      refine Calls.mono CA ?_
      rintro e u2 ⟨rfl, hn2, hk2⟩
      have hb : Kn w.heap.size u u2 := hk2
      exact ⟨_, rfl, hJ.step 2 hs (by show (s_ 0 && (s_ 1 && true)) = true; rw [hd 0 (by kernel_rfl), hd 1 (by kernel_rfl)]; rfl) (wkF_loc g q) (fun j _ h => wk_keep g q j _ _ _ _ _ h) (⟨hW.1.trans hb, by rw [if_pos (by simp)]; exact hn2⟩) (rfl)⟩
    · intro s_ a_ u V hs hd hfr hpo hJ
      have hW := hJ.w
      have f1 : a_.tmps.getD 1 undef = .pointer (some ⟨g, 0, none⟩) := hfr 1 (by kernel_rfl)
      refine .inl ⟨rfl, ?_⟩
      unfold Oper.wp
      rw [show (execOp a_.eval _).run Tryz.prog u = .ok (.value (.pointer (some ⟨g, 0, none⟩))) u from by simp [go_sem, Act.eval, f1]]
      exact ⟨_, rfl, hJ.step 3 hs rfl (wkF_loc g q) (fun j _ h => wkF_mono g q j _ _ _ _ _ (Below.refl _ _) h) (by simpa using hW) (rfl)⟩
    · intro s_ a_ u V hs hd hfr hpo hJ
      have hW := hJ.w
      have f2 : a_.tmps.getD 2 undef = .pointer (some ⟨w2.heap.size, 0, none⟩) := hfr 2 (by kernel_rfl)
      refine .inl ⟨rfl, ?_⟩
      exact wp_load_mid 35 (.tmp 2) rfl (w2.heap.size) (0) f2 [.string ⟨#[119]⟩, .slice none 0 0, .slice none 0 0, .slice (some ⟨q, 0, none⟩) 1 1, .int .i64 1, .int .i64 0, .int .i64 0] _ (range_box ((hW.1.block _ (lt_of_block Z4.out) (.inr (not_n Z4.out (by decide) (by decide) (by decide)))).trans Z4.out)) Tryz.underlying35 rfl (by kernel_rfl) ⟨_, rfl, hJ.step 4 hs rfl (wkF_loc g q) (fun j _ h => wkF_mono g q j _ _ _ _ _ (Below.refl _ _) h) (by simpa using hW) (rfl)⟩
    · intro s_ a_ u V hs hd hfr hpo hJ
      have hW := hJ.w
      have e3 : a_.tmps.getD 14 undef = .pointer (some ⟨g, 0, none⟩) := (hpo 3 14 (by kernel_rfl)).trans (show V 3 = .pointer (some ⟨g, 0, none⟩) from hJ.f 3 (hd 3 (by kernel_rfl)))
      have e4 : a_.tmps.getD 15 undef = .agg ([.string ⟨#[119]⟩, .slice none 0 0, .slice none 0 0, .slice (some ⟨q, 0, none⟩) 1 1, .int .i64 1, .int .i64 0, .int .i64 0] : List Value).toArray := (hpo 4 15 (by kernel_rfl)).trans (show V 4 = .agg ([.string ⟨#[119]⟩, .slice none 0 0, .slice none 0 0, .slice (some ⟨q, 0, none⟩) 1 1, .int .i64 1, .int .i64 0, .int .i64 0] : List Value).toArray from hJ.f 4 (hd 4 (by kernel_rfl)))
      have e2 : a_.tmps.getD 13 undef = .int .i64 0 := (hpo 2 13 (by kernel_rfl)).trans (show V 2 = .int .i64 0 from hJ.f 2 (hd 2 (by kernel_rfl)))
      have h2_ : s_ 2 = true := hd 2 (by kernel_rfl)
      have hW := (show Kn w.heap.size w4 u ∧ Nn w.heap.size u g n444 [⟨1, a310, []⟩] from ⟨hW.1, by have := hW.2; rw [if_pos h2_] at this; exact this⟩)
      refine .inl ⟨rfl, ?_⟩
      unfold Oper.wp
      rw [show (execOp a_.eval _).run Tryz.prog u = .ok (.enter 21 #[.pointer (some ⟨g, 0, none⟩), .int .i64 2, .agg ([.string ⟨#[119]⟩, .slice none 0 0, .slice none 0 0, .slice (some ⟨q, 0, none⟩) 1 1, .int .i64 1, .int .i64 0, .int .i64 0] : List Value).toArray]) u from by simp [go_sem, Act.eval, e3, e4]]
      have CA := admit_any 2 (wS a310) none 0 none 0 (some ⟨q, 0, none⟩) 1 (by decide) (w_light _) u hW.2 (HSL.out.below (hW.1.below B4.out.size (Nat.le_refl _) |> B4.out.trans)) (fun v hv => ((C4.out.kn hW.1).kn hv).spec a310_ok)
      rw [w_adm2, w_adm2l] at CA
      refine Calls.mono CA ?_
      rintro e u2 ⟨rfl, hn2, hk2⟩
      have hb : Kn w.heap.size u u2 := hk2
      exact ⟨_, rfl, hJ.step 5 hs (by show (s_ 3 && (s_ 4 && (s_ 2 && true))) = true; rw [hd 3 (by kernel_rfl), hd 4 (by kernel_rfl), hd 2 (by kernel_rfl)]; rfl) (wkF_loc g q) (fun j _ h => wk_keep g q j _ _ _ _ _ h) (⟨hW.1.trans hb, by rw [if_pos (by simp [h2_])]; exact hn2⟩) (rfl)⟩
    · intro s_ a_ u V hs hd hfr hpo hJ
      have hW := hJ.w
      have e2 : a_.tmps.getD 13 undef = .int .i64 0 := (hpo 2 13 (by kernel_rfl)).trans (show V 2 = .int .i64 0 from hJ.f 2 (hd 2 (by kernel_rfl)))
      refine .inl ⟨rfl, ?_⟩
      unfold Oper.wp
      rw [show (execOp a_.eval _).run Tryz.prog u = .ok (.value (.int .i64 0)) u from by simp [go_sem, Act.eval, e2]]
      exact ⟨_, rfl, hJ.step 6 hs (by show (s_ 2 && true) = true; rw [hd 2 (by kernel_rfl)]; rfl) (wkF_loc g q) (fun j _ h => wkF_mono g q j _ _ _ _ _ (Below.refl _ _) h) (by simpa using hW) (rfl)⟩
    · intro s_ a_ u V hs hd hfr hpo hJ
      have hW := hJ.w
      have e5 : a_.tmps.getD 16 undef = .int .i64 160 := (hpo 5 16 (by kernel_rfl)).trans (show V 5 = .int .i64 160 from hJ.f 5 (hd 5 (by kernel_rfl)))
      refine .inl ⟨rfl, ?_⟩
      unfold Oper.wp
      rw [show (execOp a_.eval _).run Tryz.prog u = .ok (.value (.int .i64 160)) u from by simp [go_sem, Act.eval, e5]]
      exact ⟨_, rfl, hJ.step 7 hs (by show (s_ 5 && true) = true; rw [hd 5 (by kernel_rfl)]; rfl) (wkF_loc g q) (fun j _ h => wkF_mono g q j _ _ _ _ _ (Below.refl _ _) h) (by simpa using hW) (rfl)⟩
  · intro s_ V w5 hall hJ
    have hW := hJ.w
    rw [if_pos (hall 2 (by decide))] at hW
    have e6 : V 6 = .int .i64 0 := hJ.f 6 (hall 6 (by decide))
    have e7 : V 7 = .int .i64 160 := hJ.f 7 (hall 7 (by decide))
    have N5 := Lib.hid hW.2
    have B5 := Lib.hid (B4.out.trans (hW.1.below B4.out.size (Nat.le_refl _)))
    clear hall hJ hW N4 Z4 C4
    simp only [Bxs.puts, Nat.reduceAdd, put_none, Re.put_lit, List.set_cons_succ, List.set_cons_zero]
    rw [e6, e7]
    clear e6 e7
    have CL := left_any w5 N5.out
    rw [w_left] at CL
    go_wp2_with (first
      | (go_at_call 14; refine CL.mono ?_; clear CL; rintro e w6 ⟨rfl, hb6⟩; have N6 := Lib.hid (N5.out.below hb6); have B6 := Lib.hid (B5.out.trans (hb6.mono B5.out.size)); clear hb6)
      | (go_at_call 26; refine (pods_any w6 N6.out (by decide)).mono ?_; rintro e w7 ⟨A, c, rfl, _, hb7⟩; have B7 := Lib.hid (B6.out.trans (hb7.mono B6.out.size)); clear hb7))
    go_ret
    exact ⟨rfl, B7.out⟩
end Nn
end Go.Proofs.YtbichomjpmmjmaaGreatDoor

/-
  The document's answer for nodes: a node of some resources. All that was there is left as it was. No condition.
-/
set_option linter.unusedVariables false
set_option linter.unusedSimpArgs false
namespace Go.Proofs.YtbichomjpmmjmaaGreatDoor
open Go.ChangeShapes Go.WideShapes Go.ChangeAt Go.RowKit Go.Lib
open NumMath
namespace Nd
open Re Sd
theorem res_new (tmps : Array Value) (w : World) (p : Nat) (xs : List Value) (h2 : tmps.getD 2 undef = .pointer (some ⟨p, 0, none⟩)) (hX : w.heap[p]? = some (.cells xs.toArray 29 (0, 0))) (hm : xs.length = 4) :
    (results Tryz.f7 tmps).run Tryz.prog w = .ok (.agg xs.toArray) w := by
  have h1 : (loadVar 29 ⟨p, 0, none⟩).run Tryz.prog w = .ok (.agg xs.toArray) w := run_loadVar_mid w p 0 29 _ _ (range_box hX) Tryz.underlying29 rfl (by rw [hm]; kernel_rfl)
  simp only [results, Tryz.results7]
  simp only [Array.getD_eq_getD_getElem?] at h2
  have ha : (asAddr (tmps[2]?.getD undef)).run Tryz.prog w = .ok ⟨p, 0, none⟩ w := by rw [h2]; rfl
  simp [Sem.run_bind, h1, ha]
set_option maxRecDepth 100000 in
set_option maxHeartbeats 1000000 in
theorem refnew_any (has : Rx) (w : World) :
    Calls Tryz.prog 7 #[.agg #[.int .i64 has.c, .int .i64 has.m, .int .i64 has.p]] w fun e w' => e = .returned (.agg #[.int .i64 (maxR has z3).c, .int .i64 (maxR has z3).m, .int .i64 (maxR has z3).p, .slice none 0 0]) ∧ Below w.heap.size w w' := by
  obtain ⟨w0, hw0⟩ : ∃ v, (w.alloc (.cells #[.int .i64 has.c, .int .i64 has.m, .int .i64 has.p] 23)).alloc (.cells #[.int .i64 0, .int .i64 0, .int .i64 0, .slice none 0 0] 29) = v := ⟨_, rfl⟩
  have R0 := Lib.hid (show w0.heap[w.heap.size]? = some (.cells (R3 has).toArray 23 (0, 0)) by rw [← hw0, Below.heap_alloc _ _ _ (by simp)]; exact heap_alloc_new w _)
  have Z0 := Lib.hid (show w0.heap[w.heap.size + 1]? = some (.cells #[.int .i64 0, .int .i64 0, .int .i64 0, .slice none 0 0] 29 (0, 0)) by rw [← hw0]; have := heap_alloc_new (w.alloc (.cells #[.int .i64 has.c, .int .i64 has.m, .int .i64 has.p] 23)) (.cells #[.int .i64 0, .int .i64 0, .int .i64 0, .slice none 0 0] 29); rw [World.size_alloc] at this; exact this)
  have B0 := Lib.hid (show Below w.heap.size w w0 by rw [← hw0]; go_grown)
  have RR := Lib.hid (range_box R0.out)
  obtain ⟨m, hm⟩ : ∃ m, maxR has z3 = m := ⟨_, rfl⟩
  have HM := Lib.hid hm
  rw [hm]
  clear hm
  go_enter Tryz.func7, Tryz.ntmps7
  go_wp2_with (first | (refine wpList_load_mid rfl 23 _ rfl _ _ rfl _ _ RR.out Tryz.underlying23 rfl (by kernel_rfl) ?_))
  clear hw0
  refine (show Calls Tryz.prog 30 #[.agg (R3 has).toArray, .agg (R3 z3).toArray] w0 (Told1 m w0) by rw [← HM.out]; exact refmax_any has z3 w0).mono ?_
  rintro e v1 ⟨rfl, hb1⟩
  have B1 := Lib.hid (B0.out.trans (hb1.mono B0.out.size))
  have Z1 := Lib.hid ((hb1.block _ (lt_of_block Z0.out)).trans Z0.out)
  clear hb1
  obtain ⟨w6, hw6⟩ : ∃ v, v1.setCells (w.heap.size + 1) 0 [.int .i64 m.c, .int .i64 m.m, .int .i64 m.p, .slice none 0 0] = v := ⟨_, rfl⟩
  have THy := Lib.hid (show v1.there (w.heap.size + 1) 0 4 from Back.th Z1.out rfl)
  have ONEy := Lib.hid (show ([.int .i64 m.c, .int .i64 m.m, .int .i64 m.p, .slice none 0 0] : List Value).toArray.all (·.oneCell') = true by simp [Value.oneCell'])
  have HVy := Lib.hid hw6
  have Z6 := Lib.hid (show w6.heap[w.heap.size + 1]? = some (.cells ([.int .i64 m.c, .int .i64 m.m, .int .i64 m.p, .slice none 0 0] : List Value).toArray 29 (0, 0)) by rw [← hw6]; exact Back.st Z1.out rfl)
  have B6 := Lib.hid (show Below w.heap.size w w6 by rw [← hw6]; exact bel_set B1.out (by omega))
  clear hw6
  go_wp2_with (first | (refine wpList_store_at rfl 29 _ _ rfl _ _ _ rfl rfl THy.out (by kernel_rfl) ONEy.out HVy.out ?_))
  refine bodyPost_ret (v := .agg ([.int .i64 m.c, .int .i64 m.m, .int .i64 m.p, .slice none 0 0] : List Value).toArray) (res_new _ _ _ [.int .i64 m.c, .int .i64 m.m, .int .i64 m.p, .slice none 0 0] rfl Z6.out rfl) rfl ?_
  exact ⟨rfl, B6.out⟩
end Nd
end Go.Proofs.YtbichomjpmmjmaaGreatDoor
