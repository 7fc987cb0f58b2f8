/-
  The program's node: Has, Used, Owner, and whether a port is taken. Condition: the node is one (Nn).
-/
import Derived.Test.YtbichomjpmmjmaaGreatDoorNu7
import Derived.Test.YtbichomjpmmjmaaGreatDoorNu5
import Derived.Test.YtbichomjpmmjmaaGreatDoorNu0
import Derived.Test.YtbichomjpmmjmaaGreatDoorNu1
import Derived.Test.YtbichomjpmmjmaaGreatDoorChecked
import Derived.Test.YtbichomjpmmjmaaGreatDoorNu2
import Derived.WalkKit
import Derived.BigFrame
import Derived.Laws.AppendOwn
import Derived.Laws.AppendOwnNone
import Derived.Laws.OwnMore
import Derived.OwnWalk
import Derived.Great.BuildSlice
import Derived.LoopN
import Derived.ProofKit
import Derived.Deep.QuietTactic
import Derived.BigQuiet
import Derived.IntWalk
import Derived.Laws.Tables
import Derived.Lib.QuietBelow
import Derived.Deep.AppendLies
set_option linter.unusedVariables false
set_option linter.unusedSimpArgs false
namespace Go.Proofs.YtbichomjpmmjmaaGreatDoor
open Go.ChangeShapes Go.WideShapes Go.ChangeAt Go.RowKit Go.Lib
namespace Nn
open Re Nd
theorem res_has (tmps : Array Value) (w : World) (p : Nat) (xs : List Value) (h2 : tmps.getD 2 undef = .pointer (some ⟨p, 0, none⟩)) (hX : w.heap[p]? = some (.cells xs.toArray 23 (0, 0))) (hm : xs.length = 3) :
    (results Tryz.f15 tmps).run Tryz.prog w = .ok (.agg xs.toArray) w := by
  have h1 : (loadVar 23 ⟨p, 0, none⟩).run Tryz.prog w = .ok (.agg xs.toArray) w := run_loadVar_mid w p 0 23 _ _ (range_box hX) Tryz.underlying23 rfl (by rw [hm]; kernel_rfl)
  simp only [results, Tryz.results15]
  simp only [Array.getD_eq_getD_getElem?] at h2
  have ha : (asAddr (tmps[2]?.getD undef)).run Tryz.prog w = .ok ⟨p, 0, none⟩ w := by rw [h2]; rfl
  simp [Sem.run_bind, h1, ha]
theorem res_used (tmps : Array Value) (w : World) (p : Nat) (xs : List Value) (h2 : tmps.getD 2 undef = .pointer (some ⟨p, 0, none⟩)) (hX : w.heap[p]? = some (.cells xs.toArray 23 (0, 0))) (hm : xs.length = 3) :
    (results Tryz.f13 tmps).run Tryz.prog w = .ok (.agg xs.toArray) w := by
  have h1 : (loadVar 23 ⟨p, 0, none⟩).run Tryz.prog w = .ok (.agg xs.toArray) w := run_loadVar_mid w p 0 23 _ _ (range_box hX) Tryz.underlying23 rfl (by rw [hm]; kernel_rfl)
  simp only [results, Tryz.results13]
  simp only [Array.getD_eq_getD_getElem?] at h2
  have ha : (asAddr (tmps[2]?.getD undef)).run Tryz.prog w = .ok ⟨p, 0, none⟩ w := by rw [h2]; rfl
  simp [Sem.run_bind, h1, ha]
set_option maxRecDepth 100000 in
theorem has_any {B : Nat} {g : Nat} {has : Rx} {l : Pods} (w : World) (h : Nn B w g has l) : Calls Tryz.prog 15 #[.pointer (some ⟨g, 0, none⟩)] w (Told1 has w) := by
  obtain ⟨m, p, T, h⟩ := h
  obtain ⟨w0, hw0⟩ : ∃ v, w.alloc (.cells #[.int .i64 0, .int .i64 0, .int .i64 0] 23) = v := ⟨_, rfl⟩
  have B0 := Lib.hid (show Below w.heap.size w w0 by rw [← hw0]; exact (Below.refl _ _).alloc (Nat.le_refl _) _)
  have Z0 := Lib.hid (show w0.heap[w.heap.size]? = some (.cells #[.int .i64 0, .int .i64 0, .int .i64 0] 23 (0, 0)) by rw [← hw0]; exact heap_alloc_new w _)
  have RR := Lib.hid ((h.below B0.out).has3)
  obtain ⟨w6, hw6⟩ : ∃ v, w0.setCells w.heap.size 0 (R3 has) = v := ⟨_, rfl⟩
  have THy := Lib.hid (show w0.there w.heap.size 0 3 from Back.th Z0.out rfl)
  have ONEy := Lib.hid (show (R3 has).toArray.all (·.oneCell') = true by simp [Value.oneCell'])
  have HVy := Lib.hid hw6
  have Z6 := Lib.hid (show w6.heap[w.heap.size]? = some (.cells (R3 has).toArray 23 (0, 0)) by rw [← hw6]; exact Back.st Z0.out rfl)
  have B6 := Lib.hid (show Below w.heap.size w w6 by rw [← hw6]; exact bel_set B0.out (Nat.le_refl _))
  clear hw6 h
  go_enter Tryz.func15, Tryz.ntmps15
  go_wp2_with (first | (refine wpList_load_mid rfl 23 _ rfl _ _ rfl _ _ RR.out Tryz.underlying23 rfl (by kernel_rfl) ?_) | (refine wpList_store_at rfl 23 _ _ rfl _ _ _ rfl rfl THy.out (by kernel_rfl) ONEy.out HVy.out ?_))
  refine bodyPost_ret (v := .agg (R3 has).toArray) (res_has _ _ _ (R3 has) rfl Z6.out rfl) rfl ?_
  exact ⟨rfl, B6.out⟩
set_option maxRecDepth 100000 in
theorem used_any {B : Nat} {g : Nat} {has : Rx} {l : Pods} (w : World) (h : Nn B w g has l) : Calls Tryz.prog 13 #[.pointer (some ⟨g, 0, none⟩)] w (Told1 (usedR l) w) := by
  obtain ⟨m, p, T, h⟩ := h
  obtain ⟨w0, hw0⟩ : ∃ v, w.alloc (.cells #[.int .i64 0, .int .i64 0, .int .i64 0] 23) = v := ⟨_, rfl⟩
  have B0 := Lib.hid (show Below w.heap.size w w0 by rw [← hw0]; exact (Below.refl _ _).alloc (Nat.le_refl _) _)
  have Z0 := Lib.hid (show w0.heap[w.heap.size]? = some (.cells #[.int .i64 0, .int .i64 0, .int .i64 0] 23 (0, 0)) by rw [← hw0]; exact heap_alloc_new w _)
  have RR0 := (h.below B0.out).used3
  obtain ⟨us, hus⟩ : ∃ us, usedR l = us := ⟨_, rfl⟩
  rw [hus] at RR0 ⊢
  have RR := Lib.hid RR0
  obtain ⟨w6, hw6⟩ : ∃ v, w0.setCells w.heap.size 0 (R3 us) = v := ⟨_, rfl⟩
  have THy := Lib.hid (show w0.there w.heap.size 0 3 from Back.th Z0.out rfl)
  have ONEy := Lib.hid (show (R3 us).toArray.all (·.oneCell') = true by simp [Value.oneCell'])
  have HVy := Lib.hid hw6
  have Z6 := Lib.hid (show w6.heap[w.heap.size]? = some (.cells (R3 us).toArray 23 (0, 0)) by rw [← hw6]; exact Back.st Z0.out rfl)
  have B6 := Lib.hid (show Below w.heap.size w w6 by rw [← hw6]; exact bel_set B0.out (Nat.le_refl _))
  clear hw6 h hus RR0
  go_enter Tryz.func13, Tryz.ntmps13
  go_wp2_with (first | (refine wpList_load_mid rfl 23 _ rfl _ _ rfl _ _ RR.out Tryz.underlying23 rfl (by kernel_rfl) ?_) | (refine wpList_store_at rfl 23 _ _ rfl _ _ _ rfl rfl THy.out (by kernel_rfl) ONEy.out HVy.out ?_))
  refine bodyPost_ret (v := .agg (R3 us).toArray) (res_used _ _ _ (R3 us) rfl Z6.out rfl) rfl ?_
  exact ⟨rfl, B6.out⟩
set_option maxRecDepth 100000 in
theorem owner_any {B : Nat} {g : Nat} {has : Rx} {l : Pods} (q : Int) (w : World) (h : Nn B w g has l) : Calls Tryz.prog 16 #[.pointer (some ⟨g, 0, none⟩), .int .i64 q] w fun e w' => e = .returned (.int .i64 (ownR l q)) ∧ Below w.heap.size w w' := by
  obtain ⟨m, p, T, h⟩ := h
  have c7 := h.ports
  have cO := Pt.owner_any q w h.tab h.same.ok (by have := h.few; omega)
  rw [h.same.own] at cO
  obtain ⟨o, ho⟩ : ∃ o, ownR l q = o := ⟨_, rfl⟩
  rw [ho] at cO ⊢
  clear ho h
  go_enter Tryz.func16, Tryz.ntmps16
  go_wp2_with (go_at_call 39; refine cO.mono ?_; clear cO; rintro e w1 ⟨rfl, hb⟩; have HB := Lib.hid hb; clear hb)
  go_ret
  exact ⟨rfl, HB.out⟩
set_option maxRecDepth 100000 in
theorem taken_any {B : Nat} {g : Nat} {has : Rx} {l : Pods} (q : Int) (w : World) (h : Nn B w g has l) : Calls Tryz.prog 48 #[.pointer (some ⟨g, 0, none⟩), .int .i64 q] w fun e w' => e = .returned (.bool (ownR l q != 0)) ∧ Below w.heap.size w w' := by
  have cO := owner_any q w h
  obtain ⟨o, ho⟩ : ∃ o, ownR l q = o := ⟨_, rfl⟩
  rw [ho] at cO ⊢
  clear ho h
  go_enter Tryz.func48, Tryz.ntmps48
  go_wp2_with (go_at_call 16; refine cO.mono ?_; clear cO; rintro e w1 ⟨rfl, hb⟩; have HB := Lib.hid hb; clear hb)
  all_goals (go_ret; exact ⟨by simp_all [bne], HB.out⟩)
/-- the first port that is taken; -1: none -/
def idxT (l : Pods) : Nat → List Int → Int
  | _, [] => -1
  | k, x :: ps => if ownR l x = 0 then idxT l (k + 1) ps else (k : Int)
theorem idxT_spec (l : Pods) : ∀ (ps : List Int) (k : Nat), (idxT l k ps = -1 ∧ anyOwn l ps = false) ∨ (0 ≤ idxT l k ps ∧ anyOwn l ps = true)
  | [], k => .inl ⟨rfl, rfl⟩
  | x :: ps, k => by
    unfold idxT anyOwn
    by_cases h : ownR l x = 0
    · rw [if_pos h, List.any_cons, h]
      exact idxT_spec l ps (k + 1)
    · rw [if_neg h, List.any_cons]
      exact .inr ⟨by omega, by simp [h]⟩
set_option maxRecDepth 100000 in
theorem index_any {B B2 : Nat} {g : Nat} {has : Rx} {l : Pods} (A : Option Addr) (c : Nat) (ps : List Int) (w : World) (h : Nn B w g has l) (hA : w.ownsRow B2 3 1 (.slice A ps.length c) ps.length (ps.map (Value.int .i64))) (hn : ps.length ≤ 100000) :
    Calls Tryz.prog 78 #[.slice A ps.length c, .func (.func 48) #[.pointer (some ⟨g, 0, none⟩)] #[]] w fun e w' => e = .returned (.int .i64 (idxT l 0 ps)) ∧ Below w.heap.size w w' := by
  have H := Lib.hid h
  have HA := Lib.hid hA
  obtain ⟨R, hR⟩ : ∃ R, idxT l 0 ps = R := ⟨_, rfl⟩
  obtain ⟨n, hln⟩ : ∃ n, ps.length = n := ⟨_, rfl⟩
  have HLN := Lib.hid hln
  rw [hln] at hn
  rw [hR, hln]
  have HR := Lib.hid hR
  clear h hR hln hA
  have hn' : (n : Int) ≤ 100000 := by omega
  go_enter Tryz.func78, Tryz.ntmps78
  go_wp2
  go_loopw [8] (fun i wr => ∃ k : Nat, k ≤ n ∧ i = .int .i64 k ∧ Hid (R = idxT l k (ps.drop k)) ∧ Hid (Below w.heap.size w wr)) (fun i _ => n - (RowKit.intOf i).toNat)
  case atStart => exact ⟨0, Nat.zero_le _, rfl, by unfold Hid; rw [← HR.out, List.drop_zero], Below.refl _ _⟩
  case round =>
    obtain ⟨k, hk, rfl, HK, HW⟩ := hrel
    by_cases hkn : k < n
    · obtain ⟨y, hy⟩ : ∃ y, ps[k]? = some y := ⟨_, List.getElem?_eq_getElem (by have := HLN.out; omega)⟩
      obtain ⟨r, hAr, hr, k1⟩ : ∃ r, A = some ⟨r, 0, none⟩ ∧ r < wr.heap.size ∧ wr.cell? ⟨r, k, none⟩ = some (.int .i64 y) := by
        have PW := Pt.owns_below HA.out HW.out
        rcases Pt.own_addr PW with ⟨_, h2, _⟩ | ⟨r, hA, _, hr⟩
        · have := HLN.out; omega
        · refine ⟨r, hA, hr, ?_⟩
          rw [hA] at PW
          rw [PW.cellAt k (by have := HLN.out; omega)]
          simp [hy]
      subst hAr
      have hd : ps.drop k = y :: ps.drop (k + 1) := by
        rw [List.drop_eq_getElem_cons (by have := HLN.out; omega), (List.getElem?_eq_some_iff.1 hy).2]
      have hc := taken_any y wr (H.out.below HW.out)
      have hkn' : (k : Int) < (n : Int) := by omega
      clear hy
      by_cases hyo : ownR l y = 0
      · rw [show (ownR l y != 0) = false by rw [hyo]; rfl] at hc
        have HK2 := Lib.hid (show R = idxT l (k + 1) (ps.drop (k + 1)) by rw [HK.out, hd]; conv => lhs; unfold idxT; rw [if_pos hyo])
        clear hyo hd
        go_wp2_with (go_at_call 48; refine hc.mono ?_; rintro e w' ⟨rfl, hbb⟩; have HBB := Lib.hid hbb; clear hbb)
        go_roundw
        case rel => exact ⟨k + 1, by omega, by simp, HK2.out, HW.out.trans (HBB.out.mono HW.out.size)⟩
        case measure => simp [RowKit.intOf]; omega
      · rw [show (ownR l y != 0) = true by simpa using hyo] at hc
        have HK2 := Lib.hid (show R = (k : Int) by rw [HK.out, hd]; unfold idxT; rw [if_neg hyo])
        clear hyo hd
        go_wp2_with (go_at_call 48; refine hc.mono ?_; rintro e w' ⟨rfl, hbb⟩; have HBB := Lib.hid hbb; clear hbb)
        go_ret
        exact ⟨by rw [HK2.out]; rfl, HW.out.trans (HBB.out.mono HW.out.size)⟩
    · have hkn' : ¬ (k : Int) < (n : Int) := by omega
      have HK2 := Lib.hid (show R = -1 by rw [HK.out, List.drop_eq_nil_of_le (by have := HLN.out; omega)]; rfl)
      go_wp2
      go_ret
      exact ⟨by rw [HK2.out]; rfl, HW.out⟩
theorem contains_any {B B2 : Nat} {g : Nat} {has : Rx} {l : Pods} (A : Option Addr) (c : Nat) (ps : List Int) (w : World) (h : Nn B w g has l) (hA : w.ownsRow B2 3 1 (.slice A ps.length c) ps.length (ps.map (Value.int .i64))) (hn : ps.length ≤ 100000) :
    Calls Tryz.prog 47 #[.slice A ps.length c, .func (.func 48) #[.pointer (some ⟨g, 0, none⟩)] #[]] w fun e w' => e = .returned (.bool (anyOwn l ps)) ∧ Below w.heap.size w w' := by
  have hi := index_any A c ps w h hA hn
  have hs := idxT_spec l ps 0
  generalize idxT l 0 ps = R at hi hs
  obtain ⟨b, hb⟩ : ∃ b, anyOwn l ps = b := ⟨_, rfl⟩
  rw [hb] at hs ⊢
  generalize ps.length = n at hi ⊢
  clear h hn hb hA
  rcases hs with ⟨rfl, rfl⟩ | ⟨h0, rfl⟩
  · go_enter Tryz.func47, Tryz.ntmps47
    go_wp2_with (go_at_call 78; refine hi.mono ?_; rintro e w' ⟨rfl, hbb⟩; have HBB := Lib.hid hbb; clear hbb)
    go_ret
    exact ⟨rfl, HBB.out⟩
  · go_enter Tryz.func47, Tryz.ntmps47
    go_wp2_with (go_at_call 78; refine hi.mono ?_; rintro e w' ⟨rfl, hbb⟩; have HBB := Lib.hid hbb; clear hbb)
    go_ret
    exact ⟨by simp [h0], HBB.out⟩
end Nn
end Go.Proofs.YtbichomjpmmjmaaGreatDoor

/-
  The program's node: what is left. Condition: the node is one (Nn).
-/
set_option linter.unusedVariables false
set_option linter.unusedSimpArgs false
namespace Go.Proofs.YtbichomjpmmjmaaGreatDoor
open Go.ChangeShapes Go.WideShapes Go.ChangeAt Go.RowKit Go.Lib
open NumMath
namespace Nn
open Re Nd
theorem res_left (tmps : Array Value) (w : World) (p : Nat) (xs : List Value) (h2 : tmps.getD 2 undef = .pointer (some ⟨p, 0, none⟩)) (hX : w.heap[p]? = some (.cells xs.toArray 23 (0, 0))) (hm : xs.length = 3) :
    (results Tryz.f14 tmps).run Tryz.prog w = .ok (.agg xs.toArray) w := by
  have h1 : (loadVar 23 ⟨p, 0, none⟩).run Tryz.prog w = .ok (.agg xs.toArray) w := run_loadVar_mid w p 0 23 _ _ (range_box hX) Tryz.underlying23 rfl (by rw [hm]; kernel_rfl)
  simp only [results, Tryz.results14]
  simp only [Array.getD_eq_getD_getElem?] at h2
  have ha : (asAddr (tmps[2]?.getD undef)).run Tryz.prog w = .ok ⟨p, 0, none⟩ w := by rw [h2]; rfl
  simp [Sem.run_bind, h1, ha]
set_option maxRecDepth 100000 in
set_option maxHeartbeats 2000000 in
theorem left_any {B : Nat} {g : Nat} {has : Rx} {l : Pods} (w : World) (h : Nn B w g has l) : Calls Tryz.prog 14 #[.pointer (some ⟨g, 0, none⟩)] w (Told1 (subR has (usedR l)).1 w) := by
  obtain ⟨m, p, T, h⟩ := h
  obtain ⟨us, hus⟩ : ∃ us, usedR l = us := ⟨_, rfl⟩
  obtain ⟨q, hq⟩ : ∃ q, subR has us = q := ⟨_, rfl⟩
  obtain ⟨w0, hw0⟩ : ∃ v, w.alloc (.cells #[.int .i64 0, .int .i64 0, .int .i64 0] 23) = v := ⟨_, rfl⟩
  have B0 := Lib.hid (show Below w.heap.size w w0 by rw [← hw0]; exact (Below.refl _ _).alloc (Nat.le_refl _) _)
  have Z0 := Lib.hid (show w0.heap[w.heap.size]? = some (.cells #[.int .i64 0, .int .i64 0, .int .i64 0] 23 (0, 0)) by rw [← hw0]; exact heap_alloc_new w _)
  have H0 := Lib.hid (h.below B0.out)
  have HU := Lib.hid (show ∀ u, Below w0.heap.size w0 u → u.rangeAt g 3 (R3 us) from fun u hu => by rw [← hus]; exact (H0.out.below hu).used3)
  have CS := Lib.hid (show ∀ u, Calls Tryz.prog 38 #[.agg (R3 has).toArray, .agg (R3 us).toArray] u (fun e w' => e = .returned (.tuple #[.agg (R3 q.1).toArray, .bool q.2]) ∧ Below u.heap.size u w') from fun u => by rw [← hq]; exact sub_any has us h.ok.has_ok (by rw [← hus]; exact h.ok.used_ok) u)
  rw [hus, hq]
  clear hus hq h
  go_enter Tryz.func14, Tryz.ntmps14
  go_wp2_with fail
  clear hw0
  refine Vls.wp_region (by kernel_rfl) (Jx.JN w0 12 13 3 (R3 q.1) 23 [.pointer (some ⟨g, 0, none⟩), .pointer (some ⟨g, 0, none⟩), .pointer (some ⟨g, 0, none⟩), .agg (R3 has).toArray, .pointer (some ⟨g, 0, none⟩), .pointer (some ⟨g, 0, none⟩), .pointer (some ⟨g, 3, none⟩), .agg (R3 us).toArray, .tuple #[.agg (R3 q.1).toArray, .bool q.2], .tuple #[.agg (R3 q.1).toArray, .bool q.2], .agg (R3 q.1).toArray, .bool q.2, undef, undef, .bool q.2]) (by kernel_rfl) (fun _ => undef) (Jx.JN.start _) ?_ ?_
  · refine ⟨?_, ?_, ?_, ?_, ?_, ?_, ?_, ?_, ?_, ?_, ?_, ?_, ?_, ?_, ?_, trivial⟩
    · intro s_ a_ u V hs hd hfr hpo hJ
      have f0 : a_.tmps.getD 0 undef = .pointer (some ⟨g, 0, none⟩) := hfr 0 (by kernel_rfl)
      refine .inl ⟨rfl, ?_⟩
      unfold Oper.wp
      rw [show (execOp a_.eval _).run Tryz.prog u = .ok (.value (.pointer (some ⟨g, 0, none⟩))) u from by simp [go_sem, Act.eval, f0]]
      exact ⟨_, rfl, hJ.step 0 (by decide) (by decide) (Below.refl _ _) rfl⟩
    · intro s_ a_ u V hs hd hfr hpo hJ
      have e0 : a_.tmps.getD 6 undef = .pointer (some ⟨g, 0, none⟩) := (hpo 0 6 (by kernel_rfl)).trans (hJ.get 0 (by decide) (by decide) (hd 0 (by kernel_rfl)) rfl)
      refine .inl ⟨rfl, ?_⟩
      unfold Oper.wp
      rw [show (execOp a_.eval _).run Tryz.prog u = .ok (.value (.pointer (some ⟨g, 0, none⟩))) u from by simp [go_sem, Act.eval, e0]]
      exact ⟨_, rfl, hJ.step 1 (by decide) (by decide) (Below.refl _ _) rfl⟩
    · intro s_ a_ u V hs hd hfr hpo hJ
      have e1 : a_.tmps.getD 7 undef = .pointer (some ⟨g, 0, none⟩) := (hpo 1 7 (by kernel_rfl)).trans (hJ.get 1 (by decide) (by decide) (hd 1 (by kernel_rfl)) rfl)
      refine .inl ⟨rfl, ?_⟩
      unfold Oper.wp
      rw [show (execOp a_.eval _).run Tryz.prog u = .ok (.value (.pointer (some ⟨g, 0, none⟩))) u from by simp [go_sem, Act.eval, e1]]
      exact ⟨_, rfl, hJ.step 2 (by decide) (by decide) (Below.refl _ _) rfl⟩
    · intro s_ a_ u V hs hd hfr hpo hJ
      have e2 : a_.tmps.getD 8 undef = .pointer (some ⟨g, 0, none⟩) := (hpo 2 8 (by kernel_rfl)).trans (hJ.get 2 (by decide) (by decide) (hd 2 (by kernel_rfl)) rfl)
      refine .inl ⟨rfl, ?_⟩
      exact wp_load_mid 23 (.tmp 8) rfl (g) (0) e2 (R3 has) _ ((H0.out.below hJ.bel).has3) Tryz.underlying23 rfl (by kernel_rfl) ⟨_, rfl, hJ.step 3 (by decide) (by decide) (Below.refl _ _) rfl⟩
    · intro s_ a_ u V hs hd hfr hpo hJ
      have f0 : a_.tmps.getD 0 undef = .pointer (some ⟨g, 0, none⟩) := hfr 0 (by kernel_rfl)
      refine .inl ⟨rfl, ?_⟩
      unfold Oper.wp
      rw [show (execOp a_.eval _).run Tryz.prog u = .ok (.value (.pointer (some ⟨g, 0, none⟩))) u from by simp [go_sem, Act.eval, f0]]
      exact ⟨_, rfl, hJ.step 4 (by decide) (by decide) (Below.refl _ _) rfl⟩
    · intro s_ a_ u V hs hd hfr hpo hJ
      have e4 : a_.tmps.getD 10 undef = .pointer (some ⟨g, 0, none⟩) := (hpo 4 10 (by kernel_rfl)).trans (hJ.get 4 (by decide) (by decide) (hd 4 (by kernel_rfl)) rfl)
      refine .inl ⟨rfl, ?_⟩
      unfold Oper.wp
      rw [show (execOp a_.eval _).run Tryz.prog u = .ok (.value (.pointer (some ⟨g, 0, none⟩))) u from by simp [go_sem, Act.eval, e4]]
      exact ⟨_, rfl, hJ.step 5 (by decide) (by decide) (Below.refl _ _) rfl⟩
    · intro s_ a_ u V hs hd hfr hpo hJ
      have e5 : a_.tmps.getD 11 undef = .pointer (some ⟨g, 0, none⟩) := (hpo 5 11 (by kernel_rfl)).trans (hJ.get 5 (by decide) (by decide) (hd 5 (by kernel_rfl)) rfl)
      refine .inl ⟨rfl, ?_⟩
      unfold Oper.wp
      rw [show (execOp a_.eval _).run Tryz.prog u = .ok (.value (.pointer (some ⟨g, 3, none⟩))) u from by simp [go_sem, Act.eval, e5]]
      exact ⟨_, rfl, hJ.step 6 (by decide) (by decide) (Below.refl _ _) rfl⟩
    · intro s_ a_ u V hs hd hfr hpo hJ
      have e6 : a_.tmps.getD 12 undef = .pointer (some ⟨g, 3, none⟩) := (hpo 6 12 (by kernel_rfl)).trans (hJ.get 6 (by decide) (by decide) (hd 6 (by kernel_rfl)) rfl)
      refine .inl ⟨rfl, ?_⟩
      exact wp_load_mid 23 (.tmp 12) rfl (g) (3) e6 (R3 us) _ (HU.out u hJ.bel) Tryz.underlying23 rfl (by kernel_rfl) ⟨_, rfl, hJ.step 7 (by decide) (by decide) (Below.refl _ _) rfl⟩
    · intro s_ a_ u V hs hd hfr hpo hJ
      have e3 : a_.tmps.getD 9 undef = .agg (R3 has).toArray := (hpo 3 9 (by kernel_rfl)).trans (hJ.get 3 (by decide) (by decide) (hd 3 (by kernel_rfl)) rfl)
      have e7 : a_.tmps.getD 13 undef = .agg (R3 us).toArray := (hpo 7 13 (by kernel_rfl)).trans (hJ.get 7 (by decide) (by decide) (hd 7 (by kernel_rfl)) rfl)
      refine .inl ⟨rfl, ?_⟩
      unfold Oper.wp
      rw [show (execOp a_.eval _).run Tryz.prog u = .ok (.enter 38 #[.agg (R3 has).toArray, .agg (R3 us).toArray]) u from by simp [go_sem, Act.eval, e3, e7]]
      refine Calls.mono (CS.out u) ?_
      rintro e u2 ⟨rfl, hb⟩
      exact ⟨_, rfl, hJ.step 8 (by decide) (by decide) hb rfl⟩
    · intro s_ a_ u V hs hd hfr hpo hJ
      have e8 : a_.tmps.getD 14 undef = .tuple #[.agg (R3 q.1).toArray, .bool q.2] := (hpo 8 14 (by kernel_rfl)).trans (hJ.get 8 (by decide) (by decide) (hd 8 (by kernel_rfl)) rfl)
      refine .inl ⟨rfl, ?_⟩
      unfold Oper.wp
      rw [show (execOp a_.eval _).run Tryz.prog u = .ok (.value (.tuple #[.agg (R3 q.1).toArray, .bool q.2])) u from by simp [go_sem, Act.eval, e8]]
      exact ⟨_, rfl, hJ.step 9 (by decide) (by decide) (Below.refl _ _) rfl⟩
    · intro s_ a_ u V hs hd hfr hpo hJ
      have e9 : a_.tmps.getD 5 undef = .tuple #[.agg (R3 q.1).toArray, .bool q.2] := (hpo 9 5 (by kernel_rfl)).trans (hJ.get 9 (by decide) (by decide) (hd 9 (by kernel_rfl)) rfl)
      refine .inl ⟨rfl, ?_⟩
      unfold Oper.wp
      rw [show (execOp a_.eval _).run Tryz.prog u = .ok (.value (.agg (R3 q.1).toArray)) u from by simp [go_sem, Act.eval, e9]]
      exact ⟨_, rfl, hJ.step 10 (by decide) (by decide) (Below.refl _ _) rfl⟩
    · intro s_ a_ u V hs hd hfr hpo hJ
      have e9 : a_.tmps.getD 5 undef = .tuple #[.agg (R3 q.1).toArray, .bool q.2] := (hpo 9 5 (by kernel_rfl)).trans (hJ.get 9 (by decide) (by decide) (hd 9 (by kernel_rfl)) rfl)
      refine .inl ⟨rfl, ?_⟩
      unfold Oper.wp
      rw [show (execOp a_.eval _).run Tryz.prog u = .ok (.value (.bool q.2)) u from by simp [go_sem, Act.eval, e9]]
      exact ⟨_, rfl, hJ.step 11 (by decide) (by decide) (Below.refl _ _) rfl⟩
    · intro s_ a_ u V hs hd hfr hpo hJ
      refine .inl ⟨rfl, ?_⟩
      unfold Oper.wp
      rw [show (execOp a_.eval _).run Tryz.prog u = .ok (.value (.pointer (some ⟨u.heap.size, 0, none⟩))) (u.alloc (.cells #[.int .i64 0, .int .i64 0, .int .i64 0] 23 (0, 0))) from by simp [go_sem, Act.eval]]
      exact ⟨_, rfl, hJ.al (by decide) hs _ rfl⟩
    · intro s_ a_ u V hs hd hfr hpo hJ
      have e10 : a_.tmps.getD 15 undef = .agg (R3 q.1).toArray := (hpo 10 15 (by kernel_rfl)).trans (hJ.get 10 (by decide) (by decide) (hd 10 (by kernel_rfl)) rfl)
      have h_ : s_ 12 = true := hd 12 (by kernel_rfl)
      obtain ⟨qq, X, hq, hqv, hX, hXs, _⟩ := hJ.bx h_
      have e_ : a_.tmps.getD 3 undef = .pointer (some ⟨qq, 0, none⟩) := (hpo 12 3 (by kernel_rfl)).trans hq
      refine .inl ⟨rfl, ?_⟩
      exact wp_store_mid 23 (.tmp 3) (.tmp 15) rfl qq 0 (R3 q.1).toArray e_ e10 (Back.th hX hXs) (by kernel_rfl) (by simp [Value.oneCell']) ⟨undef, rfl, hJ.st (by decide) rfl h_ hq _⟩
    · intro s_ a_ u V hs hd hfr hpo hJ
      have e11 : a_.tmps.getD 16 undef = .bool q.2 := (hpo 11 16 (by kernel_rfl)).trans (hJ.get 11 (by decide) (by decide) (hd 11 (by kernel_rfl)) rfl)
      refine .inl ⟨rfl, ?_⟩
      unfold Oper.wp
      rw [show (execOp a_.eval _).run Tryz.prog u = .ok (.value (.bool q.2)) u from by simp [go_sem, Act.eval, e11]]
      exact ⟨_, rfl, hJ.step 14 (by decide) (by decide) (Below.refl _ _) rfl⟩
  · intro s_ V w5 hall hJ
    obtain ⟨gg, X, e7, hgv, hX, hXs, hXe⟩ := hJ.bx (hall 12 (by decide))
    rw [hXe (hall 13 (by decide))] at hX
    have QX := Lib.hid (range_box hX)
    have B5 := Lib.hid (B0.out.trans (hJ.bel.mono B0.out.size))
    have Z5 := Lib.hid ((hJ.bel.block _ (lt_of_block Z0.out)).trans Z0.out)
    clear hall hJ hX hXs hXe hgv CS HU H0
    simp only [Bxs.puts, Nat.reduceAdd, put_none, put_lit, List.set_cons_succ, List.set_cons_zero]
    rw [e7]
    clear e7
    obtain ⟨w6, hw6⟩ : ∃ v, w5.setCells w.heap.size 0 (R3 q.1) = v := ⟨_, rfl⟩
    have THy := Lib.hid (show w5.there w.heap.size 0 3 from Back.th Z5.out rfl)
    have ONEy := Lib.hid (show (R3 q.1).toArray.all (·.oneCell') = true by simp [Value.oneCell'])
    have HVy := Lib.hid hw6
    have Z6 := Lib.hid (show w6.heap[w.heap.size]? = some (.cells (R3 q.1).toArray 23 (0, 0)) by rw [← hw6]; exact Back.st Z5.out rfl)
    have B6 := Lib.hid (show Below w.heap.size w w6 by rw [← hw6]; exact bel_set B5.out (Nat.le_refl _))
    clear hw6
    go_wp2_with (first | (refine wpList_load_mid rfl 23 _ rfl _ _ rfl _ _ QX.out Tryz.underlying23 rfl (by kernel_rfl) ?_) | (refine wpList_store_at rfl 23 _ _ rfl _ _ _ rfl rfl THy.out (by kernel_rfl) ONEy.out HVy.out ?_))
    refine bodyPost_ret (v := .agg (R3 q.1).toArray) (res_left _ _ _ (R3 q.1) rfl Z6.out rfl) rfl ?_
    exact ⟨rfl, B6.out⟩
end Nn
end Go.Proofs.YtbichomjpmmjmaaGreatDoor

/-
  The document's answers for nodes: where a pod stands, whose a port is. All that was there is left as it was. Conditions: the pods lie in a row, their ports in memory.
-/
set_option linter.unusedVariables false
set_option linter.unusedSimpArgs false
namespace Go.Proofs.YtbichomjpmmjmaaGreatDoor
open Go.ChangeShapes Go.WideShapes Go.ChangeAt Go.RowKit Go.Lib
namespace Nd
open Re
end Nd
end Go.Proofs.YtbichomjpmmjmaaGreatDoor

/-
  The document's answer for nodes: what is used. All that was there is left as it was. Conditions: the pods lie in a row, what they ask for are 64-bit integers.
-/
set_option linter.unusedVariables false
set_option linter.unusedSimpArgs false
namespace Go.Proofs.YtbichomjpmmjmaaGreatDoor
open Go.ChangeShapes Go.WideShapes Go.ChangeAt Go.RowKit Go.Lib
open NumMath
namespace Nd
open Re
end Nd
end Go.Proofs.YtbichomjpmmjmaaGreatDoor

/-
  'append' onto a row of the call's own, wherever it stands behind a guard that says yes, the source nil or not: a row of the call's own with the source's elements behind. Conditions: as the law says.
-/
namespace Go.Proofs.YtbichomjpmmjmaaGreatDoor
open Go.RowKit
namespace AppendAny
theorem wpList_append_want {P : Program} {w : World} {ops : Array Oper} {rest : List Oper} {o : Oper} {a : Act} {Q : Exit → Act → World → Prop} (hgd : Region.wanted o (yielded ops a.tmps) = true) (s x : Operand) (t : TypeId)
    (ho : o.op = .call { callee := .builtin .append, args := #[s, x], argTypes := #[t, t] })
    (base : Nat) (e : TypeId) (i : TypeInfo) (z : Value) (size bytes : Nat) (ht : P.underlying t = some (.slice e)) (hi : P.info? e = some i) (hz : i.zero = some z)
    (hsize : i.size = size) (hby : i.bytes = bytes) (hzs : z.cells.size = size) (hsz : 0 < size)
    (v : Value) (n : Nat) (xs : List Value) (hs : a.eval s = v) (hown : w.ownsRow base e size v n xs)
    (A : Option Addr) (m c : Nat) (news : List Value) (hx : a.eval x = .slice A m c) (hl : news.length = m * size)
    (hsrc : (A = none ∧ m = 0 ∧ c = 0) ∨ ∃ ad, A = some ad ∧ ∀ j u, news[j]? = some u → w.cell? (ad.add j) = some u) (h1 : ∀ u ∈ news, u.oneCell' = true)
    (h63 : n + m ≤ maxLen) (hbytes : (n + m) * bytes ≤ 140737488355328) (hbase : base ≤ w.heap.size)
    (h : ∀ v' w', w'.ownsRow base e size v' (n + m) (xs ++ news) → w.grownBy w' v.ownBlock → wpList P ops Q rest (a.put o.dst v') w') : wpList P ops Q (o :: rest) a w := by
  rcases hsrc with ⟨rfl, rfl, rfl⟩ | ⟨ad, rfl, hc⟩
  · refine BigFrame.wpList_want hgd fun K hK => ?_
    have hrun := run_append_owned_none (P := P) (w := w) base t o.type e i size ht hi v n xs hown
    unfold Oper.wp
    simp [execOp, ho, resolve, invoke, builtin, hs, hx, hrun, Result.andThen]
    have hn : news = [] := List.eq_nil_of_length_eq_zero (by simpa using hl)
    exact hK _ _ (h v w (by rw [hn]; simpa using hown) ⟨rfl, rfl, rfl, Nat.le_refl _, fun _ _ _ => rfl⟩)
  · exact BigFrame.wpList_want hgd fun K hK => wp_append_own w s x t ho base e i z size bytes ht hi hz hsize hby hzs hsz v n xs hs hown ad m c news hx hl hc h1 h63 hbytes hbase fun v' w' h2 h3 _ => hK _ _ (h v' w' h2 h3)
end AppendAny
end Go.Proofs.YtbichomjpmmjmaaGreatDoor

/-
  Rows of resources: what lies in a row of the call's own, append, and small. No condition.
-/
set_option linter.unusedVariables false
set_option linter.unusedSimpArgs false
namespace Go.Proofs.YtbichomjpmmjmaaGreatDoor
open Go.ChangeShapes Go.WideShapes Go.ChangeAt Go.RowKit Go.Lib
open NumMath
namespace Re
def flatR : List Rx → List Value
  | [] => []
  | x :: l => R3 x ++ flatR l
theorem flatR_cat : ∀ (l m : List Rx), flatR (l ++ m) = flatR l ++ flatR m
  | [], _ => rfl
  | x :: l, m => by rw [List.cons_append, flatR, flatR, flatR_cat l m, List.append_assoc]
theorem flatR_at : ∀ {l : List Rx} {k : Nat} {x : Rx}, l[k]? = some x → ∀ j, j < 3 → (flatR l)[k * 3 + j]? = (R3 x)[j]?
  | [], k, x, h, _, _ => by simp at h
  | y :: l, 0, x, h, j, hj => by
    simp only [List.getElem?_cons_zero, Option.some.injEq] at h
    subst h
    rw [flatR, List.getElem?_append_left (by simp; omega)]
    simp
  | y :: l, k + 1, x, h, j, hj => by
    simp only [List.getElem?_cons_succ] at h
    rw [flatR, List.getElem?_append_right (by simp; omega), ← flatR_at h j hj]
    congr 1
    simp; omega
theorem one_flatR : ∀ (l : List Rx), ∀ u ∈ flatR l, u.oneCell' = true
  | [], u, h => by cases h
  | x :: l, u, h => by
    rw [flatR, List.mem_append] at h
    rcases h with h | h
    · simp only [List.mem_cons, List.not_mem_nil, or_false] at h
      rcases h with rfl | rfl | rfl <;> rfl
    · exact one_flatR l u h
/-- a row of the call's own holds the list -/
theorem ress_own {w : World} {base n c : Nat} {A : Option Addr} {l : List Rx} (h : w.ownsRow base 23 3 (.slice A n c) n (flatR l)) (hn : l.length = n) (hk : ∀ x ∈ l, x.Ok) : Ress w A l := fun k x hx => by
  obtain ⟨h1, h2⟩ := h
  have hkl : k < l.length := (List.getElem?_eq_some_iff.1 hx).1
  rcases h2 with ⟨_, h0⟩ | ⟨g, cap, cur, e, _, hg, _, _, _, ht⟩
  · omega
  · injection e with e1 _ _
    subst e1
    refine ⟨hk x (List.mem_of_getElem? hx), g, 0, rfl, lt_of_at hg, fun j v hv => ?_⟩
    have hj : j < 3 := by have := (List.getElem?_eq_some_iff.1 hv).1; simpa using this
    rw [← flatR_at hx j hj, ← ht, List.getElem?_take_of_lt (by omega)] at hv
    exact cell_of hg _ (by simpa using hv)
theorem res_info : ∃ i, Tryz.prog.info? 23 = some i ∧ i.zero = some (.agg #[.int .i64 0, .int .i64 0, .int .i64 0]) ∧ i.size = 3 ∧ i.bytes = 24 := by
  have h : (Tryz.prog.info? 23).map (fun i => (i.zero, i.size, i.bytes)) = some (some (.agg #[.int .i64 0, .int .i64 0, .int .i64 0]), 3, 24) := by kernel_rfl
  cases hi : Tryz.prog.info? 23 with
  | none => rw [hi] at h; cases h
  | some i =>
    rw [hi] at h
    simp only [Option.map_some, Option.some.injEq, Prod.mk.injEq] at h
    exact ⟨i, rfl, h.1, h.2.1, h.2.2⟩
/-- append of one onto a row of the call's own -/
theorem wpList_append_res {w : World} {ops : Array Oper} {rest : List Oper} {o : Oper} {a : Act} {Q : Exit → Act → World → Prop} (hgd : o.guard = none) (s x : Operand)
    (ho : o.op = .call { callee := .builtin .append, args := #[s, x], argTypes := #[111, 111] })
    (base : Nat) (l : List Rx) (A : Option Addr) (n c : Nat) (hs : a.eval s = .slice A n c) (hown : w.ownsRow base 23 3 (.slice A n c) n (flatR l))
    (b m : Nat) (y : Rx) (hx : a.eval x = .slice (some ⟨b, 0, none⟩) 1 m) (hb : w.rangeAt b 0 (R3 y)) (hn : n ≤ 1000000) (hbase : base ≤ w.heap.size)
    (h : ∀ A' c' w', w'.ownsRow base 23 3 (.slice A' (n + 1) c') (n + 1) (flatR (l ++ [y])) → Below base w w' → wpList Tryz.prog ops Q rest (a.put o.dst (.slice A' (n + 1) c')) w') : wpList Tryz.prog ops Q (o :: rest) a w := by
  obtain ⟨i, hi, hz, hsz, hby⟩ := res_info
  refine AppendAny.wpList_append_want (by simp [Region.wanted, hgd]) s x 111 ho base 23 i (.agg #[.int .i64 0, .int .i64 0, .int .i64 0]) 3 24 Tryz.underlying111 hi hz hsz hby rfl (by decide) (.slice A n c) n (flatR l) hs hown (some ⟨b, 0, none⟩) 1 m (R3 y) hx rfl (.inr ⟨_, rfl, fun j u hu => ?_⟩) ?_ (by unfold maxLen; omega) (by omega) hbase fun v' w' h2 h3 => ?_
  · have := hb j u hu
    rw [Nat.zero_add] at this
    rw [show (⟨b, 0, none⟩ : Addr).add j = ⟨b, j, none⟩ by unfold Addr.add; split <;> simp_all]
    exact this
  · exact fun u hu => one_flatR [y] u (by rw [flatR, flatR, List.append_nil]; exact hu)
  · have : ∃ A' c', v' = .slice A' (n + 1) c' := by
      rcases h2.2 with ⟨e1, e2⟩ | ⟨g, cap, cur, e1, _⟩
      · exact ⟨none, 0, by rw [e1, e2]⟩
      · exact ⟨_, _, e1⟩
    obtain ⟨A', c', rfl⟩ := this
    refine h A' c' w' (by rw [flatR_cat, flatR, flatR, List.append_nil]; exact h2) ((Below.refl base w).grown h3 hbase fun k hk => (hown.lt k hk).1)
end Re
end Go.Proofs.YtbichomjpmmjmaaGreatDoor

/-
  Package res: Of, what a pod of a spec asks for. What was there is left as it was. Conditions: the containers lie as they should; at most 1000 of each.
-/
set_option linter.unusedVariables false
set_option linter.unusedSimpArgs false
namespace Go.Proofs.YtbichomjpmmjmaaGreatDoor
open Go.ChangeShapes Go.WideShapes Go.ChangeAt Go.RowKit Go.Lib
open NumMath
namespace Re
open Sd
/-- what a container asks for -/
def rq (x : Ctr) : Rx := ⟨x.rc, x.rm, x.rp⟩
theorem rq_ok {x : Ctr} (h : x.Fits) : (rq x).Ok := ⟨fits_iff.2 h.rc, fits_iff.2 h.rm, fits_iff.2 h.rp⟩
theorem add_at (r o k : Nat) : (⟨r, o, none⟩ : Addr).add k = ⟨r, o + k, none⟩ := by unfold Addr.add; split <;> simp_all
theorem spot_cell {W : World} {a : Addr} {v : Value} (h : W.cell? a = some v) : a.spot = none := by
  unfold World.cell? at h
  split at h
  · split at h
    · cases h
    · rename_i hs
      simpa using hs
  · cases h
theorem ctr_range {x : Ctr} {P : Option Addr} {c r o : Nat} {w : World} (h : x.cellsAt P c w ⟨r, o, none⟩) : w.rangeAt r o (x.cells P c) := by
  obtain ⟨h0, h1, h2, h3, h4, h5, h6, h7, h8, h9, h10, _⟩ := h
  intro j v hv
  match j, hv with
  | 0, hv => simp only [Ctr.cells, List.getElem?_cons_zero, Option.some.injEq] at hv; rw [← hv]; exact h0
  | 1, hv => simp only [Ctr.cells, List.getElem?_cons_succ, List.getElem?_cons_zero, Option.some.injEq] at hv; rw [← hv]; exact h1
  | 2, hv => simp only [Ctr.cells, List.getElem?_cons_succ, List.getElem?_cons_zero, Option.some.injEq] at hv; rw [← hv]; exact h2
  | 3, hv => simp only [Ctr.cells, List.getElem?_cons_succ, List.getElem?_cons_zero, Option.some.injEq] at hv; rw [← hv]; exact h3
  | 4, hv => simp only [Ctr.cells, List.getElem?_cons_succ, List.getElem?_cons_zero, Option.some.injEq] at hv; rw [← hv]; exact h4
  | 5, hv => simp only [Ctr.cells, List.getElem?_cons_succ, List.getElem?_cons_zero, Option.some.injEq] at hv; rw [← hv]; exact h5
  | 6, hv => simp only [Ctr.cells, List.getElem?_cons_succ, List.getElem?_cons_zero, Option.some.injEq] at hv; rw [← hv]; exact h6
  | 7, hv => simp only [Ctr.cells, List.getElem?_cons_succ, List.getElem?_cons_zero, Option.some.injEq] at hv; rw [← hv]; exact h7
  | 8, hv => simp only [Ctr.cells, List.getElem?_cons_succ, List.getElem?_cons_zero, Option.some.injEq] at hv; rw [← hv]; exact h8
  | 9, hv => simp only [Ctr.cells, List.getElem?_cons_succ, List.getElem?_cons_zero, Option.some.injEq] at hv; rw [← hv]; exact h9
  | 10, hv => simp only [Ctr.cells, List.getElem?_cons_succ, List.getElem?_cons_zero, Option.some.injEq] at hv; rw [← hv]; exact h10
  | j + 11, hv => simp [Ctr.cells] at hv
/-- a container of a list -/
theorem ctr_at {w : World} {A : Option Addr} {l : List Ctr} (h : Ctrs w A l) {k : Nat} {x : Ctr} (hk : l[k]? = some x) : (rq x).Ok ∧ ∃ r o P c, A = some ⟨r, o, none⟩ ∧ r < w.heap.size ∧ w.rangeAt r (o + k * 11) (x.cells P c) := by
  obtain ⟨hf, a, P, c, rfl, ha, hc, _⟩ := h k x hk
  have h0 : a.spot = none := by
    by_cases hk0 : k = 0
    · have := spot_cell hc.1
      rw [hk0] at this
      simpa [Addr.add] using this
    · obtain ⟨_, a', P', c', e, _, hc', _⟩ := h 0 (l[0]'(by have := (List.getElem?_eq_some_iff.1 hk).1; omega)) (List.getElem?_eq_getElem _)
      injection e with e
      subst e
      have := spot_cell hc'.1
      simpa [Addr.add] using this
  obtain ⟨r, o, s⟩ := a
  simp only at h0
  subst h0
  rw [add_at] at hc
  exact ⟨rq_ok hf, r, o, P, c, rfl, ha, ctr_range hc⟩
theorem maxL_snoc (s : Rx) (l : List Rx) (x : Rx) : maxL s (l ++ [x]) = maxR (maxL s l) x := by simp [maxL]
theorem take_snoc {α : Type} {l : List α} {k : Nat} {x : α} (h : l[k]? = some x) : l.take (k + 1) = l.take k ++ [x] := by
  rw [List.take_add_one, h]; rfl
theorem own_stay {w v : World} {base n : Nat} {u : Value} {xs : List Value} (h : w.ownsRow base 23 3 u n xs) (hb : Below w.heap.size w v) : v.ownsRow base 23 3 u n xs := by
  obtain ⟨h1, h2⟩ := h
  refine ⟨h1, ?_⟩
  rcases h2 with h2 | ⟨g, cap, cur, e, e1, hg, e2⟩
  · exact .inl h2
  · exact .inr ⟨g, cap, cur, e, e1, (hb.block g (lt_of_at hg)).trans hg, e2⟩
theorem run_build_res (x : Rx) (w : World) : (Instr.buildSlice 111 1 #[(0, .agg #[.int .i64 x.c, .int .i64 x.m, .int .i64 x.p])]).run Tryz.prog w = .ok (.slice (some ⟨w.heap.size, 0, none⟩) 1 1) (w.alloc (.cells #[.int .i64 x.c, .int .i64 x.m, .int .i64 x.p] 23)) := by
  obtain ⟨ie, hie, hz, hs, _⟩ := res_info
  refine run_buildSlice w _ _ 1 _ _ ie _ Tryz.underlying111 hie hz (by rw [hs]; decide) (by rw [hs]; decide) ?_
  rw [hs]
  rw [show (Array.range (1 * 3)).map ((Value.agg #[.int .i64 0, .int .i64 0, .int .i64 0]).cells[· % (Value.agg #[.int .i64 0, .int .i64 0, .int .i64 0]).cells.size]!) = #[.int .i64 0, .int .i64 0, .int .i64 0] by kernel_rfl]
  simp [Instr.fill, Value.cells]
theorem wpList_build_res {ops : Array Oper} {rest : List Oper} {op : Oper} {a : Act} {w v : World} {Q : Exit → Act → World → Prop} (hgd : op.guard = none) (y : Operand) (ho : op.op = .buildSlice 111 1 #[(0, y)]) (x : Rx) (hx : a.eval y = .agg #[.int .i64 x.c, .int .i64 x.m, .int .i64 x.p]) (hv : w.alloc (.cells #[.int .i64 x.c, .int .i64 x.m, .int .i64 x.p] 23) = v)
    (h : wpList Tryz.prog ops Q rest (a.put op.dst (.slice (some ⟨w.heap.size, 0, none⟩) 1 1)) v) : wpList Tryz.prog ops Q (op :: rest) a w := by
  refine wpList_plain hgd fun K hK => ?_
  have hrun := run_build_res x w
  subst hv
  unfold Oper.wp
  simp [execOp, ho, hx, hrun, Result.andThen]
  exact hK _ _ h
theorem res_of (tmps : Array Value) (w : World) (p : Nat) (xs : List Value) (x : Value) (h2 : tmps.getD 2 undef = .pointer (some ⟨p, 0, none⟩)) (h3 : tmps.getD 3 undef = x) (hX : w.heap[p]? = some (.cells xs.toArray 23 (0, 0))) (hm : xs.length = 3) :
    (results Tryz.f40 tmps).run Tryz.prog w = .ok (.tuple #[.agg xs.toArray, x]) w := by
  have h1 : (loadVar 23 ⟨p, 0, none⟩).run Tryz.prog w = .ok (.agg xs.toArray) w := run_loadVar_mid w p 0 23 _ _ (range_box hX) Tryz.underlying23 rfl (by rw [hm]; kernel_rfl)
  simp only [results, Tryz.results40]
  simp only [Array.getD_eq_getD_getElem?] at h2 h3
  have ha : (asAddr (tmps[2]?.getD undef)).run Tryz.prog w = .ok ⟨p, 0, none⟩ w := by rw [h2]; rfl
  simp [Sem.run_bind, h1, ha, h3]
set_option maxRecDepth 100000 in
set_option maxHeartbeats 4000000 in
theorem of_any (I M : List Ctr) (v0 v1 v4 v5 v6 : Value) (IA : Option Addr) (ic : Nat) (MA : Option Addr) (mc : Nat) (hi : I.length ≤ 1000) (hm : M.length ≤ 1000) (w : World) (hI : Ctrs w IA I) (hM : Ctrs w MA M) :
    Calls Tryz.prog 40 #[.agg #[v0, v1, .slice IA I.length ic, .slice MA M.length mc, v4, v5, v6]] w (Told3 (ofR (I.map rq) (M.map rq)) w) := by
  have HI := Lib.hid hI
  have HM := Lib.hid hM
  have HIL := Lib.hid hi
  have HML := Lib.hid hm
  clear hI hM hi hm
  obtain ⟨i3, hi3, hz30, hz31, hz32⟩ := res_info
  obtain ⟨w0, hw0⟩ : ∃ v, (w.alloc (.cells #[v0, v1, .slice IA I.length ic, .slice MA M.length mc, v4, v5, v6] 35)).alloc (.cells #[.int .i64 0, .int .i64 0, .int .i64 0] 23) = v := ⟨_, rfl⟩
  have S0 := Lib.hid (show w0.heap[w.heap.size]? = some (.cells #[v0, v1, .slice IA I.length ic, .slice MA M.length mc, v4, v5, v6] 35 (0, 0)) by rw [← hw0, Below.heap_alloc _ _ _ (by simp)]; exact heap_alloc_new w _)
  have Z0 := Lib.hid (show w0.heap[w.heap.size + 1]? = some (.cells #[.int .i64 0, .int .i64 0, .int .i64 0] 23 (0, 0)) by rw [← hw0]; have := heap_alloc_new (w.alloc (.cells #[v0, v1, .slice IA I.length ic, .slice MA M.length mc, v4, v5, v6] 35)) (.cells #[.int .i64 0, .int .i64 0, .int .i64 0] 23); simpa using this)
  have B0 := Lib.hid (show Below w.heap.size w w0 by rw [← hw0]; go_grown)
  have c3 := cell_of S0.out 3 (v := .slice MA M.length mc) rfl
  have hml : M.length ≤ 1000 := HML.out
  go_enter Tryz.func40, Tryz.ntmps40
  go_wp2_with (at_make; refine wpList_make_own w0 rfl _ _ 111 rfl w0.heap.size 23 i3 _ 3 Tryz.underlying111 hi3 hz30 hz31 .i64 .i64 _ M.length rfl rfl rfl ?c1 ?c2 (Nat.le_refl _) ?_)
  case c1 => rw [hz32]; omega
  case c2 => unfold maxLen; omega
  intro w1 hown hgr
  have BK := Lib.hid (show Below w0.heap.size w0 w1 from (Below.refl _ w0).grown hgr (Nat.le_refl _) (by intro j hj; cases hj))
  have HO1 := Lib.hid hown
  clear hown hgr hw0 c3 hz30 hz31 hz32 hi3
  have c3 := cell_of ((BK.out.block _ (lt_of_at S0.out)).trans S0.out) 3 (v := .slice MA M.length mc) rfl
  go_wp2_with fail
  clear c3
  go_loopw [4, 18] (fun v i wr => ∃ (k : Nat) (A' : Option Addr) (c' : Nat), k ≤ M.length ∧ v = .slice A' k c' ∧ i = .int .i64 k ∧ Hid (wr.ownsRow w0.heap.size 23 3 (.slice A' k c') k (flatR ((M.take k).map rq))) ∧ Hid (Below w0.heap.size w0 wr) ∧ Hid (∀ x ∈ (M.take k).map rq, x.Ok)) (fun _ i _ => M.length - (RowKit.intOf i).toNat)
  case atStart => exact ⟨0, _, _, Nat.zero_le _, rfl, rfl, HO1.out, BK.out, fun x hx => by cases hx⟩
  case round =>
    obtain ⟨k, A', c', hk, rfl, rfl, HO, BW, HS⟩ := hrel
    have hk6 : (k : Int) ≤ 1000 := by omega
    by_cases hlt : k < M.length
    · have hka : (k : Int) < (M.length : Int) := by omega
      have hk0 : (0 : Int) ≤ (k : Int) := by omega
      obtain ⟨x, hx⟩ : ∃ x, M[k]? = some x := ⟨_, List.getElem?_eq_getElem hlt⟩
      obtain ⟨hxo, r, oa, P, cp, rfl, hr, hrg⟩ := ctr_at ((HM.out.below B0.out).below BW.out) hx
      have eat := add_at r oa (k * 11)
      have RGX := Lib.hid hrg
      have HX := Lib.hid hx
      have HXO := Lib.hid hxo
      clear hx hxo hr hrg
      obtain ⟨wa, hwa⟩ : ∃ v, wr.alloc (.cells #[.string ⟨#[]⟩, .string ⟨#[]⟩, .int .i64 0, .int .i64 0, .int .i64 0, .int .i64 0, .int .i64 0, .int .i64 0, .slice none 0 0, .int .i64 0, .int .i64 0] 105) = v := ⟨_, rfl⟩
      have XA := Lib.hid (show wa.heap[wr.heap.size]? = some (.cells #[.string ⟨#[]⟩, .string ⟨#[]⟩, .int .i64 0, .int .i64 0, .int .i64 0, .int .i64 0, .int .i64 0, .int .i64 0, .slice none 0 0, .int .i64 0, .int .i64 0] 105 (0, 0)) by rw [← hwa]; exact heap_alloc_new _ _)
      have BA := Lib.hid (show Below wr.heap.size wr wa by rw [← hwa]; exact (Below.refl _ _).alloc (Nat.le_refl _) _)
      obtain ⟨wb, hwb⟩ : ∃ v, wa.setCells (wr.heap.size) 0 (x.cells P cp) = v := ⟨_, rfl⟩
      have THc := Lib.hid (show wa.there (wr.heap.size) 0 11 from Back.th XA.out rfl)
      have ONEc := Lib.hid (show ((x.cells P cp) : List Value).toArray.all (·.oneCell') = true by simp [Ctr.cells, Value.oneCell'])
      have HVc := Lib.hid hwb
      have XB := Lib.hid (show wb.heap[wr.heap.size]? = some (.cells (x.cells P cp).toArray 105 (0, 0)) by rw [← hwb]; exact Back.st XA.out rfl)
      have RF := Lib.hid (show wb.rangeAt wr.heap.size 2 (R3 (rq x)) from fun j v hv => by
        refine cell_of XB.out (2 + j) ?_
        match j, hv with
        | 0, hv => exact hv
        | 1, hv => exact hv
        | 2, hv => exact hv
        | j + 3, hv => simp at hv)
      have BB0 := Lib.hid (show Below wr.heap.size wr wb by rw [← hwb]; exact bel_set BA.out (Nat.le_refl _))
      have BB := Lib.hid (BW.out.trans (BB0.out.mono BW.out.size))
      clear hwb XA BA XB
      obtain ⟨wd, hwd⟩ : ∃ v, wb.alloc (.cells #[.int .i64 (rq x).c, .int .i64 (rq x).m, .int .i64 (rq x).p] 23) = v := ⟨_, rfl⟩
      have X3 := Lib.hid (show wd.rangeAt wb.heap.size 0 (R3 (rq x)) by rw [← hwd]; exact range_box (heap_alloc_new wb _))
      have HO3 := Lib.hid (show wd.ownsRow w0.heap.size 23 3 (.slice A' k c') k (flatR ((M.take k).map rq)) by rw [← hwd]; exact (own_stay HO.out BB0.out).alloc _)
      have BD := Lib.hid (show Below w0.heap.size w0 wd by rw [← hwd]; exact BB.out.alloc BB.out.size _)
      have HVd := Lib.hid hwd
      clear hwd HO
      go_wp2_with (first | (refine wpList_load_mid rfl 105 _ rfl _ _ rfl _ _ RGX.out Tryz.underlying105 rfl (by kernel_rfl) ?_) | (refine wpList_store_at rfl 105 _ _ rfl _ _ _ rfl rfl THc.out (by kernel_rfl) ONEc.out HVc.out ?_) | (refine wpList_load_mid rfl 23 _ rfl _ _ rfl _ _ RF.out Tryz.underlying23 rfl (by kernel_rfl) ?_) | (refine wpList_build_res rfl _ rfl (rq x) rfl HVd.out ?_) | (at_builtin; refine wpList_append_res rfl _ _ rfl w0.heap.size ((M.take k).map rq) A' k c' rfl HO3.out wb.heap.size 1 (rq x) rfl X3.out (by omega) BD.out.size ?_))
      intro A4 c4 w4 ho4 hb4
      have HO4 := Lib.hid ho4
      have B4 := Lib.hid (BD.out.trans hb4)
      clear ho4 hb4 hwa
      go_wp2_with fail
      go_roundw
      case rel =>
        have e : (M.take (k + 1)).map rq = (M.take k).map rq ++ [rq x] := by rw [take_snoc HX.out, List.map_append]; rfl
        refine ⟨k + 1, A4, c4, by omega, by go_num, by go_num, ?_, B4.out, ?_⟩
        · rw [e]
          have q := HO4.out
          rw [← List.map_take] at q
          exact q
        · rw [e]
          intro y hy
          rcases List.mem_append.1 hy with hy | hy
          · exact HS.out y hy
          · obtain rfl : y = rq x := by simpa using hy
            exact HXO.out
      case measure => simp [RowKit.intOf]; omega
    · have hka : ¬ (k : Int) < (M.length : Int) := by omega
      obtain rfl : k = M.length := by omega
      rw [List.take_length] at HO HS
      have C1 := Lib.hid (sum_any A' c' (M.map rq) (by rw [List.length_map]; omega) wr (ress_own HO.out (by rw [List.length_map]) HS.out))
      obtain ⟨s, hs⟩ : ∃ s, sumR z3 (M.map rq) = s := ⟨_, rfl⟩
      have HSM := Lib.hid hs
      rw [hs, List.length_map] at C1
      clear hs HO HS
      go_wp2_with fail
      have B := Lib.hid (B0.out.trans (BW.out.mono B0.out.size))
      have hwr := BW.out.size
      refine (C1.out).mono ?_
      rintro e wq ⟨rfl, hb1⟩
      have h7 : w0.heap.size ≤ wq.heap.size := by have := hb1.size; omega
      obtain ⟨u1, hu1⟩ : ∃ v, wq.alloc (.cells #[.int .i64 0, .int .i64 0, .int .i64 0] 23) = v := ⟨_, rfl⟩
      have ZB := Lib.hid (show u1.heap[wq.heap.size]? = some (.cells #[.int .i64 0, .int .i64 0, .int .i64 0] 23 (0, 0)) by rw [← hu1]; exact heap_alloc_new _ _)
      have BU := Lib.hid (show Below wq.heap.size wq u1 by rw [← hu1]; exact (Below.refl _ _).alloc (Nat.le_refl _) _)
      obtain ⟨v1, hv1⟩ : ∃ v, u1.setCells (wq.heap.size) 0 (R3 s.1) = v := ⟨_, rfl⟩
      have THz := Lib.hid (show u1.there (wq.heap.size) 0 3 from Back.th ZB.out rfl)
      have ONEz := Lib.hid (show ((R3 s.1) : List Value).toArray.all (·.oneCell') = true by simp [Value.oneCell'])
      have HVz := Lib.hid hv1
      have NX := Lib.hid (show v1.heap[wq.heap.size]? = some (.cells ((R3 s.1) : List Value).toArray 23 (0, 0)) by rw [← hv1]; exact Back.st ZB.out rfl)
      have BV := Lib.hid (show Below wq.heap.size wq v1 by rw [← hv1]; exact bel_set BU.out (Nat.le_refl _))
      have BH := hb1.trans (BV.out.mono hb1.size)
      clear hv1
      have NBW := Lib.hid (BW.out.trans (BH.mono BW.out.size))
      clear BW
      have BW := Lib.hid NBW.out
      clear NBW
      have NB := Lib.hid (B.out.trans (BH.mono B.out.size))
      clear B 
      have B := Lib.hid NB.out
      clear NB 
      have X7 := Lib.hid NX.out
      have RX7 := Lib.hid (range_box (cs := (R3 s.1)) X7.out)
      clear BH BV NX ZB BU hb1
      clear C1 B
      have HV := Lib.hid (show w0.heap.size ≤ wq.heap.size from h7)
      cases hs2 : s.2 with
      | false =>
        have ZB := Lib.hid ((BW.out.block _ (lt_of_at Z0.out)).trans Z0.out)
        have HE := Lib.hid (show ofR (I.map rq) (M.map rq) = (z3, false) by unfold ofR; rw [HSM.out, hs2, if_neg (by decide)])
        obtain ⟨w6, hw6⟩ : ∃ v, v1.setCells (w.heap.size + 1) 0 (R3 z3) = v := ⟨_, rfl⟩
        have THy := Lib.hid (show v1.there (w.heap.size + 1) 0 3 from Back.th ZB.out rfl)
        have ONEy := Lib.hid (show ((R3 z3) : List Value).toArray.all (·.oneCell') = true by simp [Value.oneCell'])
        have HVy := Lib.hid hw6
        have Z6 := Lib.hid (show w6.heap[w.heap.size + 1]? = some (.cells (R3 z3).toArray 23 (0, 0)) by rw [← hw6]; exact Back.st ZB.out rfl)
        have B6 := Lib.hid (show Below w.heap.size w w6 by rw [← hw6]; exact bel_set (B0.out.trans (BW.out.mono B0.out.size)) (by omega))
        clear hw6 hs2
        go_wp2_with (first | (refine wpList_store_at rfl 23 _ _ rfl _ _ _ rfl rfl THz.out (by kernel_rfl) ONEz.out HVz.out ?_) | (refine wpList_store_at rfl 23 _ _ rfl _ _ _ rfl rfl THy.out (by kernel_rfl) ONEy.out HVy.out ?_))
        refine bodyPost_ret (v := .tuple #[.agg (R3 z3).toArray, .bool false]) (res_of _ _ _ (R3 z3) _ rfl rfl Z6.out rfl) rfl ?_
        rw [HE.out]
        exact ⟨rfl, B6.out⟩
      | true =>
        have HE := Lib.hid (show ofR (I.map rq) (M.map rq) = (maxL s.1 (I.map rq), true) by unfold ofR; rw [HSM.out, hs2, if_pos rfl])
        have c2 := cell_of ((BW.out.block _ (lt_of_at S0.out)).trans S0.out) 2 (v := .slice IA I.length ic) rfl
        have hil : I.length ≤ 1000 := HIL.out
        clear hs2
        go_wp2_with (first | (refine wpList_store_at rfl 23 _ _ rfl _ _ _ rfl rfl THz.out (by kernel_rfl) ONEz.out HVz.out ?_))
        clear c2
        go_loopw [39] (fun i wn => ∃ (k : Nat), k ≤ I.length ∧ i = .int .i64 k ∧ Hid (Below w0.heap.size w0 wn) ∧ Hid (wn.heap[wq.heap.size]? = some (.cells (R3 (maxL s.1 ((I.take k).map rq))).toArray 23 (0, 0)))) (fun i _ => I.length - (RowKit.intOf i).toNat)
        case atStart => exact ⟨0, Nat.zero_le _, rfl, BW.out, X7.out⟩
        case round =>
          clear BW X7 RX7
          obtain ⟨k, hk, rfl, BW, X7⟩ := hrel
          have hk6 : (k : Int) ≤ 1000 := by omega
          by_cases hlt : k < I.length
          · have hka : (k : Int) < (I.length : Int) := by omega
            have hk0 : (0 : Int) ≤ (k : Int) := by omega
            obtain ⟨x, hx⟩ : ∃ x, I[k]? = some x := ⟨_, List.getElem?_eq_getElem hlt⟩
            obtain ⟨hxo, r, oa, P, cp, rfl, hr, hrg⟩ := ctr_at ((HI.out.below B0.out).below BW.out) hx
            have eat := add_at r oa (k * 11)
            have RGX := Lib.hid hrg
            have HX := Lib.hid hx
            clear hx hxo hr hrg
            obtain ⟨m, hmm⟩ : ∃ m, maxL s.1 ((I.take k).map rq) = m := ⟨_, rfl⟩
            rw [hmm] at X7
            have HMM := Lib.hid hmm
            clear hmm
            obtain ⟨wa, hwa⟩ : ∃ v, wr.alloc (.cells #[.string ⟨#[]⟩, .string ⟨#[]⟩, .int .i64 0, .int .i64 0, .int .i64 0, .int .i64 0, .int .i64 0, .int .i64 0, .slice none 0 0, .int .i64 0, .int .i64 0] 105) = v := ⟨_, rfl⟩
            have XA := Lib.hid (show wa.heap[wr.heap.size]? = some (.cells #[.string ⟨#[]⟩, .string ⟨#[]⟩, .int .i64 0, .int .i64 0, .int .i64 0, .int .i64 0, .int .i64 0, .int .i64 0, .slice none 0 0, .int .i64 0, .int .i64 0] 105 (0, 0)) by rw [← hwa]; exact heap_alloc_new _ _)
            have BA := Lib.hid (show Below wr.heap.size wr wa by rw [← hwa]; exact (Below.refl _ _).alloc (Nat.le_refl _) _)
            obtain ⟨wb, hwb⟩ : ∃ v, wa.setCells (wr.heap.size) 0 (x.cells P cp) = v := ⟨_, rfl⟩
            have THc := Lib.hid (show wa.there (wr.heap.size) 0 11 from Back.th XA.out rfl)
            have ONEc := Lib.hid (show ((x.cells P cp) : List Value).toArray.all (·.oneCell') = true by simp [Ctr.cells, Value.oneCell'])
            have HVc := Lib.hid hwb
            have XB := Lib.hid (show wb.heap[wr.heap.size]? = some (.cells (x.cells P cp).toArray 105 (0, 0)) by rw [← hwb]; exact Back.st XA.out rfl)
            have RF := Lib.hid (show wb.rangeAt wr.heap.size 2 (R3 (rq x)) from fun j v hv => by
              refine cell_of XB.out (2 + j) ?_
              match j, hv with
              | 0, hv => exact hv
              | 1, hv => exact hv
              | 2, hv => exact hv
              | j + 3, hv => simp at hv)
            have BB0 := Lib.hid (show Below wr.heap.size wr wb by rw [← hwb]; exact bel_set BA.out (Nat.le_refl _))
            have BB := Lib.hid (BW.out.trans (BB0.out.mono BW.out.size))
            clear hwb XA BA XB
            have Y7 := Lib.hid ((BB0.out.block _ (lt_of_at X7.out)).trans X7.out)
            have RY7 := Lib.hid (range_box (cs := R3 m) Y7.out)
            go_wp2_with (first | (refine wpList_load_mid rfl 105 _ rfl _ _ rfl _ _ RGX.out Tryz.underlying105 rfl (by kernel_rfl) ?_) | (refine wpList_store_at rfl 105 _ _ rfl _ _ _ rfl rfl THc.out (by kernel_rfl) ONEc.out HVc.out ?_) | (refine wpList_load_mid rfl 23 _ rfl _ _ rfl _ _ RF.out Tryz.underlying23 rfl (by kernel_rfl) ?_) | (refine wpList_load_mid rfl 23 _ rfl _ _ rfl _ _ RY7.out Tryz.underlying23 rfl (by kernel_rfl) ?_))
            refine (max_any m (rq x) wb).mono ?_
            rintro e w4 ⟨rfl, hb4⟩
            have Y8 := Lib.hid ((hb4.block _ (lt_of_at Y7.out)).trans Y7.out)
            have B8 := Lib.hid (BB.out.trans (hb4.mono BB.out.size))
            clear hb4 hwa
            obtain ⟨w5, hw5⟩ : ∃ v, w4.setCells (wq.heap.size) 0 (R3 (maxR m (rq x))) = v := ⟨_, rfl⟩
            have THm := Lib.hid (show w4.there (wq.heap.size) 0 3 from Back.th Y8.out rfl)
            have ONEm := Lib.hid (show ((R3 (maxR m (rq x))) : List Value).toArray.all (·.oneCell') = true by simp [Value.oneCell'])
            have HVm := Lib.hid hw5
            have Y9 := Lib.hid (show w5.heap[wq.heap.size]? = some (.cells (R3 (maxR m (rq x))).toArray 23 (0, 0)) by rw [← hw5]; exact Back.st Y8.out rfl)
            have B9 := Lib.hid (show Below w0.heap.size w0 w5 by rw [← hw5]; exact bel_set B8.out HV.out)
            clear hw5
            go_wp2_with (first | (refine wpList_store_at rfl 23 _ _ rfl _ _ _ rfl rfl THm.out (by kernel_rfl) ONEm.out HVm.out ?_))
            go_roundw
            case rel =>
              have e : maxL s.1 ((I.take (k + 1)).map rq) = maxR m (rq x) := by rw [take_snoc HX.out, List.map_append, List.map_cons, List.map_nil, maxL_snoc, HMM.out]
              refine ⟨k + 1, by omega, by go_num, B9.out, ?_⟩
              rw [e]; exact Y9.out
            case measure => simp [RowKit.intOf]; omega
          · have hka : ¬ (k : Int) < (I.length : Int) := by omega
            obtain rfl : k = I.length := by omega
            rw [List.take_length] at X7
            have RX7 := Lib.hid (range_box X7.out)
            have ZB := Lib.hid ((BW.out.block _ (lt_of_at Z0.out)).trans Z0.out)
            obtain ⟨m, hmm⟩ : ∃ m, maxL s.1 (I.map rq) = m := ⟨_, rfl⟩
            rw [hmm] at X7 RX7 HE
            clear hmm
            obtain ⟨w6, hw6⟩ : ∃ v, wr.setCells (w.heap.size + 1) 0 (R3 m) = v := ⟨_, rfl⟩
            have THy := Lib.hid (show wr.there (w.heap.size + 1) 0 3 from Back.th ZB.out rfl)
            have ONEy := Lib.hid (show ((R3 m) : List Value).toArray.all (·.oneCell') = true by simp [Value.oneCell'])
            have HVy := Lib.hid hw6
            have Z6 := Lib.hid (show w6.heap[w.heap.size + 1]? = some (.cells (R3 m).toArray 23 (0, 0)) by rw [← hw6]; exact Back.st ZB.out rfl)
            have B6 := Lib.hid (show Below w.heap.size w w6 by rw [← hw6]; exact bel_set (B0.out.trans (BW.out.mono B0.out.size)) (by omega))
            clear hw6
            go_wp2_with (first | (refine wpList_load_mid rfl 23 _ rfl _ _ rfl _ _ RX7.out Tryz.underlying23 rfl (by kernel_rfl) ?_) | (refine wpList_store_at rfl 23 _ _ rfl _ _ _ rfl rfl THy.out (by kernel_rfl) ONEy.out HVy.out ?_))
            refine bodyPost_ret (v := .tuple #[.agg (R3 m).toArray, .bool true]) (res_of _ _ _ (R3 m) _ rfl rfl Z6.out rfl) rfl ?_
            rw [HE.out]
            exact ⟨rfl, B6.out⟩
end Re
end Go.Proofs.YtbichomjpmmjmaaGreatDoor

/-
  The document's answer: what a pod asks for. All that was there is left as it was. Conditions: the containers lie in memory, what they ask for are 64-bit integers.
-/
set_option linter.unusedVariables false
set_option linter.unusedSimpArgs false
namespace Go.Proofs.YtbichomjpmmjmaaGreatDoor
open Go.ChangeShapes Go.WideShapes Go.ChangeAt Go.RowKit Go.Lib
open NumMath
namespace Re
open Sd
end Re
end Go.Proofs.YtbichomjpmmjmaaGreatDoor

/-
  The contracts of the document's numbers and ports (provostref06.numbers, Has). No condition.
-/
namespace Go.Proofs.YtbichomjpmmjmaaGreatDoor
open Go.ChangeShapes Go.WideShapes Go.ChangeAt Go.RowKit Go.Lib
open Sd Lists
namespace SpecRef
end SpecRef
end Go.Proofs.YtbichomjpmmjmaaGreatDoor

/-
  The contract of the document's Has (provostref06.Has): has one of some containers a port? No condition.
-/
namespace Go.Proofs.YtbichomjpmmjmaaGreatDoor
open Go.ChangeShapes Go.WideShapes Go.ChangeAt Go.RowKit Go.Lib
open Sd Lists
namespace SpecRef
end SpecRef
end Go.Proofs.YtbichomjpmmjmaaGreatDoor

/-
  The contract of the document's word on a container (provostref06.one). Condition: what is looked at is not too long.
-/
namespace Go.Proofs.YtbichomjpmmjmaaGreatDoor
open Go.ChangeShapes Go.WideShapes Go.ChangeAt Go.RowKit Go.Lib
open Sd Lists Go.Sort Loose
namespace SpecRef
end SpecRef
end Go.Proofs.YtbichomjpmmjmaaGreatDoor

/-
  Containers gathered in a row of the call's own, their ports where they were: what keeps them, one more behind them. No condition.
-/
namespace Go.Proofs.YtbichomjpmmjmaaGreatDoor
open Go.RowKit
namespace Sd
open Lists
end Sd
end Go.Proofs.YtbichomjpmmjmaaGreatDoor
