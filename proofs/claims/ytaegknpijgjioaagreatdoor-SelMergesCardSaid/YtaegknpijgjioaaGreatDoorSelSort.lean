/-
  The contracts of strings.Compare, cmp.Or of two numbers, sel.order, and of slices.SortFunc at labels with that order: the row's labels by that order. Condition: the row is one of the caller's own.
-/
import Derived.Test.YtaegknpijgjioaaGreatDoorSelAll
import Derived.Test.YtaegknpijgjioaaGreatDoorShelf2
import Derived.Test.YtaegknpijgjioaaGreatDoorRegionGrown
set_option linter.unusedVariables false
set_option linter.unusedSimpArgs false
namespace Go.Proofs.YtaegknpijgjioaaGreatDoor
open Go.ChangeShapes Go.WideShapes Go.ChangeAt Go.RowKit Go.Lib
open Sd Lists SpecOwn Book Go.Sort
open Grown
namespace Sl

theorem compare_any (a b : ByteArray) (w : World) : Calls Tryz.prog 50 #[.string a, .string b] w fun e w' => e = .returned (.int .i64 (Lib.compareBytes a.toList b.toList)) ∧ w = w' := by
  refine (Any.strings_Compare Tryz.lays106 a b w).mono ?_
  rintro e w' ⟨rfl, rfl⟩
  exact ⟨by rw [ByteArray.toList_eq, ByteArray.toList_eq], rfl⟩
theorem or_any (g : Nat) (x y : Int) (w : World) (h0 : w.cell? ⟨g, 0, none⟩ = some (.int .i64 x)) (h1 : w.cell? ⟨g, 1, none⟩ = some (.int .i64 y)) :
    Calls Tryz.prog 49 #[.slice (some ⟨g, 0, none⟩) 2 2] w fun e w' => e = .returned (.int .i64 (if x ≠ 0 then x else y)) ∧ w = w' := by
  obtain ⟨R, hR⟩ : ∃ R, (if x ≠ 0 then x else y) = R := ⟨_, rfl⟩
  rw [hR]
  have HR := Lib.hid hR
  have H0 := Lib.hid h0
  have H1 := Lib.hid h1
  clear hR h0 h1
  go_enter Tryz.func49, Tryz.ntmps49
  go_wp2_with fail
  go_loop [8] (fun i => i = .int .i64 0 ∨ (i = .int .i64 1 ∧ Hid (x = 0)) ∨ (i = .int .i64 2 ∧ Hid (x = 0 ∧ y = 0))) (fun i => 2 - (RowKit.intOf i).toNat)
  case atStart => exact .inl rfl
  case round =>
    rcases hrel with rfl | ⟨rfl, hx⟩ | ⟨rfl, hxy⟩
    · have c0 := H0.out
      by_cases hz : x = 0
      · have hz1 : (x != 0) = false := by rw [hz]; rfl
        have HZ := Lib.hid hz
        clear hz
        go_wp2_with fail
        go_round
        case rel => exact .inr (.inl ⟨rfl, HZ.out⟩)
        case measure => simp [RowKit.intOf]
      · have hz1 : (x != 0) = true := bne_iff_ne.2 hz
        have HE := Lib.hid (show x = R by rw [← HR.out, if_pos hz])
        clear hz
        go_wp2_with fail
        go_ret
        exact ⟨by rw [← HE.out]; rfl, rfl⟩
    · have c1 := H1.out
      by_cases hz : y = 0
      · have hz1 : (y != 0) = false := by rw [hz]; rfl
        have HZ := Lib.hid hz
        clear hz
        go_wp2_with fail
        go_round
        case rel => exact .inr (.inr ⟨rfl, hx.out, HZ.out⟩)
        case measure => simp [RowKit.intOf]
      · have hz1 : (y != 0) = true := bne_iff_ne.2 hz
        have HE := Lib.hid (show y = R by rw [← HR.out, if_neg (by rw [hx.out]; simp)])
        clear hz
        go_wp2_with fail
        go_ret
        exact ⟨by rw [← HE.out]; rfl, rfl⟩
    · have HE := Lib.hid (show 0 = R by rw [← HR.out, if_neg (by rw [hxy.out.1]; simp), hxy.out.2])
      go_wp2_with fail
      go_ret
      exact ⟨by rw [← HE.out]; rfl, rfl⟩

-- ORDER
/-- what each operation leaves -/
def FO (x y : Lbl) (b1 b2 : Nat) (r t q : Int) : Nat → Value → World → Prop
  | 0 => fun v _ => v = .pointer (some ⟨b1, 0, none⟩)
  | 1 => fun v _ => v = .string x.key
  | 2 => fun v _ => v = .pointer (some ⟨b2, 0, none⟩)
  | 3 => fun v _ => v = .string y.key
  | 4 => fun v _ => v = .int .i64 r
  | 5 => fun v _ => v = .pointer (some ⟨b1, 1, none⟩)
  | 6 => fun v _ => v = .string x.val
  | 7 => fun v _ => v = .pointer (some ⟨b2, 1, none⟩)
  | 8 => fun v _ => v = .string y.val
  | 9 => fun v _ => v = .int .i64 t
  | 10 => fun v w => ∃ g, v = .slice (some ⟨g, 0, none⟩) 2 2 ∧ w.heap[g]? = some (.cells #[.int .i64 r, .int .i64 t] 3 (0, 0))
  | 11 => fun v _ => v = .int .i64 q
  | _ => fun v _ => v = .int .i64 q
theorem FO_keep (x y : Lbl) (b1 b2 : Nat) (r t q : Int) (i_ : Nat) (v_ : Value) (w_ w2_ : World) (h_ : FO x y b1 b2 r t q i_ v_ w_) (hb_ : GW w_ w2_) : FO x y b1 b2 r t q i_ v_ w2_ := by
  unfold FO at h_ ⊢
  split at h_ <;> first
    | exact h_
    | (obtain ⟨g, rfl, hg⟩ := h_; exact ⟨g, rfl, (hb_.below.block g (lt_of_block hg)).trans hg⟩)
theorem ow_new (x y : Lbl) (w : World) : GW w ((w.alloc (.cells #[.string x.key, .string x.val] 49)).alloc (.cells #[.string y.key, .string y.val] 49)) ∧ ((w.alloc (.cells #[.string x.key, .string x.val] 49)).alloc (.cells #[.string y.key, .string y.val] 49)).heap[w.heap.size]? = some (.cells #[.string x.key, .string x.val] 49 (0, 0)) ∧ ((w.alloc (.cells #[.string x.key, .string x.val] 49)).alloc (.cells #[.string y.key, .string y.val] 49)).heap[w.heap.size + 1]? = some (.cells #[.string y.key, .string y.val] 49 (0, 0)) := by
  refine ⟨((GW.refl w).alloc _).alloc _, (Below.heap_alloc _ _ _ (by simp)).trans (heap_alloc_new w _), ?_⟩
  have h := heap_alloc_new (w.alloc (.cells #[.string x.key, .string x.val] 49)) (.cells #[.string y.key, .string y.val] 49)
  rwa [show (w.alloc (.cells #[.string x.key, .string x.val] 49)).heap.size = w.heap.size + 1 by simp] at h
set_option maxRecDepth 100000 in
set_option maxHeartbeats 2000000 in
theorem order_any (x y : Lbl) (w : World) :
    Calls Tryz.prog 30 #[.agg #[.string x.key, .string x.val], .agg #[.string y.key, .string y.val]] w fun e w' => e = .returned (.int .i64 (cfL x y)) ∧ GW w w' := by
  have HC1 := Lib.hid (compare_any x.key y.key)
  have HC2 := Lib.hid (compare_any x.val y.val)
  obtain ⟨r, hr⟩ : ∃ r, Lib.compareBytes x.key.toList y.key.toList = r := ⟨_, rfl⟩
  obtain ⟨t, ht⟩ : ∃ t, Lib.compareBytes x.val.toList y.val.toList = t := ⟨_, rfl⟩
  obtain ⟨q, hq⟩ : ∃ q, (if r ≠ 0 then r else t) = q := ⟨_, rfl⟩
  have HQ := Lib.hid hq
  have HE := Lib.hid (show cfL x y = q by unfold cfL; rw [hr, ht, hq])
  rw [hr] at HC1
  rw [ht] at HC2
  clear hr ht hq
  have hn := ow_new x y w
  go_enter Tryz.func30, Tryz.ntmps30
  go_wp2_with fail
  obtain ⟨w1, hw1⟩ : ∃ v, (w.alloc (.cells #[.string x.key, .string x.val] 49)).alloc (.cells #[.string y.key, .string y.val] 49) = v := ⟨_, rfl⟩
  rw [hw1] at hn ⊢
  obtain ⟨b1, hb1⟩ : ∃ b, w.heap.size = b := ⟨_, rfl⟩
  rw [hb1] at hn ⊢
  obtain ⟨b2, hb2⟩ : ∃ b, b1 + 1 = b := ⟨_, rfl⟩
  rw [hb2] at hn ⊢
  have G1 := Lib.hid hn.1
  have X1 := Lib.hid hn.2.1
  have X2 := Lib.hid hn.2.2
  clear hn hw1 hb1 hb2
  refine Grown.wp_region_walk (by kernel_rfl) (by kernel_rfl) (FO x y b1 b2 r t q) (FO_keep x y b1 b2 r t q) ?_ ?_
  · refine ⟨?_, ?_, ?_, ?_, ?_, ?_, ?_, ?_, ?_, ?_, ?_, ?_, ?_, trivial⟩
    · intro a w1 hfr hdep
      have f0 : a.tmps.getD 2 undef = .pointer (some ⟨b1, 0, none⟩) := hfr.slot 2 (by kernel_rfl)
      refine Grown.Step.value rfl (v := .pointer (some ⟨b1, 0, none⟩)) (w' := w1) ?_ rfl (GW.refl _)
      simp [go_sem, Act.eval, f0]
    · intro a w1 hfr hdep
      have hq_ := (hfr.below.below.block b1 (lt_of_block X1.out)).trans X1.out
      have hc_ := (two_cells hq_).1
      have e0 : a.tmps.getD 5 undef = .pointer (some ⟨b1, 0, none⟩) := Grown.dep_of hdep 0 5 (by kernel_rfl)
      refine Grown.Step.value rfl (v := .string x.key) (w' := w1) ?_ rfl (GW.refl _)
      simp [go_sem, Act.eval, e0, hc_]
    · intro a w1 hfr hdep
      have f0 : a.tmps.getD 3 undef = .pointer (some ⟨b2, 0, none⟩) := hfr.slot 3 (by kernel_rfl)
      refine Grown.Step.value rfl (v := .pointer (some ⟨b2, 0, none⟩)) (w' := w1) ?_ rfl (GW.refl _)
      simp [go_sem, Act.eval, f0]
    · intro a w1 hfr hdep
      have hq_ := (hfr.below.below.block b2 (lt_of_block X2.out)).trans X2.out
      have hc_ := (two_cells hq_).1
      have e0 : a.tmps.getD 7 undef = .pointer (some ⟨b2, 0, none⟩) := Grown.dep_of hdep 2 7 (by kernel_rfl)
      refine Grown.Step.value rfl (v := .string y.key) (w' := w1) ?_ rfl (GW.refl _)
      simp [go_sem, Act.eval, e0, hc_]
    · intro a w1 hfr hdep
      have e0 : a.tmps.getD 6 undef = .string x.key := Grown.dep_of hdep 1 6 (by kernel_rfl)
      have e1 : a.tmps.getD 8 undef = .string y.key := Grown.dep_of hdep 3 8 (by kernel_rfl)
      refine Grown.Step.call rfl (f := 50) (args := #[.string x.key, .string y.key]) ?_ ?_
      · simp [go_sem, Act.eval, e0, e1]
      · refine (HC1.out w1).mono ?_
        rintro e w2 ⟨rfl, rfl⟩
        exact ⟨_, rfl, rfl, GW.refl _⟩
    · intro a w1 hfr hdep
      have f0 : a.tmps.getD 2 undef = .pointer (some ⟨b1, 0, none⟩) := hfr.slot 2 (by kernel_rfl)
      refine Grown.Step.value rfl (v := .pointer (some ⟨b1, 1, none⟩)) (w' := w1) ?_ rfl (GW.refl _)
      simp [go_sem, Act.eval, f0]
    · intro a w1 hfr hdep
      have hq_ := (hfr.below.below.block b1 (lt_of_block X1.out)).trans X1.out
      have hc_ := (two_cells hq_).2.1
      have e0 : a.tmps.getD 10 undef = .pointer (some ⟨b1, 1, none⟩) := Grown.dep_of hdep 5 10 (by kernel_rfl)
      refine Grown.Step.value rfl (v := .string x.val) (w' := w1) ?_ rfl (GW.refl _)
      simp [go_sem, Act.eval, e0, hc_]
    · intro a w1 hfr hdep
      have f0 : a.tmps.getD 3 undef = .pointer (some ⟨b2, 0, none⟩) := hfr.slot 3 (by kernel_rfl)
      refine Grown.Step.value rfl (v := .pointer (some ⟨b2, 1, none⟩)) (w' := w1) ?_ rfl (GW.refl _)
      simp [go_sem, Act.eval, f0]
    · intro a w1 hfr hdep
      have hq_ := (hfr.below.below.block b2 (lt_of_block X2.out)).trans X2.out
      have hc_ := (two_cells hq_).2.1
      have e0 : a.tmps.getD 12 undef = .pointer (some ⟨b2, 1, none⟩) := Grown.dep_of hdep 7 12 (by kernel_rfl)
      refine Grown.Step.value rfl (v := .string y.val) (w' := w1) ?_ rfl (GW.refl _)
      simp [go_sem, Act.eval, e0, hc_]
    · intro a w1 hfr hdep
      have e0 : a.tmps.getD 11 undef = .string x.val := Grown.dep_of hdep 6 11 (by kernel_rfl)
      have e1 : a.tmps.getD 13 undef = .string y.val := Grown.dep_of hdep 8 13 (by kernel_rfl)
      refine Grown.Step.call rfl (f := 50) (args := #[.string x.val, .string y.val]) ?_ ?_
      · simp [go_sem, Act.eval, e0, e1]
      · refine (HC2.out w1).mono ?_
        rintro e w2 ⟨rfl, rfl⟩
        exact ⟨_, rfl, rfl, GW.refl _⟩
    · intro a w1 hfr hdep
      have e0 : a.tmps.getD 9 undef = .int .i64 r := Grown.dep_of hdep 4 9 (by kernel_rfl)
      have e1 : a.tmps.getD 14 undef = .int .i64 t := Grown.dep_of hdep 9 14 (by kernel_rfl)
      refine Grown.Step.value rfl (v := .slice (some ⟨w1.heap.size, 0, none⟩) 2 2) (w' := (w1.alloc (.cells #[.int .i64 r, .int .i64 t] 3))) ?_ ⟨_, rfl, heap_alloc_new w1 _⟩ ((GW.refl _).alloc _)
      simp only [Array.getD_eq_getD_getElem?] at e0 e1; simp [go_sem, Act.eval, e0, e1]
    · intro a w1 hfr hdep
      obtain ⟨g_, e0, hg_⟩ := (Grown.dep_of hdep 10 15 (by kernel_rfl) : (fun v w => ∃ g, v = .slice (some ⟨g, 0, none⟩) 2 2 ∧ w.heap[g]? = some (.cells #[.int .i64 r, .int .i64 t] 3 (0, 0))) (a.tmps.getD 15 undef) w1)
      refine Grown.Step.call rfl (f := 49) (args := #[.slice (some ⟨g_, 0, none⟩) 2 2]) ?_ ?_
      · simp [go_sem, Act.eval, e0]
      · refine (or_any g_ r t w1 (two_cells hg_).1 (two_cells hg_).2.1).mono ?_
        rintro e w2 ⟨rfl, rfl⟩
        exact ⟨_, rfl, by rw [HQ.out]; rfl, GW.refl _⟩
    · intro a w1 hfr hdep
      have e0 : a.tmps.getD 16 undef = .int .i64 q := Grown.dep_of hdep 11 16 (by kernel_rfl)
      refine Grown.Step.value rfl (v := .int .i64 q) (w' := w1) ?_ rfl (GW.refl _)
      simp [go_sem, Act.eval, e0]
  · intro v0 v1 v2 v3 v4 v5 v6 v7 v8 v9 v10 v11 v12 w5 hb5 hC
    have h12 : v12 = .int .i64 q := hC.2
    clear hC
    subst h12
    have G5 := Lib.hid (G1.out.trans hb5)
    clear hb5
    simp only [put_lit, List.set_cons_succ, List.set_cons_zero]
    go_wp2_with fail
    go_ret
    exact ⟨by rw [HE.out]; rfl, G5.out⟩
end Sl
end Go.Proofs.YtaegknpijgjioaaGreatDoor
