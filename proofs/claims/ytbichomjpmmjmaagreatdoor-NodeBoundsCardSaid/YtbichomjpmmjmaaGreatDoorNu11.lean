/-
  The contracts of spec's req, lim and probe: what is said of what a container asks for, of what it may have, of its probe. All that was there is left as it was. No condition.
-/
import Derived.Test.YtbichomjpmmjmaaGreatDoorNu10
namespace Go.Proofs.YtbichomjpmmjmaaGreatDoor
open Go.ChangeShapes Go.WideShapes Go.ChangeAt Go.RowKit Go.Lib
open Sd Lists
namespace SpecOwn
/-- what each operation leaves -/
def Freq (B : Nat) (x0 x1 x2 : Int) : Nat → Value → World → Prop
  | 0 => fun v _ => v = .pointer (some ⟨B, 0, none⟩)
  | 1 => fun v _ => v = .int .i64 x0
  | 2 => SaysK (KB B) (withinV x0 0 big (t_req ++ t_cpu))
  | 3 => fun v _ => v = .pointer (some ⟨B, 1, none⟩)
  | 4 => fun v _ => v = .int .i64 x1
  | 5 => SaysK (KB B) (withinV x1 0 big (t_req ++ t_mem))
  | 6 => fun v _ => v = .pointer (some ⟨B, 2, none⟩)
  | 7 => fun v _ => v = .int .i64 x2
  | 8 => SaysK (KB B) (withinV x2 0 big (t_req ++ t_pids))
  | 9 => RowK (KB B) [withinV x0 0 big (t_req ++ t_cpu), withinV x1 0 big (t_req ++ t_mem), withinV x2 0 big (t_req ++ t_pids)]
  | 10 => SaysK (KB B) (firstV [withinV x0 0 big (t_req ++ t_cpu), withinV x1 0 big (t_req ++ t_mem), withinV x2 0 big (t_req ++ t_pids)])
  | _ => SaysK (KB B) (firstV [withinV x0 0 big (t_req ++ t_cpu), withinV x1 0 big (t_req ++ t_mem), withinV x2 0 big (t_req ++ t_pids)])
theorem Freq_keep (B : Nat) (x0 x1 x2 : Int) (i : Nat) (v : Value) (w w' : World) (h : Freq B x0 x1 x2 i v w) (hb : Below w.heap.size w w') : Freq B x0 x1 x2 i v w' := by
  unfold Freq at h ⊢
  split at h <;> first | exact h | exact TextK.keep h (kb_keep hb) | exact SaysK.keep h (kb_keep hb) | exact RowK.keep h (kb_keep hb)
set_option maxRecDepth 100000 in
set_option maxHeartbeats 2000000 in
theorem req_any (x0 x1 x2 : Int) (w : World) : Calls Tryz.prog 109 #[.agg #[.int .i64 x0, .int .i64 x1, .int .i64 x2]] w (Tells (reqN x0 x1 x2) w) := by
  go_enter Tryz.func109, Tryz.ntmps109
  go_wp2
  have HB0 : w.heap.size ≤ (w.alloc (.cells #[.int .i64 x0, .int .i64 x1, .int .i64 x2] 23)).heap.size := by simp <;> omega
  refine Loose.wp_region_walk (by kernel_rfl) (by kernel_rfl) (Freq w.heap.size x0 x1 x2) (Freq_keep w.heap.size x0 x1 x2) ?_ ?_
  · refine ⟨?_, ?_, ?_, ?_, ?_, ?_, ?_, ?_, ?_, ?_, ?_, ?_, trivial⟩
    · intro a w1 hfr hdep
      have f0 : a.tmps.getD 1 undef = .pointer (some ⟨w.heap.size, 0, none⟩) := hfr.slot 1 (by kernel_rfl)
      refine Loose.Step.value rfl (v := .pointer (some ⟨w.heap.size, 0, none⟩)) (w' := w1) ?_ rfl (Below.refl _ _)
      simp [go_sem, Act.eval, f0]
    · intro a w1 hfr hdep
      have e0 : a.tmps.getD 3 undef = .pointer (some ⟨w.heap.size, 0, none⟩) := Loose.dep_of hdep 0 3 (by kernel_rfl)
      have hc : w1.cell? ⟨w.heap.size, 0, none⟩ = some (.int .i64 x0) := (hfr.below.cell (by simp <;> omega)).trans (by simp)
      refine Loose.Step.value rfl (v := .int .i64 x0) (w' := w1) ?_ rfl (Below.refl _ _)
      simp [go_sem, Act.eval, e0, hc]
    · intro a w1 hfr hdep
      have e0 : a.tmps.getD 4 undef = .int .i64 x0 := Loose.dep_of hdep 1 4 (by kernel_rfl)
      refine Loose.Step.call rfl (f := 77) (args := #[.int .i64 x0, .int .i64 0, .int .i64 1099511627776, .string ⟨#[114, 101, 113, 46, 99, 112, 117]⟩]) ?_ ?_
      · simp [go_sem, Act.eval, e0]
      · have HSZ : w.heap.size ≤ w1.heap.size := Nat.le_trans HB0 hfr.below.size
        refine (within_any x0 0 big (t_req ++ t_cpu) (by decide) w1).mono ?_
        rintro e w2 ⟨E, rfl, hE, hb⟩
        exact ⟨E, rfl, kb_tells HSZ hE, hb⟩
    · intro a w1 hfr hdep
      have f0 : a.tmps.getD 1 undef = .pointer (some ⟨w.heap.size, 0, none⟩) := hfr.slot 1 (by kernel_rfl)
      refine Loose.Step.value rfl (v := .pointer (some ⟨w.heap.size, 1, none⟩)) (w' := w1) ?_ rfl (Below.refl _ _)
      simp [go_sem, Act.eval, f0]
    · intro a w1 hfr hdep
      have e0 : a.tmps.getD 6 undef = .pointer (some ⟨w.heap.size, 1, none⟩) := Loose.dep_of hdep 3 6 (by kernel_rfl)
      have hc : w1.cell? ⟨w.heap.size, 1, none⟩ = some (.int .i64 x1) := (hfr.below.cell (by simp <;> omega)).trans (by simp)
      refine Loose.Step.value rfl (v := .int .i64 x1) (w' := w1) ?_ rfl (Below.refl _ _)
      simp [go_sem, Act.eval, e0, hc]
    · intro a w1 hfr hdep
      have e0 : a.tmps.getD 7 undef = .int .i64 x1 := Loose.dep_of hdep 4 7 (by kernel_rfl)
      refine Loose.Step.call rfl (f := 77) (args := #[.int .i64 x1, .int .i64 0, .int .i64 1099511627776, .string ⟨#[114, 101, 113, 46, 109, 101, 109]⟩]) ?_ ?_
      · simp [go_sem, Act.eval, e0]
      · have HSZ : w.heap.size ≤ w1.heap.size := Nat.le_trans HB0 hfr.below.size
        refine (within_any x1 0 big (t_req ++ t_mem) (by decide) w1).mono ?_
        rintro e w2 ⟨E, rfl, hE, hb⟩
        exact ⟨E, rfl, kb_tells HSZ hE, hb⟩
    · intro a w1 hfr hdep
      have f0 : a.tmps.getD 1 undef = .pointer (some ⟨w.heap.size, 0, none⟩) := hfr.slot 1 (by kernel_rfl)
      refine Loose.Step.value rfl (v := .pointer (some ⟨w.heap.size, 2, none⟩)) (w' := w1) ?_ rfl (Below.refl _ _)
      simp [go_sem, Act.eval, f0]
    · intro a w1 hfr hdep
      have e0 : a.tmps.getD 9 undef = .pointer (some ⟨w.heap.size, 2, none⟩) := Loose.dep_of hdep 6 9 (by kernel_rfl)
      have hc : w1.cell? ⟨w.heap.size, 2, none⟩ = some (.int .i64 x2) := (hfr.below.cell (by simp <;> omega)).trans (by simp)
      refine Loose.Step.value rfl (v := .int .i64 x2) (w' := w1) ?_ rfl (Below.refl _ _)
      simp [go_sem, Act.eval, e0, hc]
    · intro a w1 hfr hdep
      have e0 : a.tmps.getD 10 undef = .int .i64 x2 := Loose.dep_of hdep 7 10 (by kernel_rfl)
      refine Loose.Step.call rfl (f := 77) (args := #[.int .i64 x2, .int .i64 0, .int .i64 1099511627776, .string ⟨#[114, 101, 113, 46, 112, 105, 100, 115]⟩]) ?_ ?_
      · simp [go_sem, Act.eval, e0]
      · have HSZ : w.heap.size ≤ w1.heap.size := Nat.le_trans HB0 hfr.below.size
        refine (within_any x2 0 big (t_req ++ t_pids) (by decide) w1).mono ?_
        rintro e w2 ⟨E, rfl, hE, hb⟩
        exact ⟨E, rfl, kb_tells HSZ hE, hb⟩
    · intro a w1 hfr hdep
      have h0 : SaysK (KB w.heap.size) (withinV x0 0 big (t_req ++ t_cpu)) (a.tmps.getD 5 undef) w1 := Loose.dep_of hdep 2 5 (by kernel_rfl)
      have h1 : SaysK (KB w.heap.size) (withinV x1 0 big (t_req ++ t_mem)) (a.tmps.getD 8 undef) w1 := Loose.dep_of hdep 5 8 (by kernel_rfl)
      have h2 : SaysK (KB w.heap.size) (withinV x2 0 big (t_req ++ t_pids)) (a.tmps.getD 11 undef) w1 := Loose.dep_of hdep 8 11 (by kernel_rfl)
      have r := build3 (a.tmps.getD 5 undef) (a.tmps.getD 8 undef) (a.tmps.getD 11 undef) w1 (cells_form (Says.form h0)) (cells_form (Says.form h1)) (cells_form (Says.form h2))
      have hb : Below w1.heap.size w1 (w1.alloc (.cells #[a.tmps.getD 5 undef, a.tmps.getD 8 undef, a.tmps.getD 11 undef] 83)) := (Below.refl _ _).alloc (Nat.le_refl _) _
      refine Loose.Step.value rfl (v := .slice (some ⟨w1.heap.size, 0, none⟩) 3 3) (w' := w1.alloc (.cells #[a.tmps.getD 5 undef, a.tmps.getD 8 undef, a.tmps.getD 11 undef] 83)) ?_ (row_made [a.tmps.getD 5 undef, a.tmps.getD 8 undef, a.tmps.getD 11 undef] _ 3 rfl (Nat.le_trans HB0 hfr.below.size) (kb_keep hb) ⟨h0, h1, h2, trivial⟩) hb
      clear hb h0 h1 h2 hdep
      simp only [Array.getD_eq_getD_getElem?] at r
      simp [execOp, Act.eval, r]
    · intro a w1 hfr hdep
      have h0 : RowK (KB w.heap.size) [withinV x0 0 big (t_req ++ t_cpu), withinV x1 0 big (t_req ++ t_mem), withinV x2 0 big (t_req ++ t_pids)] (a.tmps.getD 12 undef) w1 := Loose.dep_of hdep 9 12 (by kernel_rfl)
      refine Loose.Step.call rfl (f := 73) (args := #[a.tmps.getD 12 undef]) ?_ (row_first h0 (by simp))
      simp [go_sem, Act.eval]
    · intro a w1 hfr hdep
      have h0 : SaysK (KB w.heap.size) (firstV [withinV x0 0 big (t_req ++ t_cpu), withinV x1 0 big (t_req ++ t_mem), withinV x2 0 big (t_req ++ t_pids)]) (a.tmps.getD 13 undef) w1 := Loose.dep_of hdep 10 13 (by kernel_rfl)
      refine Loose.Step.value rfl (v := a.tmps.getD 13 undef) (w' := w1) ?_ h0 (Below.refl _ _)
      simp [go_sem, Act.eval]
  · intro v0 v1 v2 v3 v4 v5 v6 v7 v8 v9 v10 v11 w1 hb hC
    have hE : SaysK (KB w.heap.size) (reqN x0 x1 x2) v11 w1 := hC.2
    clear hC
    have HE := Lib.hid hE
    have HB := Lib.hid (Below.trans ((Below.refl w.heap.size w).alloc (Nat.le_refl _) _) (hb.mono HB0))
    clear hE hb HB0
    simp only [put_lit, List.set_cons_succ, List.set_cons_zero]
    go_wp2_with fail
    go_ret
    exact ⟨_, rfl, HE.out, HB.out⟩
/-- what each operation leaves -/
def Flim (B : Nat) (x0 x1 x2 y0 y1 y2 : Int) : Nat → Value → World → Prop
  | 0 => fun v _ => v = .pointer (some ⟨B, 0, none⟩)
  | 1 => fun v _ => v = .int .i64 x0
  | 2 => fun v _ => v = .pointer (some ⟨B + 1, 0, none⟩)
  | 3 => fun v _ => v = .int .i64 y0
  | 4 => SaysK (KB B) (limitV x0 y0 (t_lim ++ t_cpu))
  | 5 => fun v _ => v = .pointer (some ⟨B, 1, none⟩)
  | 6 => fun v _ => v = .int .i64 x1
  | 7 => fun v _ => v = .pointer (some ⟨B + 1, 1, none⟩)
  | 8 => fun v _ => v = .int .i64 y1
  | 9 => SaysK (KB B) (limitV x1 y1 (t_lim ++ t_mem))
  | 10 => fun v _ => v = .pointer (some ⟨B, 2, none⟩)
  | 11 => fun v _ => v = .int .i64 x2
  | 12 => fun v _ => v = .pointer (some ⟨B + 1, 2, none⟩)
  | 13 => fun v _ => v = .int .i64 y2
  | 14 => SaysK (KB B) (limitV x2 y2 (t_lim ++ t_pids))
  | 15 => RowK (KB B) [limitV x0 y0 (t_lim ++ t_cpu), limitV x1 y1 (t_lim ++ t_mem), limitV x2 y2 (t_lim ++ t_pids)]
  | 16 => SaysK (KB B) (firstV [limitV x0 y0 (t_lim ++ t_cpu), limitV x1 y1 (t_lim ++ t_mem), limitV x2 y2 (t_lim ++ t_pids)])
  | _ => SaysK (KB B) (firstV [limitV x0 y0 (t_lim ++ t_cpu), limitV x1 y1 (t_lim ++ t_mem), limitV x2 y2 (t_lim ++ t_pids)])
theorem Flim_keep (B : Nat) (x0 x1 x2 y0 y1 y2 : Int) (i : Nat) (v : Value) (w w' : World) (h : Flim B x0 x1 x2 y0 y1 y2 i v w) (hb : Below w.heap.size w w') : Flim B x0 x1 x2 y0 y1 y2 i v w' := by
  unfold Flim at h ⊢
  split at h <;> first | exact h | exact TextK.keep h (kb_keep hb) | exact SaysK.keep h (kb_keep hb) | exact RowK.keep h (kb_keep hb)
set_option maxRecDepth 100000 in
set_option maxHeartbeats 2000000 in
theorem lim_any (x0 x1 x2 y0 y1 y2 : Int) (w : World) : Calls Tryz.prog 110 #[.agg #[.int .i64 x0, .int .i64 x1, .int .i64 x2], .agg #[.int .i64 y0, .int .i64 y1, .int .i64 y2]] w (Tells (limN x0 x1 x2 y0 y1 y2) w) := by
  go_enter Tryz.func110, Tryz.ntmps110
  go_wp2
  have HB0 : w.heap.size ≤ ((w.alloc (.cells #[.int .i64 x0, .int .i64 x1, .int .i64 x2] 23)).alloc (.cells #[.int .i64 y0, .int .i64 y1, .int .i64 y2] 23)).heap.size := by simp <;> omega
  refine Loose.wp_region_walk (by kernel_rfl) (by kernel_rfl) (Flim w.heap.size x0 x1 x2 y0 y1 y2) (Flim_keep w.heap.size x0 x1 x2 y0 y1 y2) ?_ ?_
  · refine ⟨?_, ?_, ?_, ?_, ?_, ?_, ?_, ?_, ?_, ?_, ?_, ?_, ?_, ?_, ?_, ?_, ?_, ?_, trivial⟩
    · intro a w1 hfr hdep
      have f0 : a.tmps.getD 2 undef = .pointer (some ⟨w.heap.size, 0, none⟩) := hfr.slot 2 (by kernel_rfl)
      refine Loose.Step.value rfl (v := .pointer (some ⟨w.heap.size, 0, none⟩)) (w' := w1) ?_ rfl (Below.refl _ _)
      simp [go_sem, Act.eval, f0]
    · intro a w1 hfr hdep
      have e0 : a.tmps.getD 5 undef = .pointer (some ⟨w.heap.size, 0, none⟩) := Loose.dep_of hdep 0 5 (by kernel_rfl)
      have hc : w1.cell? ⟨w.heap.size, 0, none⟩ = some (.int .i64 x0) := (hfr.below.cell (by simp <;> omega)).trans (by simp)
      refine Loose.Step.value rfl (v := .int .i64 x0) (w' := w1) ?_ rfl (Below.refl _ _)
      simp [go_sem, Act.eval, e0, hc]
    · intro a w1 hfr hdep
      have f0 : a.tmps.getD 3 undef = .pointer (some ⟨w.heap.size + 1, 0, none⟩) := hfr.slot 3 (by kernel_rfl)
      refine Loose.Step.value rfl (v := .pointer (some ⟨w.heap.size + 1, 0, none⟩)) (w' := w1) ?_ rfl (Below.refl _ _)
      simp [go_sem, Act.eval, f0]
    · intro a w1 hfr hdep
      have e0 : a.tmps.getD 7 undef = .pointer (some ⟨w.heap.size + 1, 0, none⟩) := Loose.dep_of hdep 2 7 (by kernel_rfl)
      have hc : w1.cell? ⟨w.heap.size + 1, 0, none⟩ = some (.int .i64 y0) := (hfr.below.cell (by simp <;> omega)).trans (by simp)
      refine Loose.Step.value rfl (v := .int .i64 y0) (w' := w1) ?_ rfl (Below.refl _ _)
      simp [go_sem, Act.eval, e0, hc]
    · intro a w1 hfr hdep
      have e0 : a.tmps.getD 6 undef = .int .i64 x0 := Loose.dep_of hdep 1 6 (by kernel_rfl)
      have e1 : a.tmps.getD 8 undef = .int .i64 y0 := Loose.dep_of hdep 3 8 (by kernel_rfl)
      refine Loose.Step.call rfl (f := 140) (args := #[.int .i64 x0, .int .i64 y0, .string ⟨#[108, 105, 109, 46, 99, 112, 117]⟩]) ?_ ?_
      · simp [go_sem, Act.eval, e0, e1]
      · have HSZ : w.heap.size ≤ w1.heap.size := Nat.le_trans HB0 hfr.below.size
        refine (limit_any x0 y0 (t_lim ++ t_cpu) (by decide) w1).mono ?_
        rintro e w2 ⟨E, rfl, hE, hb⟩
        exact ⟨E, rfl, kb_tells HSZ hE, hb⟩
    · intro a w1 hfr hdep
      have f0 : a.tmps.getD 2 undef = .pointer (some ⟨w.heap.size, 0, none⟩) := hfr.slot 2 (by kernel_rfl)
      refine Loose.Step.value rfl (v := .pointer (some ⟨w.heap.size, 1, none⟩)) (w' := w1) ?_ rfl (Below.refl _ _)
      simp [go_sem, Act.eval, f0]
    · intro a w1 hfr hdep
      have e0 : a.tmps.getD 10 undef = .pointer (some ⟨w.heap.size, 1, none⟩) := Loose.dep_of hdep 5 10 (by kernel_rfl)
      have hc : w1.cell? ⟨w.heap.size, 1, none⟩ = some (.int .i64 x1) := (hfr.below.cell (by simp <;> omega)).trans (by simp)
      refine Loose.Step.value rfl (v := .int .i64 x1) (w' := w1) ?_ rfl (Below.refl _ _)
      simp [go_sem, Act.eval, e0, hc]
    · intro a w1 hfr hdep
      have f0 : a.tmps.getD 3 undef = .pointer (some ⟨w.heap.size + 1, 0, none⟩) := hfr.slot 3 (by kernel_rfl)
      refine Loose.Step.value rfl (v := .pointer (some ⟨w.heap.size + 1, 1, none⟩)) (w' := w1) ?_ rfl (Below.refl _ _)
      simp [go_sem, Act.eval, f0]
    · intro a w1 hfr hdep
      have e0 : a.tmps.getD 12 undef = .pointer (some ⟨w.heap.size + 1, 1, none⟩) := Loose.dep_of hdep 7 12 (by kernel_rfl)
      have hc : w1.cell? ⟨w.heap.size + 1, 1, none⟩ = some (.int .i64 y1) := (hfr.below.cell (by simp <;> omega)).trans (by simp)
      refine Loose.Step.value rfl (v := .int .i64 y1) (w' := w1) ?_ rfl (Below.refl _ _)
      simp [go_sem, Act.eval, e0, hc]
    · intro a w1 hfr hdep
      have e0 : a.tmps.getD 11 undef = .int .i64 x1 := Loose.dep_of hdep 6 11 (by kernel_rfl)
      have e1 : a.tmps.getD 13 undef = .int .i64 y1 := Loose.dep_of hdep 8 13 (by kernel_rfl)
      refine Loose.Step.call rfl (f := 140) (args := #[.int .i64 x1, .int .i64 y1, .string ⟨#[108, 105, 109, 46, 109, 101, 109]⟩]) ?_ ?_
      · simp [go_sem, Act.eval, e0, e1]
      · have HSZ : w.heap.size ≤ w1.heap.size := Nat.le_trans HB0 hfr.below.size
        refine (limit_any x1 y1 (t_lim ++ t_mem) (by decide) w1).mono ?_
        rintro e w2 ⟨E, rfl, hE, hb⟩
        exact ⟨E, rfl, kb_tells HSZ hE, hb⟩
    · intro a w1 hfr hdep
      have f0 : a.tmps.getD 2 undef = .pointer (some ⟨w.heap.size, 0, none⟩) := hfr.slot 2 (by kernel_rfl)
      refine Loose.Step.value rfl (v := .pointer (some ⟨w.heap.size, 2, none⟩)) (w' := w1) ?_ rfl (Below.refl _ _)
      simp [go_sem, Act.eval, f0]
    · intro a w1 hfr hdep
      have e0 : a.tmps.getD 15 undef = .pointer (some ⟨w.heap.size, 2, none⟩) := Loose.dep_of hdep 10 15 (by kernel_rfl)
      have hc : w1.cell? ⟨w.heap.size, 2, none⟩ = some (.int .i64 x2) := (hfr.below.cell (by simp <;> omega)).trans (by simp)
      refine Loose.Step.value rfl (v := .int .i64 x2) (w' := w1) ?_ rfl (Below.refl _ _)
      simp [go_sem, Act.eval, e0, hc]
    · intro a w1 hfr hdep
      have f0 : a.tmps.getD 3 undef = .pointer (some ⟨w.heap.size + 1, 0, none⟩) := hfr.slot 3 (by kernel_rfl)
      refine Loose.Step.value rfl (v := .pointer (some ⟨w.heap.size + 1, 2, none⟩)) (w' := w1) ?_ rfl (Below.refl _ _)
      simp [go_sem, Act.eval, f0]
    · intro a w1 hfr hdep
      have e0 : a.tmps.getD 17 undef = .pointer (some ⟨w.heap.size + 1, 2, none⟩) := Loose.dep_of hdep 12 17 (by kernel_rfl)
      have hc : w1.cell? ⟨w.heap.size + 1, 2, none⟩ = some (.int .i64 y2) := (hfr.below.cell (by simp <;> omega)).trans (by simp)
      refine Loose.Step.value rfl (v := .int .i64 y2) (w' := w1) ?_ rfl (Below.refl _ _)
      simp [go_sem, Act.eval, e0, hc]
    · intro a w1 hfr hdep
      have e0 : a.tmps.getD 16 undef = .int .i64 x2 := Loose.dep_of hdep 11 16 (by kernel_rfl)
      have e1 : a.tmps.getD 18 undef = .int .i64 y2 := Loose.dep_of hdep 13 18 (by kernel_rfl)
      refine Loose.Step.call rfl (f := 140) (args := #[.int .i64 x2, .int .i64 y2, .string ⟨#[108, 105, 109, 46, 112, 105, 100, 115]⟩]) ?_ ?_
      · simp [go_sem, Act.eval, e0, e1]
      · have HSZ : w.heap.size ≤ w1.heap.size := Nat.le_trans HB0 hfr.below.size
        refine (limit_any x2 y2 (t_lim ++ t_pids) (by decide) w1).mono ?_
        rintro e w2 ⟨E, rfl, hE, hb⟩
        exact ⟨E, rfl, kb_tells HSZ hE, hb⟩
    · intro a w1 hfr hdep
      have h0 : SaysK (KB w.heap.size) (limitV x0 y0 (t_lim ++ t_cpu)) (a.tmps.getD 9 undef) w1 := Loose.dep_of hdep 4 9 (by kernel_rfl)
      have h1 : SaysK (KB w.heap.size) (limitV x1 y1 (t_lim ++ t_mem)) (a.tmps.getD 14 undef) w1 := Loose.dep_of hdep 9 14 (by kernel_rfl)
      have h2 : SaysK (KB w.heap.size) (limitV x2 y2 (t_lim ++ t_pids)) (a.tmps.getD 19 undef) w1 := Loose.dep_of hdep 14 19 (by kernel_rfl)
      have r := build3 (a.tmps.getD 9 undef) (a.tmps.getD 14 undef) (a.tmps.getD 19 undef) w1 (cells_form (Says.form h0)) (cells_form (Says.form h1)) (cells_form (Says.form h2))
      have hb : Below w1.heap.size w1 (w1.alloc (.cells #[a.tmps.getD 9 undef, a.tmps.getD 14 undef, a.tmps.getD 19 undef] 83)) := (Below.refl _ _).alloc (Nat.le_refl _) _
      refine Loose.Step.value rfl (v := .slice (some ⟨w1.heap.size, 0, none⟩) 3 3) (w' := w1.alloc (.cells #[a.tmps.getD 9 undef, a.tmps.getD 14 undef, a.tmps.getD 19 undef] 83)) ?_ (row_made [a.tmps.getD 9 undef, a.tmps.getD 14 undef, a.tmps.getD 19 undef] _ 3 rfl (Nat.le_trans HB0 hfr.below.size) (kb_keep hb) ⟨h0, h1, h2, trivial⟩) hb
      clear hb h0 h1 h2 hdep
      simp only [Array.getD_eq_getD_getElem?] at r
      simp [execOp, Act.eval, r]
    · intro a w1 hfr hdep
      have h0 : RowK (KB w.heap.size) [limitV x0 y0 (t_lim ++ t_cpu), limitV x1 y1 (t_lim ++ t_mem), limitV x2 y2 (t_lim ++ t_pids)] (a.tmps.getD 20 undef) w1 := Loose.dep_of hdep 15 20 (by kernel_rfl)
      refine Loose.Step.call rfl (f := 73) (args := #[a.tmps.getD 20 undef]) ?_ (row_first h0 (by simp))
      simp [go_sem, Act.eval]
    · intro a w1 hfr hdep
      have h0 : SaysK (KB w.heap.size) (firstV [limitV x0 y0 (t_lim ++ t_cpu), limitV x1 y1 (t_lim ++ t_mem), limitV x2 y2 (t_lim ++ t_pids)]) (a.tmps.getD 21 undef) w1 := Loose.dep_of hdep 16 21 (by kernel_rfl)
      refine Loose.Step.value rfl (v := a.tmps.getD 21 undef) (w' := w1) ?_ h0 (Below.refl _ _)
      simp [go_sem, Act.eval]
  · intro v0 v1 v2 v3 v4 v5 v6 v7 v8 v9 v10 v11 v12 v13 v14 v15 v16 v17 w1 hb hC
    have hE : SaysK (KB w.heap.size) (limN x0 x1 x2 y0 y1 y2) v17 w1 := hC.2
    clear hC
    have HE := Lib.hid hE
    have HB := Lib.hid (Below.trans (((Below.refl w.heap.size w).alloc (Nat.le_refl _) _).alloc (by simp) _) (hb.mono HB0))
    clear hE hb HB0
    simp only [put_lit, List.set_cons_succ, List.set_cons_zero]
    go_wp2_with fail
    go_ret
    exact ⟨_, rfl, HE.out, HB.out⟩
/-- what each operation leaves -/
def Fprobe0 (B : Nat) (fl every : Int) : Nat → Value → World → Prop
  | 0 => fun v _ => v = .pointer (some ⟨B, 0, none⟩)
  | 1 => fun v _ => v = .int .i64 0
  | 2 => fun v _ => v = .int .i64 every
  | 3 => SaysK (KB B) (withinV 0 0 every t_every)
  | 4 => fun v _ => v = .pointer (some ⟨B, 1, none⟩)
  | 5 => fun v _ => v = .int .i64 fl
  | 6 => fun v _ => v = .int .i64 0
  | 7 => fun v _ => v = .int .i64 0
  | 8 => SaysK (KB B) (withinV fl 0 0 t_fails)
  | 9 => RowK (KB B) [withinV 0 0 every t_every, withinV fl 0 0 t_fails]
  | 10 => SaysK (KB B) (firstV [withinV 0 0 every t_every, withinV fl 0 0 t_fails])
  | _ => SaysK (KB B) (firstV [withinV 0 0 every t_every, withinV fl 0 0 t_fails])
theorem Fprobe0_keep (B : Nat) (fl every : Int) (i : Nat) (v : Value) (w w' : World) (h : Fprobe0 B fl every i v w) (hb : Below w.heap.size w w') : Fprobe0 B fl every i v w' := by
  unfold Fprobe0 at h ⊢
  split at h <;> first | exact h | exact TextK.keep h (kb_keep hb) | exact SaysK.keep h (kb_keep hb) | exact RowK.keep h (kb_keep hb)
set_option maxRecDepth 100000 in
set_option maxHeartbeats 2000000 in
theorem probe0_any (fl every : Int) (w : World) : Calls Tryz.prog 112 #[.agg #[.int .i64 0, .int .i64 fl], .int .i64 every] w (Tells (firstV [withinV 0 0 every t_every, withinV fl 0 0 t_fails]) w) := by
  go_enter Tryz.func112, Tryz.ntmps112
  go_wp2
  have HB0 : w.heap.size ≤ (w.alloc (.cells #[.int .i64 0, .int .i64 fl] 103)).heap.size := by simp <;> omega
  refine Loose.wp_region_walk (by kernel_rfl) (by kernel_rfl) (Fprobe0 w.heap.size fl every) (Fprobe0_keep w.heap.size fl every) ?_ ?_
  · refine ⟨?_, ?_, ?_, ?_, ?_, ?_, ?_, ?_, ?_, ?_, ?_, ?_, trivial⟩
    · intro a w1 hfr hdep
      have f0 : a.tmps.getD 2 undef = .pointer (some ⟨w.heap.size, 0, none⟩) := hfr.slot 2 (by kernel_rfl)
      refine Loose.Step.value rfl (v := .pointer (some ⟨w.heap.size, 0, none⟩)) (w' := w1) ?_ rfl (Below.refl _ _)
      simp [go_sem, Act.eval, f0]
    · intro a w1 hfr hdep
      have e0 : a.tmps.getD 10 undef = .pointer (some ⟨w.heap.size, 0, none⟩) := Loose.dep_of hdep 0 10 (by kernel_rfl)
      have hc : w1.cell? ⟨w.heap.size, 0, none⟩ = some (.int .i64 0) := (hfr.below.cell (by simp <;> omega)).trans (by simp)
      refine Loose.Step.value rfl (v := .int .i64 0) (w' := w1) ?_ rfl (Below.refl _ _)
      simp [go_sem, Act.eval, e0, hc]
    · intro a w1 hfr hdep
      have f0 : a.tmps.getD 1 undef = .int .i64 every := hfr.slot 1 (by kernel_rfl)
      refine Loose.Step.value rfl (v := .int .i64 every) (w' := w1) ?_ rfl (Below.refl _ _)
      simp [go_sem, Act.eval, f0]
    · intro a w1 hfr hdep
      have e0 : a.tmps.getD 11 undef = .int .i64 0 := Loose.dep_of hdep 1 11 (by kernel_rfl)
      have e1 : a.tmps.getD 12 undef = .int .i64 every := Loose.dep_of hdep 2 12 (by kernel_rfl)
      refine Loose.Step.call rfl (f := 77) (args := #[.int .i64 0, .int .i64 0, .int .i64 every, .string ⟨#[112, 114, 111, 98, 101, 46, 101, 118, 101, 114, 121]⟩]) ?_ ?_
      · simp [go_sem, Act.eval, e0, e1]
      · have HSZ : w.heap.size ≤ w1.heap.size := Nat.le_trans HB0 hfr.below.size
        refine (within_any 0 0 every t_every (by decide) w1).mono ?_
        rintro e w2 ⟨E, rfl, hE, hb⟩
        exact ⟨E, rfl, kb_tells HSZ hE, hb⟩
    · intro a w1 hfr hdep
      have f0 : a.tmps.getD 2 undef = .pointer (some ⟨w.heap.size, 0, none⟩) := hfr.slot 2 (by kernel_rfl)
      refine Loose.Step.value rfl (v := .pointer (some ⟨w.heap.size, 1, none⟩)) (w' := w1) ?_ rfl (Below.refl _ _)
      simp [go_sem, Act.eval, f0]
    · intro a w1 hfr hdep
      have e0 : a.tmps.getD 14 undef = .pointer (some ⟨w.heap.size, 1, none⟩) := Loose.dep_of hdep 4 14 (by kernel_rfl)
      have hc : w1.cell? ⟨w.heap.size, 1, none⟩ = some (.int .i64 fl) := (hfr.below.cell (by simp <;> omega)).trans (by simp)
      refine Loose.Step.value rfl (v := .int .i64 fl) (w' := w1) ?_ rfl (Below.refl _ _)
      simp [go_sem, Act.eval, e0, hc]
    · intro a w1 hfr hdep
      have f0 : a.tmps.getD 5 undef = .int .i64 0 := hfr.slot 5 (by kernel_rfl)
      refine Loose.Step.value rfl (v := .int .i64 0) (w' := w1) ?_ rfl (Below.refl _ _)
      simp [go_sem, Act.eval, f0]
    · intro a w1 hfr hdep
      have f0 : a.tmps.getD 6 undef = .int .i64 0 := hfr.slot 6 (by kernel_rfl)
      refine Loose.Step.value rfl (v := .int .i64 0) (w' := w1) ?_ rfl (Below.refl _ _)
      simp [go_sem, Act.eval, f0]
    · intro a w1 hfr hdep
      have e0 : a.tmps.getD 15 undef = .int .i64 fl := Loose.dep_of hdep 5 15 (by kernel_rfl)
      have e1 : a.tmps.getD 16 undef = .int .i64 0 := Loose.dep_of hdep 6 16 (by kernel_rfl)
      have e2 : a.tmps.getD 17 undef = .int .i64 0 := Loose.dep_of hdep 7 17 (by kernel_rfl)
      refine Loose.Step.call rfl (f := 77) (args := #[.int .i64 fl, .int .i64 0, .int .i64 0, .string ⟨#[112, 114, 111, 98, 101, 46, 102, 97, 105, 108, 115]⟩]) ?_ ?_
      · simp [go_sem, Act.eval, e0, e1, e2]
      · have HSZ : w.heap.size ≤ w1.heap.size := Nat.le_trans HB0 hfr.below.size
        refine (within_any fl 0 0 t_fails (by decide) w1).mono ?_
        rintro e w2 ⟨E, rfl, hE, hb⟩
        exact ⟨E, rfl, kb_tells HSZ hE, hb⟩
    · intro a w1 hfr hdep
      have h0 : SaysK (KB w.heap.size) (withinV 0 0 every t_every) (a.tmps.getD 13 undef) w1 := Loose.dep_of hdep 3 13 (by kernel_rfl)
      have h1 : SaysK (KB w.heap.size) (withinV fl 0 0 t_fails) (a.tmps.getD 18 undef) w1 := Loose.dep_of hdep 8 18 (by kernel_rfl)
      have r := build2 (a.tmps.getD 13 undef) (a.tmps.getD 18 undef) w1 (cells_form (Says.form h0)) (cells_form (Says.form h1))
      have hb : Below w1.heap.size w1 (w1.alloc (.cells #[a.tmps.getD 13 undef, a.tmps.getD 18 undef] 83)) := (Below.refl _ _).alloc (Nat.le_refl _) _
      refine Loose.Step.value rfl (v := .slice (some ⟨w1.heap.size, 0, none⟩) 2 2) (w' := w1.alloc (.cells #[a.tmps.getD 13 undef, a.tmps.getD 18 undef] 83)) ?_ (row_made [a.tmps.getD 13 undef, a.tmps.getD 18 undef] _ 2 rfl (Nat.le_trans HB0 hfr.below.size) (kb_keep hb) ⟨h0, h1, trivial⟩) hb
      clear hb h0 h1 hdep
      simp only [Array.getD_eq_getD_getElem?] at r
      simp [execOp, Act.eval, r]
    · intro a w1 hfr hdep
      have h0 : RowK (KB w.heap.size) [withinV 0 0 every t_every, withinV fl 0 0 t_fails] (a.tmps.getD 19 undef) w1 := Loose.dep_of hdep 9 19 (by kernel_rfl)
      refine Loose.Step.call rfl (f := 73) (args := #[a.tmps.getD 19 undef]) ?_ (row_first h0 (by simp))
      simp [go_sem, Act.eval]
    · intro a w1 hfr hdep
      have h0 : SaysK (KB w.heap.size) (firstV [withinV 0 0 every t_every, withinV fl 0 0 t_fails]) (a.tmps.getD 20 undef) w1 := Loose.dep_of hdep 10 20 (by kernel_rfl)
      refine Loose.Step.value rfl (v := a.tmps.getD 20 undef) (w' := w1) ?_ h0 (Below.refl _ _)
      simp [go_sem, Act.eval]
  · intro v0 v1 v2 v3 v4 v5 v6 v7 v8 v9 v10 v11 w1 hb hC
    have hE : SaysK (KB w.heap.size) (firstV [withinV 0 0 every t_every, withinV fl 0 0 t_fails]) v11 w1 := hC.2
    clear hC
    have HE := Lib.hid hE
    have HB := Lib.hid (Below.trans ((Below.refl w.heap.size w).alloc (Nat.le_refl _) _) (hb.mono HB0))
    clear hE hb HB0
    simp only [put_lit, List.set_cons_succ, List.set_cons_zero]
    go_wp2_with fail
    go_ret
    exact ⟨_, rfl, HE.out, HB.out⟩
/-- what each operation leaves -/
def Fprobe1 (B : Nat) (ev fl every : Int) : Nat → Value → World → Prop
  | 0 => fun v _ => v = .pointer (some ⟨B, 0, none⟩)
  | 1 => fun v _ => v = .int .i64 ev
  | 2 => fun v _ => v = .int .i64 every
  | 3 => SaysK (KB B) (withinV ev 0 every t_every)
  | 4 => fun v _ => v = .pointer (some ⟨B, 1, none⟩)
  | 5 => fun v _ => v = .int .i64 fl
  | 6 => fun v _ => v = .int .i64 1
  | 7 => fun v _ => v = .int .i64 10
  | 8 => SaysK (KB B) (withinV fl 1 10 t_fails)
  | 9 => RowK (KB B) [withinV ev 0 every t_every, withinV fl 1 10 t_fails]
  | 10 => SaysK (KB B) (firstV [withinV ev 0 every t_every, withinV fl 1 10 t_fails])
  | _ => SaysK (KB B) (firstV [withinV ev 0 every t_every, withinV fl 1 10 t_fails])
theorem Fprobe1_keep (B : Nat) (ev fl every : Int) (i : Nat) (v : Value) (w w' : World) (h : Fprobe1 B ev fl every i v w) (hb : Below w.heap.size w w') : Fprobe1 B ev fl every i v w' := by
  unfold Fprobe1 at h ⊢
  split at h <;> first | exact h | exact TextK.keep h (kb_keep hb) | exact SaysK.keep h (kb_keep hb) | exact RowK.keep h (kb_keep hb)
set_option maxRecDepth 100000 in
set_option maxHeartbeats 2000000 in
theorem probe1_any (ev fl every : Int) (h0 : (ev == 0) = false) (w : World) : Calls Tryz.prog 112 #[.agg #[.int .i64 ev, .int .i64 fl], .int .i64 every] w (Tells (firstV [withinV ev 0 every t_every, withinV fl 1 10 t_fails]) w) := by
  go_enter Tryz.func112, Tryz.ntmps112
  go_wp2
  have HB0 : w.heap.size ≤ (w.alloc (.cells #[.int .i64 ev, .int .i64 fl] 103)).heap.size := by simp <;> omega
  refine Loose.wp_region_walk (by kernel_rfl) (by kernel_rfl) (Fprobe1 w.heap.size ev fl every) (Fprobe1_keep w.heap.size ev fl every) ?_ ?_
  · refine ⟨?_, ?_, ?_, ?_, ?_, ?_, ?_, ?_, ?_, ?_, ?_, ?_, trivial⟩
    · intro a w1 hfr hdep
      have f0 : a.tmps.getD 2 undef = .pointer (some ⟨w.heap.size, 0, none⟩) := hfr.slot 2 (by kernel_rfl)
      refine Loose.Step.value rfl (v := .pointer (some ⟨w.heap.size, 0, none⟩)) (w' := w1) ?_ rfl (Below.refl _ _)
      simp [go_sem, Act.eval, f0]
    · intro a w1 hfr hdep
      have e0 : a.tmps.getD 10 undef = .pointer (some ⟨w.heap.size, 0, none⟩) := Loose.dep_of hdep 0 10 (by kernel_rfl)
      have hc : w1.cell? ⟨w.heap.size, 0, none⟩ = some (.int .i64 ev) := (hfr.below.cell (by simp <;> omega)).trans (by simp)
      refine Loose.Step.value rfl (v := .int .i64 ev) (w' := w1) ?_ rfl (Below.refl _ _)
      simp [go_sem, Act.eval, e0, hc]
    · intro a w1 hfr hdep
      have f0 : a.tmps.getD 1 undef = .int .i64 every := hfr.slot 1 (by kernel_rfl)
      refine Loose.Step.value rfl (v := .int .i64 every) (w' := w1) ?_ rfl (Below.refl _ _)
      simp [go_sem, Act.eval, f0]
    · intro a w1 hfr hdep
      have e0 : a.tmps.getD 11 undef = .int .i64 ev := Loose.dep_of hdep 1 11 (by kernel_rfl)
      have e1 : a.tmps.getD 12 undef = .int .i64 every := Loose.dep_of hdep 2 12 (by kernel_rfl)
      refine Loose.Step.call rfl (f := 77) (args := #[.int .i64 ev, .int .i64 0, .int .i64 every, .string ⟨#[112, 114, 111, 98, 101, 46, 101, 118, 101, 114, 121]⟩]) ?_ ?_
      · simp [go_sem, Act.eval, e0, e1]
      · have HSZ : w.heap.size ≤ w1.heap.size := Nat.le_trans HB0 hfr.below.size
        refine (within_any ev 0 every t_every (by decide) w1).mono ?_
        rintro e w2 ⟨E, rfl, hE, hb⟩
        exact ⟨E, rfl, kb_tells HSZ hE, hb⟩
    · intro a w1 hfr hdep
      have f0 : a.tmps.getD 2 undef = .pointer (some ⟨w.heap.size, 0, none⟩) := hfr.slot 2 (by kernel_rfl)
      refine Loose.Step.value rfl (v := .pointer (some ⟨w.heap.size, 1, none⟩)) (w' := w1) ?_ rfl (Below.refl _ _)
      simp [go_sem, Act.eval, f0]
    · intro a w1 hfr hdep
      have e0 : a.tmps.getD 14 undef = .pointer (some ⟨w.heap.size, 1, none⟩) := Loose.dep_of hdep 4 14 (by kernel_rfl)
      have hc : w1.cell? ⟨w.heap.size, 1, none⟩ = some (.int .i64 fl) := (hfr.below.cell (by simp <;> omega)).trans (by simp)
      refine Loose.Step.value rfl (v := .int .i64 fl) (w' := w1) ?_ rfl (Below.refl _ _)
      simp [go_sem, Act.eval, e0, hc]
    · intro a w1 hfr hdep
      have f0 : a.tmps.getD 5 undef = .int .i64 1 := hfr.slot 5 (by kernel_rfl)
      refine Loose.Step.value rfl (v := .int .i64 1) (w' := w1) ?_ rfl (Below.refl _ _)
      simp [go_sem, Act.eval, f0]
    · intro a w1 hfr hdep
      have f0 : a.tmps.getD 6 undef = .int .i64 10 := hfr.slot 6 (by kernel_rfl)
      refine Loose.Step.value rfl (v := .int .i64 10) (w' := w1) ?_ rfl (Below.refl _ _)
      simp [go_sem, Act.eval, f0]
    · intro a w1 hfr hdep
      have e0 : a.tmps.getD 15 undef = .int .i64 fl := Loose.dep_of hdep 5 15 (by kernel_rfl)
      have e1 : a.tmps.getD 16 undef = .int .i64 1 := Loose.dep_of hdep 6 16 (by kernel_rfl)
      have e2 : a.tmps.getD 17 undef = .int .i64 10 := Loose.dep_of hdep 7 17 (by kernel_rfl)
      refine Loose.Step.call rfl (f := 77) (args := #[.int .i64 fl, .int .i64 1, .int .i64 10, .string ⟨#[112, 114, 111, 98, 101, 46, 102, 97, 105, 108, 115]⟩]) ?_ ?_
      · simp [go_sem, Act.eval, e0, e1, e2]
      · have HSZ : w.heap.size ≤ w1.heap.size := Nat.le_trans HB0 hfr.below.size
        refine (within_any fl 1 10 t_fails (by decide) w1).mono ?_
        rintro e w2 ⟨E, rfl, hE, hb⟩
        exact ⟨E, rfl, kb_tells HSZ hE, hb⟩
    · intro a w1 hfr hdep
      have h0 : SaysK (KB w.heap.size) (withinV ev 0 every t_every) (a.tmps.getD 13 undef) w1 := Loose.dep_of hdep 3 13 (by kernel_rfl)
      have h1 : SaysK (KB w.heap.size) (withinV fl 1 10 t_fails) (a.tmps.getD 18 undef) w1 := Loose.dep_of hdep 8 18 (by kernel_rfl)
      have r := build2 (a.tmps.getD 13 undef) (a.tmps.getD 18 undef) w1 (cells_form (Says.form h0)) (cells_form (Says.form h1))
      have hb : Below w1.heap.size w1 (w1.alloc (.cells #[a.tmps.getD 13 undef, a.tmps.getD 18 undef] 83)) := (Below.refl _ _).alloc (Nat.le_refl _) _
      refine Loose.Step.value rfl (v := .slice (some ⟨w1.heap.size, 0, none⟩) 2 2) (w' := w1.alloc (.cells #[a.tmps.getD 13 undef, a.tmps.getD 18 undef] 83)) ?_ (row_made [a.tmps.getD 13 undef, a.tmps.getD 18 undef] _ 2 rfl (Nat.le_trans HB0 hfr.below.size) (kb_keep hb) ⟨h0, h1, trivial⟩) hb
      clear hb h0 h1 hdep
      simp only [Array.getD_eq_getD_getElem?] at r
      simp [execOp, Act.eval, r]
    · intro a w1 hfr hdep
      have h0 : RowK (KB w.heap.size) [withinV ev 0 every t_every, withinV fl 1 10 t_fails] (a.tmps.getD 19 undef) w1 := Loose.dep_of hdep 9 19 (by kernel_rfl)
      refine Loose.Step.call rfl (f := 73) (args := #[a.tmps.getD 19 undef]) ?_ (row_first h0 (by simp))
      simp [go_sem, Act.eval]
    · intro a w1 hfr hdep
      have h0 : SaysK (KB w.heap.size) (firstV [withinV ev 0 every t_every, withinV fl 1 10 t_fails]) (a.tmps.getD 20 undef) w1 := Loose.dep_of hdep 10 20 (by kernel_rfl)
      refine Loose.Step.value rfl (v := a.tmps.getD 20 undef) (w' := w1) ?_ h0 (Below.refl _ _)
      simp [go_sem, Act.eval]
  · intro v0 v1 v2 v3 v4 v5 v6 v7 v8 v9 v10 v11 w1 hb hC
    have hE : SaysK (KB w.heap.size) (firstV [withinV ev 0 every t_every, withinV fl 1 10 t_fails]) v11 w1 := hC.2
    clear hC
    have HE := Lib.hid hE
    have HB := Lib.hid (Below.trans ((Below.refl w.heap.size w).alloc (Nat.le_refl _) _) (hb.mono HB0))
    clear hE hb HB0
    simp only [put_lit, List.set_cons_succ, List.set_cons_zero]
    go_wp2_with fail
    go_ret
    exact ⟨_, rfl, HE.out, HB.out⟩
theorem probe_any (ev fl every : Int) (w : World) : Calls Tryz.prog 112 #[.agg #[.int .i64 ev, .int .i64 fl], .int .i64 every] w (Tells (probeN ev fl every) w) := by
  by_cases h0 : ev = 0
  · subst h0
    unfold probeN
    rw [if_pos rfl, if_pos rfl]
    exact probe0_any fl every w
  · unfold probeN
    rw [if_neg h0, if_neg h0]
    exact probe1_any ev fl every (by simpa using h0) w
end SpecOwn
end Go.Proofs.YtbichomjpmmjmaaGreatDoor
