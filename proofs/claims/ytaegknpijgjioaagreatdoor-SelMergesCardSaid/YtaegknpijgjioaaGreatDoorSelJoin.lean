/-
  slices.Grow of none, and slices.Concat of two lists of labels: rows of the caller's own. All that was there is left as it was. Conditions: the lists are not too long.
-/
import Derived.Test.YtaegknpijgjioaaGreatDoorSelConcat
set_option linter.unusedVariables false
set_option linter.unusedSimpArgs false
namespace Go.Proofs.YtaegknpijgjioaaGreatDoor
open Go.ChangeShapes Go.WideShapes Go.ChangeAt Go.RowKit Go.Lib
open Sd Lists SpecOwn Book Go.Sort
namespace Sl

theorem info_lab : (Tryz.prog.info? 49).map (fun i => (i.zero, i.size, i.bytes)) = some (some (.agg #[.string ⟨#[]⟩, .string ⟨#[]⟩]), 2, 32) := by kernel_rfl
theorem flatL_cat : ∀ a b : List Lbl, flatL (a ++ b) = flatL a ++ flatL b
  | [], _ => rfl
  | x :: a, b => by rw [List.cons_append, flatL, flatL_cat a b, flatL]; rfl
theorem src_of {w : World} {A : Option Addr} {a : List Lbl} (h : Lbls w A a) : (A = none ∧ a.length = 0) ∨ ∃ ad, A = some ad ∧ ∀ (j : Nat) u, (flatL a)[j]? = some u → w.cell? (ad.add j) = some u := by
  cases A with
  | none =>
    refine .inl ⟨rfl, ?_⟩
    rcases Nat.eq_zero_or_pos a.length with h0 | h0
    · exact h0
    · obtain ⟨_, e, _⟩ := h.at h0
      cases e
  | some ad =>
    refine .inr ⟨ad, rfl, flatL_src fun k x hk => ?_⟩
    obtain ⟨p, e, _, hc⟩ := h k x hk
    injection e with e
    subst e
    exact hc
/-- a call hands back a row of its own with these labels -/
def OwnL (l : List Lbl) (w : World) (e : Ending) (w' : World) : Prop := ∃ v, e = .returned v ∧ w'.ownsRow w.heap.size 49 2 v l.length (flatL l) ∧ Below w.heap.size w w'
theorem grow_none (n : Nat) (hn : n ≤ 1000000) (w : World) :
    Calls Tryz.prog 46 #[.slice none 0 0, .int .i64 n] w (OwnL [] w) := by
  obtain ⟨i0, hi, hz0, hz1, hz2⟩ := info_parts info_lab
  by_cases h0 : n = 0
  · subst h0
    refine (Any8.slices_Grow_room Tryz.growL none 0 0 0 w (by omega) (by omega) (by omega) (by omega)).mono ?_
    rintro e w' ⟨rfl, rfl⟩
    exact ⟨_, rfl, World.ownsRow_nil _ _ _ _, Below.refl _ _⟩
  · refine (Any8.slices_Grow_grow Tryz.growL i0 _ hi hz0 (by rw [hz1]; decide) none 0 0 n [] w (by omega) (by omega) (by rw [hz2]; omega) (by omega) (by rw [hz1]; rfl) (fun _ => rfl) (fun a ha => by cases ha)).mono ?_
    rintro e w' ⟨rfl, rfl⟩
    have hge := grownCap_ge w (0 + n) 0 49
    have hle := grownCap_le_maxLen w (0 + n) 0 49 (by unfold maxLen; omega)
    refine ⟨_, rfl, World.ownsRow_made w.drew _ _ (Nat.le_refl _) hle ?_, ?_⟩
    · show (([] : List Value).toArray ++ Builtin.zeroCells _ (0 + n - 0) ++ Builtin.zeroCells _ (grownCap w (0 + n) 0 49 - (0 + n))).size = grownCap w (0 + n) 0 49 * 2
      simp only [Array.size_append, List.size_toArray, size_zeroCells, List.length_nil]
      rw [show (Value.agg #[.string ⟨#[]⟩, .string ⟨#[]⟩]).cells.size = 2 from rfl]
      omega
    · exact ((Kit.below_drewN w.heap.size w 1).alloc (Nat.le_refl _) _)
set_option maxRecDepth 100000 in
set_option maxHeartbeats 2000000 in
theorem concat_any (A : Option Addr) (c : Nat) (a : List Lbl) (B : Option Addr) (d : Nat) (b : List Lbl) (ha : a.length ≤ 1000) (hb : b.length ≤ 1000) (g : Nat) (w : World) (hA : Lbls w A a) (hB : Lbls w B b) (hg : w.heap[g]? = some (.cells #[.slice A a.length c, .slice B b.length d] 22 (0, 0))) :
    Calls Tryz.prog 28 #[.slice (some ⟨g, 0, none⟩) 2 2] w (OwnL (a ++ b) w) := by
  obtain ⟨i0, hi, hz0, hz1, hz2⟩ := info_parts info_lab
  have HA := Lib.hid hA
  have HB := Lib.hid hB
  have HG := Lib.hid hg
  have ha' : (a.length : Int) ≤ 1000 := by omega
  have hb' : (b.length : Int) ≤ 1000 := by omega
  clear hA hB hg
  obtain ⟨x0, x1, _, _⟩ := two_cells HG.out
  go_enter Tryz.func28, Tryz.ntmps28
  go_wp2_with fail
  go_loop [3, 11] (fun s i => (i = .int .i64 0 ∧ s = .int .i64 0) ∨ (i = .int .i64 1 ∧ s = .int .i64 a.length) ∨ (i = .int .i64 2 ∧ s = .int .i64 ((a.length + b.length : Nat) : Int))) (fun _ i => 2 - (RowKit.intOf i).toNat)
  case atStart => exact .inl ⟨rfl, rfl⟩
  case round =>
    have hw1 : IntKind.i64.wrap ((0 : Int) + (a.length : Int)) = (a.length : Int) := by rw [IntWalk.i64_in _ (by omega)]; omega
    have hw2 : IntKind.i64.wrap ((a.length : Int) + (b.length : Int)) = (a.length : Int) + (b.length : Int) := IntWalk.i64_in _ (by omega)
    have hn1 : ¬ (a.length : Int) < 0 := by omega
    have hn2 : ¬ (a.length : Int) + (b.length : Int) < 0 := by omega
    rcases hrel with ⟨rfl, rfl⟩ | ⟨rfl, rfl⟩ | ⟨rfl, rfl⟩
    · go_wp2_with fail
      go_round
      case rel => exact .inr (.inl ⟨rfl, rfl⟩)
      case measure => simp [RowKit.intOf]
    · go_wp2_with fail
      go_round
      case rel => exact .inr (.inr ⟨rfl, by go_num⟩)
      case measure => simp [RowKit.intOf]
    · go_wp2_with fail
      refine (grow_none (a.length + b.length) (by omega) w).mono ?_
      rintro e w1 ⟨v, rfl, hown, hb1⟩
      have B1 := Lib.hid hb1
      have HO := Lib.hid hown
      have HG1 := Lib.hid ((hb1.block g (lt_of_block HG.out)).trans HG.out)
      clear hb1 hown x0 x1
      go_wp2_with fail
      go_loopw [6, 27] (fun v i wr => (i = .int .i64 0 ∧ Hid (wr.ownsRow w.heap.size 49 2 v 0 [] ∧ Below w.heap.size w wr)) ∨ (i = .int .i64 1 ∧ Hid (wr.ownsRow w.heap.size 49 2 v a.length (flatL a) ∧ Below w.heap.size w wr)) ∨ (i = .int .i64 2 ∧ Hid (wr.ownsRow w.heap.size 49 2 v (a.length + b.length) (flatL a ++ flatL b) ∧ Below w.heap.size w wr))) (fun _ i _ => 2 - (RowKit.intOf i).toNat)
      case atStart => exact .inl ⟨rfl, HO.out, B1.out⟩
      case round =>
        rcases hrel with ⟨rfl, HR⟩ | ⟨rfl, HR⟩ | ⟨rfl, HR⟩
        · have x0 := (two_cells ((HR.out.2.block g (lt_of_block HG.out)).trans HG.out)).1
          have HS := Lib.hid (src_of (HA.out.below HR.out.2))
          have hsw := HR.out.2.size
          go_wp2_with (at_builtin; refine wpList_append_or rfl _ _ 22 rfl w.heap.size 49 i0 _ 2 32 Tryz.underlying22 hi hz0 hz1 hz2 rfl (by decide) _ _ _ rfl HR.out.1 A a.length c (flatL a) rfl (flatL_length a) HS.out (flatL_str a) ?p1 ?p2 hsw ?_)
          case p1 => unfold maxLen; omega
          case p2 => omega
          intro v' w3 hown' hgrow
          have HN := Lib.hid (show w3.ownsRow w.heap.size 49 2 v' (a.length) (flatL a) ∧ Below w.heap.size w w3 from ⟨by simpa using hown', HR.out.2.grown hgrow hsw (fun j hj => (HR.out.1.lt j hj).1)⟩)
          clear hown' hgrow x0
          go_wp2_with fail
          go_roundw
          case rel => exact .inr (.inl ⟨rfl, HN.out⟩)
          case measure => simp [RowKit.intOf]
        · have x1 := (two_cells ((HR.out.2.block g (lt_of_block HG.out)).trans HG.out)).2.1
          have HS := Lib.hid (src_of (HB.out.below HR.out.2))
          have hsw := HR.out.2.size
          go_wp2_with (at_builtin; refine wpList_append_or rfl _ _ 22 rfl w.heap.size 49 i0 _ 2 32 Tryz.underlying22 hi hz0 hz1 hz2 rfl (by decide) _ _ _ rfl HR.out.1 B b.length d (flatL b) rfl (flatL_length b) HS.out (flatL_str b) ?q1 ?q2 hsw ?_)
          case q1 => unfold maxLen; omega
          case q2 => omega
          intro v' w3 hown' hgrow
          have HN := Lib.hid (show w3.ownsRow w.heap.size 49 2 v' (a.length + b.length) (flatL a ++ flatL b) ∧ Below w.heap.size w w3 from ⟨by simpa using hown', HR.out.2.grown hgrow hsw (fun j hj => (HR.out.1.lt j hj).1)⟩)
          clear hown' hgrow x1
          go_wp2_with fail
          go_roundw
          case rel => exact .inr (.inr ⟨rfl, HN.out⟩)
          case measure => simp [RowKit.intOf]
        · have HF := Lib.hid (flatL_cat a b)
          go_wp2_with fail
          go_ret
          refine ⟨_, rfl, ?_, HR.out.2⟩
          rw [HF.out, List.length_append]
          exact HR.out.1
end Sl
end Go.Proofs.YtaegknpijgjioaaGreatDoor
