/-
  The chapter's example: 80 taken, then 443 and 80 refused. No condition.
-/
import Derived.Test.YtgnfpcacpcnanaaPtTake
set_option linter.unusedVariables false
set_option linter.unusedSimpArgs false
namespace Go.Proofs.Ytgnfpcacpcnanaa
open Go.ChangeShapes Go.WideShapes Go.ChangeAt Go.RowKit Go.Lib
open Lists
namespace Pt

theorem nums_one {w : World} {b : Nat} {x : Int} (hx : (Lit.int .i64 x).wf = true) (h : w.heap[b]? = some (.cells #[.int .i64 x] 3 (0, 0))) : Nums .i64 w (some ⟨b, 0, none⟩) [x] := by
  intro k z hz
  match k, hz with
  | 0, hz =>
    simp at hz
    subst hz
    refine ⟨hx, _, rfl, lt_of_block h, ?_⟩
    rw [at_off, Nat.zero_add]
    exact box_cell h 0 rfl
  | k + 1, hz => simp at hz
theorem nums_two {w : World} {b : Nat} {x y : Int} (hx : (Lit.int .i64 x).wf = true) (hy : (Lit.int .i64 y).wf = true) (h : w.heap[b]? = some (.cells #[.int .i64 x, .int .i64 y] 3 (0, 0))) : Nums .i64 w (some ⟨b, 0, none⟩) [x, y] := by
  intro k z hz
  match k, hz with
  | 0, hz =>
    simp at hz
    subst hz
    refine ⟨hx, _, rfl, lt_of_block h, ?_⟩
    rw [at_off, Nat.zero_add]
    exact box_cell h 0 rfl
  | 1, hz =>
    simp at hz
    subst hz
    refine ⟨hy, _, rfl, lt_of_block h, ?_⟩
    rw [at_off, Nat.zero_add]
    exact box_cell h 1 rfl
  | k + 2, hz => simp at hz
theorem ex1 : takeC [] 1 [80] = 0 ∧ takeL [] 1 [80] = [(80, 1)] := by decide
theorem ex2 : takeC [(80, 1)] 2 [443, 80] = 150 ∧ takeL [(80, 1)] 2 [443, 80] = [(80, 1)] := by decide
theorem ex3 : ownerL [(80, 1)] 80 = 1 ∧ ownerL [(80, 1)] 443 = 0 := by decide
theorem ok1 : Ok [(80, 1)] := ⟨by simp, by simp⟩
set_option maxRecDepth 100000 in
set_option maxHeartbeats 1000000 in
theorem works_any (w : World) : Calls Try.prog 6 #[] w fun e w' => e = .returned (.bool true) ∧ Below w.heap.size w w' := by
  go_enter Try.func6, Try.ntmps6
  go_wp2_with (go_at_call 5; refine (new_any w).mono ?_; rintro e w1 ⟨rfl, ht, hb⟩; have HT := Lib.hid (ht w.heap.size (Nat.le_refl _)); have HB := Lib.hid hb; clear ht hb)
  have hb1 : Below w1.heap.size w1 (w1.alloc (.cells #[.int .i64 80] 3)) := (Below.refl _ _).alloc (Nat.le_refl _) _
  have hT1 : Calls Try.prog 8 #[.pointer (some ⟨w.heap.size, 0, none⟩), .int .i64 1, .slice (some ⟨w1.heap.size, 0, none⟩) 1 1] (w1.alloc (.cells #[.int .i64 80] 3)) _ := take_any 1 [80] (some ⟨w1.heap.size, 0, none⟩) 1 _ (HT.out.below hb1) Ok.nil (by decide) (nums_one (by decide) (heap_alloc_new w1 _)) (by decide)
  refine hT1.mono ?_
  rintro e w2 ⟨rfl, ht2, hk2⟩
  rw [ex1.1]
  rw [ex1.2] at ht2
  have HT2 := Lib.hid ht2
  have HK2 := Lib.hid ((Kt.of_below hb1).trans hk2)
  clear hb1 hT1 ht2 hk2
  go_wp2_with fail
  have hb2 : Below w2.heap.size w2 (w2.alloc (.cells #[.int .i64 443, .int .i64 80] 3)) := (Below.refl _ _).alloc (Nat.le_refl _) _
  have hT3 : Calls Try.prog 8 #[.pointer (some ⟨w.heap.size, 0, none⟩), .int .i64 2, .slice (some ⟨w2.heap.size, 0, none⟩) 2 2] (w2.alloc (.cells #[.int .i64 443, .int .i64 80] 3)) _ := take_any 2 [443, 80] (some ⟨w2.heap.size, 0, none⟩) 2 _ (HT2.out.below hb2) ok1 (by decide) (nums_two (by decide) (by decide) (heap_alloc_new w2 _)) (by decide)
  refine hT3.mono ?_
  rintro e w3 ⟨rfl, ht3, hk3⟩
  rw [ex2.1]
  rw [ex2.2] at ht3
  have HT3 := Lib.hid ht3
  have HK3 := Lib.hid (HK2.out.trans ((Kt.of_below hb2).trans hk3))
  clear hb2 hT3 ht3 hk3
  go_wp2_with (go_at_call 11; refine (len_any w3 HT3.out).mono ?_; rintro e w4 ⟨rfl, hw4⟩; obtain rfl := hw4.symm; clear hw4)
  refine (owner_any 80 w3 HT3.out ok1 (by decide)).mono ?_
  rintro e w5 ⟨rfl, hb5⟩
  rw [ex3.1]
  have HB5 := Lib.hid hb5
  clear hb5
  go_wp2_with fail
  refine (owner_any 443 w5 (HT3.out.below HB5.out) ok1 (by decide)).mono ?_
  rintro e w6 ⟨rfl, hb6⟩
  rw [ex3.2]
  have HB6 := Lib.hid hb6
  clear hb6
  go_wp2
  go_ret
  have hb3 : Below w.heap.size w1 w3 := HK3.out.below HB.out.size (Nat.le_refl _)
  have hs3 := hb3.size
  refine ⟨rfl, ((HB.out.trans hb3).trans (HB5.out.mono (Nat.le_trans HB.out.size hs3))).trans (HB6.out.mono (Nat.le_trans (Nat.le_trans HB.out.size hs3) HB5.out.size))⟩
end Pt
end Go.Proofs.Ytgnfpcacpcnanaa
