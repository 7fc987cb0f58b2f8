/-
  The walk of the law NumTurns: it returns true, and leaves all that was there as it was. Condition: both arguments are 64-bit integers.
-/
import Derived.Test.YtalbbkbjfopooaaNumWorks
namespace Go.Proofs.Ytalbbkbjfopooaa.NumTurnsWalk
open Go.ChangeShapes Go.WideShapes Go.ChangeAt Go.RowKit
open NumMath

theorem add_as (a b v : Int) (f : Bool) (w : World) (ha : fits a = true) (hb : fits b = true) (hv : val (a + b) = v) (hf : fits (a + b) = f) :
    Calls Try.prog 7 #[.int .i64 a, .int .i64 b] w fun e w' => e = .returned (.tuple #[.int .i64 v, .bool f]) ∧ w = w' := by
  subst hv hf; exact NumAdd.add_any a b w ha hb
theorem mul_as (a b v : Int) (f : Bool) (w : World) (ha : fits a = true) (hb : fits b = true) (hv : val (a * b) = v) (hf : fits (a * b) = f) :
    Calls Try.prog 8 #[.int .i64 a, .int .i64 b] w fun e w' => e = .returned (.tuple #[.int .i64 v, .bool f]) ∧ w = w' := by
  subst hv hf; exact NumMul.mul_any a b w ha hb

set_option maxHeartbeats 1000000 in
theorem walk_as (a b s p : Int) (f g : Bool) (w : World) (ha : fits a = true) (hb : fits b = true)
    (hs : Hid (val (a + b) = s)) (hf : Hid (fits (a + b) = f)) (hp : Hid (val (a * b) = p)) (hg : Hid (fits (a * b) = g))
    (ht : f = true → (wrap64 (s - b) == a) = true) (hd : g = true → b ≠ 0 → (wrap64 (p.tdiv b) == a) = true) :
    Calls Try.prog 6 #[.int .i64 a, .int .i64 b] w fun e w' => e = .returned (.bool true) ∧ Below w.heap.size w w' := by
  have es : Hid (val (b + a) = s) := by rw [Int.add_comm]; exact hs
  have ef : Hid (fits (b + a) = f) := by rw [Int.add_comm]; exact hf
  have ep : Hid (val (b * a) = p) := by rw [Int.mul_comm]; exact hp
  have eg : Hid (fits (b * a) = g) := by rw [Int.mul_comm]; exact hg
  have HT := Lib.hid ht
  have HD := Lib.hid hd
  clear ht hd
  have hb0 : b = 0 ∨ b ≠ 0 := by omega
  rcases hb0 with hb0 | hb0
  · have e0 : (b == 0) = true := beq_iff_eq.2 hb0
    clear hb0
    cases f <;> cases g
    all_goals
      try (have ht := HT.out rfl)
      go_enter Try.func6, Try.ntmps6
      go_wp2_with fail
      refine (NumWorks.works_any _).mono ?_
      rintro e w1 ⟨rfl, hbl⟩
      go_wp2_with fail
      refine (add_as a b s _ _ ha hb hs.out hf.out).mono ?_
      rintro e w' ⟨rfl, rfl⟩
      go_wp2_with fail
      refine (add_as b a s _ _ hb ha es.out ef.out).mono ?_
      rintro e w' ⟨rfl, rfl⟩
      go_wp2_with fail
      refine (mul_as a b p _ _ ha hb hp.out hg.out).mono ?_
      rintro e w' ⟨rfl, rfl⟩
      go_wp2_with fail
      refine (mul_as b a p _ _ hb ha ep.out eg.out).mono ?_
      rintro e w' ⟨rfl, rfl⟩
      go_wp2_with fail
      go_ret
      exact ⟨rfl, hbl⟩
  · have e0 : (b == 0) = false := beq_eq_false_iff_ne.2 hb0
    cases f <;> cases g
    all_goals
      try (have ht := HT.out rfl)
      try (have hd := HD.out rfl hb0)
      go_enter Try.func6, Try.ntmps6
      go_wp2_with fail
      refine (NumWorks.works_any _).mono ?_
      rintro e w1 ⟨rfl, hbl⟩
      go_wp2_with fail
      refine (add_as a b s _ _ ha hb hs.out hf.out).mono ?_
      rintro e w' ⟨rfl, rfl⟩
      go_wp2_with fail
      refine (add_as b a s _ _ hb ha es.out ef.out).mono ?_
      rintro e w' ⟨rfl, rfl⟩
      go_wp2_with fail
      refine (mul_as a b p _ _ ha hb hp.out hg.out).mono ?_
      rintro e w' ⟨rfl, rfl⟩
      go_wp2_with fail
      refine (mul_as b a p _ _ hb ha ep.out eg.out).mono ?_
      rintro e w' ⟨rfl, rfl⟩
      go_wp2_with fail
      go_ret
      exact ⟨rfl, hbl⟩

theorem walk (a b : Int) (w0 : (Lit.int .i64 a).wf = true) (w1 : (Lit.int .i64 b).wf = true) (w : World) :
    Calls Try.prog 6 #[.int .i64 a, .int .i64 b] w fun e w' => e = .returned (.bool true) ∧ Below w.heap.size w w' := by
  have ha := fits_wf w0
  have hb := fits_wf w1
  have hA := fits_iff.1 ha
  refine walk_as a b _ _ _ _ w ha hb rfl rfl rfl rfl (fun h => ?_) (fun h h0 => ?_)
  · rw [val_yes h, beq_iff_eq, Int.add_sub_cancel]; exact IntWalk.wrap64_in _ hA
  · rw [val_yes h, beq_iff_eq, Int.mul_tdiv_cancel _ h0]; exact IntWalk.wrap64_in _ hA
end Go.Proofs.Ytalbbkbjfopooaa.NumTurnsWalk
