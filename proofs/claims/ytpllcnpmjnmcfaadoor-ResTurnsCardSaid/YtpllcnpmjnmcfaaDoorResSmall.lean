/-
  Package res: numbers taken apart and joined, the greater ones, what is left, what is above. Each leaves what was there as it was. Condition: the numbers are 64-bit integers, where they are reckoned with.
-/
import Derived.Test.YtpllcnpmjnmcfaaDoorChecked
import Derived.Test.YtpllcnpmjnmcfaaDoorResPure
import Derived.Test.YtpllcnpmjnmcfaaDoorNumAdd
import Derived.WalkKit
import Derived.ProofKit
import Derived.Handy
import Derived.Lib.Hide
set_option linter.unusedVariables false
set_option linter.unusedSimpArgs false
namespace Go.Proofs.YtpllcnpmjnmcfaaDoor
open Go.ChangeShapes Go.WideShapes Go.ChangeAt Go.RowKit Go.Lib
open NumMath
namespace Re

def eqR (a b : Rx) : Bool := a.c == b.c && a.m == b.m && a.p == b.p
theorem eqR_iff {a b : Rx} : eqR a b = true ↔ a = b := by
  obtain ⟨a1, a2, a3⟩ := a
  obtain ⟨b1, b2, b3⟩ := b
  unfold eqR
  simp [and_assoc]
theorem eqR_self (a : Rx) : eqR a a = true := eqR_iff.2 rfl
theorem eqR_fits (a b : Rx) : eqR (maxR a b) b = fitsR a b := by
  have : eqR (maxR a b) b = true ↔ fitsR a b = true := by
    rw [fitsR_iff]
    unfold eqR maxR
    simp only [Bool.and_eq_true, beq_iff_eq]
    omega
  cases h : fitsR a b <;> cases h' : eqR (maxR a b) b <;> simp_all
theorem eql_num (a b : Rx) (w : World) : (binOp .eql 56 (.agg #[.int .i64 a.c, .int .i64 a.m, .int .i64 a.p]) (.agg #[.int .i64 b.c, .int .i64 b.m, .int .i64 b.p])).run Tryd.prog w = .ok (.bool (eqR a b)) w := by
  have hA : Tryd.prog.underlying 56 = some (.array 3 3) := by kernel_rfl
  have hI := Tryd.underlying3
  have a0 := Tryd.isAgg3
  have zz := Tryd.sizeOf3
  rw [run_eql_struct, show (10000 : Nat) = 9998 + 1 + 1 from rfl]
  have e : ∀ (d : Nat) (k : IntKind) (a b : Int), (Op.equalIn (d + 1) 3 (.int k a) (.int k b)).run Tryd.prog w = .ok (a == b) w := fun d k a b => run_equalIn_int w d _ k _ a b hI
  rw [Op.equalIn.eq_def]
  simp only [Sem.run_bind, run_underlying hA, Result.andThen_ok]
  simp only [zz, Result.andThen_ok, Std.Legacy.Range.forIn_eq_forIn_range', Std.Legacy.Range.size]
  simp only [Nat.sub_zero, show (3 + 1 - 1) / 1 = 3 from rfl, show List.range' 0 3 1 = [0, 1, 2] from rfl, List.forIn_cons, List.forIn_nil, Sem.run_bind, Nat.mul_one]
  have e' := e 9998
  go_simp
  unfold eqR
  by_cases h1 : a.c = b.c <;> by_cases h2 : a.m = b.m <;> by_cases h3 : a.p = b.p <;> simp [h1, h2, h3]
theorem eql_res (a b : Rx) (v : World) : (binOp BinOp.eql 23 (.agg #[.int .i64 a.c, .int .i64 a.m, .int .i64 a.p]) (.agg #[.int .i64 b.c, .int .i64 b.m, .int .i64 b.p])).run Tryd.prog v = .ok (.bool (eqR a b)) v := by
  have hS : Tryd.prog.underlying 23 = some (.struct (Tryd.prog.fieldsOf 23)) := by kernel_rfl
  have hp : Tryd.prog.stoodInHeld 23 = false := by kernel_rfl
  have u := Tryd.underlying3
  have a0 := Tryd.isAgg3
  have z := Tryd.sizeOf3
  rw [run_eql_struct, show (10000 : Nat) = 9999 + 1 from rfl, run_equalIn_agg v 9999 23 _ _ hS hp]
  simp only [Program.fieldsOf, Tryd.underlying23]
  go_simp
  unfold eqR
  by_cases h1 : a.c = b.c <;> by_cases h2 : a.m = b.m <;> by_cases h3 : a.p = b.p <;> simp [h1, h2, h3]
theorem of_then {X : Result Bool} {b : Bool} {w : World} (h : (X.andThen fun b w' => Result.ok (Value.bool b) w') = .ok (.bool b) w) : X = .ok b w := by
  cases X with
  | ok x v => simp [Result.andThen] at h; rw [h.1, h.2]
  | _ => simp [Result.andThen] at h
theorem eqIn_num (a b : Rx) (w : World) : (Op.equalIn 10000 56 (.agg #[.int .i64 a.c, .int .i64 a.m, .int .i64 a.p]) (.agg #[.int .i64 b.c, .int .i64 b.m, .int .i64 b.p])).run Tryd.prog w = .ok (eqR a b) w := by
  have h := eql_num a b w
  rw [run_eql_struct] at h
  exact of_then h
theorem eqIn_res (a b : Rx) (w : World) : (Op.equalIn 10000 23 (.agg #[.int .i64 a.c, .int .i64 a.m, .int .i64 a.p]) (.agg #[.int .i64 b.c, .int .i64 b.m, .int .i64 b.p])).run Tryd.prog w = .ok (eqR a b) w := by
  have h := eql_res a b w
  rw [run_eql_struct] at h
  exact of_then h
theorem agg3 {a b c x y z : Int} (h1 : a = x) (h2 : b = y) (h3 : c = z) : Ending.returned (.agg #[.int .i64 a, .int .i64 b, .int .i64 c]) = .returned (.agg #[.int .i64 x, .int .i64 y, .int .i64 z]) := by rw [h1, h2, h3]
theorem apart_any (a b c : Int) (w : World) : Calls Tryd.prog 34 #[.agg #[.int .i64 a, .int .i64 b, .int .i64 c]] w fun e w' => e = .returned (.agg #[.int .i64 a, .int .i64 b, .int .i64 c]) ∧ Below w.heap.size w w' := by
  go_enter Tryd.func34, Tryd.ntmps34
  go_wp2
  go_returns
  exact ⟨rfl, by go_grown⟩
theorem joined_any (a b c : Int) (w : World) : Calls Tryd.prog 32 #[.agg #[.int .i64 a, .int .i64 b, .int .i64 c]] w fun e w' => e = .returned (.agg #[.int .i64 a, .int .i64 b, .int .i64 c]) ∧ Below w.heap.size w w' := by
  go_enter Tryd.func32, Tryd.ntmps32
  go_wp2
  go_returns
  exact ⟨rfl, by go_grown⟩
theorem left_any (a b : Int) (w : World) (ha : fits a = true) (hb : fits b = true) (hab : b ≤ a) :
    Calls Tryd.prog 30 #[.int .i64 a, .int .i64 b] w fun e w' => e = .returned (.tuple #[.int .i64 (val (a - b)), .bool (fits (a - b))]) ∧ w = w' := by
  have hA := fits_iff.1 ha
  have hB := fits_iff.1 hb
  by_cases h : a - b ≤ 9223372036854775807
  · have hf := fits_yes (n := a - b) (by omega) h
    rw [val_yes hf, hf]
    clear ha hb hf
    have h0 : ¬ a - b < 0 := by omega
    have hw : IntKind.i64.wrap (a - b) = a - b := IntWalk.i64_in _ (by omega)
    go_enter Tryd.func30, Tryd.ntmps30
    go_wp2
    go_ret2
    exact ⟨rfl, rfl⟩
  · have hf : fits (a - b) = false := fits_no (by omega)
    rw [val_no hf, hf]
    clear ha hb hf
    have hw : wrap64 (a - b) < 0 := by go_arith
    go_enter Tryd.func30, Tryd.ntmps30
    go_wp2
    go_ret2
    exact ⟨rfl, rfl⟩
set_option maxRecDepth 100000 in
set_option maxHeartbeats 1000000 in
/-- the greater one, number by number -/
theorem greater_any (a b c x y z : Int) (w : World) : Calls Tryd.prog 33 #[.agg #[.int .i64 a, .int .i64 b, .int .i64 c], .agg #[.int .i64 x, .int .i64 y, .int .i64 z]] w fun e w' => e = .returned (.agg #[.int .i64 (max a x), .int .i64 (max b y), .int .i64 (max c z)]) ∧ Below w.heap.size w w' := by
  have i0 : ∀ w, (Instr.index 56 (.agg #[.int .i64 x, .int .i64 y, .int .i64 z]) (.int .i64 0)).run Tryd.prog w = .ok (.int .i64 x) w := fun _ => by kernel_rfl
  have i1 : ∀ w, (Instr.index 56 (.agg #[.int .i64 x, .int .i64 y, .int .i64 z]) (.int .i64 1)).run Tryd.prog w = .ok (.int .i64 y) w := fun _ => by kernel_rfl
  have i2 : ∀ w, (Instr.index 56 (.agg #[.int .i64 x, .int .i64 y, .int .i64 z]) (.int .i64 2)).run Tryd.prog w = .ok (.int .i64 z) w := fun _ => by kernel_rfl
  go_enter Tryd.func33, Tryd.ntmps33
  go_wp2
  go_rounds 4
  all_goals
    go_returns
    exact ⟨agg3 (by omega) (by omega) (by omega), by go_grown⟩
theorem above_any (a b : Int) (w : World) (ha : fits a = true) (hb : fits b = true) : Calls Tryd.prog 36 #[.int .i64 a, .int .i64 b] w fun e w' => e = .returned (.int .i64 (overI a b)) ∧ w = w' := by
  by_cases h : a ≤ b
  · have e : overI a b = 0 := by unfold overI; rw [if_pos h]
    rw [e]
    clear e ha hb
    go_enter Tryd.func36, Tryd.ntmps36
    go_wp2
    go_ret
    exact ⟨rfl, rfl⟩
  · have hc := left_any a b w ha hb (by omega)
    have hn : ¬ a ≤ b := h
    cases hf : fits (a - b) with
    | true =>
      rw [val_yes hf, hf] at hc
      have e : overI a b = a - b := by unfold overI; rw [if_neg h, if_pos hf]
      rw [e]
      have HC := Lib.hid hc
      clear e ha hb hc hf h
      go_enter Tryd.func36, Tryd.ntmps36
      go_wp2_with (go_at_call 30; refine HC.out.mono ?_; rintro e w' ⟨rfl, rfl⟩)
      go_ret
      exact ⟨rfl, rfl⟩
    | false =>
      rw [val_no hf, hf] at hc
      have e : overI a b = 9223372036854775807 := by unfold overI; rw [if_neg h, if_neg (by rw [hf]; decide)]
      rw [e]
      have HC := Lib.hid hc
      clear e ha hb hc hf h
      go_enter Tryd.func36, Tryd.ntmps36
      go_wp2_with (go_at_call 30; refine HC.out.mono ?_; rintro e w' ⟨rfl, rfl⟩)
      go_ret
      exact ⟨rfl, rfl⟩
end Re
end Go.Proofs.YtpllcnpmjnmcfaaDoor
