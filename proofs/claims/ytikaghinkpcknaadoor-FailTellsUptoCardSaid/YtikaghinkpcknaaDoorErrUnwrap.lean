/-
  The contracts of errors.Unwrap and of what package fail builds on it (fail.unwrapped): the error within a step; nil of a code. All that was there is left as it was. Conditions: the value is an error of package fail.
-/
import Derived.Test.YtikaghinkpcknaaDoorErrFacts
import Derived.Defers
import Derived.Recover
namespace Go.Proofs.YtikaghinkpcknaaDoor
open Go.RowKit Go.Extern.Stop Go.Stop Go.Extern
namespace Err

theorem step_unwrap (b o : Nat) (E : Value) (w : World) (h1 : w.cell? ⟨b, o + 1, none⟩ = some E) :
    Calls Tryd.prog 63 #[.pointer (some ⟨b, o, none⟩)] w fun e w' => e = .returned E ∧ w = w' := by
  go_enter Tryd.func63, Tryd.ntmps63
  go_wp2
  go_ret
  exact ⟨rfl, rfl⟩

theorem unwrap_code (c : Int) (w : World) :
    Calls Tryd.prog 26 #[.iface 28 (.int .i64 c)] w fun e w' => e = .returned .nilIface ∧ w = w' := by
  have u := noUnwrapC
  go_enter Tryd.func26, Tryd.ntmps26
  go_wp2
  go_ret
  exact ⟨rfl, rfl⟩

theorem unwrap_step (b o : Nat) (E : Value) (w : World) (h1 : w.cell? ⟨b, o + 1, none⟩ = some E) :
    Calls Tryd.prog 26 #[.iface 46 (.pointer (some ⟨b, o, none⟩))] w fun e w' => e = .returned E ∧ w = w' := by
  have u := hasUnwrapS
  have m := methodUnwrap
  go_enter Tryd.func26, Tryd.ntmps26
  go_wp2_with (go_at_call 63; refine (step_unwrap b o E _ h1).mono ?_; rintro e w' ⟨rfl, rfl⟩)
  go_ret
  exact ⟨rfl, rfl⟩

/-- the deferred function finds nothing to recover -/
theorem unwrapped_idle (p : Addr) (w : World) :
    CallsD Tryd.prog 25 #[.pointer (some p)] .returning w fun e u' w' => e = .returned (.tuple #[]) ∧ u' = .returning ∧ w' = w := by
  refine callsD_of_wpS Tryd.func25 rfl fun c₀ cs hu => ?_
  apply wpS_seq
  apply wpS_region
  simp [wpOpsS, go_sem, recoverD, hu, Tryd.ntmps25, Exit.thenS]
  refine wpS_cond (t := false) (by simp [Act.eval, Array.replicate]) ?_
  simp only [Bool.false_eq_true, if_false]
  refine wpS_of_wp (wp_skip ?_)
  cases c₀
  simp_all [bodyPostS, results, Tryd.results25]

theorem unwrapped_step (b o : Nat) (t : TypeId) (x : Value) (w : World) (h1 : w.cell? ⟨b, o + 1, none⟩ = some (.iface t x)) :
    Calls Tryd.prog 20 #[.iface 46 (.pointer (some ⟨b, o, none⟩))] w fun e w' => e = .returned (.iface t x) ∧ Below w.heap.size w w' := by
  have hmf : ∀ (fn : Fn) (first cap : Array Value) (w : World), (Instr.makeFunc fn first cap).run Tryd.prog w = .ok (.func fn first cap) w := fun _ _ _ _ => rfl
  have h2 : (w.alloc (.cells #[.nilIface] 26)).cell? ⟨b, o + 1, none⟩ = some (.iface t x) := (World.cell?_alloc_lt _ _ ⟨b, o + 1, none⟩ (lt_of_cell h1)).trans h1
  have H2 := Lib.hid h2
  clear h2
  go_enter_defers Tryd.func20, Tryd.ntmps20
  go_wp2_with fail
  refine (unwrap_step b o (.iface t x) _ H2.out).mono ?_
  rintro e w' ⟨rfl, rfl⟩
  go_wp2_with fail
  refine leaves_cons (f := 25) (args := #[.pointer (some ⟨w.heap.size, 0, none⟩)]) (by simp) (by simp [go_sem]) ?_
  refine (unwrapped_idle ⟨w.heap.size, 0, none⟩ _).mono ?_
  rintro e u' w'' ⟨rfl, rfl, rfl⟩
  simp [Leaves, settle, results, Tryd.results20, go_sem]
  exact ((Below.refl _ _).alloc (Nat.le_refl _) _)

theorem unwrapped_code (c : Int) (w : World) :
    Calls Tryd.prog 20 #[.iface 28 (.int .i64 c)] w fun e w' => e = .returned .nilIface ∧ Below w.heap.size w w' := by
  have hmf : ∀ (fn : Fn) (first cap : Array Value) (w : World), (Instr.makeFunc fn first cap).run Tryd.prog w = .ok (.func fn first cap) w := fun _ _ _ _ => rfl
  go_enter_defers Tryd.func20, Tryd.ntmps20
  go_wp2_with fail
  refine (unwrap_code c _).mono ?_
  rintro e w' ⟨rfl, rfl⟩
  go_wp2_with fail
  refine leaves_cons (f := 25) (args := #[.pointer (some ⟨w.heap.size, 0, none⟩)]) (by simp) (by simp [go_sem]) ?_
  refine (unwrapped_idle ⟨w.heap.size, 0, none⟩ _).mono ?_
  rintro e u' w'' ⟨rfl, rfl, rfl⟩
  simp [Leaves, settle, results, Tryd.results20, go_sem]
  exact ((Below.refl _ _).alloc (Nat.le_refl _) _)
end Err
end Go.Proofs.YtikaghinkpcknaaDoor
