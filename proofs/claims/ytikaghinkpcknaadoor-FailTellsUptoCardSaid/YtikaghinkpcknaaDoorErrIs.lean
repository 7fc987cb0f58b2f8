/-
  The contracts of errors.Is at a code, and of fail.Has: has an error of package fail that code? All that was there is left as it was. Conditions: the value is an error of package fail, or nil.
-/
import Derived.Test.YtikaghinkpcknaaDoorErrUnwrap
namespace Go.Proofs.YtikaghinkpcknaaDoor
open Go.RowKit Go.Extern.Stop Go.Stop Go.Extern
namespace Err

theorem is_any {W : World} (d : Int) (E : Value) (c : Int) (p : List ByteArray) (h : Is W E c p) :
    Calls Tryd.prog 33 #[E, .iface 28 (.int .i64 d), .bool true] W fun e w' => e = .returned (.bool (c == d)) ∧ W = w' := by
  have nC := noIsC
  have nS := noIsS
  have uC := noUnwrapC
  have vC := noUnwrapsC
  have uS := hasUnwrapS
  have mU := methodUnwrap
  have hq := eql_codes
  go_enter Tryd.func33, Tryd.ntmps33
  go_wp2
  go_loopw [0] (fun E' wl => wl = W ∧ ∃ p', Is W E' c p') (fun E' _ => deep W E')
  case atStart => exact ⟨rfl, p, h⟩
  case round =>
    obtain ⟨rfl, p', hc'⟩ := hrel
    cases hc' with
    | code c =>
      cases hcd : (c == d) with
      | true =>
        go_wp2
        go_ret
        exact ⟨by rw [hcd]; rfl, rfl⟩
      | false =>
        go_wp2
        go_ret
        exact ⟨by rw [hcd]; rfl, rfl⟩
    | step b o E1 s _ q h0 h1 h2 =>
      have hty := run_eql_iface_types (P := Tryd.prog) 46 28 (.pointer (some ⟨b, o, none⟩)) (.int .i64 d) Tryd.underlying26 (by decide) wr
      have hlen := deep_eq h2
      have hlen0 := deep_eq (Is.step b o E1 s c q h0 h1 h2)
      obtain ⟨u1, v1, rfl⟩ := h2.iface
      have HC := Lib.hid h2
      have HL := Lib.hid hlen
      have HL0 := Lib.hid hlen0
      clear h2 hlen hlen0 hq
      go_wp2_with (go_at_call 63; refine (step_unwrap b o _ _ h1).mono ?_; rintro e w' ⟨rfl, rfl⟩)
      go_roundw
      case rel => exact ⟨trivial, q, HC.out⟩
      case measure => rw [HL.out, HL0.out]; simp

theorem errors_is {W : World} (d : Int) (E : Value) (c : Int) (p : List ByteArray) (h : Is W E c p) :
    Calls Tryd.prog 24 #[E, .iface 28 (.int .i64 d)] W fun e w' => e = .returned (.bool (c == d)) ∧ W = w' := by
  have h1 := @run_callFunc_extern Tryd.prog 32 _ ReflectliteType.typeOf Tryd.func32 (by kernel_rfl) (by kernel_rfl) (by kernel_rfl) (by kernel_rfl)
  have tT := typeOfC
  have cT := callComparableC
  have mR := methodComparable
  obtain ⟨u, x, rfl⟩ := h.iface
  have H := Lib.hid h
  clear h
  go_enter Tryd.func24, Tryd.ntmps24
  go_wp2_with (go_at_call 33; refine (is_any d _ c p H.out).mono ?_; rintro e w' ⟨rfl, rfl⟩)
  go_ret
  exact ⟨rfl, rfl⟩

theorem has_idle (p : Addr) (w : World) :
    CallsD Tryd.prog 23 #[.pointer (some p)] .returning w fun e u' w' => e = .returned (.tuple #[]) ∧ u' = .returning ∧ w' = w := by
  refine callsD_of_wpS Tryd.func23 rfl fun c₀ cs hu => ?_
  apply wpS_seq
  apply wpS_region
  simp [wpOpsS, go_sem, recoverD, hu, Tryd.ntmps23, Exit.thenS]
  refine wpS_cond (t := false) (by simp [Act.eval, Array.replicate]) ?_
  simp only [Bool.false_eq_true, if_false]
  refine wpS_of_wp (wp_skip ?_)
  cases c₀
  simp_all [bodyPostS, results, Tryd.results23]

theorem has_nil (d : Int) (w : World) :
    Calls Tryd.prog 18 #[.nilIface, .int .i64 d] w fun e w' => e = .returned (.bool (d == 0)) ∧ Below w.heap.size w w' := by
  have hmf : ∀ (fn : Fn) (first cap : Array Value) (w : World), (Instr.makeFunc fn first cap).run Tryd.prog w = .ok (.func fn first cap) w := fun _ _ _ _ => rfl
  go_enter_defers Tryd.func18, Tryd.ntmps18
  go_wp2_with fail
  simp [bodyPostD, Leaves, results, Tryd.results18, go_sem]
  exact ((Below.refl _ _).alloc (Nat.le_refl _) _)

theorem has_some {w : World} (d : Int) (E : Value) (c : Int) (p : List ByteArray) (h : Is w E c p) :
    Calls Tryd.prog 18 #[E, .int .i64 d] w fun e w' => e = .returned (.bool (c == d)) ∧ Below w.heap.size w w' := by
  have hmf : ∀ (fn : Fn) (first cap : Array Value) (w : World), (Instr.makeFunc fn first cap).run Tryd.prog w = .ok (.func fn first cap) w := fun _ _ _ _ => rfl
  have h2 := h.keep ((Below.refl _ _).alloc (Nat.le_refl _) (.cells #[.bool false] 4))
  obtain ⟨u, x, rfl⟩ := h.iface
  have H2 := Lib.hid h2
  clear h2 h
  go_enter_defers Tryd.func18, Tryd.ntmps18
  go_wp2_with fail
  refine (errors_is d _ c p H2.out).mono ?_
  rintro e w' ⟨rfl, rfl⟩
  go_wp2_with fail
  refine leaves_cons (f := 23) (args := #[.pointer (some ⟨w.heap.size, 0, none⟩)]) (by simp) (by simp [go_sem]) ?_
  refine (has_idle ⟨w.heap.size, 0, none⟩ _).mono ?_
  rintro e u' w'' ⟨rfl, rfl, rfl⟩
  simp [Leaves, settle, results, Tryd.results18, go_sem]
  exact ((Below.refl _ _).alloc (Nat.le_refl _) _)
end Err
end Go.Proofs.YtikaghinkpcknaaDoor
