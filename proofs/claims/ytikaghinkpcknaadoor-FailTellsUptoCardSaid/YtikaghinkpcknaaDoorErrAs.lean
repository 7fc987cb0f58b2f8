/-
  The contracts of errors.As at a target of type *api.Code, of fail.codeWithin and of fail.Code: the code of an error of package fail; OK of nil. All that was there is left as it was. Conditions: the value is an error of package fail; errors.errorType holds the type error (Laid).
-/
import Derived.Test.YtikaghinkpcknaaDoorErrUnwrap
namespace Go.Proofs.YtikaghinkpcknaaDoor
open Go.RowKit Go.Extern.Stop Go.Stop Go.Extern
namespace Err

/-- errors.errorType holds what package errors lays there -/
def Laid (w : World) : Prop := w.cell? ⟨0, 0, none⟩ = some (.iface 85 (.agg #[.pointer (some ⟨2, 26, none⟩)]))

theorem Laid.keep {w w' : World} (h : Laid w) (hb : Below w.heap.size w w') : Laid w' := (hb.cell (lt_of_cell h)).trans h

/-- errors.as: the target's variable at t gets the code -/
theorem as_any (c : Int) (p : List ByteArray) (E : Value) (a t : Addr) (old : Value) (W : World) (h : Is W E c p) (ha : W.cell? a = some (.pointer (some t))) (ht : W.cell? t = some old) (hf : W.frozen? t = false) :
    Calls Tryd.prog 37 #[E, .iface 57 (.pointer (some t)), .agg #[.pointer (some ⟨2, 57, none⟩), .pointer (some a), .int .u64 150], .iface 85 (.agg #[.pointer (some ⟨2, 28, none⟩)])] W
      fun e w' => e = .returned (.bool true) ∧ w' = ((W.alloc (.cells #[.pointer (some ⟨2, 57, none⟩), .pointer (some a), .int .u64 150] 76)).alloc (.cells #[.int .i64 c] 28)).setCell t (.int .i64 c) := by
  have x1 := @run_callFunc_extern Tryd.prog 32 _ ReflectliteType.typeOf Tryd.func32 (by kernel_rfl) (by kernel_rfl) (by kernel_rfl) (by kernel_rfl)
  have x2 := @run_callFunc_extern Tryd.prog 69 _ (ReflectliteType.relation "AssignableTo" ReflectliteType.assignableTo) Tryd.func69 (by kernel_rfl) (by kernel_rfl) (by kernel_rfl) (by kernel_rfl)
  have x3 := @run_callFunc_extern Tryd.prog 34 _ (fun args => ReflectliteValue.unpack (args.getD 0 (.tuple #[]))) Tryd.func34 (by kernel_rfl) (by kernel_rfl) (by kernel_rfl) (by kernel_rfl)
  have x4 := @run_callFunc_extern Tryd.prog 40 _ (ReflectliteValue.method (ReflectliteValue.valueError "reflectlite.Value.Elem" 0) ReflectliteValue.elem) Tryd.func40 (by kernel_rfl) (by kernel_rfl) (by kernel_rfl) (by kernel_rfl)
  have x5 := @run_callFunc_extern Tryd.prog 41 _ ReflectliteValue.set Tryd.func41 (by kernel_rfl) (by kernel_rfl) (by kernel_rfl) (by kernel_rfl)
  have tC := typeOfC
  have tS := typeOfS
  have mA := methodAssignableTo
  have aC := assignableC
  have aS := assignableS
  have vC := valueOfC
  have nS := noAsS
  have uS := hasUnwrapS
  have mU := methodUnwrap
  have hb : Below W.heap.size W (W.alloc (.cells #[.pointer (some ⟨2, 57, none⟩), .pointer (some a), .int .u64 150] 76)) := (Below.refl _ _).alloc (Nat.le_refl _) _
  have hb2 : Below W.heap.size W ((W.alloc (.cells #[.pointer (some ⟨2, 57, none⟩), .pointer (some a), .int .u64 150] 76)).alloc (.cells #[.int .i64 c] 28)) := hb.alloc (by simp) _
  have el := elemVP a t (W.alloc (.cells #[.pointer (some ⟨2, 57, none⟩), .pointer (some a), .int .u64 150] 76)) ((hb.cell (lt_of_cell ha)).trans ha)
  have st := setC t ⟨W.heap.size + 1, 0, none⟩ c old ((W.alloc (.cells #[.pointer (some ⟨2, 57, none⟩), .pointer (some a), .int .u64 150] 76)).alloc (.cells #[.int .i64 c] 28)) (by rw [World.cell?_alloc_at _ _ _ _ (by simp)]; rfl) ((hb2.cell (lt_of_cell ht)).trans ht) ((hb2.frozen (lt_of_cell ht)).trans hf)
  have H := Lib.hid h
  have HB := Lib.hid hb
  clear h ha ht hf hb hb2
  go_enter Tryd.func37, Tryd.ntmps37
  go_wp2
  go_loopw [0] (fun E' wl => wl = W.alloc (.cells #[.pointer (some ⟨2, 57, none⟩), .pointer (some a), .int .u64 150] 76) ∧ ∃ p', Is W E' c p') (fun E' _ => deep W E')
  case atStart => exact ⟨rfl, p, H.out⟩
  case round =>
    obtain ⟨rfl, p', hc'⟩ := hrel
    cases hc' with
    | code c =>
      go_wp2
      go_ret
      exact ⟨rfl, rfl⟩
    | step b o E1 s _ q h0 h1 h2 =>
      have hlen := deep_eq h2
      have hlen0 := deep_eq (Is.step b o E1 s c q h0 h1 h2)
      have hcell : (W.alloc (.cells #[.pointer (some ⟨2, 57, none⟩), .pointer (some a), .int .u64 150] 76)).cell? ⟨b, o + 1, none⟩ = some E1 := (HB.out.cell (lt_of_cell h1)).trans h1
      obtain ⟨u1, v1, rfl⟩ := h2.iface
      have HC := Lib.hid h2
      have HL := Lib.hid hlen
      have HL0 := Lib.hid hlen0
      have HX := Lib.hid hcell
      clear h2 hlen hlen0 h0 h1 hcell el st
      go_wp2_with (go_at_call 63; refine (step_unwrap b o _ _ HX.out).mono ?_; rintro e w' ⟨rfl, rfl⟩)
      go_roundw
      case rel => exact ⟨trivial, q, HC.out⟩
      case measure => rw [HL.out, HL0.out]; simp
theorem errors_as (c : Int) (p : List ByteArray) (E : Value) (t : Addr) (old : Value) (W : World) (h : Is W E c p) (ht : W.cell? t = some old) (hf : W.frozen? t = false) (hL : Laid W) :
    Calls Tryd.prog 28 #[E, .iface 57 (.pointer (some t))] W
      fun e w' => e = .returned (.bool true) ∧ w' = ((((W.alloc (.cells #[.pointer (some t)] 57)).alloc (.cells #[.pointer (some ⟨2, 57, none⟩), .pointer (some ⟨W.heap.size, 0, none⟩), .int .u64 150] 76)).alloc (.cells #[.pointer (some ⟨2, 57, none⟩), .pointer (some ⟨W.heap.size, 0, none⟩), .int .u64 150] 76)).alloc (.cells #[.int .i64 c] 28)).setCell t (.int .i64 c) := by
  have x1 := @run_callFunc_extern Tryd.prog 34 _ (fun args => ReflectliteValue.unpack (args.getD 0 (.tuple #[]))) Tryd.func34 (by kernel_rfl) (by kernel_rfl) (by kernel_rfl) (by kernel_rfl)
  have x2 := @run_callFunc_extern Tryd.prog 35 _ (ReflectliteValue.methodAny (ReflectliteValue.valueError "reflectlite.Value.Type" 0) (fun t _ _ _ => ReflectliteType.toType t)) Tryd.func35 (by kernel_rfl) (by kernel_rfl) (by kernel_rfl) (by kernel_rfl)
  have x3 := @run_callFunc_extern Tryd.prog 36 _ (ReflectliteValue.method (ReflectliteValue.valueError "reflectlite.Value.IsNil" 0) ReflectliteValue.isNil) Tryd.func36 (by kernel_rfl) (by kernel_rfl) (by kernel_rfl) (by kernel_rfl)
  have x4 := @run_callFunc_extern Tryd.prog 58 _ (ReflectliteType.abiMethod fun t => do pure (.int .u8 (← Rtype.kind t))) Tryd.func58 (by kernel_rfl) (by kernel_rfl) (by kernel_rfl) (by kernel_rfl)
  have x5 := @run_callFunc_extern Tryd.prog 71 _ (ReflectliteType.method ReflectliteType.elem) Tryd.func71 (by kernel_rfl) (by kernel_rfl) (by kernel_rfl) (by kernel_rfl)
  have x6 := @run_callFunc_extern Tryd.prog 72 _ (ReflectliteType.relation "Implements" ReflectliteType.implements_) Tryd.func72 (by kernel_rfl) (by kernel_rfl) (by kernel_rfl) (by kernel_rfl)
  have v1 := valueOfP
  have v2 := typeP
  have mK := methodKind
  have mE := methodElem
  have mI := methodImplements
  have kP := kindP
  have kC := kindC
  have eP := elemP
  have iC := implementsC
  have hb : Below W.heap.size W ((W.alloc (.cells #[.pointer (some t)] 57)).alloc (.cells #[.pointer (some ⟨2, 57, none⟩), .pointer (some ⟨W.heap.size, 0, none⟩), .int .u64 150] 76)) := ((Below.refl _ _).alloc (Nat.le_refl _) _).alloc (by simp) _
  have n1 := isNilP ⟨W.heap.size, 0, none⟩ t ((W.alloc (.cells #[.pointer (some t)] 57)).alloc (.cells #[.pointer (some ⟨2, 57, none⟩), .pointer (some ⟨W.heap.size, 0, none⟩), .int .u64 150] 76)) (by simp)
  have hg : ((W.alloc (.cells #[.pointer (some t)] 57)).alloc (.cells #[.pointer (some ⟨2, 57, none⟩), .pointer (some ⟨W.heap.size, 0, none⟩), .int .u64 150] 76)).cell? ⟨0, 0, none⟩ = some (.iface 85 (.agg #[.pointer (some ⟨2, 26, none⟩)])) := hL.keep hb
  have Q1 := Lib.hid (h.keep hb)
  have Q2 := Lib.hid ((hb.cell (lt_of_cell ht)).trans ht)
  have Q3 := Lib.hid ((hb.frozen (lt_of_cell ht)).trans hf)
  have Q4 : Hid (((W.alloc (.cells #[.pointer (some t)] 57)).alloc (.cells #[.pointer (some ⟨2, 57, none⟩), .pointer (some ⟨W.heap.size, 0, none⟩), .int .u64 150] 76)).cell? ⟨W.heap.size, 0, none⟩ = some (.pointer (some t))) := Lib.hid (by simp)
  obtain ⟨u, x, rfl⟩ := h.iface
  clear h hL ht hf hb
  go_enter Tryd.func28, Tryd.ntmps28
  go_wp2_with (go_at_call 37; refine (as_any c p _ _ t old _ Q1.out Q4.out Q2.out Q3.out).mono ?_; rintro e w' ⟨rfl, rfl⟩)
  go_ret
  exact ⟨rfl, rfl⟩

end Err
end Go.Proofs.YtikaghinkpcknaaDoor
