/-
  What an error of package fail is in memory (a code innermost, steps around it), what a list of texts is, and that both stay as they are while the memory that was there does. Plain facts; no condition. And what follows of it, part by part, each with its conditions.
-/
import Derived.Test.YtaegknpijgjioaaGreatDoorChecked
import Derived.Test.YtaegknpijgjioaaGreatDoorKit
import Derived.Test.YtaegknpijgjioaaGreatDoorShelf
import Derived.WalkKit
import Derived.LaidEql
import Derived.Stop.Asserts
import Derived.RowKitTokens
import Derived.Lib.Hide
import Derived.Defers
import Derived.Recover
import Derived.RegionTactic
import Derived.Laws.OwnMore
/- What an error of package fail is in memory (a code innermost, steps around it), what a list of texts is, and that both stay as they are while the memory that was there does. Plain facts; no condition. -/
namespace Go.Proofs.YtaegknpijgjioaaGreatDoor
open Go.RowKit
namespace Err

/-- the value E is, in the world w, the error of the code c with the path p -/
inductive Is (w : World) : Value → Int → List ByteArray → Prop
  | code (c : Int) : Is w (.iface 40 (.int .i64 c)) c []
  | step (b o : Nat) (E : Value) (s : ByteArray) (c : Int) (p : List ByteArray) : w.cell? ⟨b, o, none⟩ = some (.string s) → w.cell? ⟨b, o + 1, none⟩ = some E → Is w E c p →
      Is w (.iface 135 (.pointer (some ⟨b, o, none⟩))) c (s :: p)
theorem lt_of_cell {w : World} {a : Addr} {v : Value} (h : w.cell? a = some v) : a.block < w.heap.size := by
  rcases Nat.lt_or_ge a.block w.heap.size with hl | hl
  · exact hl
  · simp [World.cell?, Array.getElem?_eq_none hl] at h
theorem Is.keep {w w' : World} {E : Value} {c : Int} {p : List ByteArray} (h : Is w E c p) (hb : Below w.heap.size w w') : Is w' E c p := by
  induction h with
  | code c => exact .code c
  | step b o E s c p h0 h1 _ ih => exact .step b o E s c p ((hb.cell (lt_of_cell h0)).trans h0) ((hb.cell (lt_of_cell h1)).trans h1) ih
theorem Is.iface {w : World} {E : Value} {c : Int} {p : List ByteArray} (h : Is w E c p) : ∃ u x, E = .iface u x := by
  cases h <;> exact ⟨_, _, rfl⟩
theorem Is.unique {w : World} {E : Value} {c c' : Int} {p p' : List ByteArray} (h : Is w E c p) (h' : Is w E c' p') : c = c' ∧ p = p' := by
  induction h generalizing c' p' with
  | code c => cases h'; exact ⟨rfl, rfl⟩
  | step b o E s c p h0 h1 _ ih =>
    cases h' with
    | step _ _ E' s' _ q h0' h1' h2' =>
      rw [h0] at h0'; rw [h1] at h1'
      cases h0'; cases h1'
      obtain ⟨rfl, rfl⟩ := ih h2'
      exact ⟨rfl, rfl⟩
open Classical in
/-- how many steps an error has -/
noncomputable def deep (w : World) (E : Value) : Nat := if h : ∃ cp : Int × List ByteArray, Is w E cp.1 cp.2 then h.choose.2.length else 0
theorem deep_eq {w : World} {E : Value} {c : Int} {p : List ByteArray} (h : Is w E c p) : deep w E = p.length := by
  unfold deep
  rw [dif_pos ⟨(c, p), h⟩]
  rw [(Is.unique (Exists.choose_spec (p := fun cp : Int × List ByteArray => Is w E cp.1 cp.2) ⟨(c, p), h⟩) h).2]
/-- the slice at A holds the texts xs -/
def Texts (w : World) (A : Option Addr) (xs : List ByteArray) : Prop := ∀ k x, xs[k]? = some x → ∃ a, A = some a ∧ w.cell? (a.add k) = some (.string x)
theorem add_block (a : Addr) (n : Nat) : (a.add n).block = a.block := by unfold Addr.add; split <;> rfl
theorem Texts.below {w w' : World} {A : Option Addr} {xs : List ByteArray} (h : Texts w A xs) (hb : Below w.heap.size w w') : Texts w' A xs := by
  intro k x hx
  obtain ⟨a, ha, hc⟩ := h k x hx
  exact ⟨a, ha, (hb.cell (lt_of_cell hc)).trans hc⟩
/-- a call ends with an error of the code c and the path p in new memory -/
def Made (c : Int) (p : List ByteArray) (w : World) (e : Ending) (w' : World) : Prop := ∃ E, e = .returned E ∧ Is w' E c p ∧ Below w.heap.size w w'
end Err
end Go.Proofs.YtaegknpijgjioaaGreatDoor

/- Closed facts on the model's entries for internal/reflectlite and on method sets, at the types of package fail: what errors.Is, errors.As and errors.Unwrap find at a code and at a step. No condition but the cell that an entry reads or writes. -/
namespace Go.Proofs.YtaegknpijgjioaaGreatDoor
open Go.RowKit Go.Extern.Stop Go.Stop Go.Extern
namespace Err

/-! what reflectlite tells of the target's type (errors.Is) -/
theorem typeOfC (v : Value) (w : World) : (ReflectliteType.typeOf #[.iface 40 v]).run Tryz.prog w = .ok (.iface 160 (.agg #[.pointer (some ⟨6, 40, none⟩)])) w := by kernel_rfl
theorem typeOfS (v : Value) (w : World) : (ReflectliteType.typeOf #[.iface 135 v]).run Tryz.prog w = .ok (.iface 160 (.agg #[.pointer (some ⟨6, 135, none⟩)])) w := by kernel_rfl
theorem infoC : (Tryz.prog.info? 40).map (·.comparable) = some true := by kernel_rfl
/-! what the assertions find -/
theorem noAsC (v : Value) (xT : TypeId) (w : World) : (Instr.typeAssert (.iface 40 v) xT 165 true).run Tryz.prog w = .ok (.tuple #[.nilIface, .bool false]) w := run_typeAssert_lacksB Tryz.underlying165 (by kernel_rfl) (by kernel_rfl) v xT w
theorem noAsS (v : Value) (xT : TypeId) (w : World) : (Instr.typeAssert (.iface 135 v) xT 165 true).run Tryz.prog w = .ok (.tuple #[.nilIface, .bool false]) w := run_typeAssert_lacksB Tryz.underlying165 (by kernel_rfl) (by kernel_rfl) v xT w
theorem noUnwrapC (v : Value) (xT : TypeId) (w : World) : (Instr.typeAssert (.iface 40 v) xT 168 true).run Tryz.prog w = .ok (.tuple #[.nilIface, .bool false]) w := run_typeAssert_lacksB Tryz.underlying168 (by kernel_rfl) (by kernel_rfl) v xT w
theorem noUnwrapsC (v : Value) (xT : TypeId) (w : World) : (Instr.typeAssert (.iface 40 v) xT 170 true).run Tryz.prog w = .ok (.tuple #[.nilIface, .bool false]) w := run_typeAssert_lacksB Tryz.underlying170 (by kernel_rfl) (by kernel_rfl) v xT w
theorem hasUnwrapS (v : Value) (xT : TypeId) (w : World) : (Instr.typeAssert (.iface 135 v) xT 168 true).run Tryz.prog w = .ok (.tuple #[.iface 135 v, .bool true]) w := run_typeAssert_hasB Tryz.underlying168 (by kernel_rfl) v xT w
theorem methodUnwrap (v : Value) (w : World) : (Go.method 314 135 v "Unwrap").run Tryz.prog w = .ok (154, v) w := by kernel_rfl
theorem isStepC (v : Value) (xT : TypeId) (w : World) : (Instr.typeAssert (.iface 40 v) xT 135 true).run Tryz.prog w = .ok (.tuple #[.pointer none, .bool false]) w := by kernel_rfl
theorem isStepS (v : Value) (xT : TypeId) (w : World) : (Instr.typeAssert (.iface 135 v) xT 135 true).run Tryz.prog w = .ok (.tuple #[v, .bool true]) w := by kernel_rfl
/-! '==' of two codes -/
theorem equalIn_codes (d : Nat) (a b : Int) (w : World) : (Op.equalIn (d + 2) 66 (.iface 40 (.int .i64 a)) (.iface 40 (.int .i64 b))).run Tryz.prog w = .ok (a == b) w := by
  obtain ⟨i, hi, hcmp⟩ := Option.map_eq_some_iff.1 infoC
  simp [Op.equalIn, run_underlying Tryz.underlying66, run_underlying Tryz.underlying40, typeInfo, hi, hcmp]
theorem eql_codes (a b : Int) (w : World) : (binOp .eql 66 (.iface 40 (.int .i64 a)) (.iface 40 (.int .i64 b))).run Tryz.prog w = .ok (.bool (a == b)) w := by
  simp only [binOp]
  simp [Op.equal, Op.maxDepth, equalIn_codes 9998 a b w]
/-! what reflectlite does for errors.As -/
theorem valueOfP (t : Addr) (w : World) : (ReflectliteValue.unpack (.iface 123 (.pointer (some t)))).run Tryz.prog w
    = .ok (.agg #[.pointer (some ⟨6, 123, none⟩), .pointer (some ⟨w.heap.size, 0, none⟩), .int .u64 150]) (w.alloc (.cells #[.pointer (some t)] 123)) := by kernel_rfl
theorem typeP (a : Addr) (w : World) : (ReflectliteValue.methodAny (ReflectliteValue.valueError "reflectlite.Value.Type" 0) (fun t _ _ _ => ReflectliteType.toType t) #[.agg #[.pointer (some ⟨6, 123, none⟩), .pointer (some a), .int .u64 150]]).run Tryz.prog w
    = .ok (.iface 160 (.agg #[.pointer (some ⟨6, 123, none⟩)])) w := by kernel_rfl
theorem methodKind (h : Value) (w : World) : (Go.method 314 160 (.agg #[h]) "Kind").run Tryz.prog w = .ok (148, h) w := by kernel_rfl
theorem kindP (w : World) : ((ReflectliteType.abiMethod fun t => (fun a : Nat => Value.int IntKind.u8 (a : Int)) <$> Rtype.kind t) #[.pointer (some ⟨6, 123, none⟩)]).run Tryz.prog w = .ok (.int .u8 22) w := by kernel_rfl
theorem kindC (w : World) : ((ReflectliteType.abiMethod fun t => (fun a : Nat => Value.int IntKind.u8 (a : Int)) <$> Rtype.kind t) #[.pointer (some ⟨6, 40, none⟩)]).run Tryz.prog w = .ok (.int .u8 2) w := by kernel_rfl
theorem partsP (a : Addr) (w : World) : (ReflectliteValue.parts (.agg #[.pointer (some ⟨6, 123, none⟩), .pointer (some a), .int .u64 150])).run Tryz.prog w = .ok (some (123, a, 150)) w := by kernel_rfl
theorem isNilP (a p : Addr) (W : World) (ha : W.cell? a = some (.pointer (some p))) :
    (ReflectliteValue.method (ReflectliteValue.valueError "reflectlite.Value.IsNil" 0) ReflectliteValue.isNil #[.agg #[.pointer (some ⟨6, 123, none⟩), .pointer (some a), .int .u64 150]]).run Tryz.prog W = .ok (.bool false) W := by
  change Sem.run Tryz.prog (Bind.bind (ReflectliteValue.parts (.agg #[.pointer (some ⟨6, 123, none⟩), .pointer (some a), .int .u64 150])) _) W = _
  simp only [Sem.run_bind, partsP, Result.andThen]
  simp [ReflectliteValue.isNil, loadVar, isAgg, underlying, Tryz.underlying123, ha, Result.andThen]
theorem methodElem (h : Value) (w : World) : (Go.method 314 160 (.agg #[h]) "Elem").run Tryz.prog w = .ok (161, .agg #[h]) w := by kernel_rfl
theorem methodImplements (h : Value) (w : World) : (Go.method 314 160 (.agg #[h]) "Implements").run Tryz.prog w = .ok (162, .agg #[h]) w := by kernel_rfl
theorem methodAssignableTo (h : Value) (w : World) : (Go.method 314 160 (.agg #[h]) "AssignableTo").run Tryz.prog w = .ok (159, .agg #[h]) w := by kernel_rfl
theorem elemP (w : World) : (ReflectliteType.method ReflectliteType.elem #[.agg #[.pointer (some ⟨6, 123, none⟩)]]).run Tryz.prog w = .ok (.iface 160 (.agg #[.pointer (some ⟨6, 40, none⟩)])) w := by kernel_rfl
theorem implementsC (w : World) : (ReflectliteType.relation "Implements" ReflectliteType.implements_ #[.agg #[.pointer (some ⟨6, 40, none⟩)], .iface 160 (.agg #[.pointer (some ⟨6, 66, none⟩)])]).run Tryz.prog w = .ok (.bool true) w := by kernel_rfl
theorem assignableC (w : World) : (ReflectliteType.relation "AssignableTo" ReflectliteType.assignableTo #[.agg #[.pointer (some ⟨6, 40, none⟩)], .iface 160 (.agg #[.pointer (some ⟨6, 40, none⟩)])]).run Tryz.prog w = .ok (.bool true) w := by kernel_rfl
theorem assignableS (w : World) : (ReflectliteType.relation "AssignableTo" ReflectliteType.assignableTo #[.agg #[.pointer (some ⟨6, 135, none⟩)], .iface 160 (.agg #[.pointer (some ⟨6, 40, none⟩)])]).run Tryz.prog w = .ok (.bool false) w := by kernel_rfl
theorem valueOfC (n : Int) (w : World) : (ReflectliteValue.unpack (.iface 40 (.int .i64 n))).run Tryz.prog w
    = .ok (.agg #[.pointer (some ⟨6, 40, none⟩), .pointer (some ⟨w.heap.size, 0, none⟩), .int .u64 130]) (w.alloc (.cells #[.int .i64 n] 40)) := by kernel_rfl
theorem elemOfP (w : World) : (Rtype.elem? 123).run Tryz.prog w = .ok (some 40) w := by kernel_rfl
theorem mkC (p : Addr) (w : World) : (ReflectliteValue.mk 40 p ReflectliteValue.flagAddr).run Tryz.prog w = .ok (.agg #[.pointer (some ⟨6, 40, none⟩), .pointer (some p), .int .u64 386]) w := by kernel_rfl
theorem elemVP (a p : Addr) (W : World) (ha : W.cell? a = some (.pointer (some p))) :
    (ReflectliteValue.method (ReflectliteValue.valueError "reflectlite.Value.Elem" 0) ReflectliteValue.elem #[.agg #[.pointer (some ⟨6, 123, none⟩), .pointer (some a), .int .u64 150]]).run Tryz.prog W
      = .ok (.agg #[.pointer (some ⟨6, 40, none⟩), .pointer (some p), .int .u64 386]) W := by
  change Sem.run Tryz.prog (Bind.bind (ReflectliteValue.parts (.agg #[.pointer (some ⟨6, 123, none⟩), .pointer (some a), .int .u64 150])) _) W = _
  simp only [Sem.run_bind, partsP, Result.andThen]
  simp [ReflectliteValue.elem, loadVar, isAgg, underlying, Tryz.underlying123, ha, Result.andThen, elemOfP, mkC]
theorem partsCa (a : Addr) (w : World) : (ReflectliteValue.parts (.agg #[.pointer (some ⟨6, 40, none⟩), .pointer (some a), .int .u64 386])).run Tryz.prog w = .ok (some (40, a, 386)) w := by kernel_rfl
theorem partsC (a : Addr) (w : World) : (ReflectliteValue.parts (.agg #[.pointer (some ⟨6, 40, none⟩), .pointer (some a), .int .u64 130])).run Tryz.prog w = .ok (some (40, a, 130)) w := by kernel_rfl
theorem directC (w : World) : (Rtype.directlyAssignable 40 40).run Tryz.prog w = .ok true w := by kernel_rfl
theorem setC (ta b : Addr) (n : Int) (old : Value) (W : World) (hb : W.cell? b = some (.int .i64 n)) (ht : W.cell? ta = some old) (hf : W.frozen? ta = false) :
    (ReflectliteValue.set #[.agg #[.pointer (some ⟨6, 40, none⟩), .pointer (some ta), .int .u64 386], .agg #[.pointer (some ⟨6, 40, none⟩), .pointer (some b), .int .u64 130]]).run Tryz.prog W
      = .ok (.tuple #[]) (W.setCell ta (.int .i64 n)) := by
  change Sem.run Tryz.prog (Bind.bind (ReflectliteValue.parts (.agg #[.pointer (some ⟨6, 40, none⟩), .pointer (some ta), .int .u64 386])) fun p => Bind.bind (ReflectliteValue.parts (.agg #[.pointer (some ⟨6, 40, none⟩), .pointer (some b), .int .u64 130])) _) W = _
  simp only [Sem.run_bind, partsCa, partsC, Result.andThen]
  simp [ReflectliteValue.flagAddr, loadVar, isAgg, underlying, Tryz.underlying40, hb, Result.andThen, directC, storeVar, Value.cells, storeCells, Addr.add]
  rw [run_store Tryz.prog W ta _ _ (by rfl)]
  simp [ht, hf]
end Err
end Go.Proofs.YtaegknpijgjioaaGreatDoor

/- The contracts of errors.Unwrap and of what package fail builds on it (fail.unwrapped): the error within a step; nil of a code. All that was there is left as it was. Conditions: the value is an error of package fail. -/
namespace Go.Proofs.YtaegknpijgjioaaGreatDoor
open Go.RowKit Go.Extern.Stop Go.Stop Go.Extern
namespace Err

theorem step_unwrap (b o : Nat) (E : Value) (w : World) (h1 : w.cell? ⟨b, o + 1, none⟩ = some E) :
    Calls Tryz.prog 154 #[.pointer (some ⟨b, o, none⟩)] w fun e w' => e = .returned E ∧ w = w' := by
  go_enter Tryz.func154, Tryz.ntmps154
  go_wp2
  go_ret
  exact ⟨rfl, rfl⟩
end Err
end Go.Proofs.YtaegknpijgjioaaGreatDoor

/- The contracts of errors.As at a target of type *api.Code, of fail.codeWithin and of fail.Code: the code of an error of package fail; OK of nil. All that was there is left as it was. Conditions: the value is an error of package fail; errors.errorType holds the type error (Laid). -/
namespace Go.Proofs.YtaegknpijgjioaaGreatDoor
open Go.RowKit Go.Extern.Stop Go.Stop Go.Extern
namespace Err

/-- errors.errorType holds what package errors lays there -/
def Laid (w : World) : Prop := w.cell? ⟨1, 0, none⟩ = some (.iface 160 (.agg #[.pointer (some ⟨6, 66, none⟩)]))
theorem Laid.keep {w w' : World} (h : Laid w) (hb : Below w.heap.size w w') : Laid w' := (hb.cell (lt_of_cell h)).trans h
/-- errors.as: the target's variable at t gets the code -/
theorem as_any (c : Int) (p : List ByteArray) (E : Value) (a t : Addr) (old : Value) (W : World) (h : Is W E c p) (ha : W.cell? a = some (.pointer (some t))) (ht : W.cell? t = some old) (hf : W.frozen? t = false) :
    Calls Tryz.prog 110 #[E, .iface 123 (.pointer (some t)), .agg #[.pointer (some ⟨6, 123, none⟩), .pointer (some a), .int .u64 150], .iface 160 (.agg #[.pointer (some ⟨6, 40, none⟩)])] W
      fun e w' => e = .returned (.bool true) ∧ w' = ((W.alloc (.cells #[.pointer (some ⟨6, 123, none⟩), .pointer (some a), .int .u64 150] 142)).alloc (.cells #[.int .i64 c] 40)).setCell t (.int .i64 c) := by
  have x1 := @run_callFunc_extern Tryz.prog 118 _ ReflectliteType.typeOf Tryz.func118 (by kernel_rfl) (by kernel_rfl) (by kernel_rfl) (by kernel_rfl)
  have x2 := @run_callFunc_extern Tryz.prog 159 _ (ReflectliteType.relation "AssignableTo" ReflectliteType.assignableTo) Tryz.func159 (by kernel_rfl) (by kernel_rfl) (by kernel_rfl) (by kernel_rfl)
  have x3 := @run_callFunc_extern Tryz.prog 107 _ (fun args => ReflectliteValue.unpack (args.getD 0 (.tuple #[]))) Tryz.func107 (by kernel_rfl) (by kernel_rfl) (by kernel_rfl) (by kernel_rfl)
  have x4 := @run_callFunc_extern Tryz.prog 119 _ (ReflectliteValue.method (ReflectliteValue.valueError "reflectlite.Value.Elem" 0) ReflectliteValue.elem) Tryz.func119 (by kernel_rfl) (by kernel_rfl) (by kernel_rfl) (by kernel_rfl)
  have x5 := @run_callFunc_extern Tryz.prog 120 _ ReflectliteValue.set Tryz.func120 (by kernel_rfl) (by kernel_rfl) (by kernel_rfl) (by kernel_rfl)
  have tC := typeOfC
  have tS := typeOfS
  have mA := methodAssignableTo
  have aC := assignableC
  have aS := assignableS
  have vC := valueOfC
  have nS := noAsS
  have uS := hasUnwrapS
  have mU := methodUnwrap
  have hb : Below W.heap.size W (W.alloc (.cells #[.pointer (some ⟨6, 123, none⟩), .pointer (some a), .int .u64 150] 142)) := (Below.refl _ _).alloc (Nat.le_refl _) _
  have hb2 : Below W.heap.size W ((W.alloc (.cells #[.pointer (some ⟨6, 123, none⟩), .pointer (some a), .int .u64 150] 142)).alloc (.cells #[.int .i64 c] 40)) := hb.alloc (by simp) _
  have el := elemVP a t (W.alloc (.cells #[.pointer (some ⟨6, 123, none⟩), .pointer (some a), .int .u64 150] 142)) ((hb.cell (lt_of_cell ha)).trans ha)
  have st := setC t ⟨W.heap.size + 1, 0, none⟩ c old ((W.alloc (.cells #[.pointer (some ⟨6, 123, none⟩), .pointer (some a), .int .u64 150] 142)).alloc (.cells #[.int .i64 c] 40)) (by rw [World.cell?_alloc_at _ _ _ _ (by simp)]; rfl) ((hb2.cell (lt_of_cell ht)).trans ht) ((hb2.frozen (lt_of_cell ht)).trans hf)
  have H := Lib.hid h
  have HB := Lib.hid hb
  clear h ha ht hf hb hb2
  go_enter Tryz.func110, Tryz.ntmps110
  go_wp2
  go_loopw [0] (fun E' wl => wl = W.alloc (.cells #[.pointer (some ⟨6, 123, none⟩), .pointer (some a), .int .u64 150] 142) ∧ ∃ p', Is W E' c p') (fun E' _ => deep W E')
  case atStart => exact ⟨rfl, p, H.out⟩
  case round =>
    obtain ⟨rfl, p', hc'⟩ := hrel
    cases hc' with
    | code c =>
      go_wp2
      go_ret
      exact ⟨rfl, rfl⟩
    | step b o E1 s _ q h0 h1 h2 =>
      have hlen := deep_eq h2
      have hlen0 := deep_eq (Is.step b o E1 s c q h0 h1 h2)
      have hcell : (W.alloc (.cells #[.pointer (some ⟨6, 123, none⟩), .pointer (some a), .int .u64 150] 142)).cell? ⟨b, o + 1, none⟩ = some E1 := (HB.out.cell (lt_of_cell h1)).trans h1
      obtain ⟨u1, v1, rfl⟩ := h2.iface
      have HC := Lib.hid h2
      have HL := Lib.hid hlen
      have HL0 := Lib.hid hlen0
      have HX := Lib.hid hcell
      clear h2 hlen hlen0 h0 h1 hcell el st
      go_wp2_with (go_at_call 154; refine (step_unwrap b o _ _ HX.out).mono ?_; rintro e w' ⟨rfl, rfl⟩)
      go_roundw
      case rel => exact ⟨trivial, q, HC.out⟩
      case measure => rw [HL.out, HL0.out]; simp
theorem errors_as (c : Int) (p : List ByteArray) (E : Value) (t : Addr) (old : Value) (W : World) (h : Is W E c p) (ht : W.cell? t = some old) (hf : W.frozen? t = false) (hL : Laid W) :
    Calls Tryz.prog 87 #[E, .iface 123 (.pointer (some t))] W
      fun e w' => e = .returned (.bool true) ∧ w' = ((((W.alloc (.cells #[.pointer (some t)] 123)).alloc (.cells #[.pointer (some ⟨6, 123, none⟩), .pointer (some ⟨W.heap.size, 0, none⟩), .int .u64 150] 142)).alloc (.cells #[.pointer (some ⟨6, 123, none⟩), .pointer (some ⟨W.heap.size, 0, none⟩), .int .u64 150] 142)).alloc (.cells #[.int .i64 c] 40)).setCell t (.int .i64 c) := by
  have x1 := @run_callFunc_extern Tryz.prog 107 _ (fun args => ReflectliteValue.unpack (args.getD 0 (.tuple #[]))) Tryz.func107 (by kernel_rfl) (by kernel_rfl) (by kernel_rfl) (by kernel_rfl)
  have x2 := @run_callFunc_extern Tryz.prog 108 _ (ReflectliteValue.methodAny (ReflectliteValue.valueError "reflectlite.Value.Type" 0) (fun t _ _ _ => ReflectliteType.toType t)) Tryz.func108 (by kernel_rfl) (by kernel_rfl) (by kernel_rfl) (by kernel_rfl)
  have x3 := @run_callFunc_extern Tryz.prog 109 _ (ReflectliteValue.method (ReflectliteValue.valueError "reflectlite.Value.IsNil" 0) ReflectliteValue.isNil) Tryz.func109 (by kernel_rfl) (by kernel_rfl) (by kernel_rfl) (by kernel_rfl)
  have x4 := @run_callFunc_extern Tryz.prog 148 _ (ReflectliteType.abiMethod fun t => do pure (.int .u8 (← Rtype.kind t))) Tryz.func148 (by kernel_rfl) (by kernel_rfl) (by kernel_rfl) (by kernel_rfl)
  have x5 := @run_callFunc_extern Tryz.prog 161 _ (ReflectliteType.method ReflectliteType.elem) Tryz.func161 (by kernel_rfl) (by kernel_rfl) (by kernel_rfl) (by kernel_rfl)
  have x6 := @run_callFunc_extern Tryz.prog 162 _ (ReflectliteType.relation "Implements" ReflectliteType.implements_) Tryz.func162 (by kernel_rfl) (by kernel_rfl) (by kernel_rfl) (by kernel_rfl)
  have v1 := valueOfP
  have v2 := typeP
  have mK := methodKind
  have mE := methodElem
  have mI := methodImplements
  have kP := kindP
  have kC := kindC
  have eP := elemP
  have iC := implementsC
  have hb : Below W.heap.size W ((W.alloc (.cells #[.pointer (some t)] 123)).alloc (.cells #[.pointer (some ⟨6, 123, none⟩), .pointer (some ⟨W.heap.size, 0, none⟩), .int .u64 150] 142)) := ((Below.refl _ _).alloc (Nat.le_refl _) _).alloc (by simp) _
  have n1 := isNilP ⟨W.heap.size, 0, none⟩ t ((W.alloc (.cells #[.pointer (some t)] 123)).alloc (.cells #[.pointer (some ⟨6, 123, none⟩), .pointer (some ⟨W.heap.size, 0, none⟩), .int .u64 150] 142)) (by simp)
  have hg : ((W.alloc (.cells #[.pointer (some t)] 123)).alloc (.cells #[.pointer (some ⟨6, 123, none⟩), .pointer (some ⟨W.heap.size, 0, none⟩), .int .u64 150] 142)).cell? ⟨1, 0, none⟩ = some (.iface 160 (.agg #[.pointer (some ⟨6, 66, none⟩)])) := hL.keep hb
  have Q1 := Lib.hid (h.keep hb)
  have Q2 := Lib.hid ((hb.cell (lt_of_cell ht)).trans ht)
  have Q3 := Lib.hid ((hb.frozen (lt_of_cell ht)).trans hf)
  have Q4 : Hid (((W.alloc (.cells #[.pointer (some t)] 123)).alloc (.cells #[.pointer (some ⟨6, 123, none⟩), .pointer (some ⟨W.heap.size, 0, none⟩), .int .u64 150] 142)).cell? ⟨W.heap.size, 0, none⟩ = some (.pointer (some t))) := Lib.hid (by simp)
  obtain ⟨u, x, rfl⟩ := h.iface
  clear h hL ht hf hb
  go_enter Tryz.func87, Tryz.ntmps87
  go_wp2_with (go_at_call 110; refine (as_any c p _ _ t old _ Q1.out Q4.out Q2.out Q3.out).mono ?_; rintro e w' ⟨rfl, rfl⟩)
  go_ret
  exact ⟨rfl, rfl⟩
end Err
end Go.Proofs.YtaegknpijgjioaaGreatDoor

/- The contracts of fail.codeWithin and fail.Code: the code of an error of package fail; OK of nil. All that was there is left as it was. Conditions: the value is an error of package fail, or nil; errors.errorType holds the type error (Laid). -/
namespace Go.Proofs.YtaegknpijgjioaaGreatDoor
open Go.RowKit Go.Extern.Stop Go.Stop Go.Extern
namespace Err

theorem within_idle (p q : Addr) (w : World) :
    CallsD Tryz.prog 86 #[.pointer (some p), .pointer (some q)] .returning w fun e u' w' => e = .returned (.tuple #[]) ∧ u' = .returning ∧ w' = w := by
  refine callsD_of_wpS Tryz.func86 rfl fun c₀ cs hu => ?_
  apply wpS_seq
  apply wpS_region
  simp [wpOpsS, go_sem, recoverD, hu, Tryz.ntmps86, Exit.thenS]
  refine wpS_cond (t := false) (by simp [Act.eval, Array.replicate]) ?_
  simp only [Bool.false_eq_true, if_false]
  refine wpS_of_wp (wp_skip ?_)
  cases c₀
  simp_all [bodyPostS, results, Tryz.results86]
/-- errors.As, what it leaves: the target's variable is set, all else that was there is as it was -/
def AsLeft (c : Int) (t : Addr) (W : World) (e : Ending) (w' : World) : Prop :=
  e = .returned (.bool true) ∧ w'.cell? t = some (.int .i64 c) ∧ (∀ a : Addr, a.block < W.heap.size → a.block ≠ t.block → w'.cell? a = W.cell? a) ∧ (∀ a : Addr, a.block < W.heap.size → w'.frozen? a = W.frozen? a) ∧ Below t.block W w'
theorem frozen_of_below {w w' : World} (h : Below w.heap.size w w') {a : Addr} (ha : a.block < w.heap.size) : w'.frozen? a = w.frozen? a := h.frozen ha
theorem errors_as_left (c : Int) (p : List ByteArray) (E : Value) (t : Addr) (old : Value) (W : World) (h : Is W E c p) (ht : W.cell? t = some old) (hf : W.frozen? t = false) (hL : Laid W) :
    Calls Tryz.prog 87 #[E, .iface 123 (.pointer (some t))] W (AsLeft c t W) := by
  refine (errors_as c p E t old W h ht hf hL).mono ?_
  rintro e w' ⟨rfl, rfl⟩
  have hlt := lt_of_cell ht
  generalize hG : (((W.alloc (.cells #[.pointer (some t)] 123)).alloc (.cells #[.pointer (some ⟨6, 123, none⟩), .pointer (some ⟨W.heap.size, 0, none⟩), .int .u64 150] 142)).alloc (.cells #[.pointer (some ⟨6, 123, none⟩), .pointer (some ⟨W.heap.size, 0, none⟩), .int .u64 150] 142)).alloc (.cells #[.int .i64 c] 40) = G
  have hb : Below W.heap.size W G := by
    rw [← hG]
    exact ((((Below.refl _ _).alloc (Nat.le_refl _) _).alloc (by simp) _).alloc (by simp; omega) _).alloc (by simp; omega) _
  have htG : G.cell? t = some old := (hb.cell hlt).trans ht
  refine ⟨rfl, World.cell?_setCell_same _ _ _ (by rw [htG]), fun a ha hne => ?_, fun a ha => ?_, ?_⟩
  · rw [World.cell?_setCell_other _ _ _ _ (fun e => hne (by rw [e]))]
    exact hb.cell ha
  · rw [World.frozen?_setCell]
    exact hb.frozen ha
  · exact (hb.mono (Nat.le_of_lt hlt)).setCell (Nat.le_refl _) _
theorem within_any {w : World} (c : Int) (p : List ByteArray) (E : Value) (h : Is w E c p) (hL : Laid w) :
    Calls Tryz.prog 57 #[E] w fun e w' => e = .returned (.tuple #[.int .i64 c, .bool true]) ∧ Below w.heap.size w w' := by
  have hmf : ∀ (fn : Fn) (first cap : Array Value) (w : World), (Instr.makeFunc fn first cap).run Tryz.prog w = .ok (.func fn first cap) w := fun _ _ _ _ => rfl
  have hb : Below w.heap.size w ((w.alloc (.cells #[.int .i64 0] 40)).alloc (.cells #[.bool false] 4)) := ((Below.refl _ _).alloc (Nat.le_refl _) _).alloc (by simp) _
  have Q1 := Lib.hid (h.keep hb)
  have Q2 := Lib.hid (hL.keep hb)
  have HB := Lib.hid hb
  clear h hL hb
  go_enter_defers Tryz.func57, Tryz.ntmps57
  go_wp2_with fail
  refine (errors_as_left c p E ⟨w.heap.size, 0, none⟩ (.int .i64 0) _ Q1.out (by simp) (by simp) Q2.out).mono ?_
  rintro e w1 ⟨rfl, hc0, hcs, hfs, hb1⟩
  have hc1 : w1.cell? ⟨w.heap.size + 1, 0, none⟩ = some (.bool false) := by rw [hcs _ (by simp) (by simp)]; simp
  have hf0 : w1.frozen? ⟨w.heap.size, 0, none⟩ = false := by rw [hfs _ (by simp; omega)]; simp
  have hf1 : w1.frozen? ⟨w.heap.size + 1, 0, none⟩ = false := by rw [hfs _ (by simp)]; simp
  have hb2 : Below w.heap.size w w1 := HB.out.trans hb1
  have hg : w.heap.size + 1 < w1.heap.size := lt_of_cell hc1
  clear hcs hfs
  go_wp2_with fail
  go_region
  go_wp2_with fail
  refine leaves_cons (f := 86) (args := #[.pointer (some ⟨w.heap.size, 0, none⟩), .pointer (some ⟨w.heap.size + 1, 0, none⟩)]) (by simp) (by simp [go_sem]) ?_
  refine (within_idle ⟨w.heap.size, 0, none⟩ ⟨w.heap.size + 1, 0, none⟩ _).mono ?_
  rintro e u' w'' ⟨rfl, rfl, rfl⟩
  simp [Leaves, settle, results, Tryz.results57, go_sem, hc0, hc1]
  exact (((hb2.setCell (by simp) _).setCell (by simp) _).setCell (by simp) _).drew
theorem code_nil (w : World) :
    Calls Tryz.prog 36 #[.nilIface] w fun e w' => e = .returned (.int .i64 0) ∧ w = w' := by
  go_enter Tryz.func36, Tryz.ntmps36
  go_wp2
  go_ret
  exact ⟨rfl, rfl⟩
theorem code_some {w : World} (c : Int) (p : List ByteArray) (E : Value) (h : Is w E c p) (hL : Laid w) :
    Calls Tryz.prog 36 #[E] w fun e w' => e = .returned (.int .i64 c) ∧ Below w.heap.size w w' := by
  have Q1 := Lib.hid h
  have Q2 := Lib.hid hL
  obtain ⟨u, x, rfl⟩ := h.iface
  clear h hL
  go_enter Tryz.func36, Tryz.ntmps36
  go_wp2_with fail
  refine (within_any c p _ Q1.out Q2.out).mono ?_
  rintro e w1 ⟨rfl, hb⟩
  go_wp2_with fail
  go_ret
  exact ⟨rfl, hb⟩
end Err
end Go.Proofs.YtaegknpijgjioaaGreatDoor

/- The contract of fail.Path: the path of an error of package fail, in a row of its own; no text of nil. All that was there is left as it was. Conditions: the value is an error of package fail, or nil; its path has at most 1000000 texts. -/
namespace Go.Proofs.YtaegknpijgjioaaGreatDoor
open Go.RowKit Go.Extern.Stop Go.Stop Go.Extern
namespace Err

theorem info_string : (Tryz.prog.info? 9).map (fun i => (i.zero, i.size, i.bytes)) = some (some (.string ⟨#[]⟩), 1, 16) := by kernel_rfl
/-- a call ends with the texts p in a row of its own -/
def Row (p : List ByteArray) (w : World) (e : Ending) (w' : World) : Prop :=
  ∃ v, e = .returned v ∧ w'.ownsRow w.heap.size 9 1 v p.length (p.map Value.string) ∧ Below w.heap.size w w'
/-- a row of one's own stays while the memory that is there does -/
theorem own_keep {w w' : World} {base : Nat} {t : TypeId} {size n : Nat} {v : Value} {xs : List Value} (h : w.ownsRow base t size v n xs) (hb : Below w.heap.size w w') : w'.ownsRow base t size v n xs := by
  obtain ⟨h1, h2⟩ := h
  refine ⟨h1, ?_⟩
  rcases h2 with h2 | ⟨g, cap, cur, e1, e2, e3, e4⟩
  · exact .inl h2
  · have hlt : g < w.heap.size := by
      rcases Nat.lt_or_ge g w.heap.size with hl | hl
      · exact hl
      · rw [Array.getElem?_eq_none hl] at e3; cases e3
    exact .inr ⟨g, cap, cur, e1, e2, (hb.block g hlt).trans e3, e4⟩
/-- what is left of an error while its path is told: an error, or nothing -/
def Rest (w : World) (E : Value) (q : List ByteArray) : Prop := (∃ c, Is w E c q) ∨ (E = .nilIface ∧ q = [])
open Classical in
noncomputable def restLen (w : World) (E : Value) : Nat := if E = .nilIface then 0 else deep w E + 1
theorem restLen_nil (w : World) : restLen w .nilIface = 0 := if_pos rfl
theorem restLen_iface {w : World} {u : TypeId} {x : Value} {c : Int} {q : List ByteArray} (h : Is w (.iface u x) c q) : restLen w (.iface u x) = q.length + 1 := by
  unfold restLen
  rw [if_neg (by intro h; cases h), deep_eq h]
/-- the loop's head: the texts 'done' have been told, 'rest' are still to come -/
def PathAt (p : List ByteArray) (w : World) (E v : Value) (wl : World) : Prop :=
  ∃ done rest, p = done ++ rest ∧ Below w.heap.size w wl ∧ wl.ownsRow w.heap.size 9 1 v done.length (done.map Value.string) ∧ Rest w E rest
end Err
end Go.Proofs.YtaegknpijgjioaaGreatDoor

/- The contract of fail.Text: the path of an error of package fail, with a point between each two texts; the empty text of nil. All that was there is left as it was. Conditions: the value is an error of package fail, or nil; its path has at most 1000000 texts, and its text at most 2^47 bytes. -/
namespace Go.Proofs.YtaegknpijgjioaaGreatDoor
open Go.RowKit
namespace Err

/-- the texts of a path, a point between each two -/
def pathText (p : List ByteArray) : List UInt8 := Lib.join (p.map (·.data.toList)) [46]
theorem join_row {w : World} {base : Nat} {v : Value} (p : List ByteArray) (h : w.ownsRow base 9 1 v p.length (p.map Value.string)) (hp : p.length ≤ 1000000) (hlen : (pathText p).length ≤ 140737488355328) :
    Calls Tryz.prog 37 #[v, .string ⟨#[46]⟩] w fun e w' => e = .returned (.string ⟨(pathText p).toArray⟩) ∧ Below w.heap.size w w' := by
  rcases h.2 with ⟨rfl, h0⟩ | ⟨g, cap, cur, rfl, e2, e3, e4, e5, e6, e7⟩
  · obtain rfl : p = [] := List.eq_nil_of_length_eq_zero h0
    refine (Any.strings_Join_none Tryz.lays156 Tryz.Builder_Extra_156 none 0 ⟨#[46]⟩ w).mono ?_
    rintro e w' ⟨rfl, rfl⟩
    exact ⟨rfl, Below.refl _ _⟩
  · have hlt : g < w.heap.size := by
      rcases Nat.lt_or_ge g w.heap.size with hl | hl
      · exact hl
      · rw [Array.getElem?_eq_none hl] at e3; cases e3
    refine (Any.strings_Join Tryz.lays156 Tryz.Builder_Extra_156 g 0 cap p ⟨#[46]⟩ w ?_ hlt (by omega) e4 hlen).mono ?_
    · intro j x hx
      have := h.cells (g := g) rfl j (.string x) (by rw [List.getElem?_map, hx]; rfl)
      rw [Nat.zero_add]
      rcases j with _ | j
      · exact this
      · simpa [Addr.add] using this
    · rintro e w' ⟨rfl, hb⟩
      exact ⟨rfl, hb⟩
end Err
end Go.Proofs.YtaegknpijgjioaaGreatDoor

/- The contracts of fail.In, fail.New and fail.First: an error with one step more; the error of a code with a path, nil of OK; the first that is not nil. All that was there is left as it was. Conditions: the list holds the texts that are spoken of. -/
namespace Go.Proofs.YtaegknpijgjioaaGreatDoor
open Go.RowKit
namespace Err

theorem in_nil (s : ByteArray) (w : World) :
    Calls Tryz.prog 81 #[.nilIface, .string s] w fun e w' => e = .returned .nilIface ∧ w = w' := by
  go_enter Tryz.func81, Tryz.ntmps81
  go_wp2
  go_ret
  exact ⟨rfl, rfl⟩
theorem in_some (u : TypeId) (x : Value) (s : ByteArray) (w : World) :
    Calls Tryz.prog 81 #[.iface u x, .string s] w fun e w' => e = .returned (.iface 135 (.pointer (some ⟨w.heap.size, 0, none⟩))) ∧ w' = w.alloc (.cells #[.string s, .iface u x] 137) := by
  go_enter Tryz.func81, Tryz.ntmps81
  go_wp2
  go_ret
  exact ⟨rfl, rfl⟩
theorem in_err {w : World} {E : Value} {c : Int} {p : List ByteArray} (h : Is w E c p) (s : ByteArray) :
    Calls Tryz.prog 81 #[E, .string s] w (Made c (s :: p) w) := by
  obtain ⟨u, x, rfl⟩ := h.iface
  refine (in_some u x s w).mono ?_
  rintro e w' ⟨rfl, rfl⟩
  refine ⟨_, rfl, ?_, (Below.refl _ _).alloc (Nat.le_refl _) _⟩
  exact .step _ _ _ _ _ _ (by simp) (by simp) (h.keep ((Below.refl _ _).alloc (Nat.le_refl _) _))
theorem new_ok (v : Value) (w : World) :
    Calls Tryz.prog 53 #[.int .i64 0, v] w fun e w' => e = .returned .nilIface ∧ w = w' := by
  go_enter Tryz.func53, Tryz.ntmps53
  go_wp2
  go_ret
  exact ⟨rfl, rfl⟩
theorem new_any (c : Int) (hc : (c == 0) = false) (A : Option Addr) (cap : Nat) (xs : List ByteArray) (w : World) (hT : Texts w A xs) (hn : xs.length ≤ 9223372036854775807) :
    Calls Tryz.prog 53 #[.int .i64 c, .slice A xs.length cap] w (Made c xs w) := by
  have HT := Lib.hid hT
  clear hT
  go_enter Tryz.func53, Tryz.ntmps53
  go_wp2
  go_loopw [5, 6] (fun E i wr => ∃ (k : Nat) (z : Int), k ≤ xs.length ∧ i = .int .i64 z ∧ z = (k : Int) - 1 ∧ Is wr E c (xs.drop k) ∧ Below w.heap.size w wr) (fun _ i _ => (intOf i + 1).toNat)
  case atStart => exact ⟨xs.length, _, Nat.le_refl _, rfl, rfl, by rw [List.drop_length]; exact .code c, Below.refl _ _⟩
  case round =>
    obtain ⟨k, z, hk, rfl, hz, hE, hb⟩ := hrel
    rcases Nat.eq_zero_or_pos k with h0 | h0
    · obtain rfl : z = -1 := by omega
      subst h0
      have HE := Lib.hid hE
      clear hE hz
      go_wp2
      go_ret
      exact ⟨_, rfl, HE.out, hb⟩
    · obtain ⟨j, rfl⟩ : ∃ j, k = j + 1 := ⟨k - 1, by omega⟩
      obtain rfl : z = (j : Int) := by omega
      obtain ⟨a, rfl, hcell⟩ := (HT.out.below hb) j xs[j] (List.getElem?_eq_getElem (by omega))
      have HE := Lib.hid hE
      have Hz := Lib.hid hz
      clear hE hz
      have hj : (j : Int) < (xs.length : Int) := by omega
      go_wp2_with fail
      refine (in_err HE.out _).mono ?_
      rintro e w1 ⟨E1, rfl, h1, hb1⟩
      have H1 := Lib.hid h1
      clear h1
      go_wp2_with fail
      go_roundw
      case rel => exact ⟨j, (j : Int) - 1, by omega, rfl, rfl, by rw [List.drop_eq_getElem_cons (by omega)]; exact H1.out, hb.trans (hb1.mono hb.size)⟩
      case measure => simp [intOf]
/-- the first of some values that is not nil -/
def firstOf : List Value → Value
  | [] => .nilIface
  | .nilIface :: r => firstOf r
  | E :: _ => E
end Err
end Go.Proofs.YtaegknpijgjioaaGreatDoor

/- The contracts of package fail at an error of a code, nil being the one of OK: fail.New, fail.In, fail.Code, fail.Path, fail.Text. All that was there is left as it was. Conditions: as the parts say. -/
namespace Go.Proofs.YtaegknpijgjioaaGreatDoor
open Go.RowKit
namespace Err

/-- the value E is the error of the code c with the path p, or nil, if c is OK (then there is no path) -/
def Opt (w : World) (E : Value) (c : Int) (p : List ByteArray) : Prop := (c = 0 ∧ p = [] ∧ E = .nilIface) ∨ (c ≠ 0 ∧ Is w E c p)
theorem Opt.keep {w w' : World} {E : Value} {c : Int} {p : List ByteArray} (h : Opt w E c p) (hb : Below w.heap.size w w') : Opt w' E c p := by
  rcases h with h | ⟨h0, h⟩
  · exact .inl h
  · exact .inr ⟨h0, h.keep hb⟩
/-- the path of New(c, xs) -/
def pathOf (c : Int) (xs : List ByteArray) : List ByteArray := if c = 0 then [] else xs
/-- a call ends with such an error, in new memory -/
def OptMade (c : Int) (p : List ByteArray) (w : World) (e : Ending) (w' : World) : Prop := ∃ E, e = .returned E ∧ Opt w' E c p ∧ Below w.heap.size w w'
theorem new_opt (c : Int) (A : Option Addr) (cap : Nat) (xs : List ByteArray) (w : World) (hT : Texts w A xs) (hn : xs.length ≤ 9223372036854775807) :
    Calls Tryz.prog 53 #[.int .i64 c, .slice A xs.length cap] w (OptMade c (pathOf c xs) w) := by
  by_cases h0 : c = 0
  · subst h0
    refine (new_ok _ w).mono ?_
    rintro e w' ⟨rfl, rfl⟩
    exact ⟨_, rfl, .inl ⟨rfl, if_pos rfl, rfl⟩, Below.refl _ _⟩
  · refine (new_any c (beq_eq_false_iff_ne.2 h0) A cap xs w hT hn).mono ?_
    rintro e w' ⟨E, rfl, hE, hb⟩
    exact ⟨_, rfl, .inr ⟨h0, by unfold pathOf; rw [if_neg h0]; exact hE⟩, hb⟩
theorem in_opt {w : World} {E : Value} {c : Int} {p : List ByteArray} (h : Opt w E c p) (s : ByteArray) :
    Calls Tryz.prog 81 #[E, .string s] w (OptMade c (pathOf c (s :: p)) w) := by
  rcases h with ⟨rfl, rfl, rfl⟩ | ⟨h0, h⟩
  · refine (in_nil s w).mono ?_
    rintro e w' ⟨rfl, rfl⟩
    exact ⟨_, rfl, .inl ⟨rfl, if_pos rfl, rfl⟩, Below.refl _ _⟩
  · refine (in_err h s).mono ?_
    rintro e w' ⟨E, rfl, hE, hb⟩
    exact ⟨_, rfl, .inr ⟨h0, by unfold pathOf; rw [if_neg h0]; exact hE⟩, hb⟩
theorem code_opt {w : World} {E : Value} {c : Int} {p : List ByteArray} (h : Opt w E c p) (hL : Laid w) :
    Calls Tryz.prog 36 #[E] w fun e w' => e = .returned (.int .i64 c) ∧ Below w.heap.size w w' := by
  rcases h with ⟨rfl, rfl, rfl⟩ | ⟨h0, h⟩
  · refine (code_nil w).mono ?_
    rintro e w' ⟨rfl, rfl⟩
    exact ⟨rfl, Below.refl _ _⟩
  · exact code_some c p E h hL
/-- a row of one's own holds its texts -/
theorem Texts.of_own {w : World} {base : Nat} {A : Option Addr} {n c : Nat} {p : List ByteArray} (h : w.ownsRow base 9 1 (.slice A n c) p.length (p.map Value.string)) : Texts w A p ∧ n = p.length := by
  rcases h.2 with ⟨h1, h0⟩ | ⟨g, cap, cur, h1, _⟩
  · obtain rfl : p = [] := List.eq_nil_of_length_eq_zero h0
    injection h1 with e1 e2 e3
    exact ⟨fun k x hx => by simp at hx, e2⟩
  · injection h1 with e1 e2 e3
    subst e1
    exact ⟨fun k x hx => ⟨_, rfl, h.cells (g := g) rfl k (.string x) (by rw [List.getElem?_map, hx]; rfl)⟩, e2⟩
theorem own_slice {w : World} {base : Nat} {t : TypeId} {size n : Nat} {v : Value} {xs : List Value} (h : w.ownsRow base t size v n xs) : ∃ A c, v = .slice A n c := by
  rcases h.2 with ⟨h1, h0⟩ | ⟨g, cap, cur, h1, _⟩
  · exact ⟨none, 0, by rw [h1, h0]⟩
  · exact ⟨_, _, h1⟩
/-- a row of one's own as the source of an append -/
theorem own_source {w : World} {base : Nat} {t : TypeId} {A : Option Addr} {n c : Nat} {xs : List Value} (h : w.ownsRow base t 1 (.slice A n c) n xs) :
    (A = none ∧ n = 0 ∧ c = 0) ∨ ∃ ad, A = some ad ∧ ∀ (j : Nat) u, xs[j]? = some u → w.cell? (ad.add j) = some u := by
  rcases h.2 with ⟨h1, h0⟩ | ⟨g, cap, cur, h1, _⟩
  · injection h1 with e1 e2 e3
    exact .inl ⟨e1, e2, e3⟩
  · injection h1 with e1 e2 e3
    subst e1
    exact .inr ⟨_, rfl, h.cells (g := g) rfl⟩
end Err
end Go.Proofs.YtaegknpijgjioaaGreatDoor
