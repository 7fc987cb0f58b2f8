/-
 What an error of package fail is in memory (a code innermost, steps around it), what a list of texts is, and that both stay as they are while the memory that was there does. Plain facts; no condition. And what follows of it, part by part, each with its conditions.
-/
import Derived.Test.YtljbpelogjmciaaGreatDoorChecked
import Derived.Test.YtljbpelogjmciaaGreatDoorKit
import Derived.Test.YtljbpelogjmciaaGreatDoorShelf
import Derived.WalkKit
import Derived.LaidEql
import Derived.Stop.Asserts
import Derived.RowKitTokens
import Derived.Lib.Hide
import Derived.Defers
import Derived.Recover
import Derived.RegionTactic
import Derived.Laws.OwnMore
namespace Go.Proofs.YtljbpelogjmciaaGreatDoor
open Go.RowKit
namespace Err
inductive Is (w : World) : Value → Int → List ByteArray → Prop
 | code (c : Int) : Is w (.iface 34 (.int .i64 c)) c []
 | step (b o : Nat) (E : Value) (s : ByteArray) (c : Int) (p : List ByteArray) : w.cell? ⟨b, o, none⟩ = some (.string s) → w.cell? ⟨b, o + 1, none⟩ = some E → Is w E c p →
  Is w (.iface 197 (.pointer (some ⟨b, o, none⟩))) c (s :: p)
theorem lt_of_cell {w : World} {a : Addr} {v : Value} (h : w.cell? a = some v) : a.block < w.heap.size := by
 rcases Nat.lt_or_ge a.block w.heap.size with hl | hl
 · exact hl
 · simp [World.cell?, Array.getElem?_eq_none hl] at h
theorem Is.keep {w w' : World} {E : Value} {c : Int} {p : List ByteArray} (h : Is w E c p) (hb : Below w.heap.size w w') : Is w' E c p := by
 induction h with
 | code c => exact .code c
 | step b o E s c p h0 h1 _ ih => exact .step b o E s c p ((hb.cell (lt_of_cell h0)).trans h0) ((hb.cell (lt_of_cell h1)).trans h1) ih
theorem Is.iface {w : World} {E : Value} {c : Int} {p : List ByteArray} (h : Is w E c p) : ∃ u x, E = .iface u x := by
 cases h <;> exact ⟨_, _, rfl⟩
theorem Is.unique {w : World} {E : Value} {c c' : Int} {p p' : List ByteArray} (h : Is w E c p) (h' : Is w E c' p') : c = c' ∧ p = p' := by
 induction h generalizing c' p' with
 | code c => cases h'; exact ⟨rfl, rfl⟩
 | step b o E s c p h0 h1 _ ih =>
  cases h' with
  | step _ _ E' s' _ q h0' h1' h2' =>
   rw [h0] at h0'; rw [h1] at h1'
   cases h0'; cases h1'
   obtain ⟨rfl, rfl⟩ := ih h2'
   exact ⟨rfl, rfl⟩
open Classical in
noncomputable def deep (w : World) (E : Value) : Nat := if h : ∃ cp : Int × List ByteArray, Is w E cp.1 cp.2 then h.choose.2.length else 0
theorem deep_eq {w : World} {E : Value} {c : Int} {p : List ByteArray} (h : Is w E c p) : deep w E = p.length := by
 unfold deep
 rw [dif_pos ⟨(c, p), h⟩]
 rw [(Is.unique (Exists.choose_spec (p := fun cp : Int × List ByteArray => Is w E cp.1 cp.2) ⟨(c, p), h⟩) h).2]
def Texts (w : World) (A : Option Addr) (xs : List ByteArray) : Prop := ∀ k x, xs[k]? = some x → ∃ a, A = some a ∧ w.cell? (a.add k) = some (.string x)
theorem Texts.below {w w' : World} {A : Option Addr} {xs : List ByteArray} (h : Texts w A xs) (hb : Below w.heap.size w w') : Texts w' A xs := by
 intro k x hx
 obtain ⟨a, ha, hc⟩ := h k x hx
 exact ⟨a, ha, (hb.cell (lt_of_cell hc)).trans hc⟩
end Err
end Go.Proofs.YtljbpelogjmciaaGreatDoor
namespace Go.Proofs.YtljbpelogjmciaaGreatDoor
open Go.RowKit Go.Extern.Stop Go.Stop Go.Extern
namespace Err
theorem typeOfC (v : Value) (w : World) : (ReflectliteType.typeOf #[.iface 34 v]).run Tryz.prog w = .ok (.iface 250 (.agg #[.pointer (some ⟨9, 34, none⟩)])) w := by kernel_rfl
theorem typeOfS (v : Value) (w : World) : (ReflectliteType.typeOf #[.iface 197 v]).run Tryz.prog w = .ok (.iface 250 (.agg #[.pointer (some ⟨9, 197, none⟩)])) w := by kernel_rfl
theorem noAsS (v : Value) (xT : TypeId) (w : World) : (Instr.typeAssert (.iface 197 v) xT 255 true).run Tryz.prog w = .ok (.tuple #[.nilIface, .bool false]) w := run_typeAssert_lacksB Tryz.underlying255 (by kernel_rfl) (by kernel_rfl) v xT w
theorem hasUnwrapS (v : Value) (xT : TypeId) (w : World) : (Instr.typeAssert (.iface 197 v) xT 258 true).run Tryz.prog w = .ok (.tuple #[.iface 197 v, .bool true]) w := run_typeAssert_hasB Tryz.underlying258 (by kernel_rfl) v xT w
theorem methodUnwrap (v : Value) (w : World) : (Go.method 434 197 v "Unwrap").run Tryz.prog w = .ok (276, v) w := by kernel_rfl
theorem valueOfP (t : Addr) (w : World) : (ReflectliteValue.unpack (.iface 190 (.pointer (some t)))).run Tryz.prog w
 = .ok (.agg #[.pointer (some ⟨9, 190, none⟩), .pointer (some ⟨w.heap.size, 0, none⟩), .int .u64 150]) (w.alloc (.cells #[.pointer (some t)] 190)) := by kernel_rfl
theorem typeP (a : Addr) (w : World) : (ReflectliteValue.methodAny (ReflectliteValue.valueError "reflectlite.Value.Type" 0) (fun t _ _ _ => ReflectliteType.toType t) #[.agg #[.pointer (some ⟨9, 190, none⟩), .pointer (some a), .int .u64 150]]).run Tryz.prog w
 = .ok (.iface 250 (.agg #[.pointer (some ⟨9, 190, none⟩)])) w := by kernel_rfl
theorem methodKind (h : Value) (w : World) : (Go.method 434 250 (.agg #[h]) "Kind").run Tryz.prog w = .ok (270, h) w := by kernel_rfl
theorem kindP (w : World) : ((ReflectliteType.abiMethod fun t => (fun a : Nat => Value.int IntKind.u8 (a : Int)) <$> Rtype.kind t) #[.pointer (some ⟨9, 190, none⟩)]).run Tryz.prog w = .ok (.int .u8 22) w := by kernel_rfl
theorem kindC (w : World) : ((ReflectliteType.abiMethod fun t => (fun a : Nat => Value.int IntKind.u8 (a : Int)) <$> Rtype.kind t) #[.pointer (some ⟨9, 34, none⟩)]).run Tryz.prog w = .ok (.int .u8 2) w := by kernel_rfl
theorem partsP (a : Addr) (w : World) : (ReflectliteValue.parts (.agg #[.pointer (some ⟨9, 190, none⟩), .pointer (some a), .int .u64 150])).run Tryz.prog w = .ok (some (190, a, 150)) w := by kernel_rfl
theorem isNilP (a p : Addr) (W : World) (ha : W.cell? a = some (.pointer (some p))) :
 (ReflectliteValue.method (ReflectliteValue.valueError "reflectlite.Value.IsNil" 0) ReflectliteValue.isNil #[.agg #[.pointer (some ⟨9, 190, none⟩), .pointer (some a), .int .u64 150]]).run Tryz.prog W = .ok (.bool false) W := by
 change Sem.run Tryz.prog (Bind.bind (ReflectliteValue.parts (.agg #[.pointer (some ⟨9, 190, none⟩), .pointer (some a), .int .u64 150])) _) W = _
 simp only [Sem.run_bind, partsP, Result.andThen]
 simp [ReflectliteValue.isNil, loadVar, isAgg, underlying, Tryz.underlying190, ha, Result.andThen]
theorem methodElem (h : Value) (w : World) : (Go.method 434 250 (.agg #[h]) "Elem").run Tryz.prog w = .ok (283, .agg #[h]) w := by kernel_rfl
theorem methodImplements (h : Value) (w : World) : (Go.method 434 250 (.agg #[h]) "Implements").run Tryz.prog w = .ok (284, .agg #[h]) w := by kernel_rfl
theorem methodAssignableTo (h : Value) (w : World) : (Go.method 434 250 (.agg #[h]) "AssignableTo").run Tryz.prog w = .ok (281, .agg #[h]) w := by kernel_rfl
theorem elemP (w : World) : (ReflectliteType.method ReflectliteType.elem #[.agg #[.pointer (some ⟨9, 190, none⟩)]]).run Tryz.prog w = .ok (.iface 250 (.agg #[.pointer (some ⟨9, 34, none⟩)])) w := by kernel_rfl
theorem implementsC (w : World) : (ReflectliteType.relation "Implements" ReflectliteType.implements_ #[.agg #[.pointer (some ⟨9, 34, none⟩)], .iface 250 (.agg #[.pointer (some ⟨9, 76, none⟩)])]).run Tryz.prog w = .ok (.bool true) w := by kernel_rfl
theorem assignableC (w : World) : (ReflectliteType.relation "AssignableTo" ReflectliteType.assignableTo #[.agg #[.pointer (some ⟨9, 34, none⟩)], .iface 250 (.agg #[.pointer (some ⟨9, 34, none⟩)])]).run Tryz.prog w = .ok (.bool true) w := by kernel_rfl
theorem assignableS (w : World) : (ReflectliteType.relation "AssignableTo" ReflectliteType.assignableTo #[.agg #[.pointer (some ⟨9, 197, none⟩)], .iface 250 (.agg #[.pointer (some ⟨9, 34, none⟩)])]).run Tryz.prog w = .ok (.bool false) w := by kernel_rfl
theorem valueOfC (n : Int) (w : World) : (ReflectliteValue.unpack (.iface 34 (.int .i64 n))).run Tryz.prog w
 = .ok (.agg #[.pointer (some ⟨9, 34, none⟩), .pointer (some ⟨w.heap.size, 0, none⟩), .int .u64 130]) (w.alloc (.cells #[.int .i64 n] 34)) := by kernel_rfl
theorem elemOfP (w : World) : (Rtype.elem? 190).run Tryz.prog w = .ok (some 34) w := by kernel_rfl
theorem mkC (p : Addr) (w : World) : (ReflectliteValue.mk 34 p ReflectliteValue.flagAddr).run Tryz.prog w = .ok (.agg #[.pointer (some ⟨9, 34, none⟩), .pointer (some p), .int .u64 386]) w := by kernel_rfl
theorem elemVP (a p : Addr) (W : World) (ha : W.cell? a = some (.pointer (some p))) :
 (ReflectliteValue.method (ReflectliteValue.valueError "reflectlite.Value.Elem" 0) ReflectliteValue.elem #[.agg #[.pointer (some ⟨9, 190, none⟩), .pointer (some a), .int .u64 150]]).run Tryz.prog W
  = .ok (.agg #[.pointer (some ⟨9, 34, none⟩), .pointer (some p), .int .u64 386]) W := by
 change Sem.run Tryz.prog (Bind.bind (ReflectliteValue.parts (.agg #[.pointer (some ⟨9, 190, none⟩), .pointer (some a), .int .u64 150])) _) W = _
 simp only [Sem.run_bind, partsP, Result.andThen]
 simp [ReflectliteValue.elem, loadVar, isAgg, underlying, Tryz.underlying190, ha, Result.andThen, elemOfP, mkC]
theorem partsCa (a : Addr) (w : World) : (ReflectliteValue.parts (.agg #[.pointer (some ⟨9, 34, none⟩), .pointer (some a), .int .u64 386])).run Tryz.prog w = .ok (some (34, a, 386)) w := by kernel_rfl
theorem partsC (a : Addr) (w : World) : (ReflectliteValue.parts (.agg #[.pointer (some ⟨9, 34, none⟩), .pointer (some a), .int .u64 130])).run Tryz.prog w = .ok (some (34, a, 130)) w := by kernel_rfl
theorem directC (w : World) : (Rtype.directlyAssignable 34 34).run Tryz.prog w = .ok true w := by kernel_rfl
theorem setC (ta b : Addr) (n : Int) (old : Value) (W : World) (hb : W.cell? b = some (.int .i64 n)) (ht : W.cell? ta = some old) (hf : W.frozen? ta = false) :
 (ReflectliteValue.set #[.agg #[.pointer (some ⟨9, 34, none⟩), .pointer (some ta), .int .u64 386], .agg #[.pointer (some ⟨9, 34, none⟩), .pointer (some b), .int .u64 130]]).run Tryz.prog W
  = .ok (.tuple #[]) (W.setCell ta (.int .i64 n)) := by
 change Sem.run Tryz.prog (Bind.bind (ReflectliteValue.parts (.agg #[.pointer (some ⟨9, 34, none⟩), .pointer (some ta), .int .u64 386])) fun p => Bind.bind (ReflectliteValue.parts (.agg #[.pointer (some ⟨9, 34, none⟩), .pointer (some b), .int .u64 130])) _) W = _
 simp only [Sem.run_bind, partsCa, partsC, Result.andThen]
 simp [ReflectliteValue.flagAddr, loadVar, isAgg, underlying, Tryz.underlying34, hb, Result.andThen, directC, storeVar, Value.cells, storeCells, Addr.add]
 rw [run_store Tryz.prog W ta _ _ (by rfl)]
 simp [ht, hf]
theorem step_unwrap (b o : Nat) (E : Value) (w : World) (h1 : w.cell? ⟨b, o + 1, none⟩ = some E) :
 Calls Tryz.prog 276 #[.pointer (some ⟨b, o, none⟩)] w fun e w' => e = .returned E ∧ w = w' := by
 go_enter Tryz.func276, Tryz.ntmps276
 go_wp2
 go_ret
 exact ⟨rfl, rfl⟩
def Laid (w : World) : Prop := w.cell? ⟨1, 0, none⟩ = some (.iface 250 (.agg #[.pointer (some ⟨9, 76, none⟩)]))
theorem Laid.keep {w w' : World} (h : Laid w) (hb : Below w.heap.size w w') : Laid w' := (hb.cell (lt_of_cell h)).trans h
theorem as_any (c : Int) (p : List ByteArray) (E : Value) (a t : Addr) (old : Value) (W : World) (h : Is W E c p) (ha : W.cell? a = some (.pointer (some t))) (ht : W.cell? t = some old) (hf : W.frozen? t = false) :
 Calls Tryz.prog 178 #[E, .iface 190 (.pointer (some t)), .agg #[.pointer (some ⟨9, 190, none⟩), .pointer (some a), .int .u64 150], .iface 250 (.agg #[.pointer (some ⟨9, 34, none⟩)])] W
  fun e w' => e = .returned (.bool true) ∧ w' = ((W.alloc (.cells #[.pointer (some ⟨9, 190, none⟩), .pointer (some a), .int .u64 150] 223)).alloc (.cells #[.int .i64 c] 34)).setCell t (.int .i64 c) := by
 have x1 := @run_callFunc_extern Tryz.prog 204 _ ReflectliteType.typeOf Tryz.func204 (by kernel_rfl) (by kernel_rfl) (by kernel_rfl) (by kernel_rfl)
 have x2 := @run_callFunc_extern Tryz.prog 281 _ (ReflectliteType.relation "AssignableTo" ReflectliteType.assignableTo) Tryz.func281 (by kernel_rfl) (by kernel_rfl) (by kernel_rfl) (by kernel_rfl)
 have x3 := @run_callFunc_extern Tryz.prog 175 _ (fun args => ReflectliteValue.unpack (args.getD 0 (.tuple #[]))) Tryz.func175 (by kernel_rfl) (by kernel_rfl) (by kernel_rfl) (by kernel_rfl)
 have x4 := @run_callFunc_extern Tryz.prog 205 _ (ReflectliteValue.method (ReflectliteValue.valueError "reflectlite.Value.Elem" 0) ReflectliteValue.elem) Tryz.func205 (by kernel_rfl) (by kernel_rfl) (by kernel_rfl) (by kernel_rfl)
 have x5 := @run_callFunc_extern Tryz.prog 206 _ ReflectliteValue.set Tryz.func206 (by kernel_rfl) (by kernel_rfl) (by kernel_rfl) (by kernel_rfl)
 have tC := typeOfC
 have tS := typeOfS
 have mA := methodAssignableTo
 have aC := assignableC
 have aS := assignableS
 have vC := valueOfC
 have nS := noAsS
 have uS := hasUnwrapS
 have mU := methodUnwrap
 have hb : Below W.heap.size W (W.alloc (.cells #[.pointer (some ⟨9, 190, none⟩), .pointer (some a), .int .u64 150] 223)) := (Below.refl _ _).alloc (Nat.le_refl _) _
 have hb2 : Below W.heap.size W ((W.alloc (.cells #[.pointer (some ⟨9, 190, none⟩), .pointer (some a), .int .u64 150] 223)).alloc (.cells #[.int .i64 c] 34)) := hb.alloc (by simp) _
 have el := elemVP a t (W.alloc (.cells #[.pointer (some ⟨9, 190, none⟩), .pointer (some a), .int .u64 150] 223)) ((hb.cell (lt_of_cell ha)).trans ha)
 have st := setC t ⟨W.heap.size + 1, 0, none⟩ c old ((W.alloc (.cells #[.pointer (some ⟨9, 190, none⟩), .pointer (some a), .int .u64 150] 223)).alloc (.cells #[.int .i64 c] 34)) (by rw [World.cell?_alloc_at _ _ _ _ (by simp)]; rfl) ((hb2.cell (lt_of_cell ht)).trans ht) ((hb2.frozen (lt_of_cell ht)).trans hf)
 have H := Lib.hid h
 have HB := Lib.hid hb
 clear h ha ht hf hb hb2
 go_enter Tryz.func178, Tryz.ntmps178
 go_wp2
 go_loopw [0] (fun E' wl => wl = W.alloc (.cells #[.pointer (some ⟨9, 190, none⟩), .pointer (some a), .int .u64 150] 223) ∧ ∃ p', Is W E' c p') (fun E' _ => deep W E')
 case atStart => exact ⟨rfl, p, H.out⟩
 case round =>
  obtain ⟨rfl, p', hc'⟩ := hrel
  cases hc' with
  | code c =>
   go_wp2
   go_ret
   exact ⟨rfl, rfl⟩
  | step b o E1 s _ q h0 h1 h2 =>
   have hlen := deep_eq h2
   have hlen0 := deep_eq (Is.step b o E1 s c q h0 h1 h2)
   have hcell : (W.alloc (.cells #[.pointer (some ⟨9, 190, none⟩), .pointer (some a), .int .u64 150] 223)).cell? ⟨b, o + 1, none⟩ = some E1 := (HB.out.cell (lt_of_cell h1)).trans h1
   obtain ⟨u1, v1, rfl⟩ := h2.iface
   have HC := Lib.hid h2
   have HL := Lib.hid hlen
   have HL0 := Lib.hid hlen0
   have HX := Lib.hid hcell
   clear h2 hlen hlen0 h0 h1 hcell el st
   go_wp2_with (go_at_call 276; refine (step_unwrap b o _ _ HX.out).mono ?_; rintro e w' ⟨rfl, rfl⟩)
   go_roundw
   case rel => exact ⟨trivial, q, HC.out⟩
   case measure => rw [HL.out, HL0.out]; simp
theorem errors_as (c : Int) (p : List ByteArray) (E : Value) (t : Addr) (old : Value) (W : World) (h : Is W E c p) (ht : W.cell? t = some old) (hf : W.frozen? t = false) (hL : Laid W) :
 Calls Tryz.prog 139 #[E, .iface 190 (.pointer (some t))] W
  fun e w' => e = .returned (.bool true) ∧ w' = ((((W.alloc (.cells #[.pointer (some t)] 190)).alloc (.cells #[.pointer (some ⟨9, 190, none⟩), .pointer (some ⟨W.heap.size, 0, none⟩), .int .u64 150] 223)).alloc (.cells #[.pointer (some ⟨9, 190, none⟩), .pointer (some ⟨W.heap.size, 0, none⟩), .int .u64 150] 223)).alloc (.cells #[.int .i64 c] 34)).setCell t (.int .i64 c) := by
 have x1 := @run_callFunc_extern Tryz.prog 175 _ (fun args => ReflectliteValue.unpack (args.getD 0 (.tuple #[]))) Tryz.func175 (by kernel_rfl) (by kernel_rfl) (by kernel_rfl) (by kernel_rfl)
 have x2 := @run_callFunc_extern Tryz.prog 176 _ (ReflectliteValue.methodAny (ReflectliteValue.valueError "reflectlite.Value.Type" 0) (fun t _ _ _ => ReflectliteType.toType t)) Tryz.func176 (by kernel_rfl) (by kernel_rfl) (by kernel_rfl) (by kernel_rfl)
 have x3 := @run_callFunc_extern Tryz.prog 177 _ (ReflectliteValue.method (ReflectliteValue.valueError "reflectlite.Value.IsNil" 0) ReflectliteValue.isNil) Tryz.func177 (by kernel_rfl) (by kernel_rfl) (by kernel_rfl) (by kernel_rfl)
 have x4 := @run_callFunc_extern Tryz.prog 270 _ (ReflectliteType.abiMethod fun t => do pure (.int .u8 (← Rtype.kind t))) Tryz.func270 (by kernel_rfl) (by kernel_rfl) (by kernel_rfl) (by kernel_rfl)
 have x5 := @run_callFunc_extern Tryz.prog 283 _ (ReflectliteType.method ReflectliteType.elem) Tryz.func283 (by kernel_rfl) (by kernel_rfl) (by kernel_rfl) (by kernel_rfl)
 have x6 := @run_callFunc_extern Tryz.prog 284 _ (ReflectliteType.relation "Implements" ReflectliteType.implements_) Tryz.func284 (by kernel_rfl) (by kernel_rfl) (by kernel_rfl) (by kernel_rfl)
 have v1 := valueOfP
 have v2 := typeP
 have mK := methodKind
 have mE := methodElem
 have mI := methodImplements
 have kP := kindP
 have kC := kindC
 have eP := elemP
 have iC := implementsC
 have hb : Below W.heap.size W ((W.alloc (.cells #[.pointer (some t)] 190)).alloc (.cells #[.pointer (some ⟨9, 190, none⟩), .pointer (some ⟨W.heap.size, 0, none⟩), .int .u64 150] 223)) := ((Below.refl _ _).alloc (Nat.le_refl _) _).alloc (by simp) _
 have n1 := isNilP ⟨W.heap.size, 0, none⟩ t ((W.alloc (.cells #[.pointer (some t)] 190)).alloc (.cells #[.pointer (some ⟨9, 190, none⟩), .pointer (some ⟨W.heap.size, 0, none⟩), .int .u64 150] 223)) (by simp)
 have hg : ((W.alloc (.cells #[.pointer (some t)] 190)).alloc (.cells #[.pointer (some ⟨9, 190, none⟩), .pointer (some ⟨W.heap.size, 0, none⟩), .int .u64 150] 223)).cell? ⟨1, 0, none⟩ = some (.iface 250 (.agg #[.pointer (some ⟨9, 76, none⟩)])) := hL.keep hb
 have Q1 := Lib.hid (h.keep hb)
 have Q2 := Lib.hid ((hb.cell (lt_of_cell ht)).trans ht)
 have Q3 := Lib.hid ((hb.frozen (lt_of_cell ht)).trans hf)
 have Q4 : Hid (((W.alloc (.cells #[.pointer (some t)] 190)).alloc (.cells #[.pointer (some ⟨9, 190, none⟩), .pointer (some ⟨W.heap.size, 0, none⟩), .int .u64 150] 223)).cell? ⟨W.heap.size, 0, none⟩ = some (.pointer (some t))) := Lib.hid (by simp)
 obtain ⟨u, x, rfl⟩ := h.iface
 clear h hL ht hf hb
 go_enter Tryz.func139, Tryz.ntmps139
 go_wp2_with (go_at_call 178; refine (as_any c p _ _ t old _ Q1.out Q4.out Q2.out Q3.out).mono ?_; rintro e w' ⟨rfl, rfl⟩)
 go_ret
 exact ⟨rfl, rfl⟩
theorem within_idle (p q : Addr) (w : World) :
 CallsD Tryz.prog 138 #[.pointer (some p), .pointer (some q)] .returning w fun e u' w' => e = .returned (.tuple #[]) ∧ u' = .returning ∧ w' = w := by
 refine callsD_of_wpS Tryz.func138 rfl fun c₀ cs hu => ?_
 apply wpS_seq
 apply wpS_region
 simp [wpOpsS, go_sem, recoverD, hu, Tryz.ntmps138, Exit.thenS]
 refine wpS_cond (t := false) (by simp [Act.eval, Array.replicate]) ?_
 simp only [Bool.false_eq_true, if_false]
 refine wpS_of_wp (wp_skip ?_)
 cases c₀
 simp_all [bodyPostS, results, Tryz.results138]
def AsLeft (c : Int) (t : Addr) (W : World) (e : Ending) (w' : World) : Prop :=
 e = .returned (.bool true) ∧ w'.cell? t = some (.int .i64 c) ∧ (∀ a : Addr, a.block < W.heap.size → a.block ≠ t.block → w'.cell? a = W.cell? a) ∧ (∀ a : Addr, a.block < W.heap.size → w'.frozen? a = W.frozen? a) ∧ Below t.block W w'
theorem errors_as_left (c : Int) (p : List ByteArray) (E : Value) (t : Addr) (old : Value) (W : World) (h : Is W E c p) (ht : W.cell? t = some old) (hf : W.frozen? t = false) (hL : Laid W) :
 Calls Tryz.prog 139 #[E, .iface 190 (.pointer (some t))] W (AsLeft c t W) := by
 refine (errors_as c p E t old W h ht hf hL).mono ?_
 rintro e w' ⟨rfl, rfl⟩
 have hlt := lt_of_cell ht
 generalize hG : (((W.alloc (.cells #[.pointer (some t)] 190)).alloc (.cells #[.pointer (some ⟨9, 190, none⟩), .pointer (some ⟨W.heap.size, 0, none⟩), .int .u64 150] 223)).alloc (.cells #[.pointer (some ⟨9, 190, none⟩), .pointer (some ⟨W.heap.size, 0, none⟩), .int .u64 150] 223)).alloc (.cells #[.int .i64 c] 34) = G
 have hb : Below W.heap.size W G := by
  rw [← hG]
  exact ((((Below.refl _ _).alloc (Nat.le_refl _) _).alloc (by simp) _).alloc (by simp; omega) _).alloc (by simp; omega) _
 have htG : G.cell? t = some old := (hb.cell hlt).trans ht
 refine ⟨rfl, World.cell?_setCell_same _ _ _ (by rw [htG]), fun a ha hne => ?_, fun a ha => ?_, ?_⟩
 · rw [World.cell?_setCell_other _ _ _ _ (fun e => hne (by rw [e]))]
   exact hb.cell ha
 · rw [World.frozen?_setCell]
   exact hb.frozen ha
 · exact (hb.mono (Nat.le_of_lt hlt)).setCell (Nat.le_refl _) _
theorem within_any {w : World} (c : Int) (p : List ByteArray) (E : Value) (h : Is w E c p) (hL : Laid w) :
 Calls Tryz.prog 85 #[E] w fun e w' => e = .returned (.tuple #[.int .i64 c, .bool true]) ∧ Below w.heap.size w w' := by
 have hmf : ∀ (fn : Fn) (first cap : Array Value) (w : World), (Instr.makeFunc fn first cap).run Tryz.prog w = .ok (.func fn first cap) w := fun _ _ _ _ => rfl
 have hb : Below w.heap.size w ((w.alloc (.cells #[.int .i64 0] 34)).alloc (.cells #[.bool false] 4)) := ((Below.refl _ _).alloc (Nat.le_refl _) _).alloc (by simp) _
 have Q1 := Lib.hid (h.keep hb)
 have Q2 := Lib.hid (hL.keep hb)
 have HB := Lib.hid hb
 clear h hL hb
 go_enter_defers Tryz.func85, Tryz.ntmps85
 go_wp2_with fail
 refine (errors_as_left c p E ⟨w.heap.size, 0, none⟩ (.int .i64 0) _ Q1.out (by simp) (by simp) Q2.out).mono ?_
 rintro e w1 ⟨rfl, hc0, hcs, hfs, hb1⟩
 have hc1 : w1.cell? ⟨w.heap.size + 1, 0, none⟩ = some (.bool false) := by rw [hcs _ (by simp) (by simp)]; simp
 have hf0 : w1.frozen? ⟨w.heap.size, 0, none⟩ = false := by rw [hfs _ (by simp; omega)]; simp
 have hf1 : w1.frozen? ⟨w.heap.size + 1, 0, none⟩ = false := by rw [hfs _ (by simp)]; simp
 have hb2 : Below w.heap.size w w1 := HB.out.trans hb1
 have hg : w.heap.size + 1 < w1.heap.size := lt_of_cell hc1
 clear hcs hfs
 go_wp2_with fail
 go_region
 go_wp2_with fail
 refine leaves_cons (f := 138) (args := #[.pointer (some ⟨w.heap.size, 0, none⟩), .pointer (some ⟨w.heap.size + 1, 0, none⟩)]) (by simp) (by simp [go_sem]) ?_
 refine (within_idle ⟨w.heap.size, 0, none⟩ ⟨w.heap.size + 1, 0, none⟩ _).mono ?_
 rintro e u' w'' ⟨rfl, rfl, rfl⟩
 simp [Leaves, settle, results, Tryz.results85, go_sem, hc0, hc1]
 exact (((hb2.setCell (by simp) _).setCell (by simp) _).setCell (by simp) _).drew
theorem info_string : (Tryz.prog.info? 9).map (fun i => (i.zero, i.size, i.bytes)) = some (some (.string ⟨#[]⟩), 1, 16) := by kernel_rfl
end Err
end Go.Proofs.YtljbpelogjmciaaGreatDoor
namespace Go.Proofs.YtljbpelogjmciaaGreatDoor
open Go.RowKit
namespace Err
def pathText (p : List ByteArray) : List UInt8 := Lib.join (p.map (·.data.toList)) [46]
theorem in_nil (s : ByteArray) (w : World) :
 Calls Tryz.prog 130 #[.nilIface, .string s] w fun e w' => e = .returned .nilIface ∧ w = w' := by
 go_enter Tryz.func130, Tryz.ntmps130
 go_wp2
 go_ret
 exact ⟨rfl, rfl⟩
theorem in_some (u : TypeId) (x : Value) (s : ByteArray) (w : World) :
 Calls Tryz.prog 130 #[.iface u x, .string s] w fun e w' => e = .returned (.iface 197 (.pointer (some ⟨w.heap.size, 0, none⟩))) ∧ w' = w.alloc (.cells #[.string s, .iface u x] 200) := by
 go_enter Tryz.func130, Tryz.ntmps130
 go_wp2
 go_ret
 exact ⟨rfl, rfl⟩
theorem new_ok (v : Value) (w : World) :
 Calls Tryz.prog 82 #[.int .i64 0, v] w fun e w' => e = .returned .nilIface ∧ w = w' := by
 go_enter Tryz.func82, Tryz.ntmps82
 go_wp2
 go_ret
 exact ⟨rfl, rfl⟩
def firstOf : List Value → Value
 | [] => .nilIface
 | .nilIface :: r => firstOf r
 | E :: _ => E
theorem first_any (Es : List Value) (A : Option Addr) (cap : Nat) (w : World) (hE : ∀ (k : Nat) (E : Value), Es[k]? = some E → E = .nilIface ∨ ∃ u x, E = .iface u x)
 (hT : ∀ (k : Nat) (E : Value), Es[k]? = some E → ∃ a, A = some a ∧ w.cell? (a.add k) = some E) (hn : Es.length ≤ 9223372036854775807) :
 Calls Tryz.prog 81 #[.slice A Es.length cap] w fun e w' => e = .returned (firstOf Es) ∧ w = w' := by
 have HT := Lib.hid hT
 have HE := Lib.hid hE
 clear hT hE
 go_enter Tryz.func81, Tryz.ntmps81
 go_wp2
 go_loop [7] (fun i => ∃ k : Nat, k ≤ Es.length ∧ i = .int .i64 k ∧ firstOf Es = firstOf (Es.drop k)) (fun i => Es.length - (intOf i).toNat)
 case atStart => exact ⟨0, Nat.zero_le _, rfl, rfl⟩
 case round =>
  obtain ⟨k, hk, rfl, hf⟩ := hrel
  have HF := Lib.hid hf
  clear hf
  by_cases hlt : k < Es.length
  · obtain ⟨a, rfl, hcell⟩ := HT.out k Es[k] (List.getElem?_eq_getElem hlt)
    have hd := List.drop_eq_getElem_cons hlt
    have HD := Lib.hid hd
    clear hd
    have hj : (k : Int) < (Es.length : Int) := by omega
    rcases HE.out k Es[k] (List.getElem?_eq_getElem hlt) with h0 | ⟨u, x, h0⟩
    · rw [h0] at hcell
      have H0 := Lib.hid h0
      clear h0; go_wp2
      go_round
      case rel => exact ⟨k + 1, by omega, by go_num, by rw [HF.out, HD.out, H0.out]; rfl⟩
      case measure => simp [intOf]; omega
    · rw [h0] at hcell
      have H0 := Lib.hid h0
      clear h0; go_wp2
      go_ret
      exact ⟨by rw [HF.out, HD.out, H0.out]; rfl, rfl⟩
  · go_wp2
    go_ret
    exact ⟨by rw [HF.out, List.drop_of_length_le (by omega)]; rfl, rfl⟩
end Err
end Go.Proofs.YtljbpelogjmciaaGreatDoor
