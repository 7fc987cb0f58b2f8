/-
  Whole structs stored into a box at once (Derived/Deep/MidRow), pods in memory of the call's own; what reads uses (tell.takeUse) and revisions. Conditions: as PackTake.
-/
import Derived.Test.YtaegknpijgjioaaGreatDoorTellData
import Derived.Test.YtaegknpijgjioaaGreatDoorPackAll
import Derived.Test.YtaegknpijgjioaaGreatDoorWireRBig
import Derived.Test.YtaegknpijgjioaaGreatDoorAppendAny
import Derived.Deep.RegionHeld3
import Derived.Deep.MidRow
set_option linter.unusedVariables false
set_option linter.unusedSimpArgs false
namespace Go.Proofs.YtaegknpijgjioaaGreatDoor
open Go.ChangeShapes Go.WideShapes Go.ChangeAt Go.RowKit Go.Lib
open LebMath WirePure Sd Wire SpecOwn SpecRef Book Pk
namespace Tl
def over (A : Array Value) : Nat → List Value → Array Value
  | _, [] => A
  | o, v :: r => over (A.setIfInBounds o v) (o + 1) r
theorem box_over {b : Nat} {t : TypeId} : ∀ (vs : List Value) (o : Nat) {w : World} {A : Array Value}, w.heap[b]? = some (.cells A t (0, 0)) → (w.setCells b o vs).heap[b]? = some (.cells (over A o vs) t (0, 0))
  | [], _, _, _, h => h
  | v :: r, o, w, A, h => by
    rw [World.setCells]
    exact box_over r (o + 1) (box_set h o v rfl)
theorem box_into {w : World} {b : Nat} {A : Array Value} {t : TypeId} (h : w.heap[b]? = some (.cells A t (0, 0))) (o : Nat) (vs : List Value) {B : Array Value} (hB : over A o vs = B) : (w.setCells b o vs).heap[b]? = some (.cells B t (0, 0)) := by
  rw [← hB]; exact box_over vs o h
theorem only_cells {b : Nat} : ∀ (vs : List Value) (o : Nat) {w v : World}, Only b w v → Only b w (v.setCells b o vs)
  | [], _, _, _, h => h
  | u :: r, o, _, _, h => by
    rw [World.setCells]
    exact only_cells r (o + 1) (h.set o u)
theorem below_cells {B b : Nat} {a : World} (hb : B ≤ b) : ∀ (vs : List Value) (o : Nat) {w : World}, Below B a w → Below B a (w.setCells b o vs)
  | [], _, _, h => h
  | u :: r, o, _, h => by
    rw [World.setCells]
    exact below_cells hb r (o + 1) (h.setCell (p := ⟨b, o, none⟩) hb u)
theorem box_there {w : World} {b : Nat} {A : Array Value} {t : TypeId} (h : w.heap[b]? = some (.cells A t (0, 0))) (o n : Nat) (hn : o + n ≤ A.size) : w.there b o n := fun j hj =>
  ⟨by rw [box_cell h (o + j) (Array.getElem?_eq_getElem (by omega))]; rfl, box_free h _⟩
theorem wpList_store_to {P : Program} {ops : Array Oper} {rest : List Oper} {op : Oper} {a : Act} {w v : World} {Q : Exit → Act → World → Prop} (hgd : op.guard = none) (ty : TypeId) (x y : Operand) (ho : op.op = .store ty x y)
    (b o : Nat) (cells : Array Value) (hx : a.eval x = .pointer (some ⟨b, o, none⟩)) (hy : a.eval y = .agg cells)
    (ht : w.there b o cells.size) (hi : (P.info? ty).map (·.size) = some cells.size) (h1 : cells.all (·.oneCell') = true) (hv : w.setCells b o cells.toList = v)
    (h : wpList P ops Q rest (a.put op.dst undef) v) : wpList P ops Q (op :: rest) a w :=
  wpList_store_mid hgd ty x y ho b o cells hx hy ht hi h1 (by rw [hv]; exact h)
theorem over_13 (a0 a1 a2 a3 a4 a5 a6 a7 a8 a9 a10 a11 a12 b0 b1 b2 b3 b4 b5 b6 b7 b8 b9 b10 b11 b12 : Value) : over #[a0, a1, a2, a3, a4, a5, a6, a7, a8, a9, a10, a11, a12] 0 [b0, b1, b2, b3, b4, b5, b6, b7, b8, b9, b10, b11, b12] = #[b0, b1, b2, b3, b4, b5, b6, b7, b8, b9, b10, b11, b12] := by
  simp [over]
theorem i64_wf {z : Int} {m : Nat} (h : 0 ≤ z ∧ z ≤ m) (hm : m ≤ 1099511627776) : (Lit.int IntKind.i64 z).wf = true := by
  simp only [Lit.wf, IntKind.min, IntKind.max, Bool.and_eq_true]
  simp [IntKind.signed, IntKind.bits]
  omega
/-- a call of a Go function, as a step of a region that draws its order -/
theorem step_call {P : Program} {w : World} {ops : Array Oper} {o : Oper} {a : Act} {K : Act → World → Prop} {Q : Exit → Act → World → Prop} {E : Prop} (hgd : o.guard = none) (f : FuncId) (args : Array Value)
    (hr : (execOp a.eval o).run P w = .ok (.enter f args) w) (hc : Calls P f args w fun e w' => ∃ v, e = .returned v ∧ K (a.put o.dst v) w') :
    if Region.wanted o (yielded ops a.tmps) = true then Oper.wp P o a w K Q else E := by
  have hw : Region.wanted o (yielded ops a.tmps) = true := by simp [Region.wanted, hgd]
  rw [if_pos hw]
  unfold Oper.wp
  rw [hr]
  refine Calls.mono hc ?_
  rintro e w' ⟨v, rfl, hv⟩
  exact hv
/-- a pod in blocks from B on -/
structure PodUp (B : Nat) (p : Pd) (w : World) (LA IA MA RA : Option Addr) : Prop where
  spec : SpcUp B p.spec w LA IA MA
  rs : Lists.Nums .i64 w RA p.rs
  rfrom : From B RA
  nr : p.rs.length ≤ 9223372036854775807
  rev : p.rev < 18446744073709551616
theorem PodUp.in {B : Nat} {p : Pd} {w : World} {LA IA MA RA : Option Addr} {lc ic mc : Nat} (h : PodUp B p w LA IA MA RA) : p.In w LA lc IA ic MA mc RA :=
  ⟨h.spec.in, h.rs, h.nr, h.rev⟩
theorem PodUp.aside {B g : Nat} {p : Pd} {w v : World} {LA IA MA RA : Option Addr} (h : PodUp B p w LA IA MA RA) (hg : g < B) (hk : Wire.Aside g w v) : PodUp B p v LA IA MA RA :=
  ⟨h.spec.aside hg hk, nums_aside h.rs h.rfrom hg hk, h.rfrom, h.nr, h.rev⟩
theorem spc_down {B B' : Nat} {S : Spc} {w : World} {LA IA MA : Option Addr} (h : SpcUp B S w LA IA MA) (hB : B' ≤ B) : SpcUp B' S w LA IA MA :=
  ⟨h.labels, fun a ha => Nat.le_trans hB (h.lfrom a ha), h.init.less hB, h.main.less hB, h.nums⟩
theorem PodUp.less {B B' : Nat} {p : Pd} {w : World} {LA IA MA RA : Option Addr} (h : PodUp B p w LA IA MA RA) (hB : B' ≤ B) : PodUp B' p w LA IA MA RA :=
  ⟨spc_down h.spec hB, h.rs, fun a ha => Nat.le_trans hB (h.rfrom a ha), h.nr, h.rev⟩
theorem spc_only {b B : Nat} {S : Spc} {w v : World} {LA IA MA : Option Addr} (h : SpcUp B S w LA IA MA) (ho : Only b w v) (hb : b < B) : SpcUp B S v LA IA MA :=
  ⟨ho.lbls h.labels (fun a ha => by have := h.lfrom a ha; omega), h.lfrom, ho.up h.init hb, ho.up h.main hb, h.nums⟩
theorem PodUp.only {b B : Nat} {p : Pd} {w v : World} {LA IA MA RA : Option Addr} (h : PodUp B p w LA IA MA RA) (ho : Only b w v) (hb : b < B) : PodUp B p v LA IA MA RA :=
  ⟨spc_only h.spec ho hb, ho.nums h.rs (fun a ha => by have := h.rfrom a ha; omega), h.rfrom, h.nr, h.rev⟩
end Tl
end Go.Proofs.YtaegknpijgjioaaGreatDoor
