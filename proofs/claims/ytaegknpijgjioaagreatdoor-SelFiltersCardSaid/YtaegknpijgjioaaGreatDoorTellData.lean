/-
  Pods, uses and messages in memory: what their cells hold, and what keeps it. No condition.
-/
import Derived.Test.YtaegknpijgjioaaGreatDoorTellPure
import Derived.Test.YtaegknpijgjioaaGreatDoorSpecDataAll
import Derived.Deep.MidRow
set_option linter.unusedVariables false
set_option linter.unusedSimpArgs false
namespace Go.Proofs.YtaegknpijgjioaaGreatDoor
open Go.ChangeShapes Go.WideShapes Go.ChangeAt Go.RowKit Go.Lib
open Sd Lists Pk
namespace Tl

theorem box_cell {w : World} {g : Nat} {A : Array Value} {t : TypeId} (h : w.heap[g]? = some (.cells A t (0, 0))) (k : Nat) {v : Value} (hv : A[k]? = some v) : w.cell? ⟨g, k, none⟩ = some v := by
  simp [World.cell?, h, hv]
theorem box_free {w : World} {g : Nat} {A : Array Value} {t : TypeId} (h : w.heap[g]? = some (.cells A t (0, 0))) (k : Nat) : w.frozen? ⟨g, k, none⟩ = false := by
  simp [World.frozen?, h]
theorem box_set {w : World} {g : Nat} {A : Array Value} {t : TypeId} (h : w.heap[g]? = some (.cells A t (0, 0))) (k : Nat) (v : Value) {B : Array Value} (hB : A.setIfInBounds k v = B) : (w.setCell ⟨g, k, none⟩ v).heap[g]? = some (.cells B t (0, 0)) := by
  rw [← hB]; exact heap_setCell_same w g k _ _ v h
/-- the cells of a box from one on, for a load of a whole struct at once (Derived/Deep/MidRow) -/
theorem range_at {w : World} {b : Nat} {A : Array Value} {t : TypeId} (h : w.heap[b]? = some (.cells A t (0, 0))) (o : Nat) (cs : List Value) (hcs : (A.toList.drop o).take cs.length = cs) : w.rangeAt b o cs :=
  fun j v hv => box_cell h (o + j) (by
    have hj : j < cs.length := (List.getElem?_eq_some_iff.1 hv).1
    rw [← hcs, List.getElem?_take_of_lt hj, List.getElem?_drop] at hv
    simpa using hv)
theorem text_nil {z : ByteArray} (h : z.size = 0) : z.toList = [] := by
  rw [ByteArray.toList_eq]
  exact List.length_eq_zero_iff.1 (by rw [Array.length_toList]; exact h)
theorem text_some {z : ByteArray} (h : z.size ≠ 0) : z.toList.isEmpty = false := by
  rw [ByteArray.toList_eq]
  cases e : z.data.toList with
  | nil =>
    have := congrArg List.length e
    rw [Array.length_toList] at this
    exact absurd this h
  | cons x xs => rfl
theorem empty_of {z : ByteArray} (h : z.size = 0) : z = ⟨#[]⟩ := ByteArray.ext (Array.eq_empty_of_size_eq_zero h)
/-- the cells from a on hold these values -/
def CellsAt (w : World) (a : Addr) : List Value → Prop
  | [] => True
  | v :: vs => w.cell? a = some v ∧ ∀ (i : Nat) (x : Value), vs[i]? = some x → w.cell? ⟨a.block, a.off + (i + 1), none⟩ = some x
theorem CellsAt.keep {w w' : World} {a : Addr} {vs : List Value} (h : CellsAt w a vs) (hb : w'.heap[a.block]? = w.heap[a.block]?) : CellsAt w' a vs := by
  have e : ∀ p : Addr, p.block = a.block → w'.cell? p = w.cell? p := fun p hp => World.cell?_of_block (by rw [hp]; exact hb)
  cases vs with
  | nil => trivial
  | cons v vs => exact ⟨(e a rfl).trans h.1, fun i x hx => (e ⟨a.block, a.off + (i + 1), none⟩ rfl).trans (h.2 i x hx)⟩
theorem CellsAt.off {w : World} {a : Addr} {v : Value} {vs : List Value} (h : CellsAt w a (v :: vs)) (i : Nat) {x : Value} (hx : vs[i]? = some x) : w.cell? ⟨a.block, a.off + (i + 1), none⟩ = some x := h.2 i x hx
theorem CellsAt.all {w : World} {p : Addr} : ∀ {vs : List Value}, CellsAt w p vs → ∀ j v, vs[j]? = some v → w.cell? (p.add j) = some v
  | [], _, j, v, hv => by simp at hv
  | x :: vs, h, 0, v, hv => by
    have e : p.add 0 = p := by unfold Addr.add; simp
    rw [e]
    simp at hv
    rw [← hv]
    exact h.1
  | x :: vs, h, j + 1, v, hv => by
    have e : p.add (j + 1) = ⟨p.block, p.off + (j + 1), none⟩ := by unfold Addr.add; rw [if_neg (by omega)]
    rw [e]
    exact h.2 j v (by simpa using hv)
/-- a whole struct is loaded at once, wherever it lies (after Derived/Deep/MidRow) -/
theorem run_load_addr {P : Program} (w : World) (p : Addr) (ty : TypeId) (cs : List Value) (d : TypeDesc) (hc : ∀ j v, cs[j]? = some v → w.cell? (p.add j) = some v)
    (hu : P.underlying ty = some d) (hd : d.isRow = true) (hi : (P.info? ty).map (·.size) = some cs.length) : (loadVar ty p).run P w = .ok (.agg cs.toArray) w := by
  have hl : (loadCells p cs.length).run P w = .ok cs.toArray w := run_loadCells_list (P := P) w p cs hc
  cases hq : P.info? ty with
  | none => simp [hq] at hi
  | some i =>
    have hs : i.size = cs.length := by simpa [hq] using hi
    have hagg : (isAgg ty).run P w = .ok true w := by
      unfold isAgg
      rw [Sem.run_bind, run_underlying hu w]
      cases d <;> simp_all
    simp [loadVar, Sem.run_bind, hagg, sizeOf, typeInfo, hq, hs, hl]
theorem wpList_load_addr {P : Program} {ops : Array Oper} {rest : List Oper} {op : Oper} {a : Act} {w : World} {Q : Exit → Act → World → Prop} (hgd : op.guard = none) (ty : TypeId) (x : Operand) (ho : op.op = .load ty x)
    (p : Addr) (hx : a.eval x = .pointer (some p)) (cs : List Value) (d : TypeDesc) (hc : ∀ j v, cs[j]? = some v → w.cell? (p.add j) = some v)
    (hu : P.underlying ty = some d) (hd : d.isRow = true) (hi : (P.info? ty).map (·.size) = some cs.length)
    (h : wpList P ops Q rest (a.put op.dst (.agg cs.toArray)) w) : wpList P ops Q (op :: rest) a w :=
  wpList_plain hgd fun _ hK => by
    unfold Oper.wp execOp
    simp only [ho, hx, Instr.loadAt, Instr.sureAddr, Sem.run_bind, Sem.run_pure, Result.andThen_ok, run_load_addr w p ty cs d hc hu hd hi]
    exact hK _ _ h
/-- a pod's values -/
def Pd.vals (p : Pd) (LA : Option Addr) (lc : Nat) (IA : Option Addr) (ic : Nat) (MA : Option Addr) (mc : Nat) (RA : Option Addr) (rc : Nat) : List Value :=
  [.int .i64 p.uid, .int .u64 p.rev, .string p.spec.name, .slice LA p.spec.labels.length lc, .slice IA p.spec.init.length ic, .slice MA p.spec.main.length mc, .int .i64 p.spec.restart, .int .i64 p.spec.grace, .int .i64 p.spec.prio, .int .i64 p.phase, .slice RA p.rs.length rc, .int .i64 p.mark, .int .i64 p.grace]
/-- a pod's lists -/
structure Pd.In (p : Pd) (w : World) (LA : Option Addr) (lc : Nat) (IA : Option Addr) (ic : Nat) (MA : Option Addr) (mc : Nat) (RA : Option Addr) : Prop where
  spec : p.spec.In w LA lc IA ic MA mc
  rs : Nums .i64 w RA p.rs
  nr : p.rs.length ≤ 9223372036854775807
  rev : p.rev < 18446744073709551616
theorem Pd.In.below {p : Pd} {w w' : World} {LA : Option Addr} {lc : Nat} {IA : Option Addr} {ic : Nat} {MA : Option Addr} {mc : Nat} {RA : Option Addr} (h : p.In w LA lc IA ic MA mc RA) (hb : Below w.heap.size w w') : p.In w' LA lc IA ic MA mc RA :=
  ⟨h.spec.below hb, Sd.Nums.below h.rs hb, h.nr, h.rev⟩
/-- a list of pods at A -/
def Pds (w : World) (A : Option Addr) (l : List Pd) : Prop := ∀ (k : Nat) (p : Pd), l[k]? = some p → ∃ a LA lc IA ic MA mc RA rc, A = some a ∧ a.block < w.heap.size ∧ CellsAt w (a.add (k * 13)) (p.vals LA lc IA ic MA mc RA rc) ∧ p.In w LA lc IA ic MA mc RA
theorem Pds.below {w w' : World} {A : Option Addr} {l : List Pd} (h : Pds w A l) (hb : Below w.heap.size w w') : Pds w' A l := by
  intro k x hk
  obtain ⟨a, LA, lc, IA, ic, MA, mc, RA, rc, hA, ha, hc, hi⟩ := h k x hk
  exact ⟨a, LA, lc, IA, ic, MA, mc, RA, rc, hA, Nat.lt_of_lt_of_le ha hb.size, hc.keep (by rw [add_block]; exact hb.block _ ha), hi.below hb⟩
theorem Pds.at {w : World} {A : Option Addr} {l : List Pd} (h : Pds w A l) {k : Nat} (hk : k < l.length) : ∃ a LA lc IA ic MA mc RA rc, A = some a ∧ a.block < w.heap.size ∧ CellsAt w (a.add (k * 13)) (l[k].vals LA lc IA ic MA mc RA rc) ∧ l[k].In w LA lc IA ic MA mc RA := h k _ (List.getElem?_eq_getElem hk)
theorem pds_nil (w : World) (A : Option Addr) : Pds w A [] := fun k x hk => (by simp at hk)
def useVals (u : Int × Int × Int) : List Value := [.int .i64 u.1, .int .i64 u.2.1, .int .i64 u.2.2]
/-- a list of resources at A -/
def Uses (w : World) (A : Option Addr) (l : List (Int × Int × Int)) : Prop := ∀ (k : Nat) (u : Int × Int × Int), l[k]? = some u → ∃ a, A = some a ∧ a.block < w.heap.size ∧ CellsAt w (a.add (k * 3)) (useVals u)
theorem Uses.below {w w' : World} {A : Option Addr} {l : List (Int × Int × Int)} (h : Uses w A l) (hb : Below w.heap.size w w') : Uses w' A l := by
  intro k x hk
  obtain ⟨a, hA, ha, hc⟩ := h k x hk
  exact ⟨a, hA, Nat.lt_of_lt_of_le ha hb.size, hc.keep (by rw [add_block]; exact hb.block _ ha)⟩
theorem Uses.at {w : World} {A : Option Addr} {l : List (Int × Int × Int)} (h : Uses w A l) {k : Nat} (hk : k < l.length) : ∃ a, A = some a ∧ a.block < w.heap.size ∧ CellsAt w (a.add (k * 3)) (useVals l[k]) := h k _ (List.getElem?_eq_getElem hk)
theorem uses_nil (w : World) (A : Option Addr) : Uses w A [] := fun k x hk => (by simp at hk)
/-- a reply's lists -/
structure Rp.In (y : Rp) (w : World) (PA : Option Addr) (UA : Option Addr) : Prop where
  pods : Pds w PA y.pods
  use : Uses w UA y.use
  np : y.pods.length ≤ 9223372036854775807
  nu : y.use.length ≤ 9223372036854775807
  rev : y.rev < 18446744073709551616
theorem Rp.In.below {y : Rp} {w w' : World} {PA UA : Option Addr} (h : y.In w PA UA) (hb : Below w.heap.size w w') : y.In w' PA UA := ⟨h.pods.below hb, h.use.below hb, h.np, h.nu, h.rev⟩
/-- a message's lists -/
structure Mg.In (m : Mg) (w : World) (PA UA : Option Addr) (LA : Option Addr) (lc : Nat) (IA : Option Addr) (ic : Nat) (MA : Option Addr) (mc : Nat) (RA : Option Addr) : Prop where
  reply : m.reply.In w PA UA
  pod : m.event.pod.In w LA lc IA ic MA mc RA
  rev : m.event.rev < 18446744073709551616
theorem Mg.In.below {m : Mg} {w w' : World} {PA UA : Option Addr} {LA : Option Addr} {lc : Nat} {IA : Option Addr} {ic : Nat} {MA : Option Addr} {mc : Nat} {RA : Option Addr} (h : m.In w PA UA LA lc IA ic MA mc RA) (hb : Below w.heap.size w w') : m.In w' PA UA LA lc IA ic MA mc RA :=
  ⟨h.reply.below hb, h.pod.below hb, h.rev⟩
theorem Mg.In.revs {m : Mg} {w : World} {PA UA : Option Addr} {LA : Option Addr} {lc : Nat} {IA : Option Addr} {ic : Nat} {MA : Option Addr} {mc : Nat} {RA : Option Addr} (h : m.In w PA UA LA lc IA ic MA mc RA) : revsM m := by
  refine ⟨⟨h.reply.rev, fun p hp => ?_⟩, h.rev, h.pod.rev⟩
  obtain ⟨k, hk⟩ := List.getElem?_of_mem hp
  obtain ⟨a, LA, lc, IA, ic, MA, mc, RA, rc, hA, ha, hc, hi⟩ := h.reply.pods k p hk
  exact hi.rev
end Tl
end Go.Proofs.YtaegknpijgjioaaGreatDoor
