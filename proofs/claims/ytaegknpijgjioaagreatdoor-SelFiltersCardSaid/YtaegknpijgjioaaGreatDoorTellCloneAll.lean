/-
  A slice of one pod is built. And what follows of it, part by part, each with its conditions.
-/
import Derived.Test.YtaegknpijgjioaaGreatDoorTellRep
import Derived.Test.YtaegknpijgjioaaGreatDoorCopyAll
import Derived.Test.YtaegknpijgjioaaGreatDoorTellPod
import Derived.Test.YtaegknpijgjioaaGreatDoorTellCheck
/- A slice of one pod is built. -/
set_option linter.unusedVariables false
set_option linter.unusedSimpArgs false
namespace Go.Proofs.YtaegknpijgjioaaGreatDoor
open Go.ChangeShapes Go.WideShapes Go.ChangeAt Go.RowKit Go.Lib
namespace Tl

theorem run_buildPod (c0 c1 c2 c3 c4 c5 c6 c7 c8 c9 c10 c11 c12 : Value) (w : World) : (Instr.buildSlice 23 1 #[(0, .agg #[c0, c1, c2, c3, c4, c5, c6, c7, c8, c9, c10, c11, c12])]).run Tryz.prog w = .ok (.slice (some ⟨w.heap.size, 0, none⟩) 1 1) (w.alloc (.cells #[c0, c1, c2, c3, c4, c5, c6, c7, c8, c9, c10, c11, c12] 33)) := by
  obtain ⟨ie, hie, hz, hs, _⟩ := info_parts info_pod
  refine run_buildSlice w _ _ 1 _ _ ie _ Tryz.underlying23 hie hz (by rw [hs]; decide) (by rw [hs]; decide) ?_
  rw [hs]
  rw [show (Array.range (1 * 13)).map ((Value.agg #[.int .i64 0, .int .u64 0, .string ⟨#[]⟩, .slice none 0 0, .slice none 0 0, .slice none 0 0, .int .i64 0, .int .i64 0, .int .i64 0, .int .i64 0, .slice none 0 0, .int .i64 0, .int .i64 0]).cells[· % (Value.agg #[.int .i64 0, .int .u64 0, .string ⟨#[]⟩, .slice none 0 0, .slice none 0 0, .slice none 0 0, .int .i64 0, .int .i64 0, .int .i64 0, .int .i64 0, .slice none 0 0, .int .i64 0, .int .i64 0]).cells.size]!) = #[.int .i64 0, .int .u64 0, .string ⟨#[]⟩, .slice none 0 0, .slice none 0 0, .slice none 0 0, .int .i64 0, .int .i64 0, .int .i64 0, .int .i64 0, .slice none 0 0, .int .i64 0, .int .i64 0] from by kernel_rfl]
  simp [Instr.fill, Value.cells]
theorem wpList_buildPod {ops : Array Oper} {rest : List Oper} {op : Oper} {a : Act} {w v : World} {Q : Exit → Act → World → Prop} (hgd : op.guard = none) (x : Operand) (ho : op.op = .buildSlice 23 1 #[(0, x)]) (c0 c1 c2 c3 c4 c5 c6 c7 c8 c9 c10 c11 c12 : Value) (hx : a.eval x = .agg #[c0, c1, c2, c3, c4, c5, c6, c7, c8, c9, c10, c11, c12]) (hv : w.alloc (.cells #[c0, c1, c2, c3, c4, c5, c6, c7, c8, c9, c10, c11, c12] 33) = v)
    (h : wpList Tryz.prog ops Q rest (a.put op.dst (.slice (some ⟨w.heap.size, 0, none⟩) 1 1)) v) : wpList Tryz.prog ops Q (op :: rest) a w := by
  refine wpList_plain hgd fun K hK => ?_
  have hrun := run_buildPod c0 c1 c2 c3 c4 c5 c6 c7 c8 c9 c10 c11 c12 w
  subst hv
  unfold Oper.wp
  simp [execOp, ho, hx, hrun, Result.andThen]
  exact hK _ _ h
theorem exec_load {P : Program} {o : Oper} {a : Act} {w : World} {ty : TypeId} {x : Operand} {b off : Nat} {cs : List Value} {d : TypeDesc} (ho : o.op = .load ty x) (hx : a.eval x = .pointer (some ⟨b, off, none⟩)) (hc : w.rangeAt b off cs) (hu : P.underlying ty = some d) (hd : d.isRow = true) (hi : (P.info? ty).map (·.size) = some cs.length) : (execOp a.eval o).run P w = .ok (.value (.agg cs.toArray)) w := by
  unfold execOp
  simp [ho, hx, run_loadAt_mid w b off ty cs d hc hu hd hi]
end Tl
end Go.Proofs.YtaegknpijgjioaaGreatDoor

/- tell.Clone (a pod wholly at new places) and the laws' own SpoilPods of one pod. Condition of Clone: the pod is light; of SpoilPods: what is written is not frozen. -/
set_option linter.unusedVariables false
set_option linter.unusedSimpArgs false
namespace Go.Proofs.YtaegknpijgjioaaGreatDoor
open Go.ChangeShapes Go.WideShapes Go.ChangeAt Go.RowKit Go.Lib
open LebMath WirePure Sd Wire SpecOwn SpecRef Book Pk
namespace Tl

theorem over_13_2 (a0 a1 a2 a3 a4 a5 a6 a7 a8 a9 a10 a11 a12 b0 b1 b2 b3 b4 b5 b6 : Value) : over #[a0, a1, a2, a3, a4, a5, a6, a7, a8, a9, a10, a11, a12] 2 [b0, b1, b2, b3, b4, b5, b6] = #[a0, a1, b0, b1, b2, b3, b4, b5, b6, a9, a10, a11, a12] := by
  simp [over]
theorem nums_ab {B : Nat} {w w' : World} (k : Ab B w w') {A : Option Addr} {l : List Int} (h : Lists.Nums .i64 w A l) (hF : From B A) : Lists.Nums .i64 w' A l :=
  nums_move h k.size (fun a ha _ hl => k.block _ (hF a ha) hl)
/-- a pod that lies wholly at new places -/
structure PodFrom (B : Nat) (p : Pd) (w : World) (LA IA MA RA : Option Addr) : Prop where
  labels : Lbls w LA p.spec.labels
  lf : From B LA
  lt : Thaw w LA
  init : CtrsFrom B w IA p.spec.init
  main : CtrsFrom B w MA p.spec.main
  rs : Lists.Nums .i64 w RA p.rs
  rf : From B RA
  rt : Thaw w RA
theorem PodFrom.ab {B : Nat} {p : Pd} {w v : World} {LA IA MA RA : Option Addr} (h : PodFrom B p w LA IA MA RA) (k : Ab B w v) : PodFrom B p v LA IA MA RA :=
  ⟨lbls_ab k h.labels h.lf, h.lf, h.lt.ab k h.lf, ctrs_ab k (Nat.le_refl _) h.init, ctrs_ab k (Nat.le_refl _) h.main, nums_ab k h.rs h.rf, h.rf, h.rt.ab k h.rf⟩
theorem PodFrom.less {B B' : Nat} {p : Pd} {w : World} {LA IA MA RA : Option Addr} (h : PodFrom B p w LA IA MA RA) (hB : B' ≤ B) : PodFrom B' p w LA IA MA RA :=
  ⟨h.labels, fun a ha => Nat.le_trans hB (h.lf a ha), h.lt, ctrs_less hB h.init, ctrs_less hB h.main, h.rs, fun a ha => Nat.le_trans hB (h.rf a ha), h.rt⟩
theorem PodFrom.in {B : Nat} {p : Pd} {w v : World} {LA IA MA RA : Option Addr} {lc ic mc : Nat} {LA' IA' MA' RA' : Option Addr} {lc' ic' mc' : Nat} (h : PodFrom B p w LA IA MA RA) (hp : p.In v LA' lc' IA' ic' MA' mc' RA') : p.In w LA lc IA ic MA mc RA :=
  ⟨⟨h.labels, ctrs_in h.init, ctrs_in h.main, hp.spec.nl, hp.spec.ni, hp.spec.nm, hp.spec.restart, hp.spec.grace, hp.spec.prio⟩, h.rs, hp.nr, hp.rev⟩
/-- what was there is as it was, but for the blocks from lo to hi and block g -/
structure Spoilt (lo hi g : Nat) (w v : World) : Prop where
  os : v.os = w.os
  tape : v.tape = w.tape
  output : v.output = w.output
  size : w.heap.size ≤ v.heap.size
  block : ∀ b, b < w.heap.size → (b < lo ∨ hi ≤ b) → b ≠ g → v.heap[b]? = w.heap[b]?
end Tl
end Go.Proofs.YtaegknpijgjioaaGreatDoor
