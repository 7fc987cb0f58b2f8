/-
 A call, a spec within it, loaded at once out of a box (Derived/Deep/MidRow). No condition.
-/
import Derived.Test.YtakdhkhcndeiiaaGreatDoorAskAll
import Derived.Deep.MidRow
set_option linter.unusedVariables false
set_option linter.unusedSimpArgs false
namespace Go.Proofs.YtakdhkhcndeiiaaGreatDoor
open Go.ChangeShapes Go.WideShapes Go.ChangeAt Go.RowKit Go.Lib
namespace Ak
theorem range_at {w : World} {b : Nat} {A : Array Value} {t : TypeId} (h : w.heap[b]? = some (.cells A t (0, 0))) (o : Nat) (cs : List Value) (hcs : (A.toList.drop o).take cs.length = cs) : w.rangeAt b o cs :=
 fun j v hv => box_cell h (o + j) (by
  have hj : j < cs.length := (List.getElem?_eq_some_iff.1 hv).1
  rw [← hcs, List.getElem?_take_of_lt hj, List.getElem?_drop] at hv
  simpa using hv)
def cvals (c : Cal) (LA : Option Addr) (lc : Nat) (IA : Option Addr) (ic : Nat) (MA : Option Addr) (mc : Nat) (SA : Option Addr) (sc : Nat) : List Value := [.int .i64 c.kind, .int .i64 c.uid, .int .u64 c.rev, .string c.spec.name, .slice LA c.spec.labels.length lc, .slice IA c.spec.init.length ic, .slice MA c.spec.main.length mc, .int .i64 c.spec.restart, .int .i64 c.spec.grace, .int .i64 c.spec.prio, .int .i64 c.grace, .int .i64 c.ctr, .int .i64 c.id, .int .i64 c.most, .string c.data, .slice SA c.sel.length sc]
theorem range_call {c : Cal} {LA IA MA SA : Option Addr} {lc ic mc sc : Nat} {w : World} {b : Nat} (h : w.heap[b]? = some (.cells #[.int .i64 c.kind, .int .i64 c.uid, .int .u64 c.rev, .string c.spec.name, .slice LA c.spec.labels.length lc, .slice IA c.spec.init.length ic, .slice MA c.spec.main.length mc, .int .i64 c.spec.restart, .int .i64 c.spec.grace, .int .i64 c.spec.prio, .int .i64 c.grace, .int .i64 c.ctr, .int .i64 c.id, .int .i64 c.most, .string c.data, .slice SA c.sel.length sc] 41 (0, 0))) : w.rangeAt b 0 (cvals c LA lc IA ic MA mc SA sc) := range_at h 0 _ rfl
end Ak
end Go.Proofs.YtakdhkhcndeiiaaGreatDoor
