/-
  What reads a reply (tell.takeReply): the reply of the bytes, in memory of the call's own; the reader behind. What was there, but the reader, is left as it was. Condition: the bytes are few (PackTake).
-/
import Derived.Test.YtaegknpijgjioaaGreatDoorTellRow
set_option linter.unusedVariables false
set_option linter.unusedSimpArgs false
namespace Go.Proofs.YtaegknpijgjioaaGreatDoor
open Go.ChangeShapes Go.WideShapes Go.ChangeAt Go.RowKit Go.Lib
open LebMath WirePure Sd Wire SpecOwn SpecRef Book Pk
namespace Tl
theorem GatP.moved {B : Nat} {w w' : World} {v v' : Value} {L : List HP} (h : GatP B w v L) (hv : v'.ownBlock = v.ownBlock ∨ ∃ r, v'.ownBlock = some r ∧ w.heap.size ≤ r) (hs : w.heap.size ≤ w'.heap.size) (hb : ∀ i, B ≤ i → i < w.heap.size → (∀ r, v.ownBlock = some r → i ≠ r) → w'.heap[i]? = w.heap[i]?) : GatP B w' v' L := fun t ht => by
  obtain ⟨h1, h2, h3, h4, _⟩ := (h.move hs hb) t ht
  obtain ⟨_, _, _, _, h5⟩ := (h.row hv) t ht
  exact ⟨h1, h2, h3, h4, h5⟩
theorem podsup_less {B B' : Nat} {w : World} {A : Option Addr} {l : List Pd} (h : PodsUp B w A l) (hB : B' ≤ B) : PodsUp B' w A l := fun k p hk => by
  obtain ⟨a, LA, lc, IA, ic, MA, mc, RA, rc, h1, h2, h3, h4, h5⟩ := h k p hk
  exact ⟨a, LA, lc, IA, ic, MA, mc, RA, rc, h1, Nat.le_trans hB h2, h3, h4, h5.less hB⟩
theorem usesup_less {B B' : Nat} {w : World} {A : Option Addr} {l : List (Int × Int × Int)} (h : UsesUp B w A l) (hB : B' ≤ B) : UsesUp B' w A l := fun k u hk => by
  obtain ⟨a, h1, h2, h3, h4⟩ := h k u hk
  exact ⟨a, h1, Nat.le_trans hB h2, h3, h4⟩
theorem over_7 (a0 a1 a2 a3 a4 a5 a6 b0 b1 b2 b3 b4 b5 b6 : Value) : over #[a0, a1, a2, a3, a4, a5, a6] 0 [b0, b1, b2, b3, b4, b5, b6] = #[b0, b1, b2, b3, b4, b5, b6] := by
  simp [over]
theorem info_pod : (Tryz.prog.info? 33).map (fun i => (i.zero, i.size, i.bytes)) = some (some (.agg #[.int .i64 0, .int .u64 0, .string ⟨#[]⟩, .slice none 0 0, .slice none 0 0, .slice none 0 0, .int .i64 0, .int .i64 0, .int .i64 0, .int .i64 0, .slice none 0 0, .int .i64 0, .int .i64 0]), 13, 176) := by kernel_rfl
theorem info_use : (Tryz.prog.info? 72).map (fun i => (i.zero, i.size, i.bytes)) = some (some (.agg #[.int .i64 0, .int .i64 0, .int .i64 0]), 3, 24) := by kernel_rfl
end Tl
end Go.Proofs.YtaegknpijgjioaaGreatDoor
