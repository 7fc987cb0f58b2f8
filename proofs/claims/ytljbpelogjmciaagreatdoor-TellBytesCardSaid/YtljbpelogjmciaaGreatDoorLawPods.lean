/-
 What comes in as a pod, and as a list of pods: its value, its lists in memory. Condition: the types can be read.
-/
import Derived.Test.YtljbpelogjmciaaGreatDoorLaidTAll
import Derived.Test.YtljbpelogjmciaaGreatDoorTellA
set_option linter.unusedVariables false
namespace Go.Proofs.YtljbpelogjmciaaGreatDoor
open Go.ChangeShapes Go.WideShapes Go.ChangeAt Go.RowKit Go.ChangeMaps Go.Deep
namespace LaidTell
open Sd Lists LawKit Tl
theorem pod_fields : Tryz.prog.underlying 42 = some (.struct (Tryz.prog.fieldsOf 42)) := by kernel_rfl
theorem pod_at : LawKit.fieldsB Tryz.prog (Tryz.prog.fieldsOf 42) [(0, 1, 3), (1, 1, 39), (2, 7, 28), (9, 1, 3), (10, 1, 40), (11, 1, 3), (12, 1, 3)] = true := by kernel_rfl
theorem pod_cells : Tryz.prog.cellsOf 42 = 13 := by kernel_rfl
theorem u64_type : Tryz.prog.underlying 39 = some (.int .u64) := by kernel_rfl
theorem pods_type : Tryz.prog.underlying 43 = some (.slice 42) := by kernel_rfl
theorem cells_of {W : World} {p : Addr} {cs : List Value} {n : Nat} (h : ∀ j, j < n → W.cell? (p.add j) = cs[j]?) (hn : n = cs.length := by rfl) : CellsAt W p cs := by
 subst hn
 cases cs with
 | nil => trivial
 | cons v vs =>
  refine ⟨?_, fun i x hx => ?_⟩
  · have h0 := h 0 (by simp)
    simpa [Addr.add] using h0
  · have h1 := h (i + 1) (by have := (List.getElem?_eq_some_iff.1 hx).1; simp; omega)
    rw [LawKit.add_lit p (i + 1) (by omega)] at h1
    rw [h1]
    simpa using hx
section
variable {H : Type} {enc : TypeId × Value → H} {W : World}
set_option maxRecDepth 100000 in
theorem trod_pod {n : Nat} {c0 c1 c2 c3 c4 c5 c6 c7 c8 c9 c10 c11 c12 : Value} {y : DataW H × List MemPlace} (h : DataW.trod enc Tryz.prog W 0 (fun _ => true) true n 42 [c0, c1, c2, c3, c4, c5, c6, c7, c8, c9, c10, c11, c12] = some y) :
 ∃ (p : Pd) (LA : Option Addr) (lc : Nat) (IA : Option Addr) (ic : Nat) (MA : Option Addr) (mc : Nat) (RA : Option Addr) (rc : Nat), [c0, c1, c2, c3, c4, c5, c6, c7, c8, c9, c10, c11, c12] = p.vals LA lc IA ic MA mc RA rc ∧ p.In W LA lc IA ic MA mc RA := by
 obtain ⟨_, _, h0⟩ := trod_field pod_fields pod_at h (j := 0) rfl
 obtain ⟨_, _, h1⟩ := trod_field pod_fields pod_at h (j := 1) rfl
 obtain ⟨_, _, h2⟩ := trod_field pod_fields pod_at h (j := 2) rfl
 obtain ⟨_, _, h3⟩ := trod_field pod_fields pod_at h (j := 3) rfl
 obtain ⟨_, _, h4⟩ := trod_field pod_fields pod_at h (j := 4) rfl
 obtain ⟨_, _, h5⟩ := trod_field pod_fields pod_at h (j := 5) rfl
 obtain ⟨_, _, h6⟩ := trod_field pod_fields pod_at h (j := 6) rfl
 obtain ⟨z0, e0, i0⟩ := trod_i64 LaidSpec.types.hi h0
 obtain ⟨z1, e1, i1⟩ := trod_u64 u64_type h1
 obtain ⟨S, LA, lc, IA, ic, MA, mc, ⟨a0, a1, a2, a3, a4, a5, a6⟩, hS, kL, kI, kM⟩ := trod_spec LaidSpec.types LaidSpec.spec_fields LaidSpec.spec_at h2
 obtain ⟨z3, e3, i3⟩ := trod_i64 LaidSpec.types.hi h3
 obtain ⟨RA, rc, rs, e4, hN, nN, kN⟩ := trod_nums LaidSpec.types.hn LaidSpec.types.hi LaidSpec.types.ci h4
 obtain ⟨z5, e5, i5⟩ := trod_i64 LaidSpec.types.hi h5
 obtain ⟨z6, e6, i6⟩ := trod_i64 LaidSpec.types.hi h6
 subst e0 e1 a0 a1 a2 a3 a4 a5 a6 e3 e4 e5 e6
 exact ⟨⟨z0, z1, S, z3, rs, z5, z6⟩, LA, lc, IA, ic, MA, mc, RA, rc, rfl, ⟨hS, hN, nN, i1⟩⟩
theorem trod_pods {n : Nat} {v : Value} {y : DataW H × List MemPlace} (h : DataW.trod enc Tryz.prog W 0 (fun _ => true) true n 43 [v] = some y) :
 ∃ A c l, v = .slice A l.length c ∧ Pds W A l ∧ l.length ≤ 9223372036854775807 := by
 rcases open_slice pods_type h with h0 | ⟨a, len, cap, m, n, D, Pl, hcs, _, hl, hm, hmm, _, hi⟩
 · injection h0.1 with e1 _
   exact ⟨none, 0, [], e1, pds_nil _ _, by simp⟩
 · injection hcs with e1 _
   obtain ⟨l, hll, hat⟩ := list_of (Q := fun i (x : Pd) => a.block < W.heap.size ∧ ∃ LA lc IA ic MA mc RA rc, CellsAt W (a.add (i * 13)) (x.vals LA lc IA ic MA mc RA rc) ∧ x.In W LA lc IA ic MA mc RA) len (fun i hil => by
    obtain ⟨cs', hc, ht'⟩ := hi i (by rw [hmm]; simp only [if_true]; omega)
    rw [pod_cells] at hc
    obtain ⟨_, hcl, hcell⟩ := World.cells?_some hc
    match cs', hcl with
    | [c0, c1, c2, c3, c4, c5, c6, c7, c8, c9, c10, c11, c12], _ =>
     obtain ⟨x, LA, lc, IA, ic, MA, mc, RA, rc, e, hx⟩ := trod_pod ht'
     have hb := World.block_lt_of_cell? W _ (hcell 0 (by omega))
     rw [Lists.add_block, Lists.add_block] at hb
     refine ⟨x, hb, LA, lc, IA, ic, MA, mc, RA, rc, ?_, hx⟩
     rw [← e]
     exact cells_of hcell)
   refine ⟨some a, cap, l, by rw [e1, hll], fun k x hk => ?_, by rw [hll]; unfold maxLen at hm; omega⟩
   obtain ⟨hb, LA, lc, IA, ic, MA, mc, RA, rc, hc, hx⟩ := hat k x hk
   exact ⟨a, LA, lc, IA, ic, MA, mc, RA, rc, rfl, hb, hc, hx⟩
end
end LaidTell
end Go.Proofs.YtljbpelogjmciaaGreatDoor
