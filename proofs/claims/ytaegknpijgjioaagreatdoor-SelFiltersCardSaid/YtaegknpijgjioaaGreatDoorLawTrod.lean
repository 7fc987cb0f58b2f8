/-
  What comes in within a struct: a number of Go's uint64, a spec, whatever struct it stands in. Condition: the types can be read.
-/
import Derived.Test.YtaegknpijgjioaaGreatDoorLaidAll
namespace Go.Proofs.YtaegknpijgjioaaGreatDoor
open Go.ChangeShapes Go.WideShapes Go.ChangeAt Go.RowKit Go.ChangeMaps Go.Deep
namespace LawKit
open Sd Lists
section
variable {H : Type} {enc : TypeId × Value → H} {P : Program} {W : World}
theorem trod_u64 {t : TypeId} (ht : P.underlying t = some (.int .u64)) {n : Nat} {v : Value} {y : DataW H × List MemPlace} (h : DataW.trod enc P W 0 (fun _ => true) true n t [v] = some y) : ∃ z : Nat, v = .int .u64 z ∧ z < 18446744073709551616 := by
  obtain ⟨z, e, _, hw⟩ := DataW.trod_int ht h
  simp at e
  simp only [Lit.wf, IntKind.min, IntKind.max, Bool.and_eq_true] at hw
  simp [IntKind.signed, IntKind.bits] at hw
  refine ⟨z.toNat, ?_, by omega⟩
  rw [e, Int.toNat_of_nonneg (by omega)]
theorem trod_spec (T : Types P) {t : TypeId} {fs : Array Field} (ht : P.underlying t = some (.struct fs)) (hf : fieldsB P fs [(0, 1, T.ts), (1, 1, T.tls), (2, 1, T.tcs), (3, 1, T.tcs), (4, 1, T.ti), (5, 1, T.ti), (6, 1, T.ti)] = true)
    {n : Nat} {c0 c1 c2 c3 c4 c5 c6 : Value} {y : DataW H × List MemPlace} (h : DataW.trod enc P W 0 (fun _ => true) true n t [c0, c1, c2, c3, c4, c5, c6] = some y) :
    ∃ (S : Spc) (LA : Option Addr) (lc : Nat) (IA : Option Addr) (ic : Nat) (MA : Option Addr) (mc : Nat), (c0 = .string S.name ∧ c1 = .slice LA S.labels.length lc ∧ c2 = .slice IA S.init.length ic ∧ c3 = .slice MA S.main.length mc ∧ c4 = .int .i64 S.restart ∧ c5 = .int .i64 S.grace ∧ c6 = .int .i64 S.prio) ∧ S.In W LA lc IA ic MA mc ∧ (S.labels.length ≤ lc ∧ lc ≤ 9223372036854775807) ∧ (S.init.length ≤ ic ∧ ic ≤ 9223372036854775807) ∧ (S.main.length ≤ mc ∧ mc ≤ 9223372036854775807) := by
  obtain ⟨_, _, h0⟩ := trod_field ht hf h (j := 0) rfl
  obtain ⟨_, _, h1⟩ := trod_field ht hf h (j := 1) rfl
  obtain ⟨_, _, h2⟩ := trod_field ht hf h (j := 2) rfl
  obtain ⟨_, _, h3⟩ := trod_field ht hf h (j := 3) rfl
  obtain ⟨_, _, h4⟩ := trod_field ht hf h (j := 4) rfl
  obtain ⟨_, _, h5⟩ := trod_field ht hf h (j := 5) rfl
  obtain ⟨_, _, h6⟩ := trod_field ht hf h (j := 6) rfl
  obtain ⟨s, e0⟩ := trod_text T.hs h0
  obtain ⟨LA, lc, ls, e1, hL, nL, kL⟩ := trod_lbls T h1
  obtain ⟨IA, ic, is, e2, hI, nI, kI⟩ := trod_ctrs T h2
  obtain ⟨MA, mc, ms, e3, hM, nM, kM⟩ := trod_ctrs T h3
  obtain ⟨z4, e4, i4⟩ := trod_i64 T.hi h4
  obtain ⟨z5, e5, i5⟩ := trod_i64 T.hi h5
  obtain ⟨z6, e6, i6⟩ := trod_i64 T.hi h6
  exact ⟨⟨s, ls, is, ms, z4, z5, z6⟩, LA, lc, IA, ic, MA, mc, ⟨e0, e1, e2, e3, e4, e5, e6⟩, ⟨hL, hI, hM, nL, nI, nM, i4, i5, i6⟩, kL, kI, kM⟩
end
end LawKit
end Go.Proofs.YtaegknpijgjioaaGreatDoor
