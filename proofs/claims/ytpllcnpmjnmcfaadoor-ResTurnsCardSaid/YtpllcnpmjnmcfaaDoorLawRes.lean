/-
  What comes in as resources, and as a list of resources: numbers, their places in memory. Condition: the types can be read.
-/
import Derived.Test.YtpllcnpmjnmcfaaDoorLawSpec
import Derived.Test.YtpllcnpmjnmcfaaDoorResSum
set_option linter.unusedVariables false
namespace Go.Proofs.YtpllcnpmjnmcfaaDoor
open Go.ChangeShapes Go.WideShapes Go.ChangeAt Go.RowKit Go.ChangeMaps Go.Deep
namespace LawRes
open Lists LawKit Re NumMath
theorem res_fields : Tryd.prog.underlying 23 = some (.struct (Tryd.prog.fieldsOf 23)) := by kernel_rfl
theorem res_at : LawKit.fieldsB Tryd.prog (Tryd.prog.fieldsOf 23) [(0, 1, 3), (1, 1, 3), (2, 1, 3)] = true := by kernel_rfl
theorem res_cells : Tryd.prog.cellsOf 23 = 3 := by kernel_rfl
theorem ress_type : Tryd.prog.underlying 30 = some (.slice 23) := by kernel_rfl
theorem add_flat {a : Addr} (h : a.spot = none) (i : Nat) : a.add i = ⟨a.block, a.off + i, none⟩ := by
  obtain ⟨b, o, s⟩ := a
  simp only at h
  subst h
  unfold Addr.add
  split <;> simp_all
theorem spot_of {W : World} {a : Addr} {v : Value} (h : W.cell? a = some v) : a.spot = none := by
  unfold World.cell? at h
  split at h
  · split at h
    · cases h
    · rename_i hs
      simpa using hs
  · cases h
section
variable {H : Type} {enc : TypeId × Value → H} {W : World}
theorem fit_of {z : Int} (h : Sd.I64 z) : fits z = true := fits_iff.2 h
set_option maxRecDepth 100000 in
theorem trod_res {n : Nat} {c0 c1 c2 : Value} {y : DataW H × List MemPlace} (h : DataW.trod enc Tryd.prog W 0 (fun _ => true) true n 23 [c0, c1, c2] = some y) :
    ∃ x : Rx, [c0, c1, c2] = R3 x ∧ x.Ok := by
  obtain ⟨_, _, h0⟩ := trod_field res_fields res_at h (j := 0) rfl
  obtain ⟨_, _, h1⟩ := trod_field res_fields res_at h (j := 1) rfl
  obtain ⟨_, _, h2⟩ := trod_field res_fields res_at h (j := 2) rfl
  obtain ⟨z0, e0, i0⟩ := trod_i64 Tryd.underlying3 h0
  obtain ⟨z1, e1, i1⟩ := trod_i64 Tryd.underlying3 h1
  obtain ⟨z2, e2, i2⟩ := trod_i64 Tryd.underlying3 h2
  subst e0 e1 e2
  exact ⟨⟨z0, z1, z2⟩, rfl, ⟨fit_of i0, fit_of i1, fit_of i2⟩⟩
set_option maxRecDepth 100000 in
theorem came_res {base : Nat} {v : Value} {d : DataW H} {p : List MemPlace} (hv : Value.okWide Tryd.prog W .any base 23 v) (h : DataW.Trod enc Tryd.prog W 0 (fun _ => true) true 23 v d p) :
    ∃ x : Rx, v = .agg #[.int .i64 x.c, .int .i64 x.m, .int .i64 x.p] ∧ x.Ok := by
  have ht := res_fields
  obtain ⟨cs, rfl, hsz⟩ : ∃ cs, v = .agg cs ∧ cs.size = Tryd.prog.cellsOf 23 := by
    simp only [Value.okWide, ht] at hv
    obtain ⟨cs, h1, h2, _⟩ := hv
    exact ⟨cs, h1, h2⟩
  obtain ⟨l⟩ := cs
  match l, hsz.trans res_cells with
  | [c0, c1, c2], _ =>
    obtain ⟨fuel, h⟩ := h
    have e : (Value.agg #[c0, c1, c2]).cells.toList = [c0, c1, c2] := rfl
    rw [e] at h
    obtain ⟨x, e1, hx⟩ := trod_res h
    exact ⟨x, congrArg (fun q : List Value => Value.agg q.toArray) e1, hx⟩
set_option maxRecDepth 100000 in
theorem came_ressc {base : Nat} {v : Value} {d : DataW H} {p : List MemPlace} (hv : Value.okWide Tryd.prog W .any base 30 v) (h : DataW.Trod enc Tryd.prog W 0 (fun _ => true) true 30 v d p) :
    ∃ A c l, v = .slice A l.length c ∧ Ress W A l ∧ l.length ≤ c ∧ c ≤ 9223372036854775807 := by
  obtain ⟨a, len, cap, rfl⟩ := okWide_slice ress_type hv
  obtain ⟨fuel, hf⟩ := h
  rcases open_slice ress_type hf with h0 | ⟨a, len, cap, m, n, D, Pl, hcs, _, hl, hm, hmm, _, hi⟩
  · injection h0.1 with e1 _
    exact ⟨none, 0, [], e1, ress_nil _ _, by simp, by simp⟩
  · injection hcs with e1 _
    have hsp : 0 < len → a.spot = none := fun h0 => by
      obtain ⟨cs', hc, _⟩ := hi 0 (by rw [hmm]; simp only [if_true]; omega)
      rw [res_cells] at hc
      obtain ⟨_, hcl, hcell⟩ := World.cells?_some hc
      have h00 := hcell 0 (by omega)
      rw [List.getElem?_eq_getElem (by omega)] at h00
      have := spot_of h00
      simpa [Addr.add] using this
    obtain ⟨l, hll, hat⟩ := list_of (Q := fun i (x : Rx) => x.Ok ∧ a.block < W.heap.size ∧ a.spot = none ∧ W.rangeAt a.block (a.off + i * 3) (R3 x)) len (fun i hil => by
      obtain ⟨cs', hc, ht'⟩ := hi i (by rw [hmm]; simp only [if_true]; omega)
      rw [res_cells] at hc
      obtain ⟨_, hcl, hcell⟩ := World.cells?_some hc
      match cs', hcl with
      | [c0, c1, c2], _ =>
        obtain ⟨x, e, hx⟩ := trod_res ht'
        have hb := World.block_lt_of_cell? W _ (hcell 0 (by omega))
        rw [Lists.add_block, Lists.add_block] at hb
        have hsp := hsp (by omega)
        refine ⟨x, hx, hb, hsp, fun t u hu => ?_⟩
        have ht : t < 3 := by have := (List.getElem?_eq_some_iff.1 hu).1; simpa using this
        rw [← e] at hu
        have := hcell t (by omega)
        rw [add_flat hsp, add_flat rfl] at this
        rw [this]; exact hu)
    obtain ⟨b, o, s⟩ := a
    refine ⟨some ⟨b, o, s⟩, cap, l, by rw [e1, hll], fun k x hk => ?_, by rw [hll]; exact hl, by unfold maxLen at hm; omega⟩
    obtain ⟨h1, h2, h3, h4⟩ := hat k x hk
    simp only at h3
    subst h3
    exact ⟨h1, b, o, rfl, h2, h4⟩
set_option maxRecDepth 100000 in
theorem came_ress {base : Nat} {v : Value} {d : DataW H} {p : List MemPlace} (hv : Value.okWide Tryd.prog W .any base 30 v) (h : DataW.Trod enc Tryd.prog W 0 (fun _ => true) true 30 v d p) :
    ∃ A c l, v = .slice A l.length c ∧ Ress W A l ∧ l.length ≤ 9223372036854775807 := by
  obtain ⟨A, c, l, h1, h2, h3, h4⟩ := came_ressc hv h
  exact ⟨A, c, l, h1, h2, by omega⟩
end
end LawRes
end Go.Proofs.YtpllcnpmjnmcfaaDoor
