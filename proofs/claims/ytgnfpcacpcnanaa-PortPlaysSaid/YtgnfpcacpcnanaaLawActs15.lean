/-
  What comes in as a list of acts of a table of ports. Condition: the types can be read.
-/
import Derived.Test.YtgnfpcacpcnanaaLawKit
import Derived.Test.YtgnfpcacpcnanaaLawLists
import Derived.Test.YtgnfpcacpcnanaaPtActs
import Derived.Deep.Slices
import Derived.Deep.Fields
import Derived.ChangeSame
import Derived.ChangeSlices
namespace Go.Proofs.Ytgnfpcacpcnanaa
open Go.ChangeShapes Go.WideShapes Go.ChangeAt Go.RowKit Go.ChangeMaps Go.Deep
namespace LawKit
section
variable {H : Type} {enc : TypeId × Value → H} {P : Program} {w : World} {base : Nat} {spare : Nat → Bool} {held : Bool}

/-- a list of structs that came in (fields of one cell each) -/
theorem open_fields {t e : TypeId} {fs : Array Field} {fuel : Nat} {cs : List Value} {x : DataW H × List MemPlace} (ht : P.underlying t = some (.slice e)) (he : P.underlying e = some (.struct fs))
    (hone : oneCellFields P fs = true) (hC : P.cellsOf e = fs.size) (h : DataW.trod enc P w base spare held fuel t cs = some x) :
    (cs = [.slice none 0 0]) ∨
    ∃ (a : Addr) (len cap : Nat), cs = [.slice (some a) len cap] ∧ cap ≤ maxLen ∧ len ≤ cap ∧
      ∀ i, i < len → ∀ (j : Nat) (f : Field), fs[j]? = some f → ∃ (v : Value) (y : DataW H × List MemPlace) (n : Nat), w.cell? (a.add (i * fs.size + j)) = some v ∧ DataW.trod enc P w base spare held n f.type [v] = some y := by
  rcases open_slice ht h with h0 | ⟨a, len, cap, m, n, D, Pl, hcs, _, hl, hm, hmm, _, hi⟩
  · exact .inl h0.1
  · refine .inr ⟨a, len, cap, hcs, hm, hl, fun i him j f hj => ?_⟩
    obtain ⟨cs', hc, ht'⟩ := hi i (by rw [hmm]; split <;> omega)
    rw [hC] at hc
    obtain ⟨ys, n', hn', hy, hlen, hyl, hf⟩ := DataW.trod_struct he ht'
    obtain ⟨_, hcl, hat⟩ := World.cells?_some hc
    obtain ⟨ho, hk⟩ := hone_of hone j f hj
    have hjl : j < fs.size := (Array.getElem?_eq_some_iff.1 hj).1
    have hcell := hat j hjl
    have hv : cs'[j]? = some (cs'[j]'(by omega)) := List.getElem?_eq_getElem (by omega)
    have h1 := hf j f hj
    rw [ho, hk] at h1
    have hone' : (cs'.drop j).take 1 = [cs'[j]'(by omega)] := by
      rw [List.drop_eq_getElem_cons (by omega)]
      rfl
    rw [hone'] at h1
    have hys : ys[j]? = some (ys[j]'(by omega)) := List.getElem?_eq_getElem (by omega)
    refine ⟨_, _, _, ?_, h1.trans hys⟩
    rw [← Go.Deep.add_add, hcell, hv]
theorem field_int {t : TypeId} {k : IntKind} {n : Nat} {v : Value} {y : DataW H × List MemPlace} (ht : P.underlying t = some (.int k)) (h : DataW.trod enc P w base spare held n t [v] = some y) : ∃ z, v = .int k z ∧ (Lit.int k z).wf = true := by
  obtain ⟨z, e, _, hw⟩ := DataW.trod_int ht h
  simp at e
  exact ⟨z, e, hw⟩
theorem field_nums {t e : TypeId} {k : IntKind} {n : Nat} {v : Value} {y : DataW H × List MemPlace} (ht : P.underlying t = some (.slice e)) (he : P.underlying e = some (.int k)) (hce : P.cellsOf e = 1) (h : DataW.trod enc P w base spare true n t [v] = some y) :
    ∃ A c zs, v = .slice A zs.length c ∧ Lists.Nums k w A zs ∧ zs.length ≤ 9223372036854775807 ∧ (A = none → c = 0) := by
  rcases open_ints ht he hce h with ⟨hcs, _⟩ | ⟨ad, len, cap, zs, hcs, _, hl, hm, hz, _, hcell, hw⟩
  · injection hcs with e1 _
    subst e1
    exact ⟨none, 0, [], rfl, fun k x hk => by simp at hk, by simp, fun _ => rfl⟩
  · injection hcs with e1 _
    subst e1
    have hzl : len ≤ zs.length := by
      revert hz
      split <;> intro hz <;> omega
    have hlen : (zs.take len).length = len := by rw [List.length_take]; omega
    refine ⟨some ad, cap, zs.take len, by rw [hlen], fun k x hk => ?_, by rw [hlen]; unfold maxLen at hm; omega, fun h => by cases h⟩
    have hk1 : k < len := by
      rcases Nat.lt_or_ge k len with h | h
      · exact h
      · rw [List.getElem?_eq_none (by omega)] at hk; cases hk
    rw [List.getElem?_take_of_lt hk1] at hk
    have hc := hcell k (by omega)
    rw [List.getD_eq_getElem?_getD, hk] at hc
    have hb := World.block_lt_of_cell? w _ hc
    rw [Lists.add_block] at hb
    exact ⟨hw x (List.mem_of_getElem? hk), ad, rfl, hb, hc⟩
/-- A LIST OF ACTS THAT CAME IN -/
theorem open_acts15 {t e ti tn : TypeId} {f0 f1 f2 : Field} (ht : P.underlying t = some (.slice e)) (he : P.underlying e = some (.struct #[f0, f1, f2])) (hone : oneCellFields P #[f0, f1, f2] = true) (hC : P.cellsOf e = 3)
    (hi : P.underlying ti = some (.int .i64)) (hn : P.underlying tn = some (.slice ti)) (hci : P.cellsOf ti = 1) (e0 : f0.type = ti) (e1 : f1.type = ti) (e2 : f2.type = tn)
    {W : World} {base : Nat} {v : Value} {d : DataW H} {p : List MemPlace} (hv : Value.okWide P W .any base t v) (h : DataW.Trod enc P W 0 (fun _ => true) true t v d p) :
    ∃ A c l, v = .slice A l.length c ∧ Pt.Acts W A l ∧ l.length ≤ 9223372036854775807 := by
  obtain ⟨a, len, cap, rfl⟩ := okWide_slice ht hv
  obtain ⟨fuel, hf⟩ := h
  have hone1 : (Value.slice a len cap).cells.toList = [.slice a len cap] := rfl
  rw [hone1] at hf
  rcases open_fields ht he hone hC hf with hcs | ⟨ad, len', cap', hcs, hm, hl, hat⟩
  · injection hcs with e1 _
    injection e1 with e1 e2 e3
    subst e1 e2 e3
    exact ⟨none, 0, [], rfl, fun k x hk => by simp at hk, by simp⟩
  · injection hcs with e1 _
    injection e1 with e1 e2 e3
    subst e1 e2 e3
    have each : ∀ i, i < len → ∃ x : Pt.Ac, x.In W ∧ ad.block < W.heap.size ∧ x.cellsAt W (ad.add (i * 3)) := by
      intro i hi'
      obtain ⟨v0, y0, n0, c0, t0⟩ := hat i hi' 0 f0 rfl
      obtain ⟨v1, y1, n1, c1, t1⟩ := hat i hi' 1 f1 rfl
      obtain ⟨v2, y2, n2, c2, t2⟩ := hat i hi' 2 f2 rfl
      obtain ⟨z0, rfl, w0⟩ := field_int (t := f0.type) (by rw [‹f0.type = ti›]; exact hi) t0
      obtain ⟨z1, rfl, w1⟩ := field_int (t := f1.type) (by rw [‹f1.type = ti›]; exact hi) t1
      obtain ⟨A2, k2, zs, rfl, hN, hL, hZ⟩ := field_nums (t := f2.type) (e := ti) (by rw [‹f2.type = tn›]; exact hn) hi hci t2
      simp only [Lit.wf, IntKind.min, IntKind.max, Bool.and_eq_true] at w1
      have k0 := World.block_lt_of_cell? W _ c0
      rw [Lists.add_block] at k0
      have ed : ∀ j, (ad.add (i * 3)).add j = ad.add (i * 3 + j) := fun j => Go.Deep.add_add ad (i * 3) j
      refine ⟨⟨z0, z1, zs, A2, k2⟩, ⟨by simp [IntKind.signed, IntKind.bits] at w1; show -9223372036854775808 ≤ z1 ∧ z1 ≤ 9223372036854775807; omega, hN, hL, hZ⟩, k0, ?_⟩
      refine ⟨?_, ?_, ?_⟩
      · exact c0
      · exact (congrArg W.cell? (ed 1)).trans c1
      · exact (congrArg W.cell? (ed 2)).trans c2
    obtain ⟨l, hll, hl'⟩ : ∃ l : List Pt.Ac, l.length = len ∧ ∀ (k : Nat) (x : Pt.Ac), l[k]? = some x → x.In W ∧ ad.block < W.heap.size ∧ x.cellsAt W (ad.add (k * 3)) := by
      clear hat hm hl hf hv
      induction len with
      | zero => exact ⟨[], rfl, fun k x hk => by simp at hk⟩
      | succ n ih =>
        obtain ⟨l, h1, h2⟩ := ih rfl (fun i hi => each i (by omega))
        obtain ⟨x, hx⟩ := each n (by omega)
        refine ⟨l ++ [x], by simp [h1], fun k y hk => ?_⟩
        rcases Nat.lt_trichotomy k n with hlt | rfl | hgt
        · rw [List.getElem?_append_left (by omega)] at hk
          exact h2 k y hk
        · rw [List.getElem?_append_right (by omega), h1] at hk
          simp at hk
          subst hk
          exact hx
        · rw [List.getElem?_append_right (by omega)] at hk
          rw [List.getElem?_eq_none (by simp; omega)] at hk
          cases hk
    refine ⟨some ad, cap, l, by rw [hll], fun k x hk => ?_, by rw [hll]; unfold maxLen at hm; omega⟩
    obtain ⟨h1, h2, h3⟩ := hl' k x hk
    exact ⟨h1, ad, rfl, h2, h3⟩
end
end LawKit
end Go.Proofs.Ytgnfpcacpcnanaa
