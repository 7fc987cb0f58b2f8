/-
  What comes in as a list of texts, or as a list of numbers. Condition: the types can be read.
-/
import Derived.Test.YtgnfpcacpcnanaaLawKit
import Derived.Test.YtgnfpcacpcnanaaLists
import Derived.SliceStrings
namespace Go.Proofs.Ytgnfpcacpcnanaa
open Go.ChangeShapes Go.WideShapes Go.ChangeAt Go.RowKit Go.ChangeMaps
namespace LawKit
section
variable {H : Type} {enc : TypeId × Value → H} {P : Program}

theorem lists_texts {t e : TypeId} (ht : P.underlying t = some (.slice e)) (he : P.underlying e = some .string) (hce : P.cellsOf e = 1) {W : World} {base : Nat} {v : Value} {d : DataW H} {p : List MemPlace} (hv : Value.okWide P W .any base t v) (h : DataW.Trod enc P W 0 (fun _ => true) true t v d p) :
    ∃ A c xs, v = .slice A xs.length c ∧ Lists.Texts W A xs ∧ xs.length ≤ 9223372036854775807 := by
  obtain ⟨a, len, cap, rfl⟩ := okWide_slice ht hv
  obtain ⟨fuel, hf⟩ := h
  have hone : (Value.slice a len cap).cells.toList = [.slice a len cap] := rfl
  rw [hone] at hf
  rcases open_strings ht he hce hf with ⟨hcs, _⟩ | ⟨ad, len', cap', ss, hcs, _, hl, hm, hz, _, hcell, _⟩
  · injection hcs with e1 _
    injection e1 with e1 e2 e3
    subst e1 e2 e3
    exact ⟨none, 0, [], rfl, fun k x hk => by simp at hk, by simp⟩
  · injection hcs with e1 _
    injection e1 with e1 e2 e3
    subst e1 e2 e3
    simp only [if_true] at hz
    have hlen : (ss.take len).length = len := by rw [List.length_take]; omega
    refine ⟨some ad, cap, ss.take len, by rw [hlen], fun k x hk => ⟨ad, rfl, ?_⟩, by rw [hlen]; unfold maxLen at hm; omega⟩
    have hk1 : k < len := by
      rcases Nat.lt_or_ge k len with h | h
      · exact h
      · rw [List.getElem?_eq_none (by omega)] at hk; cases hk
    rw [List.getElem?_take_of_lt hk1] at hk
    have := hcell k (by omega)
    rw [List.getD_eq_getElem?_getD, hk] at this
    have hb := World.block_lt_of_cell? W _ this
    rw [Lists.add_block] at hb
    exact ⟨hb, this⟩

theorem lists_nums {t e : TypeId} {k : IntKind} (ht : P.underlying t = some (.slice e)) (he : P.underlying e = some (.int k)) (hce : P.cellsOf e = 1) {W : World} {base : Nat} {v : Value} {d : DataW H} {p : List MemPlace} (hv : Value.okWide P W .any base t v) (h : DataW.Trod enc P W 0 (fun _ => true) true t v d p) :
    ∃ A c zs, v = .slice A zs.length c ∧ Lists.Nums k W A zs ∧ zs.length ≤ 9223372036854775807 := by
  obtain ⟨a, len, cap, rfl⟩ := okWide_slice ht hv
  obtain ⟨fuel, hf⟩ := h
  have hone : (Value.slice a len cap).cells.toList = [.slice a len cap] := rfl
  rw [hone] at hf
  rcases open_ints ht he hce hf with ⟨hcs, _⟩ | ⟨ad, len', cap', zs, hcs, _, hl, hm, hz, _, hcell, hw⟩
  · injection hcs with e1 _
    injection e1 with e1 e2 e3
    subst e1 e2 e3
    exact ⟨none, 0, [], rfl, fun k x hk => by simp at hk, by simp⟩
  · injection hcs with e1 _
    injection e1 with e1 e2 e3
    subst e1 e2 e3
    simp only [if_true] at hz
    have hlen : (zs.take len).length = len := by rw [List.length_take]; omega
    refine ⟨some ad, cap, zs.take len, by rw [hlen], fun k x hk => ?_, by rw [hlen]; unfold maxLen at hm; omega⟩
    have hk1 : k < len := by
      rcases Nat.lt_or_ge k len with h | h
      · exact h
      · rw [List.getElem?_eq_none (by omega)] at hk; cases hk
    rw [List.getElem?_take_of_lt hk1] at hk
    have hc := hcell k (by omega)
    rw [List.getD_eq_getElem?_getD, hk] at hc
    have hb := World.block_lt_of_cell? W _ hc
    rw [Lists.add_block] at hb
    exact ⟨hw x (List.mem_of_getElem? hk), ad, rfl, hb, hc⟩
end
end LawKit
end Go.Proofs.Ytgnfpcacpcnanaa
