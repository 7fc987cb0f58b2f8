/-
 Containers gathered in a row of the call's own, their ports where they were: what keeps them, one more behind them. No condition.
-/
import Derived.Test.YtljbpelogjmciaaGreatDoorSpecDataAll
import Derived.Laws.AppendOwn
import Derived.Laws.OwnMore
import Derived.Deep.AppendLies
namespace Go.Proofs.YtljbpelogjmciaaGreatDoor
open Go.RowKit
namespace Sd
open Lists
structure Held where
 x : Ctr
 P : Option Addr
 c : Nat
def Held.cells (t : Held) : List Value := t.x.cells t.P t.c
def flat : List Held → List Value
 | [] => []
 | t :: L => t.cells ++ flat L
theorem Held.cells_length (t : Held) : t.cells.length = 11 := rfl
theorem flat_length : ∀ L : List Held, (flat L).length = L.length * 11
 | [] => rfl
 | t :: L => by rw [flat, List.length_append, flat_length L, t.cells_length, List.length_cons]; omega
theorem flat_snoc : ∀ (L : List Held) (t : Held), flat (L ++ [t]) = flat L ++ t.cells
 | [], t => by simp [flat]
 | u :: L, t => by rw [List.cons_append, flat, flat_snoc L t, flat, List.append_assoc]
theorem flat_at : ∀ {L : List Held} {k : Nat} {t : Held}, L[k]? = some t → ∀ j, j < 11 → (flat L)[k * 11 + j]? = t.cells[j]?
 | [], _, _, h, _, _ => by simp at h
 | u :: L, 0, t, h, j, hj => by
  simp only [List.getElem?_cons_zero, Option.some.injEq] at h
  subst h; rw [flat, Nat.zero_mul, Nat.zero_add, List.getElem?_append_left (by rw [Held.cells_length]; exact hj)]
 | u :: L, k + 1, t, h, j, hj => by
  rw [flat, List.getElem?_append_right (by rw [Held.cells_length]; omega), Held.cells_length, show (k + 1) * 11 + j - 11 = k * 11 + j by omega]
  exact flat_at (by simpa using h) j hj
structure Held.Ok (t : Held) (w : World) : Prop where
 fits : t.x.Fits
 ports : Nums .i64 w t.P t.x.ports
 room : t.x.ports.length ≤ t.c
structure Gathered (e : TypeId) (w0 w : World) (v : Value) (L : List Held) : Prop where
 own : w.ownsRow w0.heap.size e 11 v L.length (flat L)
 held : ∀ t ∈ L, t.Ok w0
 below : Below w0.heap.size w0 w
theorem Gathered.nil (e : TypeId) {w0 w : World} (h : Below w0.heap.size w0 w) : Gathered e w0 w (.slice none 0 0) [] := ⟨World.ownsRow_nil _ _ _ _, fun t ht => by simp at ht, h⟩
theorem Gathered.next {e : TypeId} {w0 w w' : World} {v : Value} {L : List Held} (h : Gathered e w0 w v L) (hb : Below w.heap.size w w') : Gathered e w0 w' v L := by
 refine ⟨⟨h.own.1, ?_⟩, h.held, h.below.trans (hb.mono h.below.size)⟩
 rcases h.own.2 with h2 | ⟨g, cap, cur, e1, e2, e3, e4⟩
 · exact .inl h2
 · have hlt : g < w.heap.size := by
    rcases Nat.lt_or_ge g w.heap.size with hl | hl
    · exact hl
    · rw [Array.getElem?_eq_none hl] at e3; cases e3
   exact .inr ⟨g, cap, cur, e1, e2, (hb.block g hlt).trans e3, e4⟩
theorem Gathered.ctrs {e : TypeId} {w0 w : World} {v : Value} {L : List Held} (h : Gathered e w0 w v L) : ∃ A c, v = .slice A (L.map (·.x)).length c ∧ Ctrs w A (L.map (·.x)) := by
 rcases h.own.2 with ⟨e1, h0⟩ | ⟨g, cap, cur, e1, e2, e3, e4⟩
 · have : L = [] := List.length_eq_zero_iff.1 h0
   subst this
   exact ⟨none, 0, e1, fun k x hk => by simp at hk⟩
 · have hlt : g < w.heap.size := by
    rcases Nat.lt_or_ge g w.heap.size with hl | hl
    · exact hl
    · rw [Array.getElem?_eq_none hl] at e3; cases e3
   refine ⟨some ⟨g, 0, none⟩, cap, by rw [List.length_map]; exact e1, fun k x hk => ?_⟩
   rw [List.getElem?_map, Option.map_eq_some_iff] at hk
   obtain ⟨t, ht, rfl⟩ := hk
   have ho := h.held t (List.mem_of_getElem? ht)
   have hkl : k < L.length := (List.getElem?_eq_some_iff.1 ht).1
   have hown := h.own
   rw [e1] at hown
   have hc : ∀ j, j < 11 → w.cell? ⟨g, k * 11 + j, none⟩ = t.cells[j]? := fun j hj => by
    rw [hown.cellAt (k * 11 + j) (by omega), flat_at ht j hj]
   have e0 : (⟨g, 0, none⟩ : Addr).add (k * 11) = ⟨g, k * 11, none⟩ := by unfold Addr.add; split <;> simp_all
   refine ⟨ho.fits, _, t.P, t.c, rfl, hlt, ?_, Nums.below ho.ports h.below⟩
   rw [e0]
   exact ⟨hc 0 (by omega), hc 1 (by omega), hc 2 (by omega), hc 3 (by omega), hc 4 (by omega), hc 5 (by omega), hc 6 (by omega), hc 7 (by omega), hc 8 (by omega), hc 9 (by omega), hc 10 (by omega), ho.room⟩
theorem Gathered.push {e : TypeId} {w0 w w' : World} {v v' : Value} {L : List Held} {t : Held} (h : Gathered e w0 w v L) (ht : t.Ok w0) (ho : w'.ownsRow w0.heap.size e 11 v' (L.length + 1) (flat L ++ t.cells)) (hg : w.grownBy w' v.ownBlock) : Gathered e w0 w' v' (L ++ [t]) := by
 refine ⟨?_, fun u hu => ?_, ?_⟩
 · rw [flat_snoc, List.length_append]; exact ho
 · rcases List.mem_append.1 hu with hu | hu
   · exact h.held u hu
   · rw [List.mem_singleton.1 hu]; exact ht
 · have hb := h.below
   refine ⟨hg.os.trans hb.os, hg.tape.trans hb.tape, hg.output.trans hb.output, Nat.le_trans hb.size hg.size, fun k hk => (hg.block k (Nat.lt_of_lt_of_le hk hb.size) fun e1 => ?_).trans (hb.block k hk)⟩
   have := (h.own.lt k e1.symm).1
   omega
theorem Ctrs.held {w : World} {A : Option Addr} {l : List Ctr} (h : Ctrs w A l) {k : Nat} (hk : k < l.length) : ∃ (t : Held) (a : Addr), t.x = l[k] ∧ t.Ok w ∧ A = some a ∧ a.block < w.heap.size ∧ t.x.cellsAt t.P t.c w (a.add (k * 11)) := by
 obtain ⟨hf, a, P, c, hA, ha, hc, hn⟩ := h.at hk
 exact ⟨⟨l[k], P, c⟩, a, rfl, ⟨hf, hn, hc.2.2.2.2.2.2.2.2.2.2.2⟩, hA, ha, hc⟩
end Sd
end Go.Proofs.YtljbpelogjmciaaGreatDoor
