/-
 Labels and containers in rows of a call's own, cell by cell; blocks from one on; blocks that may be written. No condition.
-/
import Derived.Test.YtljbpelogjmciaaGreatDoorSpecAhead
import Derived.Laws.OwnMore
namespace Go.Proofs.YtljbpelogjmciaaGreatDoor
open Go.RowKit
open Sd Lists
namespace SpecOwn
theorem flat_lt {w : World} {g : Nat} {o : Obj} (h : w.heap[g]? = some o) : g < w.heap.size := by
 rcases Nat.lt_or_ge g w.heap.size with hl | hl
 · exact hl
 · rw [Array.getElem?_eq_none hl] at h; cases h
def From (B : Nat) (A : Option Addr) : Prop := ∀ a, A = some a → B ≤ a.block
def Thaw (w : World) (A : Option Addr) : Prop := ∀ a, A = some a → a.block < w.heap.size ∧ ∀ j, w.frozen? ⟨a.block, j, none⟩ = false
theorem Thaw.block {w w' : World} {A : Option Addr} (h : Thaw w A) (hs : w.heap.size ≤ w'.heap.size) (hb : ∀ a, A = some a → w'.heap[a.block]? = w.heap[a.block]?) : Thaw w' A := fun a ha =>
 ⟨Nat.lt_of_lt_of_le (h a ha).1 hs, fun j => (World.frozen?_of_block (w := w) (a := ⟨a.block, j, none⟩) (hb a ha)).trans ((h a ha).2 j)⟩
theorem Thaw.below {w w' : World} {A : Option Addr} (h : Thaw w A) (hb : Below w.heap.size w w') : Thaw w' A := h.block hb.size fun a ha => hb.block _ (h a ha).1
def flatL : List Lbl → List Value
 | [] => []
 | x :: l => .string x.key :: .string x.val :: flatL l
theorem flatL_length : ∀ l : List Lbl, (flatL l).length = l.length * 2
 | [] => rfl
 | x :: l => by rw [flatL, List.length_cons, List.length_cons, flatL_length l, List.length_cons]; omega
theorem flatL_at : ∀ {l : List Lbl} {k : Nat} {x : Lbl}, l[k]? = some x → (flatL l)[k * 2]? = some (.string x.key) ∧ (flatL l)[k * 2 + 1]? = some (.string x.val)
 | [], _, _, h => by simp at h
 | y :: l, 0, x, h => by
  simp only [List.getElem?_cons_zero, Option.some.injEq] at h
  subst h
  exact ⟨rfl, rfl⟩
 | y :: l, k + 1, x, h => by
  have ih := flatL_at (l := l) (k := k) (x := x) (by simpa using h)
  rw [flatL, show (k + 1) * 2 = k * 2 + 1 + 1 by omega]
  simpa using ih
theorem lbls_own {w : World} {B : Nat} {e : TypeId} {A : Option Addr} {c : Nat} {l : List Lbl} (h : w.ownsRow B e 2 (.slice A l.length c) l.length (flatL l)) : Lbls w A l ∧ From B A := by
 rcases h.2 with ⟨e1, h0⟩ | ⟨g, cap, cur, e1, e2, e3, e4⟩
 · injection e1 with e1
   subst e1
   exact ⟨fun k x hk => by have := (List.getElem?_eq_some_iff.1 hk).1; omega, fun a ha => by cases ha⟩
 · injection e1 with e1 e5 e6
   subst e1
   refine ⟨fun k x hk => ⟨_, rfl, flat_lt e3, ?_⟩, fun a ha => by injection ha with ha; subst ha; exact e2⟩
   have hl := (List.getElem?_eq_some_iff.1 hk).1
   obtain ⟨f0, f1⟩ := flatL_at hk
   have e0 : (⟨g, 0, none⟩ : Addr).add (k * 2) = ⟨g, k * 2, none⟩ := by unfold Addr.add; split <;> simp_all
   rw [e0]
   exact ⟨by rw [h.cellAt (k * 2) (by omega), f0], by show w.cell? ⟨g, k * 2 + 1, none⟩ = _; rw [h.cellAt (k * 2 + 1) (by omega), f1]⟩
end SpecOwn
end Go.Proofs.YtljbpelogjmciaaGreatDoor
