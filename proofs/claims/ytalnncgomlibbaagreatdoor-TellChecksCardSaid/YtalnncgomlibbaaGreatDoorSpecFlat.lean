/-
 Labels and containers in rows of a call's own, cell by cell; blocks from one on; blocks that may be written. No condition.
-/
import Derived.Test.YtalnncgomlibbaaGreatDoorSpecAhead
import Derived.Laws.OwnMore
namespace Go.Proofs.YtalnncgomlibbaaGreatDoor
open Go.RowKit
open Sd Lists
namespace SpecOwn
theorem flat_lt {w : World} {g : Nat} {o : Obj} (h : w.heap[g]? = some o) : g < w.heap.size := by
 rcases Nat.lt_or_ge g w.heap.size with hl | hl
 · exact hl
 · rw [Array.getElem?_eq_none hl] at h; cases h
def From (B : Nat) (A : Option Addr) : Prop := ∀ a, A = some a → B ≤ a.block
def Thaw (w : World) (A : Option Addr) : Prop := ∀ a, A = some a → a.block < w.heap.size ∧ ∀ j, w.frozen? ⟨a.block, j, none⟩ = false
theorem thaw_own {w : World} {B : Nat} {e : TypeId} {size : Nat} {A : Option Addr} {n c : Nat} {xs : List Value} (h : w.ownsRow B e size (.slice A n c) n xs) : Thaw w A := by
 intro a ha
 subst ha
 rcases h.2 with ⟨e1, _⟩ | ⟨g, cap, cur, e1, e2, e3, _⟩
 · cases e1
 · injection e1 with e1 _ _
   injection e1 with e1
   subst e1
   exact ⟨flat_lt e3, fun j => h.frozenAt j⟩
theorem Thaw.block {w w' : World} {A : Option Addr} (h : Thaw w A) (hs : w.heap.size ≤ w'.heap.size) (hb : ∀ a, A = some a → w'.heap[a.block]? = w.heap[a.block]?) : Thaw w' A := fun a ha =>
 ⟨Nat.lt_of_lt_of_le (h a ha).1 hs, fun j => (World.frozen?_of_block (w := w) (a := ⟨a.block, j, none⟩) (hb a ha)).trans ((h a ha).2 j)⟩
theorem Thaw.below {w w' : World} {A : Option Addr} (h : Thaw w A) (hb : Below w.heap.size w w') : Thaw w' A := h.block hb.size fun a ha => hb.block _ (h a ha).1
theorem add_plus (a : Addr) (i j : Nat) : (a.add i).add j = a.add (i + j) := by
 unfold Addr.add
 by_cases h1 : i = 0
 · subst h1; simp
 · by_cases h2 : j = 0
   · subst h2; simp
   · rw [if_neg h1, if_neg h2, if_neg (by omega)]
     simp; omega
theorem add_pos (a : Addr) (r : Nat) (hr : r ≠ 0) : a.add r = ⟨a.block, a.off + r, none⟩ := by unfold Addr.add; rw [if_neg hr]
def flatL : List Lbl → List Value
 | [] => []
 | x :: l => .string x.key :: .string x.val :: flatL l
theorem flatL_length : ∀ l : List Lbl, (flatL l).length = l.length * 2
 | [] => rfl
 | x :: l => by rw [flatL, List.length_cons, List.length_cons, flatL_length l, List.length_cons]; omega
theorem flatL_at : ∀ {l : List Lbl} {k : Nat} {x : Lbl}, l[k]? = some x → (flatL l)[k * 2]? = some (.string x.key) ∧ (flatL l)[k * 2 + 1]? = some (.string x.val)
 | [], _, _, h => by simp at h
 | y :: l, 0, x, h => by
  simp only [List.getElem?_cons_zero, Option.some.injEq] at h
  subst h
  exact ⟨rfl, rfl⟩
 | y :: l, k + 1, x, h => by
  have ih := flatL_at (l := l) (k := k) (x := x) (by simpa using h)
  rw [flatL, show (k + 1) * 2 = k * 2 + 1 + 1 by omega]
  simpa using ih
theorem flatL_str : ∀ (l : List Lbl), ∀ u ∈ flatL l, u.oneCell' = true
 | [], u, h => by simp [flatL] at h
 | x :: l, u, h => by
  simp only [flatL, List.mem_cons] at h
  rcases h with rfl | rfl | h
  · rfl
  · rfl
  · exact flatL_str l u h
theorem flatL_src {w : World} {a : Addr} {l : List Lbl} (h : ∀ (k : Nat) (x : Lbl), l[k]? = some x → x.cellsAt w (a.add (k * 2))) : ∀ (j : Nat) u, (flatL l)[j]? = some u → w.cell? (a.add j) = some u := by
 intro j u hu
 have hj := (List.getElem?_eq_some_iff.1 hu).1
 rw [flatL_length] at hj
 have hk : j / 2 < l.length := by omega
 obtain ⟨h0, h1⟩ := flatL_at (List.getElem?_eq_getElem hk)
 obtain ⟨c0, c1⟩ := h (j / 2) _ (List.getElem?_eq_getElem hk)
 have hjj : j = j / 2 * 2 ∨ j = j / 2 * 2 + 1 := by omega
 generalize l[j / 2] = x at *
 generalize j / 2 = k at *
 rcases hjj with rfl | rfl
 · rw [h0] at hu
   obtain rfl := Option.some.inj hu
   exact c0
 · rw [h1] at hu
   obtain rfl := Option.some.inj hu
   rw [← add_plus, add_pos _ 1 (by omega)]
   exact c1
theorem flat_cells : ∀ (L : List Held), ∀ u ∈ flat L, u.oneCell' = true
 | [], u, h => by simp [flat] at h
 | t :: L, u, h => by
  rw [flat, List.mem_append] at h
  rcases h with h | h
  · simp only [Held.cells, Ctr.cells, List.mem_cons, List.not_mem_nil, or_false] at h
    rcases h with rfl | rfl | rfl | rfl | rfl | rfl | rfl | rfl | rfl | rfl | rfl <;> rfl
  · exact flat_cells L u h
theorem flat_src {w : World} {a : Addr} {L : List Held} (h : ∀ (k : Nat) (t : Held), L[k]? = some t → t.x.cellsAt t.P t.c w (a.add (k * 11))) : ∀ (j : Nat) u, (flat L)[j]? = some u → w.cell? (a.add j) = some u := by
 intro j u hu
 have hj := (List.getElem?_eq_some_iff.1 hu).1
 rw [flat_length] at hj
 have hk : j / 11 < L.length := by omega
 obtain ⟨r, hr⟩ : ∃ r, j = j / 11 * 11 + r := ⟨j % 11, by omega⟩
 have hr11 : r < 11 := by omega
 have hf := flat_at (List.getElem?_eq_getElem hk) r hr11
 have hc := h (j / 11) _ (List.getElem?_eq_getElem hk)
 generalize j / 11 = k at *
 subst hr
 rw [hu] at hf
 generalize L[k] = t at *
 obtain ⟨c0, c1, c2, c3, c4, c5, c6, c7, c8, c9, c10, _⟩ := hc
 rw [← add_plus]
 rcases (show r = 0 ∨ r = 1 ∨ r = 2 ∨ r = 3 ∨ r = 4 ∨ r = 5 ∨ r = 6 ∨ r = 7 ∨ r = 8 ∨ r = 9 ∨ r = 10 by omega) with rfl | rfl | rfl | rfl | rfl | rfl | rfl | rfl | rfl | rfl | rfl
 all_goals
  have hq := Option.some.inj hf
  subst hq
 · exact c0
 · rw [add_pos _ 1 (by omega)]; exact c1
 · rw [add_pos _ 2 (by omega)]; exact c2
 · rw [add_pos _ 3 (by omega)]; exact c3
 · rw [add_pos _ 4 (by omega)]; exact c4
 · rw [add_pos _ 5 (by omega)]; exact c5
 · rw [add_pos _ 6 (by omega)]; exact c6
 · rw [add_pos _ 7 (by omega)]; exact c7
 · rw [add_pos _ 8 (by omega)]; exact c8
 · rw [add_pos _ 9 (by omega)]; exact c9
 · rw [add_pos _ 10 (by omega)]; exact c10
theorem lbls_own {w : World} {B : Nat} {e : TypeId} {A : Option Addr} {c : Nat} {l : List Lbl} (h : w.ownsRow B e 2 (.slice A l.length c) l.length (flatL l)) : Lbls w A l ∧ From B A := by
 rcases h.2 with ⟨e1, h0⟩ | ⟨g, cap, cur, e1, e2, e3, e4⟩
 · injection e1 with e1
   subst e1
   exact ⟨fun k x hk => by have := (List.getElem?_eq_some_iff.1 hk).1; omega, fun a ha => by cases ha⟩
 · injection e1 with e1 e5 e6
   subst e1
   refine ⟨fun k x hk => ⟨_, rfl, flat_lt e3, ?_⟩, fun a ha => by injection ha with ha; subst ha; exact e2⟩
   have hl := (List.getElem?_eq_some_iff.1 hk).1
   obtain ⟨f0, f1⟩ := flatL_at hk
   have e0 : (⟨g, 0, none⟩ : Addr).add (k * 2) = ⟨g, k * 2, none⟩ := by unfold Addr.add; split <;> simp_all
   rw [e0]
   exact ⟨by rw [h.cellAt (k * 2) (by omega), f0], by show w.cell? ⟨g, k * 2 + 1, none⟩ = _; rw [h.cellAt (k * 2 + 1) (by omega), f1]⟩
def CtrsFrom (B : Nat) (w : World) (A : Option Addr) (l : List Ctr) : Prop := ∀ (k : Nat) (x : Ctr), l[k]? = some x → x.Fits ∧ ∃ a P c, A = some a ∧ B ≤ a.block ∧ a.block < w.heap.size ∧ x.cellsAt P c w (a.add (k * 11)) ∧ Nums .i64 w P x.ports ∧ From B P ∧ Thaw w A ∧ Thaw w P ∧ ∀ p, P = some p → p.block ≠ a.block
end SpecOwn
end Go.Proofs.YtalnncgomlibbaaGreatDoor
