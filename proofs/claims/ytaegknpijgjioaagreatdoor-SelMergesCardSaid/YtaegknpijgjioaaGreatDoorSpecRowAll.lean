/-
  Containers gathered in a row of the call's own, their ports where they were: what keeps them, one more behind them. No condition. And what follows of it, part by part, each with its conditions.
-/
import Derived.Test.YtaegknpijgjioaaGreatDoorSpecDataAll
import Derived.Laws.AppendOwn
import Derived.Laws.OwnMore
import Derived.Deep.AppendLies
/- Containers gathered in a row of the call's own, their ports where they were: what keeps them, one more behind them. No condition. -/
namespace Go.Proofs.YtaegknpijgjioaaGreatDoor
open Go.RowKit
namespace Sd
open Lists

/-- a container, where its ports lie, and the room there -/
structure Held where
  x : Ctr
  P : Option Addr
  c : Nat
def Held.cells (t : Held) : List Value := t.x.cells t.P t.c
def flat : List Held → List Value
  | [] => []
  | t :: L => t.cells ++ flat L
theorem Held.cells_length (t : Held) : t.cells.length = 11 := rfl
theorem flat_length : ∀ L : List Held, (flat L).length = L.length * 11
  | [] => rfl
  | t :: L => by rw [flat, List.length_append, flat_length L, t.cells_length, List.length_cons]; omega
theorem flat_snoc : ∀ (L : List Held) (t : Held), flat (L ++ [t]) = flat L ++ t.cells
  | [], t => by simp [flat]
  | u :: L, t => by rw [List.cons_append, flat, flat_snoc L t, flat, List.append_assoc]
theorem flat_at : ∀ {L : List Held} {k : Nat} {t : Held}, L[k]? = some t → ∀ j, j < 11 → (flat L)[k * 11 + j]? = t.cells[j]?
  | [], _, _, h, _, _ => by simp at h
  | u :: L, 0, t, h, j, hj => by
    simp only [List.getElem?_cons_zero, Option.some.injEq] at h
    subst h
    rw [flat, Nat.zero_mul, Nat.zero_add, List.getElem?_append_left (by rw [Held.cells_length]; exact hj)]
  | u :: L, k + 1, t, h, j, hj => by
    rw [flat, List.getElem?_append_right (by rw [Held.cells_length]; omega), Held.cells_length, show (k + 1) * 11 + j - 11 = k * 11 + j by omega]
    exact flat_at (by simpa using h) j hj
/-- what a container that is held says -/
structure Held.Ok (t : Held) (w : World) : Prop where
  fits : t.x.Fits
  ports : Nums .i64 w t.P t.x.ports
  room : t.x.ports.length ≤ t.c
/-- containers in a row of the call's own -/
structure Gathered (e : TypeId) (w0 w : World) (v : Value) (L : List Held) : Prop where
  own : w.ownsRow w0.heap.size e 11 v L.length (flat L)
  held : ∀ t ∈ L, t.Ok w0
  below : Below w0.heap.size w0 w
theorem Gathered.nil (e : TypeId) {w0 w : World} (h : Below w0.heap.size w0 w) : Gathered e w0 w (.slice none 0 0) [] := ⟨World.ownsRow_nil _ _ _ _, fun t ht => by simp at ht, h⟩
theorem Gathered.next {e : TypeId} {w0 w w' : World} {v : Value} {L : List Held} (h : Gathered e w0 w v L) (hb : Below w.heap.size w w') : Gathered e w0 w' v L := by
  refine ⟨⟨h.own.1, ?_⟩, h.held, h.below.trans (hb.mono h.below.size)⟩
  rcases h.own.2 with h2 | ⟨g, cap, cur, e1, e2, e3, e4⟩
  · exact .inl h2
  · have hlt : g < w.heap.size := by
      rcases Nat.lt_or_ge g w.heap.size with hl | hl
      · exact hl
      · rw [Array.getElem?_eq_none hl] at e3; cases e3
    exact .inr ⟨g, cap, cur, e1, e2, (hb.block g hlt).trans e3, e4⟩
/-- they can be read as any list of containers -/
theorem Gathered.ctrs {e : TypeId} {w0 w : World} {v : Value} {L : List Held} (h : Gathered e w0 w v L) : ∃ A c, v = .slice A (L.map (·.x)).length c ∧ Ctrs w A (L.map (·.x)) := by
  rcases h.own.2 with ⟨e1, h0⟩ | ⟨g, cap, cur, e1, e2, e3, e4⟩
  · have : L = [] := List.length_eq_zero_iff.1 h0
    subst this
    exact ⟨none, 0, e1, fun k x hk => by simp at hk⟩
  · have hlt : g < w.heap.size := by
      rcases Nat.lt_or_ge g w.heap.size with hl | hl
      · exact hl
      · rw [Array.getElem?_eq_none hl] at e3; cases e3
    refine ⟨some ⟨g, 0, none⟩, cap, by rw [List.length_map]; exact e1, fun k x hk => ?_⟩
    rw [List.getElem?_map, Option.map_eq_some_iff] at hk
    obtain ⟨t, ht, rfl⟩ := hk
    have ho := h.held t (List.mem_of_getElem? ht)
    have hkl : k < L.length := (List.getElem?_eq_some_iff.1 ht).1
    have hown := h.own
    rw [e1] at hown
    have hc : ∀ j, j < 11 → w.cell? ⟨g, k * 11 + j, none⟩ = t.cells[j]? := fun j hj => by
      rw [hown.cellAt (k * 11 + j) (by omega), flat_at ht j hj]
    have e0 : (⟨g, 0, none⟩ : Addr).add (k * 11) = ⟨g, k * 11, none⟩ := by unfold Addr.add; split <;> simp_all
    refine ⟨ho.fits, _, t.P, t.c, rfl, hlt, ?_, Nums.below ho.ports h.below⟩
    rw [e0]
    exact ⟨hc 0 (by omega), hc 1 (by omega), hc 2 (by omega), hc 3 (by omega), hc 4 (by omega), hc 5 (by omega), hc 6 (by omega), hc 7 (by omega), hc 8 (by omega), hc 9 (by omega), hc 10 (by omega), ho.room⟩
/-- one more -/
theorem Gathered.push {e : TypeId} {w0 w w' : World} {v v' : Value} {L : List Held} {t : Held} (h : Gathered e w0 w v L) (ht : t.Ok w0) (ho : w'.ownsRow w0.heap.size e 11 v' (L.length + 1) (flat L ++ t.cells)) (hg : w.grownBy w' v.ownBlock) : Gathered e w0 w' v' (L ++ [t]) := by
  refine ⟨?_, fun u hu => ?_, ?_⟩
  · rw [flat_snoc, List.length_append]; exact ho
  · rcases List.mem_append.1 hu with hu | hu
    · exact h.held u hu
    · rw [List.mem_singleton.1 hu]; exact ht
  · have hb := h.below
    refine ⟨hg.os.trans hb.os, hg.tape.trans hb.tape, hg.output.trans hb.output, Nat.le_trans hb.size hg.size, fun k hk => (hg.block k (Nat.lt_of_lt_of_le hk hb.size) fun e1 => ?_).trans (hb.block k hk)⟩
    have := (h.own.lt k e1.symm).1
    omega
/-- a container of a list that was there, held -/
theorem Ctrs.held {w : World} {A : Option Addr} {l : List Ctr} (h : Ctrs w A l) {k : Nat} (hk : k < l.length) : ∃ (t : Held) (a : Addr), t.x = l[k] ∧ t.Ok w ∧ A = some a ∧ a.block < w.heap.size ∧ t.x.cellsAt t.P t.c w (a.add (k * 11)) := by
  obtain ⟨hf, a, P, c, hA, ha, hc, hn⟩ := h.at hk
  exact ⟨⟨l[k], P, c⟩, a, rfl, ⟨hf, hn, hc.2.2.2.2.2.2.2.2.2.2.2⟩, hA, ha, hc⟩
end Sd
end Go.Proofs.YtaegknpijgjioaaGreatDoor

/- Labels and containers in rows of a call's own, cell by cell; blocks from one on; blocks that may be written. No condition. -/
namespace Go.Proofs.YtaegknpijgjioaaGreatDoor
open Go.RowKit
open Sd Lists
namespace SpecOwn

theorem flat_lt {w : World} {g : Nat} {o : Obj} (h : w.heap[g]? = some o) : g < w.heap.size := by
  rcases Nat.lt_or_ge g w.heap.size with hl | hl
  · exact hl
  · rw [Array.getElem?_eq_none hl] at h; cases h
/-- from block B on -/
def From (B : Nat) (A : Option Addr) : Prop := ∀ a, A = some a → B ≤ a.block
/-- no cell of the block is frozen -/
def Thaw (w : World) (A : Option Addr) : Prop := ∀ a, A = some a → a.block < w.heap.size ∧ ∀ j, w.frozen? ⟨a.block, j, none⟩ = false
theorem thaw_own {w : World} {B : Nat} {e : TypeId} {size : Nat} {A : Option Addr} {n c : Nat} {xs : List Value} (h : w.ownsRow B e size (.slice A n c) n xs) : Thaw w A := by
  intro a ha
  subst ha
  rcases h.2 with ⟨e1, _⟩ | ⟨g, cap, cur, e1, e2, e3, _⟩
  · cases e1
  · injection e1 with e1 _ _
    injection e1 with e1
    subst e1
    exact ⟨flat_lt e3, fun j => h.frozenAt j⟩
theorem Thaw.block {w w' : World} {A : Option Addr} (h : Thaw w A) (hs : w.heap.size ≤ w'.heap.size) (hb : ∀ a, A = some a → w'.heap[a.block]? = w.heap[a.block]?) : Thaw w' A := fun a ha =>
  ⟨Nat.lt_of_lt_of_le (h a ha).1 hs, fun j => (World.frozen?_of_block (w := w) (a := ⟨a.block, j, none⟩) (hb a ha)).trans ((h a ha).2 j)⟩
theorem Thaw.below {w w' : World} {A : Option Addr} (h : Thaw w A) (hb : Below w.heap.size w w') : Thaw w' A := h.block hb.size fun a ha => hb.block _ (h a ha).1
theorem add_plus (a : Addr) (i j : Nat) : (a.add i).add j = a.add (i + j) := by
  unfold Addr.add
  by_cases h1 : i = 0
  · subst h1; simp
  · by_cases h2 : j = 0
    · subst h2; simp
    · rw [if_neg h1, if_neg h2, if_neg (by omega)]
      simp; omega
theorem add_pos (a : Addr) (r : Nat) (hr : r ≠ 0) : a.add r = ⟨a.block, a.off + r, none⟩ := by unfold Addr.add; rw [if_neg hr]
/-- labels, cell by cell -/
def flatL : List Lbl → List Value
  | [] => []
  | x :: l => .string x.key :: .string x.val :: flatL l
theorem flatL_length : ∀ l : List Lbl, (flatL l).length = l.length * 2
  | [] => rfl
  | x :: l => by rw [flatL, List.length_cons, List.length_cons, flatL_length l, List.length_cons]; omega
theorem flatL_at : ∀ {l : List Lbl} {k : Nat} {x : Lbl}, l[k]? = some x → (flatL l)[k * 2]? = some (.string x.key) ∧ (flatL l)[k * 2 + 1]? = some (.string x.val)
  | [], _, _, h => by simp at h
  | y :: l, 0, x, h => by
    simp only [List.getElem?_cons_zero, Option.some.injEq] at h
    subst h
    exact ⟨rfl, rfl⟩
  | y :: l, k + 1, x, h => by
    have ih := flatL_at (l := l) (k := k) (x := x) (by simpa using h)
    rw [flatL, show (k + 1) * 2 = k * 2 + 1 + 1 by omega]
    simpa using ih
theorem flatL_str : ∀ (l : List Lbl), ∀ u ∈ flatL l, u.oneCell' = true
  | [], u, h => by simp [flatL] at h
  | x :: l, u, h => by
    simp only [flatL, List.mem_cons] at h
    rcases h with rfl | rfl | h
    · rfl
    · rfl
    · exact flatL_str l u h
theorem flatL_src {w : World} {a : Addr} {l : List Lbl} (h : ∀ (k : Nat) (x : Lbl), l[k]? = some x → x.cellsAt w (a.add (k * 2))) : ∀ (j : Nat) u, (flatL l)[j]? = some u → w.cell? (a.add j) = some u := by
  intro j u hu
  have hj := (List.getElem?_eq_some_iff.1 hu).1
  rw [flatL_length] at hj
  have hk : j / 2 < l.length := by omega
  obtain ⟨h0, h1⟩ := flatL_at (List.getElem?_eq_getElem hk)
  obtain ⟨c0, c1⟩ := h (j / 2) _ (List.getElem?_eq_getElem hk)
  have hjj : j = j / 2 * 2 ∨ j = j / 2 * 2 + 1 := by omega
  generalize l[j / 2] = x at *
  generalize j / 2 = k at *
  rcases hjj with rfl | rfl
  · rw [h0] at hu
    obtain rfl := Option.some.inj hu
    exact c0
  · rw [h1] at hu
    obtain rfl := Option.some.inj hu
    rw [← add_plus, add_pos _ 1 (by omega)]
    exact c1
theorem flat_cells : ∀ (L : List Held), ∀ u ∈ flat L, u.oneCell' = true
  | [], u, h => by simp [flat] at h
  | t :: L, u, h => by
    rw [flat, List.mem_append] at h
    rcases h with h | h
    · simp only [Held.cells, Ctr.cells, List.mem_cons, List.not_mem_nil, or_false] at h
      rcases h with rfl | rfl | rfl | rfl | rfl | rfl | rfl | rfl | rfl | rfl | rfl <;> rfl
    · exact flat_cells L u h
theorem flat_src {w : World} {a : Addr} {L : List Held} (h : ∀ (k : Nat) (t : Held), L[k]? = some t → t.x.cellsAt t.P t.c w (a.add (k * 11))) : ∀ (j : Nat) u, (flat L)[j]? = some u → w.cell? (a.add j) = some u := by
  intro j u hu
  have hj := (List.getElem?_eq_some_iff.1 hu).1
  rw [flat_length] at hj
  have hk : j / 11 < L.length := by omega
  obtain ⟨r, hr⟩ : ∃ r, j = j / 11 * 11 + r := ⟨j % 11, by omega⟩
  have hr11 : r < 11 := by omega
  have hf := flat_at (List.getElem?_eq_getElem hk) r hr11
  have hc := h (j / 11) _ (List.getElem?_eq_getElem hk)
  generalize j / 11 = k at *
  subst hr
  rw [hu] at hf
  generalize L[k] = t at *
  obtain ⟨c0, c1, c2, c3, c4, c5, c6, c7, c8, c9, c10, _⟩ := hc
  rw [← add_plus]
  rcases (show r = 0 ∨ r = 1 ∨ r = 2 ∨ r = 3 ∨ r = 4 ∨ r = 5 ∨ r = 6 ∨ r = 7 ∨ r = 8 ∨ r = 9 ∨ r = 10 by omega) with rfl | rfl | rfl | rfl | rfl | rfl | rfl | rfl | rfl | rfl | rfl
  all_goals
    have hq := Option.some.inj hf
    subst hq
  · exact c0
  · rw [add_pos _ 1 (by omega)]; exact c1
  · rw [add_pos _ 2 (by omega)]; exact c2
  · rw [add_pos _ 3 (by omega)]; exact c3
  · rw [add_pos _ 4 (by omega)]; exact c4
  · rw [add_pos _ 5 (by omega)]; exact c5
  · rw [add_pos _ 6 (by omega)]; exact c6
  · rw [add_pos _ 7 (by omega)]; exact c7
  · rw [add_pos _ 8 (by omega)]; exact c8
  · rw [add_pos _ 9 (by omega)]; exact c9
  · rw [add_pos _ 10 (by omega)]; exact c10
theorem lbls_own {w : World} {B : Nat} {e : TypeId} {A : Option Addr} {c : Nat} {l : List Lbl} (h : w.ownsRow B e 2 (.slice A l.length c) l.length (flatL l)) : Lbls w A l ∧ From B A := by
  rcases h.2 with ⟨e1, h0⟩ | ⟨g, cap, cur, e1, e2, e3, e4⟩
  · injection e1 with e1
    subst e1
    exact ⟨fun k x hk => by have := (List.getElem?_eq_some_iff.1 hk).1; omega, fun a ha => by cases ha⟩
  · injection e1 with e1 e5 e6
    subst e1
    refine ⟨fun k x hk => ⟨_, rfl, flat_lt e3, ?_⟩, fun a ha => by injection ha with ha; subst ha; exact e2⟩
    have hl := (List.getElem?_eq_some_iff.1 hk).1
    obtain ⟨f0, f1⟩ := flatL_at hk
    have e0 : (⟨g, 0, none⟩ : Addr).add (k * 2) = ⟨g, k * 2, none⟩ := by unfold Addr.add; split <;> simp_all
    rw [e0]
    exact ⟨by rw [h.cellAt (k * 2) (by omega), f0], by show w.cell? ⟨g, k * 2 + 1, none⟩ = _; rw [h.cellAt (k * 2 + 1) (by omega), f1]⟩
/-- containers in blocks from B on, their ports too -/
def CtrsFrom (B : Nat) (w : World) (A : Option Addr) (l : List Ctr) : Prop := ∀ (k : Nat) (x : Ctr), l[k]? = some x → x.Fits ∧ ∃ a P c, A = some a ∧ B ≤ a.block ∧ a.block < w.heap.size ∧ x.cellsAt P c w (a.add (k * 11)) ∧ Nums .i64 w P x.ports ∧ From B P ∧ Thaw w A ∧ Thaw w P ∧ ∀ p, P = some p → p.block ≠ a.block
end SpecOwn
end Go.Proofs.YtaegknpijgjioaaGreatDoor
