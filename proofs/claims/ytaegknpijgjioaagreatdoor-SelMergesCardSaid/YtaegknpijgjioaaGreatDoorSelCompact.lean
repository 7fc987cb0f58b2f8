/-
  slices.Compact at labels, on a row of the caller's own: runs of one label become one; what was there besides the row is as it was. Condition: the row is not too long.
-/
import Derived.Test.YtaegknpijgjioaaGreatDoorSelJoin
set_option linter.unusedVariables false
set_option linter.unusedSimpArgs false
namespace Go.Proofs.YtaegknpijgjioaaGreatDoor
open Go.ChangeShapes Go.WideShapes Go.ChangeAt Go.RowKit Go.Lib
open Sd Lists SpecOwn Book Go.Sort
namespace Sl

theorem compactL_two (x y : Lbl) (l : List Lbl) : compactL (x :: y :: l) = if sameL y x then compactL (y :: l) else x :: compactL (y :: l) := by rw [compactL]
theorem compactL_one (x : Lbl) : compactL [x] = [x] := by rw [compactL]
theorem compactL_snoc : ∀ (l : List Lbl) (y z : Lbl), compactL (l ++ [y, z]) = if sameL z y then compactL (l ++ [y]) else compactL (l ++ [y]) ++ [z]
  | [], y, z => by
    show compactL [y, z] = if sameL z y then compactL [y] else compactL [y] ++ [z]
    rw [compactL_two, compactL_one, compactL_one]
    by_cases h : sameL z y = true
    · have e := (sameL_iff _ _).1 h
      subst e
      rw [if_pos h, if_pos h]
    · rw [if_neg h, if_neg h]; rfl
  | [x], y, z => by
    show compactL [x, y, z] = if sameL z y then compactL [x, y] else compactL [x, y] ++ [z]
    rw [compactL_two x y [z], compactL_two y z [], compactL_two x y [], compactL_one, compactL_one]
    by_cases h2 : sameL z y = true
    · have e := (sameL_iff _ _).1 h2
      subst e
      rw [if_pos h2, if_pos h2]
    · rw [if_neg h2, if_neg h2]
      by_cases h : sameL y x = true
      · rw [if_pos h, if_pos h]; rfl
      · rw [if_neg h, if_neg h]; rfl
  | x :: u :: l, y, z => by
    have ih := compactL_snoc (u :: l) y z
    rw [List.cons_append, List.cons_append] at *
    rw [compactL]
    have e2 : compactL (x :: u :: l ++ [y]) = if sameL u x then compactL (u :: l ++ [y]) else x :: compactL (u :: l ++ [y]) := by
      rw [List.cons_append, List.cons_append, compactL]
    rw [e2]
    split
    · exact ih
    · rw [ih]
      split
      · rfl
      · rfl
theorem compact_step {l : List Lbl} {k : Nat} {x y : Lbl} (hx : l[k + 1]? = some x) (hy : l[k]? = some y) : compactL (l.take (k + 2)) = if sameL x y then compactL (l.take (k + 1)) else compactL (l.take (k + 1)) ++ [x] := by
  rw [take_one hx, take_one hy, List.append_assoc]
  exact compactL_snoc (l.take k) y x
theorem compactL_short {l : List Lbl} (h : l.length < 2) : compactL l = l := by
  match l, h with
  | [], _ => rfl
  | [x], _ => rfl
theorem compactL_len (l : List Lbl) : (compactL l).length ≤ l.length := by
  match l with
  | [] => simp [compactL]
  | [x] => simp [compactL]
  | x :: y :: l =>
    have := compactL_len (y :: l)
    rw [compactL]
    split
    · rw [List.length_cons]; omega
    · rw [List.length_cons, List.length_cons]; omega
theorem flatL_set : ∀ (l : List Lbl) (k : Nat) (x : Lbl), flatL (l.set k x) = ((flatL l).set (k * 2) (.string x.key)).set (k * 2 + 1) (.string x.val)
  | [], k, x => by simp [flatL]
  | y :: l, 0, x => rfl
  | y :: l, k + 1, x => by
    rw [List.set_cons_succ, flatL, flatL_set l k x, flatL, show (k + 1) * 2 = k * 2 + 1 + 1 by omega]
    rfl
theorem setCells_row {g : Nat} {t : TypeId} : ∀ (vs : List Value) (o : Nat) (w : World) (cur : Array Value), w.heap[g]? = some (.cells cur t (0, 0)) →
    ∃ cur', (w.setCells g o vs).heap[g]? = some (.cells cur' t (0, 0)) ∧ cur'.size = cur.size ∧ ∀ j, j < o → cur'[j]? = cur[j]?
  | [], o, w, cur, h => ⟨cur, h, rfl, fun _ _ => rfl⟩
  | v :: r, o, w, cur, h => by
    have h1 := heap_setCell_same w g o _ _ v h
    obtain ⟨cur', h2, h3, h4⟩ := setCells_row r (o + 1) (w.setCell ⟨g, o, none⟩ v) _ h1
    refine ⟨cur', by rw [World.setCells]; exact h2, by rw [h3]; simp, fun j hj => ?_⟩
    rw [h4 j (by omega)]
    rw [Array.getElem?_setIfInBounds_ne (by omega)]
theorem setCells_kx {g B : Nat} {w0 : World} : ∀ (vs : List Value) (o : Nat) {w : World}, Kx g B w0 w → Kx g B w0 (w.setCells g o vs)
  | [], _, _, h => h
  | v :: r, o, w, h => by rw [World.setCells]; exact setCells_kx r (o + 1) (h.set o v)
/-- the first of a row's labels, whatever is laid behind them -/
theorem own_front {w : World} {base g n cap m : Nat} {cur xs : List Lbl} (h : w.ownsRow base 49 2 (.slice (some ⟨g, 0, none⟩) n cap) n (flatL cur)) (hm : m ≤ n) (hx : cur.take m = xs) (hxm : xs.length = m) (vs : List Value) :
    (w.setCells g (m * 2) vs).ownsRow base 49 2 (.slice (some ⟨g, 0, none⟩) m cap) m (flatL xs) := by
  rcases h.2 with ⟨e1, _⟩ | ⟨g', cap', c, e1, hb, hg, h1, h2, h3, h4⟩
  · cases e1
  · injection e1 with e1 e2 e3
    injection e1 with e1
    injection e1 with e1 _ _
    subst e1 e3
    obtain ⟨c', q1, q2, q3⟩ := setCells_row vs (m * 2) w c hg
    have hlen := h.1
    refine ⟨by rw [flatL_length, hxm], .inr ⟨g, cap, c', rfl, hb, q1, by omega, h2, by rw [q2, h3], ?_⟩⟩
    apply List.ext_getElem?
    intro j
    by_cases hj : j < m * 2
    · rw [List.getElem?_take_of_lt hj, Array.getElem?_toList, q3 j hj]
      have e4 : (c.toList.take (n * 2))[j]? = (flatL cur)[j]? := by rw [h4]
      rw [List.getElem?_take_of_lt (by omega), Array.getElem?_toList] at e4
      rw [e4, ← hx]
      have e5 : flatL cur = flatL (cur.take m) ++ flatL (cur.drop m) := by rw [← flatL_cat, List.take_append_drop]
      rw [e5, List.getElem?_append_left (by rw [hx, flatL_length, hxm]; exact hj)]
    · rw [List.getElem?_eq_none (by rw [List.length_take]; omega), List.getElem?_eq_none (by rw [flatL_length, hxm]; omega)]
theorem run_clear_two (w : World) (b o n c : Nat) (hn : 0 < n) (hc : ∀ j, j < n * 2 → (w.cell? ⟨b, o + j, none⟩).isSome = true) (hf : ∀ j, j < n * 2 → w.frozen? ⟨b, o + j, none⟩ = false) :
    ∃ vs, ∀ ty : TypeId, (Builtin.clear_ #[22] ty #[.slice (some ⟨b, o, none⟩) n c]).run Tryz.prog w = .ok (.tuple #[]) (w.setCells b o vs) := by
  obtain ⟨zs, hzs⟩ : ∃ zs, Builtin.zeroCells (Value.agg #[.string ⟨#[]⟩, .string ⟨#[]⟩]).cells n = zs := ⟨_, rfl⟩
  have hsz : zs.toList.length = n * 2 := by rw [← hzs, Array.length_toList, size_zeroCells]; rfl
  have hone : ∀ v ∈ zs.toList, v.oneCell' = true := by
    intro v hv
    rw [← hzs] at hv
    unfold Builtin.zeroCells at hv
    simp only [Array.toList_map, List.mem_map] at hv
    obtain ⟨i, _, rfl⟩ := hv
    rw [show (Value.agg #[.string ⟨#[]⟩, .string ⟨#[]⟩]).cells = #[.string ⟨#[]⟩, .string ⟨#[]⟩] from rfl]
    rcases (show i % 2 = 0 ∨ i % 2 = 1 by omega) with h | h
    · simp [h, Value.oneCell']
    · simp [h, Value.oneCell']
  have hst := run_storeCells_cells (P := Tryz.prog) b o zs.toList 0 w (by rw [hsz]; simpa using hc) (by rw [hsz]; simpa using hf) hone
  simp only [Nat.add_zero] at hst
  refine ⟨zs.toList, fun ty => ?_⟩
  obtain ⟨m, rfl⟩ : ∃ m, n = m + 1 := ⟨n - 1, by omega⟩
  have hz := Tryz.zeroValue49
  simp [Builtin.clear_, run_underlying Tryz.underlying22, hz, hzs, hst]
end Sl
end Go.Proofs.YtaegknpijgjioaaGreatDoor
