/-
  The contracts of a log's New, Floor, Len, Last, upTo (by sort.Search): as EgPure says. What was there is left as it was. Condition: the log is one (LgAt, Good).
-/
import Derived.Test.YtldhlilcfadieaaEgClone2
import Derived.Test.YtldhlilcfadieaaShelf2
import Derived.BigQuiet
import Derived.Deep.QuietTactic
set_option linter.unusedVariables false
set_option linter.unusedSimpArgs false
namespace Go.Proofs.Ytldhlilcfadieaa
open Go.ChangeShapes Go.WideShapes Go.ChangeAt Go.RowKit Go.Lib
open Lists Go.Sort
namespace Eg

theorem log_cells {w : World} {g : Nat} {u v z : Value} {t : TypeId} (h : w.heap[g]? = some (.cells #[u, v, z] t (0, 0))) : w.cell? ⟨g, 0, none⟩ = some u ∧ w.cell? ⟨g, 1, none⟩ = some v ∧ w.cell? ⟨g, 2, none⟩ = some z :=
  ⟨box_cell h 0 rfl, box_cell h 1 rfl, box_cell h 2 rfl⟩
theorem at_row (r k : Nat) : (⟨r, 0, none⟩ : Addr).add (k * 15) = ⟨r, k * 15, none⟩ := by unfold Addr.add; split <;> simp_all
/-- cell j of event k -/
theorem LgAt.cell {w : World} {g : Nat} {D : Nat → Prop} {L : List Evt} {A : Option Addr} {c fl mo : Nat} (h : LgAt w g D L A c fl mo) {k : Nat} {x : Evt} (hx : L[k]? = some x) : ∃ r, A = some ⟨r, 0, none⟩ ∧ r < w.heap.size ∧ ∀ j v, x.vals[j]? = some v → w.cell? ⟨r, k * 15 + j, none⟩ = some v := by
  have hk := (List.getElem?_eq_some_iff.1 hx).1
  obtain ⟨r, rfl⟩ := own_addr h.row (by omega)
  refine ⟨r, rfl, (owns_lt h.row rfl).2, fun j v hv => ?_⟩
  have hj : j < 15 := (List.getElem?_eq_some_iff.1 hv).1
  rw [h.row.cellAt (k * 15 + j) (by omega), flatE_at hx hv]
theorem drewN_zero (w : World) : w.drewN 0 = w := rfl

theorem new_any (m : Int) (hm : -9223372036854775808 ≤ m ∧ m ≤ 9223372036854775807) (mo : Nat) (hmo : (mo : Int) = min (max m 1) 64) (w : World) :
    Calls Try.prog 6 #[.int .i64 m] w fun e w' => e = .returned (.pointer (some ⟨w.heap.size, 0, none⟩)) ∧ Lg w' w.heap.size (fun b => b < w.heap.size) [] 0 mo ∧ Below w.heap.size w w' := by
  have HM := Lib.hid hmo
  clear hmo
  go_enter Try.func6, Try.ntmps6
  go_wp2_with fail
  go_ret
  refine ⟨rfl, ⟨[], none, 0, rfl, ⟨?_, World.ownsRow_nil _ _ _ _, Nat.lt_irrefl _, (fun r hr => by cases hr), (fun x hx => by cases hx)⟩⟩, (Below.refl _ _).alloc (Nat.le_refl _) _⟩
  have e := heap_alloc_new w (.cells #[.slice none 0 0, .int .u64 0, .int .i64 (min (max m 1) 64)] 54)
  rw [HM.out]
  exact e

theorem floor_any {g : Nat} {D : Nat → Prop} {rs : List Nat} {fl mo : Nat} (w : World) (h : Lg w g D rs fl mo) :
    Calls Try.prog 11 #[.pointer (some ⟨g, 0, none⟩)] w fun e w' => e = .returned (.int .u64 (fl : Int)) ∧ w' = w := by
  obtain ⟨L, A, c, _, h⟩ := h
  obtain ⟨c0, c1, c2⟩ := log_cells h.box
  clear h
  go_enter Try.func11, Try.ntmps11
  go_wp2
  go_ret
  exact ⟨rfl, rfl⟩

theorem len_any {g : Nat} {D : Nat → Prop} {rs : List Nat} {fl mo : Nat} (w : World) (h : Lg w g D rs fl mo) :
    Calls Try.prog 13 #[.pointer (some ⟨g, 0, none⟩)] w fun e w' => e = .returned (.int .i64 (rs.length : Int)) ∧ w' = w := by
  obtain ⟨L, A, c, rfl, h⟩ := h
  obtain ⟨c0, c1, c2⟩ := log_cells h.box
  clear h
  go_enter Try.func13, Try.ntmps13
  go_wp2
  go_ret
  exact ⟨by rw [List.length_map]; rfl, rfl⟩

theorem last_any {g : Nat} {D : Nat → Prop} {rs : List Nat} {fl mo : Nat} (w : World) (h : Lg w g D rs fl mo) (hl : rs.length ≤ 64) :
    Calls Try.prog 12 #[.pointer (some ⟨g, 0, none⟩)] w fun e w' => e = .returned (.int .u64 (lastN rs fl : Int)) ∧ ∃ n, w' = w.drewN n := by
  obtain ⟨L, A, c, rfl, h⟩ := h
  obtain ⟨c0, c1, c2⟩ := log_cells h.box
  rw [List.length_map] at hl
  by_cases hn : L = []
  · subst hn
    clear h
    go_enter Try.func12, Try.ntmps12
    go_wp2
    go_ret
    exact ⟨rfl, 0, rfl⟩
  · have hp := List.length_pos_iff.2 hn
    obtain ⟨k, hk⟩ : ∃ k, L.length = k + 1 := ⟨L.length - 1, by omega⟩
    obtain ⟨x, hx⟩ : ∃ x, L[k]? = some x := ⟨_, List.getElem?_eq_getElem (by omega)⟩
    have HL := Lib.hid (show lastN (L.map Evt.rev) fl = x.rev by
      rw [lastN_some (by simpa using hn)]
      simp only [List.getElem_map, List.length_map]
      congr 1
      have := (List.getElem?_eq_some_iff.1 hx).2
      rw [← this]
      congr 1
      omega)
    obtain ⟨r, rfl, hr, hc⟩ := h.cell hx
    have d1 := hc 1 _ rfl
    have e0 := at_row r k
    rw [hk] at c0 hl
    have hk0 : (0 : Int) ≤ (k : Int) := by omega
    have hkk : (k : Int) < (k : Int) + 1 := by omega
    have hkz : ((k : Int) + 1 == 0) = false := beq_eq_false_iff_ne.2 (by omega)
    have hw1 : IntKind.i64.wrap ((k : Int) + 1 - 1) = (k : Int) := by rw [show (k : Int) + 1 - 1 = (k : Int) by omega]; exact IntWalk.i64_in _ (by omega)
    have hw2 : IntKind.i64.wrap (k : Int) = (k : Int) := IntWalk.i64_in _ (by omega)
    clear h hx hc hk hp hn hl hr c1 c2
    go_enter Try.func12, Try.ntmps12
    go_wp2_with fail
    go_quiet (fail)
    go_wp2
    go_ret
    exact ⟨by rw [HL.out]; rfl, nq, rfl⟩
theorem closure_any (b1 b2 g r k n c bound rv : Nat) (w : World) (h1 : w.cell? ⟨b1, 0, none⟩ = some (.pointer (some ⟨g, 0, none⟩))) (h2 : w.cell? ⟨b2, 0, none⟩ = some (.int .u64 (bound : Int))) (h3 : w.cell? ⟨g, 0, none⟩ = some (.slice (some ⟨r, 0, none⟩) n c)) (h4 : w.cell? ⟨r, k * 15 + 1, none⟩ = some (.int .u64 (rv : Int))) (hk : k < n) (hn : n ≤ 64) :
    Calls Try.prog 26 (#[.int .i64 (k : Int)] ++ #[.pointer (some ⟨b1, 0, none⟩), .pointer (some ⟨b2, 0, none⟩)]) w fun e w' => e = .returned (.bool (decide (bound < rv))) ∧ ∃ q, w' = w.drewN q := by
  have e0 := at_row r k
  have hk1 : (k : Int) < (n : Int) := by omega
  have hk0 : (0 : Int) ≤ (k : Int) := by omega
  go_enter Try.func26, Try.ntmps26
  go_wp2_with fail
  go_quiet (fail)
  go_wp2
  go_ret
  exact ⟨rfl, nq, rfl⟩
end Eg
end Go.Proofs.Ytldhlilcfadieaa
