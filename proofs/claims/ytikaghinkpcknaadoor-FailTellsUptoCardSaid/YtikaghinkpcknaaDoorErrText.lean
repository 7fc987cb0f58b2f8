/-
  The contract of fail.Text: the path of an error of package fail, with a point between each two texts; the empty text of nil. All that was there is left as it was. Conditions: the value is an error of package fail, or nil; its path has at most 1000000 texts, and its text at most 2^47 bytes.
-/
import Derived.Test.YtikaghinkpcknaaDoorErrPath
import Derived.Test.YtikaghinkpcknaaDoorShelf
namespace Go.Proofs.YtikaghinkpcknaaDoor
open Go.RowKit
namespace Err

/-- the texts of a path, a point between each two -/
def pathText (p : List ByteArray) : List UInt8 := Lib.join (p.map (·.data.toList)) [46]

theorem join_row {w : World} {base : Nat} {v : Value} (p : List ByteArray) (h : w.ownsRow base 9 1 v p.length (p.map Value.string)) (hp : p.length ≤ 1000000) (hlen : (pathText p).length ≤ 140737488355328) :
    Calls Tryd.prog 22 #[v, .string ⟨#[46]⟩] w fun e w' => e = .returned (.string ⟨(pathText p).toArray⟩) ∧ Below w.heap.size w w' := by
  rcases h.2 with ⟨rfl, h0⟩ | ⟨g, cap, cur, rfl, e2, e3, e4, e5, e6, e7⟩
  · obtain rfl : p = [] := List.eq_nil_of_length_eq_zero h0
    refine (Any.strings_Join_none Tryd.lays156 Tryd.Builder_Extra_156 none 0 ⟨#[46]⟩ w).mono ?_
    rintro e w' ⟨rfl, rfl⟩
    exact ⟨rfl, Below.refl _ _⟩
  · have hlt : g < w.heap.size := by
      rcases Nat.lt_or_ge g w.heap.size with hl | hl
      · exact hl
      · rw [Array.getElem?_eq_none hl] at e3; cases e3
    refine (Any.strings_Join Tryd.lays156 Tryd.Builder_Extra_156 g 0 cap p ⟨#[46]⟩ w ?_ hlt (by omega) e4 hlen).mono ?_
    · intro j x hx
      have := h.cells (g := g) rfl j (.string x) (by rw [List.getElem?_map, hx]; rfl)
      rw [Nat.zero_add]
      rcases j with _ | j
      · exact this
      · simpa [Addr.add] using this
    · rintro e w' ⟨rfl, hb⟩
      exact ⟨rfl, hb⟩

theorem text_nil (w : World) :
    Calls Tryd.prog 15 #[.nilIface] w fun e w' => e = .returned (.string ⟨#[]⟩) ∧ w = w' := by
  go_enter Tryd.func15, Tryd.ntmps15
  go_wp2_with fail
  refine (path_nil _).mono ?_
  rintro e w' ⟨rfl, rfl⟩
  go_wp2_with fail
  refine (Any.strings_Join_none Tryd.lays156 Tryd.Builder_Extra_156 none 0 ⟨#[46]⟩ _).mono ?_
  rintro e w' ⟨rfl, rfl⟩
  go_wp2_with fail
  go_ret
  exact ⟨rfl, rfl⟩

theorem text_some {w : World} (c : Int) (p : List ByteArray) (E : Value) (h : Is w E c p) (hp : p.length ≤ 1000000) (hlen : (pathText p).length ≤ 140737488355328) :
    Calls Tryd.prog 15 #[E] w fun e w' => e = .returned (.string ⟨(pathText p).toArray⟩) ∧ Below w.heap.size w w' := by
  have H := Lib.hid h
  have HL := Lib.hid hlen
  clear h hlen
  go_enter Tryd.func15, Tryd.ntmps15
  go_wp2_with fail
  refine (path_some c p E H.out hp).mono ?_
  rintro e w1 ⟨v, rfl, hown, hb⟩
  have HO := Lib.hid hown
  clear hown
  go_wp2_with fail
  refine (join_row p HO.out hp HL.out).mono ?_
  rintro e w2 ⟨rfl, hb2⟩
  go_wp2_with fail
  go_ret
  exact ⟨rfl, hb.trans (hb2.mono hb.size)⟩
end Err
end Go.Proofs.YtikaghinkpcknaaDoor
