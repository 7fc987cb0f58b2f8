/-
  The contracts of package fail at an error of a code, nil being the one of OK: fail.New, fail.In, fail.Code, fail.Has, fail.Path, fail.Text. All that was there is left as it was. Conditions: as the parts say.
-/
import Derived.Test.YtikaghinkpcknaaDoorErrText
import Derived.Test.YtikaghinkpcknaaDoorErrCode
import Derived.Test.YtikaghinkpcknaaDoorErrIs
import Derived.Test.YtikaghinkpcknaaDoorFailNew
namespace Go.Proofs.YtikaghinkpcknaaDoor
open Go.RowKit
namespace Err

/-- the value E is the error of the code c with the path p, or nil, if c is OK (then there is no path) -/
def Opt (w : World) (E : Value) (c : Int) (p : List ByteArray) : Prop := (c = 0 ∧ p = [] ∧ E = .nilIface) ∨ (c ≠ 0 ∧ Is w E c p)

theorem Opt.keep {w w' : World} {E : Value} {c : Int} {p : List ByteArray} (h : Opt w E c p) (hb : Below w.heap.size w w') : Opt w' E c p := by
  rcases h with h | ⟨h0, h⟩
  · exact .inl h
  · exact .inr ⟨h0, h.keep hb⟩

/-- the path of New(c, xs) -/
def pathOf (c : Int) (xs : List ByteArray) : List ByteArray := if c = 0 then [] else xs

/-- a call ends with such an error, in new memory -/
def OptMade (c : Int) (p : List ByteArray) (w : World) (e : Ending) (w' : World) : Prop := ∃ E, e = .returned E ∧ Opt w' E c p ∧ Below w.heap.size w w'

theorem new_opt (c : Int) (A : Option Addr) (cap : Nat) (xs : List ByteArray) (w : World) (hT : Texts w A xs) (hn : xs.length ≤ 9223372036854775807) :
    Calls Tryd.prog 8 #[.int .i64 c, .slice A xs.length cap] w (OptMade c (pathOf c xs) w) := by
  by_cases h0 : c = 0
  · subst h0
    refine (new_ok _ w).mono ?_
    rintro e w' ⟨rfl, rfl⟩
    exact ⟨_, rfl, .inl ⟨rfl, if_pos rfl, rfl⟩, Below.refl _ _⟩
  · refine (new_any c (beq_eq_false_iff_ne.2 h0) A cap xs w hT hn).mono ?_
    rintro e w' ⟨E, rfl, hE, hb⟩
    exact ⟨_, rfl, .inr ⟨h0, by unfold pathOf; rw [if_neg h0]; exact hE⟩, hb⟩

theorem in_opt {w : World} {E : Value} {c : Int} {p : List ByteArray} (h : Opt w E c p) (s : ByteArray) :
    Calls Tryd.prog 10 #[E, .string s] w (OptMade c (pathOf c (s :: p)) w) := by
  rcases h with ⟨rfl, rfl, rfl⟩ | ⟨h0, h⟩
  · refine (in_nil s w).mono ?_
    rintro e w' ⟨rfl, rfl⟩
    exact ⟨_, rfl, .inl ⟨rfl, if_pos rfl, rfl⟩, Below.refl _ _⟩
  · refine (in_err h s).mono ?_
    rintro e w' ⟨E, rfl, hE, hb⟩
    exact ⟨_, rfl, .inr ⟨h0, by unfold pathOf; rw [if_neg h0]; exact hE⟩, hb⟩

theorem code_opt {w : World} {E : Value} {c : Int} {p : List ByteArray} (h : Opt w E c p) (hL : Laid w) :
    Calls Tryd.prog 13 #[E] w fun e w' => e = .returned (.int .i64 c) ∧ Below w.heap.size w w' := by
  rcases h with ⟨rfl, rfl, rfl⟩ | ⟨h0, h⟩
  · refine (code_nil w).mono ?_
    rintro e w' ⟨rfl, rfl⟩
    exact ⟨rfl, Below.refl _ _⟩
  · exact code_some c p E h hL

theorem has_opt {w : World} {E : Value} {c : Int} {p : List ByteArray} (h : Opt w E c p) (d : Int) :
    Calls Tryd.prog 18 #[E, .int .i64 d] w fun e w' => e = .returned (.bool (c == d)) ∧ Below w.heap.size w w' := by
  rcases h with ⟨rfl, rfl, rfl⟩ | ⟨h0, h⟩
  · refine (has_nil d w).mono ?_
    rintro e w' ⟨rfl, hb⟩
    exact ⟨by rw [Bool.beq_comm], hb⟩
  · exact has_some d E c p h

theorem path_opt {w : World} {E : Value} {c : Int} {p : List ByteArray} (h : Opt w E c p) (hp : p.length ≤ 1000000) :
    Calls Tryd.prog 12 #[E] w (Row p w) := by
  rcases h with ⟨rfl, rfl, rfl⟩ | ⟨h0, h⟩
  · refine (path_nil w).mono ?_
    rintro e w' ⟨rfl, rfl⟩
    exact ⟨_, rfl, World.ownsRow_nil _ _ _ _, Below.refl _ _⟩
  · exact path_some c p E h hp

theorem text_opt {w : World} {E : Value} {c : Int} {p : List ByteArray} (h : Opt w E c p) (hp : p.length ≤ 1000000) (hlen : (pathText p).length ≤ 140737488355328) :
    Calls Tryd.prog 15 #[E] w fun e w' => e = .returned (.string ⟨(pathText p).toArray⟩) ∧ Below w.heap.size w w' := by
  rcases h with ⟨rfl, rfl, rfl⟩ | ⟨h0, h⟩
  · refine (text_nil w).mono ?_
    rintro e w' ⟨rfl, rfl⟩
    exact ⟨rfl, Below.refl _ _⟩
  · exact text_some c p E h hp hlen

/-- a row of one's own holds its texts -/
theorem Texts.of_own {w : World} {base : Nat} {A : Option Addr} {n c : Nat} {p : List ByteArray} (h : w.ownsRow base 9 1 (.slice A n c) p.length (p.map Value.string)) : Texts w A p ∧ n = p.length := by
  rcases h.2 with ⟨h1, h0⟩ | ⟨g, cap, cur, h1, _⟩
  · obtain rfl : p = [] := List.eq_nil_of_length_eq_zero h0
    injection h1 with e1 e2 e3
    exact ⟨fun k x hx => by simp at hx, e2⟩
  · injection h1 with e1 e2 e3
    subst e1
    exact ⟨fun k x hx => ⟨_, rfl, h.cells (g := g) rfl k (.string x) (by rw [List.getElem?_map, hx]; rfl)⟩, e2⟩

theorem own_slice {w : World} {base : Nat} {t : TypeId} {size n : Nat} {v : Value} {xs : List Value} (h : w.ownsRow base t size v n xs) : ∃ A c, v = .slice A n c := by
  rcases h.2 with ⟨h1, h0⟩ | ⟨g, cap, cur, h1, _⟩
  · exact ⟨none, 0, by rw [h1, h0]⟩
  · exact ⟨_, _, h1⟩
/-- a row of one's own as the source of an append -/
theorem own_source {w : World} {base : Nat} {t : TypeId} {A : Option Addr} {n c : Nat} {xs : List Value} (h : w.ownsRow base t 1 (.slice A n c) n xs) :
    (A = none ∧ n = 0 ∧ c = 0) ∨ ∃ ad, A = some ad ∧ ∀ (j : Nat) u, xs[j]? = some u → w.cell? (ad.add j) = some u := by
  rcases h.2 with ⟨h1, h0⟩ | ⟨g, cap, cur, h1, _⟩
  · injection h1 with e1 e2 e3
    exact .inl ⟨e1, e2, e3⟩
  · injection h1 with e1 e2 e3
    subst e1
    exact .inr ⟨_, rfl, h.cells (g := g) rfl⟩
end Err
end Go.Proofs.YtikaghinkpcknaaDoor
