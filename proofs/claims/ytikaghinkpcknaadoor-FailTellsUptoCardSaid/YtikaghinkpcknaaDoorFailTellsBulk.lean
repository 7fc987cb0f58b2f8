/-
  From the bound on what came in (the second form's) to the bound that the walk of FailTells asks: bytes and texts of both lists together. Plain facts.
-/
import Derived.Test.YtikaghinkpcknaaDoorRows
import Derived.Test.YtikaghinkpcknaaDoorLawKit
import Derived.Test.YtikaghinkpcknaaDoorFailTellsWalk
namespace Go.Proofs.YtikaghinkpcknaaDoor.FailTellsBulk
open Go.ChangeShapes Go.WideShapes Go.ChangeAt Go.RowKit Go.ChangeMaps Err FailTellsWalk

theorem bulk_strs {H : Type} (xs : List ByteArray) : Rows.uptoBulkAll (strs xs : List (DataW H)) = tot xs := by
  induction xs with
  | nil => rfl
  | cons x xs ih =>
    show Rows.uptoBulk (.lit (.string x.data.toList)) + Rows.uptoBulkAll (strs xs) = _
    rw [ih, tot_cons]
    simp only [Rows.uptoBulk, Array.length_toList]
    rfl

theorem bulk_texts {H : Type} {W : World} {A : Option Addr} {c : Nat} {xs : List ByteArray} {d : DataW H} (_ : Texts W A xs) (h : (xs = [] ∧ d = .nil ∧ A = none ∧ c = 0) ∨ ∃ rest ad, d = .slice (strs xs) rest ∧ A = some ad) : tot xs ≤ Rows.uptoBulk d := by
  rcases h with ⟨rfl, _⟩ | ⟨rest, ad, rfl, _⟩
  · simp [tot]
  · simp only [Rows.uptoBulk]
    rw [bulk_strs]
    omega

theorem bound {H : Type} {xs ys : List ByteArray} {d0 d1 d2 : DataW H} (h : Rows.uptoBulkAll ([d0, d1, d2] : List (DataW H)) ≤ 1048576) (h1 : tot xs ≤ Rows.uptoBulk d1) (h2 : tot ys ≤ Rows.uptoBulk d2) : tot xs + tot ys ≤ 1048576 := by
  simp only [Rows.uptoBulkAll] at h
  omega

theorem nil_form {H : Type} {A : Option Addr} {c : Nat} {xs : List ByteArray} {d : DataW H} (h : (xs = [] ∧ d = .nil ∧ A = none ∧ c = 0) ∨ ∃ rest ad, d = .slice (strs xs) rest ∧ A = some ad) : (A = none ∧ xs.length = 0 ∧ c = 0) ∨ ∃ ad, A = some ad := by
  rcases h with ⟨rfl, _, h1, h2⟩ | ⟨_, ad, _, h⟩
  · exact .inl ⟨h1, rfl, h2⟩
  · exact .inr ⟨ad, h⟩
end Go.Proofs.YtikaghinkpcknaaDoor.FailTellsBulk
