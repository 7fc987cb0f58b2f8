/-
  What an error of package fail is in memory (a code innermost, steps around it), what a list of texts is, and that both stay as they are while the memory that was there does. Plain facts; no condition.
-/
import Derived.Test.YtikaghinkpcknaaDoorChecked
import Derived.Test.YtikaghinkpcknaaDoorKit
import Derived.WalkKit
import Derived.LaidEql
import Derived.Stop.Asserts
import Derived.RowKitTokens
import Derived.Lib.Hide
namespace Go.Proofs.YtikaghinkpcknaaDoor
open Go.RowKit
namespace Err

/-- the value E is, in the world w, the error of the code c with the path p -/
inductive Is (w : World) : Value → Int → List ByteArray → Prop
  | code (c : Int) : Is w (.iface 28 (.int .i64 c)) c []
  | step (b o : Nat) (E : Value) (s : ByteArray) (c : Int) (p : List ByteArray) : w.cell? ⟨b, o, none⟩ = some (.string s) → w.cell? ⟨b, o + 1, none⟩ = some E → Is w E c p →
      Is w (.iface 46 (.pointer (some ⟨b, o, none⟩))) c (s :: p)

theorem lt_of_cell {w : World} {a : Addr} {v : Value} (h : w.cell? a = some v) : a.block < w.heap.size := by
  rcases Nat.lt_or_ge a.block w.heap.size with hl | hl
  · exact hl
  · simp [World.cell?, Array.getElem?_eq_none hl] at h

theorem Is.keep {w w' : World} {E : Value} {c : Int} {p : List ByteArray} (h : Is w E c p) (hb : Below w.heap.size w w') : Is w' E c p := by
  induction h with
  | code c => exact .code c
  | step b o E s c p h0 h1 _ ih => exact .step b o E s c p ((hb.cell (lt_of_cell h0)).trans h0) ((hb.cell (lt_of_cell h1)).trans h1) ih

theorem Is.iface {w : World} {E : Value} {c : Int} {p : List ByteArray} (h : Is w E c p) : ∃ u x, E = .iface u x := by
  cases h <;> exact ⟨_, _, rfl⟩

theorem Is.unique {w : World} {E : Value} {c c' : Int} {p p' : List ByteArray} (h : Is w E c p) (h' : Is w E c' p') : c = c' ∧ p = p' := by
  induction h generalizing c' p' with
  | code c => cases h'; exact ⟨rfl, rfl⟩
  | step b o E s c p h0 h1 _ ih =>
    cases h' with
    | step _ _ E' s' _ q h0' h1' h2' =>
      rw [h0] at h0'; rw [h1] at h1'
      cases h0'; cases h1'
      obtain ⟨rfl, rfl⟩ := ih h2'
      exact ⟨rfl, rfl⟩

open Classical in
/-- how many steps an error has -/
noncomputable def deep (w : World) (E : Value) : Nat := if h : ∃ cp : Int × List ByteArray, Is w E cp.1 cp.2 then h.choose.2.length else 0
theorem deep_eq {w : World} {E : Value} {c : Int} {p : List ByteArray} (h : Is w E c p) : deep w E = p.length := by
  unfold deep
  rw [dif_pos ⟨(c, p), h⟩]
  rw [(Is.unique (Exists.choose_spec (p := fun cp : Int × List ByteArray => Is w E cp.1 cp.2) ⟨(c, p), h⟩) h).2]

/-- the slice at A holds the texts xs -/
def Texts (w : World) (A : Option Addr) (xs : List ByteArray) : Prop := ∀ k x, xs[k]? = some x → ∃ a, A = some a ∧ w.cell? (a.add k) = some (.string x)

theorem add_block (a : Addr) (n : Nat) : (a.add n).block = a.block := by unfold Addr.add; split <;> rfl

theorem Texts.below {w w' : World} {A : Option Addr} {xs : List ByteArray} (h : Texts w A xs) (hb : Below w.heap.size w w') : Texts w' A xs := by
  intro k x hx
  obtain ⟨a, ha, hc⟩ := h k x hx
  exact ⟨a, ha, (hb.cell (lt_of_cell hc)).trans hc⟩

/-- a call ends with an error of the code c and the path p in new memory -/
def Made (c : Int) (p : List ByteArray) (w : World) (e : Ending) (w' : World) : Prop := ∃ E, e = .returned E ∧ Is w' E c p ∧ Below w.heap.size w w'

end Err
end Go.Proofs.YtikaghinkpcknaaDoor
