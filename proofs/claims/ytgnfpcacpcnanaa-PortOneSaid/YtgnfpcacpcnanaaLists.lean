/-
  A list of texts, and a list of numbers, in memory. No condition.
-/
import Derived.Test.YtgnfpcacpcnanaaKit
import Derived.Lib.Hide
namespace Go.Proofs.Ytgnfpcacpcnanaa
open Go.RowKit
namespace Lists

theorem add_block (a : Addr) (k : Nat) : (a.add k).block = a.block := by
  unfold Addr.add; split <;> rfl

/-- the slice at A holds the texts xs -/
def Texts (w : World) (A : Option Addr) (xs : List ByteArray) : Prop := ∀ (k : Nat) (x : ByteArray), xs[k]? = some x → ∃ a, A = some a ∧ a.block < w.heap.size ∧ w.cell? (a.add k) = some (.string x)
/-- the slice at A holds the numbers zs -/
def Nums (q : IntKind) (w : World) (A : Option Addr) (zs : List Int) : Prop := ∀ (k : Nat) (z : Int), zs[k]? = some z → (Lit.int q z).wf = true ∧ ∃ a, A = some a ∧ a.block < w.heap.size ∧ w.cell? (a.add k) = some (.int q z)

theorem Texts.at {w : World} {A : Option Addr} {xs : List ByteArray} (h : Texts w A xs) {k : Nat} (hk : k < xs.length) : ∃ a, A = some a ∧ a.block < w.heap.size ∧ w.cell? (a.add k) = some (.string xs[k]) := h k _ (List.getElem?_eq_getElem hk)
theorem Nums.at {q : IntKind} {w : World} {A : Option Addr} {zs : List Int} (h : Nums q w A zs) {k : Nat} (hk : k < zs.length) : (Lit.int q zs[k]).wf = true ∧ ∃ a, A = some a ∧ a.block < w.heap.size ∧ w.cell? (a.add k) = some (.int q zs[k]) := h k _ (List.getElem?_eq_getElem hk)
end Lists
end Go.Proofs.Ytgnfpcacpcnanaa
