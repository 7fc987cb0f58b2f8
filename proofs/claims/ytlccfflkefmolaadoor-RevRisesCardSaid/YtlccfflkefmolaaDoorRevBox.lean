/-
  The contracts of a counter: New, Now, Left, Take, Next. Rv w g a b: a counter at block g has told a revisions and may tell b. Blocks below g are left as they were. Conditions: a is not above b, and b is a number of 64 bits.
-/
import Derived.Test.YtlccfflkefmolaaDoorChecked
import Derived.Test.YtlccfflkefmolaaDoorKit
import Derived.WalkKit
import Derived.ProofKit
import Derived.Lib.Hide
import Derived.Lib.QuietBelow
namespace Go.Proofs.YtlccfflkefmolaaDoor
open Go.ChangeShapes Go.WideShapes Go.ChangeAt Go.RowKit Go.Sort
open Go.Lib
namespace Rv

/-- a counter in a block of its own -/
def Rv (w : World) (g a b : Nat) : Prop := w.heap[g]? = some (.cells #[.int .u64 (a : Nat), .int .u64 (b : Nat)] 38 (0, 0))

theorem Rv.lt {w : World} {g a b : Nat} (h : Rv w g a b) : g < w.heap.size := by
  rcases Nat.lt_or_ge g w.heap.size with hl | hl
  · exact hl
  · unfold Rv at h; rw [Array.getElem?_eq_none hl] at h; simp at h
theorem Rv.now {w : World} {g a b : Nat} (h : Rv w g a b) : w.cell? ⟨g, 0, none⟩ = some (.int .u64 a) := by unfold Rv at h; simp [World.cell?, h]
theorem Rv.most {w : World} {g a b : Nat} (h : Rv w g a b) : w.cell? ⟨g, 1, none⟩ = some (.int .u64 b) := by unfold Rv at h; simp [World.cell?, h]
theorem Rv.free {w : World} {g a b : Nat} (h : Rv w g a b) (o : Nat) : w.frozen? ⟨g, o, none⟩ = false := by unfold Rv at h; simp [World.frozen?, h]

/-- what Take(n) tells, its code, and the revisions told behind it -/
def takeN (a b : Nat) (n : Int) : Nat := if n < 1 then 0 else if (b : Int) - a < n then 0 else a + 1
def takeC (a b : Nat) (n : Int) : Int := if n < 1 then 1 else if (b : Int) - a < n then 100 else 0
def takeA (a b : Nat) (n : Int) : Nat := if n < 1 then a else if (b : Int) - a < n then a else a + n.toNat
theorem takeA_le {a b : Nat} {n : Int} (h : a ≤ b) : takeA a b n ≤ b ∧ a ≤ takeA a b n := by
  unfold takeA
  split
  · exact ⟨h, Nat.le_refl _⟩
  · split
    · exact ⟨h, Nat.le_refl _⟩
    · omega

theorem new_any (b : Nat) (w : World) :
    Calls Tryd.prog 6 #[.int .u64 b] w fun e w' => e = .returned (.pointer (some ⟨w.heap.size, 0, none⟩)) ∧ Rv w' w.heap.size 0 b ∧ Below w.heap.size w w' := by
  go_enter Tryd.func6, Tryd.ntmps6
  go_wp2_with fail
  go_ret
  refine ⟨rfl, ?_, (Below.refl _ _).alloc (Nat.le_refl _) _⟩
  show (w.heap.push _)[w.heap.size]? = _
  simp

theorem now_any (w : World) (g a b : Nat) (h : Rv w g a b) :
    Calls Tryd.prog 9 #[.pointer (some ⟨g, 0, none⟩)] w fun e w' => e = .returned (.int .u64 a) ∧ w' = w := by
  have h0 := h.now
  go_enter Tryd.func9, Tryd.ntmps9
  go_wp2_with fail
  go_ret
  exact ⟨rfl, rfl⟩

theorem left_any (w : World) (g a b : Nat) (h : Rv w g a b) (ha : a ≤ b) (hb : b < 18446744073709551616) :
    Calls Tryd.prog 10 #[.pointer (some ⟨g, 0, none⟩)] w fun e w' => e = .returned (.int .u64 ((b : Int) - a)) ∧ Below w.heap.size w w' := by
  have h0 := h.now
  have h1 := h.most
  have hw : IntKind.u64.wrap ((b : Int) - a) = (b : Int) - a := by rw [IntKind.wrap_u64]; omega
  go_enter Tryd.func10, Tryd.ntmps10
  go_wp2_with fail
  go_quiet (fail)
  go_wp2
  go_ret
  exact ⟨rfl, Kit.below_drewN _ _ _⟩

theorem Rv.below {w w' : World} {g a b : Nat} (h : Rv w g a b) (hb : Below w.heap.size w w') : Rv w' g a b := (hb.block g h.lt).trans h

theorem take_any (w : World) (g a b : Nat) (n : Int) (h : Rv w g a b) (ha : a ≤ b) (hb : b < 18446744073709551616) (hn : n ≤ 9223372036854775807) (hn0 : -9223372036854775808 ≤ n) :
    Calls Tryd.prog 8 #[.pointer (some ⟨g, 0, none⟩), .int .i64 n] w fun e w' => e = .returned (.tuple #[.int .u64 (takeN a b n), .int .i64 (takeC a b n)]) ∧ Rv w' g (takeA a b n) b ∧ Below g w w' := by
  have hf := h.free
  have h0 := h.now
  have h1 := h.most
  have hg := h.lt
  have H := Lib.hid h
  clear h
  unfold takeN takeC takeA
  by_cases h1n : n < 1
  · go_enter Tryd.func8, Tryd.ntmps8
    go_wp2_with fail
    go_ret2
    exact ⟨rfl, by simpa [h1n] using H.out, Below.refl _ _⟩
  · have hw : IntKind.u64.wrap n = n := by rw [IntKind.wrap_u64]; omega
    by_cases hl : (b : Int) - a < n
    · go_enter Tryd.func8, Tryd.ntmps8
      go_wp2_with fail
      refine (left_any w g a b H.out ha hb).mono ?_
      rintro e w1 ⟨rfl, hb1⟩
      have H1 := Lib.hid (H.out.below hb1)
      have f0 := H1.out.now
      have f1 := H1.out.most
      have f2 := H1.out.free
      have f3 := H1.out.lt
      clear h0 h1 hf
      have B1 := Lib.hid hb1
      clear hb1
      go_wp2_with fail
      go_ret2
      exact ⟨rfl, by simpa [h1n, hl] using H1.out, B1.out.mono (Nat.le_of_lt H.out.lt)⟩
    · have hw1 : IntKind.u64.wrap ((a : Int) + 1) = (a : Int) + 1 := by rw [IntKind.wrap_u64]; omega
      have hw2 : IntKind.u64.wrap ((a : Int) + n) = (a : Int) + n := by rw [IntKind.wrap_u64]; omega
      go_enter Tryd.func8, Tryd.ntmps8
      go_wp2_with fail
      refine (left_any w g a b H.out ha hb).mono ?_
      rintro e w1 ⟨rfl, hb1⟩
      have H1 := Lib.hid (H.out.below hb1)
      have f0 := H1.out.now
      have f1 := H1.out.most
      have f2 := H1.out.free
      have f3 := H1.out.lt
      clear h0 h1 hf
      have B1 := Lib.hid hb1
      clear hb1
      go_wp2_with fail
      go_ret2
      refine ⟨rfl, ?_, (B1.out.mono (Nat.le_of_lt H.out.lt)).setCell (Nat.le_refl _) _⟩
      have e : ((a + n.toNat : Nat) : Int) = (a : Int) + n := by omega
      unfold Rv
      rw [e]
      have hh := H1.out
      unfold Rv at hh
      show (w1.heap.modify g _)[g]? = _
      rw [Array.getElem?_modify, if_pos rfl, hh]
      rfl

theorem next_any (w : World) (g a b : Nat) (h : Rv w g a b) (ha : a ≤ b) (hb : b < 18446744073709551616) :
    Calls Tryd.prog 7 #[.pointer (some ⟨g, 0, none⟩)] w fun e w' => e = .returned (.tuple #[.int .u64 (takeN a b 1), .int .i64 (takeC a b 1)]) ∧ Rv w' g (takeA a b 1) b ∧ Below g w w' := by
  have H := Lib.hid h
  clear h
  go_enter Tryd.func7, Tryd.ntmps7
  go_wp2_with fail
  refine (take_any w g a b 1 H.out ha hb (by omega) (by omega)).mono ?_
  rintro e w1 ⟨rfl, hR, hB⟩
  go_wp2_with fail
  go_ret2
  exact ⟨rfl, hR, hB⟩

end Rv
end Go.Proofs.YtlccfflkefmolaaDoor
