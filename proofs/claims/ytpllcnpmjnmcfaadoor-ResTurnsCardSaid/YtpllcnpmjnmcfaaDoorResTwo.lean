/-
  'first, second := apart(a), apart(b)', in whatever order: what is true on the way (J2). No condition.
-/
import Derived.Test.YtpllcnpmjnmcfaaDoorResSmall
import Derived.Test.YtpllcnpmjnmcfaaDoorRegionVals
import Derived.Test.YtpllcnpmjnmcfaaDoorRegionSlots
import Derived.Deep.MidRow
set_option linter.unusedVariables false
set_option linter.unusedSimpArgs false
namespace Go.Proofs.YtpllcnpmjnmcfaaDoor
open Go.ChangeShapes Go.WideShapes Go.ChangeAt Go.RowKit Go.Lib
open NumMath
namespace Re
theorem lt_of_at {w : World} {g : Nat} {o : Obj} (h : w.heap[g]? = some o) : g < w.heap.size := by
  rcases Nat.lt_or_ge g w.heap.size with hl | hl
  · exact hl
  · rw [Array.getElem?_eq_none hl] at h; cases h
def BoxAt (v u : World) (x : Value) (f : Bool) (a : List Value) : Prop := ∃ q X, x = .pointer (some ⟨q, 0, none⟩) ∧ v.heap.size ≤ q ∧ u.heap[q]? = some (.cells X 56 (0, 0)) ∧ X.size = 3 ∧ (f = true → X = a.toArray)
theorem BoxAt.grow {v u u' : World} {x : Value} {f : Bool} {a : List Value} (h : BoxAt v u x f a) (hb : Below u.heap.size u u') : BoxAt v u' x f a := by
  obtain ⟨q, X, h1, h2, h3, h4⟩ := h
  exact ⟨q, X, h1, h2, (hb.block q (lt_of_at h3)).trans h3, h4⟩
structure J2 (v : World) (a b : List Value) (s : Nat → Bool) (V : Nat → Value) (u : World) : Prop where
  bel : Below v.heap.size v u
  pre : ∀ j, j < 4 → s j = true → V j = if j < 2 then .agg a.toArray else .agg b.toArray
  b4 : s 4 = true → BoxAt v u (V 4) (s 6) a
  b5 : s 5 = true → BoxAt v u (V 5) (s 7) b
  ne : s 4 = true → s 5 = true → V 4 ≠ V 5
  o6 : s 6 = true → s 4 = true
  o7 : s 7 = true → s 5 = true
variable {v u : World} {a b : List Value} {s : Nat → Bool} {V : Nat → Value}
theorem J2.start (v : World) (a b : List Value) (V : Nat → Value) : J2 v a b (fun _ => false) V v.drew :=
  ⟨Below.drew (Below.refl _ _), fun _ _ h => Bool.noConfusion h, fun h => Bool.noConfusion h, fun h => Bool.noConfusion h, fun h => Bool.noConfusion h, fun h => Bool.noConfusion h, fun h => Bool.noConfusion h⟩
theorem J2.get (h : J2 v a b s V u) (j : Nat) (hj : j < 4) (hs : s j = true) {x : Value} (hx : (if j < 2 then .agg a.toArray else .agg b.toArray) = x) : V j = x := (h.pre j hj hs).trans hx
theorem J2.step (h : J2 v a b s V u) (i : Nat) (hi : i < 4) {u' : World} (hb : Below u.heap.size u u') {x : Value} (hx : x = if i < 2 then .agg a.toArray else .agg b.toArray) : J2 v a b (fun j => s j || j == i) (fun j => if j = i then x else V j) u' := by
  have e : ∀ k, 4 ≤ k → (k == i) = false := fun k hk => by simp; omega
  have f : ∀ k, 4 ≤ k → ¬ k = i := fun k hk => by omega
  refine ⟨h.bel.trans (hb.mono h.bel.size), fun j hj hs => ?_, ?_, ?_, ?_, ?_, ?_⟩
  · by_cases hji : j = i
    · subst hji; rw [if_pos rfl]; exact hx
    · rw [if_neg hji]; exact h.pre j hj (by simpa [hji] using hs)
  all_goals simp only [e 4 (by decide), e 5 (by decide), e 6 (by decide), e 7 (by decide), if_neg (f 4 (by decide)), if_neg (f 5 (by decide)), Bool.or_false]
  · exact fun hs => (h.b4 hs).grow hb
  · exact fun hs => (h.b5 hs).grow hb
  · exact h.ne
  · exact h.o6
  · exact h.o7
theorem ptr_ne {p q : Nat} (h : p ≠ q) : (Value.pointer (some ⟨p, 0, none⟩)) ≠ .pointer (some ⟨q, 0, none⟩) := fun e => by
  injection e with e; injection e with e; injection e with e; exact h e
theorem J2.al4 (h : J2 v a b s V u) (hs : s 4 = false) (Z : Array Value) (hZ : Z.size = 3) : J2 v a b (fun j => s j || j == 4) (fun j => if j = 4 then .pointer (some ⟨u.heap.size, 0, none⟩) else V j) (u.alloc (.cells Z 56 (0, 0))) := by
  have hb : Below u.heap.size u (u.alloc (.cells Z 56 (0, 0))) := (Below.refl _ _).alloc (Nat.le_refl _) _
  have h6 : s 6 = false := by
    cases h6 : s 6 with
    | false => rfl
    | true => rw [h.o6 h6] at hs; cases hs
  refine ⟨h.bel.trans (hb.mono h.bel.size), fun j hj hs => ?_, ?_, ?_, ?_, ?_, ?_⟩
  · have : ¬ j = 4 := by omega
    rw [if_neg this]; exact h.pre j hj (by simpa [this] using hs)
  all_goals simp only [show ((4 : Nat) == 4) = true from rfl, show ((5 : Nat) == 4) = false from rfl, show ((6 : Nat) == 4) = false from rfl, show ((7 : Nat) == 4) = false from rfl, Bool.or_false, Bool.or_true, if_pos, if_neg (show ¬ (5 : Nat) = 4 by decide)]
  · exact fun _ => ⟨u.heap.size, Z, rfl, h.bel.size, heap_alloc_new u _, hZ, fun h => by rw [h6] at h; cases h⟩
  · exact fun hs => (h.b5 hs).grow hb
  · intro _ h5
    obtain ⟨q, X, h1, h2, h3, h4⟩ := h.b5 h5
    rw [h1]
    exact ptr_ne (by have := lt_of_at h3; omega)
  · exact fun h => by simp
  · exact h.o7
theorem J2.al5 (h : J2 v a b s V u) (hs : s 5 = false) (Z : Array Value) (hZ : Z.size = 3) : J2 v a b (fun j => s j || j == 5) (fun j => if j = 5 then .pointer (some ⟨u.heap.size, 0, none⟩) else V j) (u.alloc (.cells Z 56 (0, 0))) := by
  have hb : Below u.heap.size u (u.alloc (.cells Z 56 (0, 0))) := (Below.refl _ _).alloc (Nat.le_refl _) _
  have h7 : s 7 = false := by
    cases h7 : s 7 with
    | false => rfl
    | true => rw [h.o7 h7] at hs; cases hs
  refine ⟨h.bel.trans (hb.mono h.bel.size), fun j hj hs => ?_, ?_, ?_, ?_, ?_, ?_⟩
  · have : ¬ j = 5 := by omega
    rw [if_neg this]; exact h.pre j hj (by simpa [this] using hs)
  all_goals simp only [show ((4 : Nat) == 5) = false from rfl, show ((5 : Nat) == 5) = true from rfl, show ((6 : Nat) == 5) = false from rfl, show ((7 : Nat) == 5) = false from rfl, Bool.or_false, Bool.or_true, if_pos, if_neg (show ¬ (4 : Nat) = 5 by decide)]
  · exact fun hs => (h.b4 hs).grow hb
  · exact fun _ => ⟨u.heap.size, Z, rfl, h.bel.size, heap_alloc_new u _, hZ, fun h => by rw [h7] at h; cases h⟩
  · intro h4 _
    obtain ⟨q, X, h1, h2, h3, h4⟩ := h.b4 h4
    rw [h1]
    exact ptr_ne (by have := lt_of_at h3; omega)
  · exact h.o6
  · exact fun h => by simp
theorem BoxAt.set {x y : Value} {f : Bool} {c d : List Value} {q : Nat} (h : BoxAt v u x f c) (hne : x ≠ y) (hy : y = .pointer (some ⟨q, 0, none⟩)) : BoxAt v (u.setCells q 0 d) x f c := by
  obtain ⟨p, X, h1, h2, h3, h4⟩ := h
  obtain ⟨_, _, _, _, f5⟩ := Back.far q d 0 u
  exact ⟨p, X, h1, h2, (f5 p (fun e => hne (by rw [h1, hy, e]))).trans h3, h4⟩
theorem bel_set {q : Nat} {d : List Value} (h : Below v.heap.size v u) (hq : v.heap.size ≤ q) : Below v.heap.size v (u.setCells q 0 d) := by
  obtain ⟨f1, f2, f3, f4, f5⟩ := Back.far q d 0 u
  exact ⟨f1.trans h.os, f2.trans h.tape, f3.trans h.output, by rw [f4]; exact h.size, fun k hk => (f5 k (by omega)).trans (h.block k hk)⟩
theorem J2.st6 (h : J2 v a b s V u) (ha : a.length = 3) (h4 : s 4 = true) {q : Nat} (hq : V 4 = .pointer (some ⟨q, 0, none⟩)) (x : Value) : J2 v a b (fun j => s j || j == 6) (fun j => if j = 6 then x else V j) (u.setCells q 0 a) := by
  obtain ⟨p, X, e1, e2, e3, e4, e5⟩ := h.b4 h4
  obtain rfl : p = q := by rw [hq] at e1; injection e1 with e1; injection e1 with e1; injection e1 with e1; exact e1.symm
  refine ⟨bel_set h.bel e2, fun j hj hs => ?_, ?_, ?_, ?_, ?_, ?_⟩
  · have : ¬ j = 6 := by omega
    rw [if_neg this]; exact h.pre j hj (by simpa [this] using hs)
  all_goals simp only [show ((4 : Nat) == 6) = false from rfl, show ((5 : Nat) == 6) = false from rfl, show ((6 : Nat) == 6) = true from rfl, show ((7 : Nat) == 6) = false from rfl, Bool.or_false, Bool.or_true, if_neg (show ¬ (4 : Nat) = 6 by decide), if_neg (show ¬ (5 : Nat) = 6 by decide)]
  · exact fun _ => ⟨p, a.toArray, hq, e2, Back.st e3 (by rw [e4, ha]), by simpa using ha, fun _ => rfl⟩
  · exact fun h5 => (h.b5 h5).set (Ne.symm (h.ne h4 h5)) hq
  · exact h.ne
  · exact fun _ => h4
  · exact h.o7
theorem J2.st7 (h : J2 v a b s V u) (hb : b.length = 3) (h5 : s 5 = true) {q : Nat} (hq : V 5 = .pointer (some ⟨q, 0, none⟩)) (x : Value) : J2 v a b (fun j => s j || j == 7) (fun j => if j = 7 then x else V j) (u.setCells q 0 b) := by
  obtain ⟨p, X, e1, e2, e3, e4, e5⟩ := h.b5 h5
  obtain rfl : p = q := by rw [hq] at e1; injection e1 with e1; injection e1 with e1; injection e1 with e1; exact e1.symm
  refine ⟨bel_set h.bel e2, fun j hj hs => ?_, ?_, ?_, ?_, ?_, ?_⟩
  · have : ¬ j = 7 := by omega
    rw [if_neg this]; exact h.pre j hj (by simpa [this] using hs)
  all_goals simp only [show ((4 : Nat) == 7) = false from rfl, show ((5 : Nat) == 7) = false from rfl, show ((6 : Nat) == 7) = false from rfl, show ((7 : Nat) == 7) = true from rfl, Bool.or_false, Bool.or_true, if_neg (show ¬ (4 : Nat) = 7 by decide), if_neg (show ¬ (5 : Nat) = 7 by decide)]
  · exact fun h4 => (h.b4 h4).set (h.ne h4 h5) hq
  · exact fun _ => ⟨p, b.toArray, hq, e2, Back.st e3 (by rw [e4, hb]), by simpa using hb, fun _ => rfl⟩
  · exact h.ne
  · exact h.o6
  · exact fun _ => h5
theorem J2.fin (h : J2 v a b s V u) (hall : ∀ i, i < 8 → s i = true) : ∃ p q, V 4 = .pointer (some ⟨p, 0, none⟩) ∧ V 5 = .pointer (some ⟨q, 0, none⟩) ∧ p ≠ q ∧ v.heap.size ≤ p ∧ v.heap.size ≤ q ∧ u.heap[p]? = some (.cells a.toArray 56 (0, 0)) ∧ u.heap[q]? = some (.cells b.toArray 56 (0, 0)) ∧ Below v.heap.size v u := by
  obtain ⟨p, X, e1, e2, e3, e4, e5⟩ := h.b4 (hall 4 (by decide))
  obtain ⟨q, Y, g1, g2, g3, g4, g5⟩ := h.b5 (hall 5 (by decide))
  refine ⟨p, q, e1, g1, fun e => h.ne (hall 4 (by decide)) (hall 5 (by decide)) (by rw [e1, g1, e]), e2, g2, by rw [e3, e5 (hall 6 (by decide))], by rw [g3, g5 (hall 7 (by decide))], h.bel⟩
theorem put_none (a : Act) (v : Value) : a.put none v = a := rfl
end Re
end Go.Proofs.YtpllcnpmjnmcfaaDoor
