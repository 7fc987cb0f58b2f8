/-
  Resources as plain data: sums, differences, the greater ones, what a pod asks for, and what follows of it. No condition.
-/
import Derived.Test.YtpllcnpmjnmcfaaDoorNumMath
namespace Go.Proofs.YtpllcnpmjnmcfaaDoor
open NumMath
namespace Re

structure Rx where
  c : Int
  m : Int
  p : Int
structure Rx.Ok (a : Rx) : Prop where
  c : fits a.c = true
  m : fits a.m = true
  p : fits a.p = true
def z3 : Rx := ⟨0, 0, 0⟩
theorem z3_ok : z3.Ok := ⟨by decide, by decide, by decide⟩
/-- three numbers made, if each could be -/
def three (x y z : Int) (p q r : Bool) : Rx × Bool := if p && q && r then (⟨x, y, z⟩, true) else (z3, false)
def addR (a b : Rx) : Rx × Bool := three (a.c + b.c) (a.m + b.m) (a.p + b.p) (fits (a.c + b.c)) (fits (a.m + b.m)) (fits (a.p + b.p))
def subB (x y : Int) : Bool := decide (y ≤ x) && fits (x - y)
def subR (a b : Rx) : Rx × Bool := three (a.c - b.c) (a.m - b.m) (a.p - b.p) (subB a.c b.c) (subB a.m b.m) (subB a.p b.p)
def sumR : Rx → List Rx → Rx × Bool
  | s, [] => (s, true)
  | s, x :: l => if (addR s x).2 = true then sumR (addR s x).1 l else (z3, false)
def maxR (a b : Rx) : Rx := ⟨max a.c b.c, max a.m b.m, max a.p b.p⟩
def fitsR (a b : Rx) : Bool := decide (a.c ≤ b.c) && decide (a.m ≤ b.m) && decide (a.p ≤ b.p)
def overI (u k : Int) : Int := if u ≤ k then 0 else if fits (u - k) = true then u - k else 9223372036854775807
def overR (a b : Rx) : Rx := ⟨overI a.c b.c, overI a.m b.m, overI a.p b.p⟩
def maxL (s : Rx) (l : List Rx) : Rx := l.foldl maxR s
/-- what a pod asks for -/
def ofR (init main : List Rx) : Rx × Bool := if (sumR z3 main).2 = true then (maxL (sumR z3 main).1 init, true) else (z3, false)
theorem three_yes {x y z : Int} : three x y z true true true = (⟨x, y, z⟩, true) := rfl
theorem three_ok {x y z : Int} {p q r : Bool} (h1 : p = true → fits x = true) (h2 : q = true → fits y = true) (h3 : r = true → fits z = true) : (three x y z p q r).1.Ok := by
  unfold three
  split
  · rename_i h
    simp only [Bool.and_eq_true] at h
    exact ⟨h1 h.1.1, h2 h.1.2, h3 h.2⟩
  · exact z3_ok
theorem add_ok (a b : Rx) : (addR a b).1.Ok := three_ok id id id
theorem sub_ok (a b : Rx) : (subR a b).1.Ok := three_ok (fun h => (Bool.and_eq_true _ _ ▸ h : _ ∧ _).2) (fun h => (Bool.and_eq_true _ _ ▸ h : _ ∧ _).2) (fun h => (Bool.and_eq_true _ _ ▸ h : _ ∧ _).2)
theorem sum_ok : ∀ (l : List Rx) {s : Rx}, s.Ok → (sumR s l).1.Ok
  | [], _, h => h
  | x :: l, s, h => by
    unfold sumR
    split
    · exact sum_ok l (add_ok s x)
    · exact z3_ok
theorem max_ok {a b : Rx} (ha : a.Ok) (hb : b.Ok) : (maxR a b).Ok := by
  have h1 := fits_iff.1 ha.c; have h2 := fits_iff.1 ha.m; have h3 := fits_iff.1 ha.p
  have h4 := fits_iff.1 hb.c; have h5 := fits_iff.1 hb.m; have h6 := fits_iff.1 hb.p
  exact ⟨fits_iff.2 (by show _ ≤ max a.c b.c ∧ max a.c b.c ≤ _; omega), fits_iff.2 (by show _ ≤ max a.m b.m ∧ max a.m b.m ≤ _; omega), fits_iff.2 (by show _ ≤ max a.p b.p ∧ max a.p b.p ≤ _; omega)⟩
theorem maxL_ok : ∀ (l : List Rx) {s : Rx}, s.Ok → (∀ x ∈ l, x.Ok) → (maxL s l).Ok
  | [], _, h, _ => h
  | x :: l, s, h, hl => maxL_ok l (max_ok h (hl x (by simp))) (fun y hy => hl y (by simp [hy]))
theorem of_ok {i m : List Rx} (hi : ∀ x ∈ i, x.Ok) : (ofR i m).1.Ok := by
  unfold ofR
  split
  · exact maxL_ok i (sum_ok m z3_ok) hi
  · exact z3_ok
theorem over_ok (u k : Int) : fits (overI u k) = true := by
  unfold overI
  split
  · decide
  · split
    · assumption
    · decide
theorem fitsR_iff {a b : Rx} : fitsR a b = true ↔ a.c ≤ b.c ∧ a.m ≤ b.m ∧ a.p ≤ b.p := by
  unfold fitsR
  simp [and_assoc]
/-- the sums, not looking whether they fit -/
def tot (f : Rx → Int) (l : List Rx) : Int := l.foldr (fun x s => f x + s) 0
theorem tot_nil (f : Rx → Int) : tot f [] = 0 := rfl
theorem tot_cons (f : Rx → Int) (x : Rx) (l : List Rx) : tot f (x :: l) = f x + tot f l := rfl
theorem tot_append (f : Rx → Int) (l m : List Rx) : tot f (l ++ m) = tot f l + tot f m := by
  induction l with
  | nil => simp [tot_nil]
  | cons x l ih => rw [List.cons_append, tot_cons, tot_cons, ih]; omega
theorem tot_reverse (f : Rx → Int) (l : List Rx) : tot f l.reverse = tot f l := by
  induction l with
  | nil => rfl
  | cons x l ih => rw [List.reverse_cons, tot_append, ih, tot_cons, tot_cons, tot_nil]; omega
/-- from 0 to a bound each -/
structure In (k : Int) (a : Rx) : Prop where
  c : 0 ≤ a.c ∧ a.c ≤ k
  m : 0 ≤ a.m ∧ a.m ≤ k
  p : 0 ≤ a.p ∧ a.p ≤ k
theorem In.ok {k : Int} {a : Rx} (h : In k a) (hk : k ≤ 9223372036854775807) : a.Ok :=
  ⟨fits_iff.2 (by have := h.c; omega), fits_iff.2 (by have := h.m; omega), fits_iff.2 (by have := h.p; omega)⟩
theorem tot_le {k : Int} (hk : 0 ≤ k) : ∀ {l : List Rx}, (∀ x ∈ l, In k x) → (0 ≤ tot Rx.c l ∧ tot Rx.c l ≤ l.length * k) ∧ (0 ≤ tot Rx.m l ∧ tot Rx.m l ≤ l.length * k) ∧ (0 ≤ tot Rx.p l ∧ tot Rx.p l ≤ l.length * k)
  | [], _ => by simp [tot_nil]
  | x :: l, h => by
    obtain ⟨h1, h2, h3⟩ := tot_le hk (l := l) (fun y hy => h y (by simp [hy]))
    have hx := h x (by simp)
    have e : (((x :: l).length : Nat) : Int) * k = (l.length : Int) * k + k := by rw [List.length_cons, Int.natCast_add, Int.add_mul]; simp
    rw [e, tot_cons, tot_cons, tot_cons]
    have := hx.c; have := hx.m; have := hx.p
    omega
/-- sums that fit on the way -/
theorem sum_in {k : Int} (hk : 0 ≤ k) : ∀ {l : List Rx} {s : Rx}, (∀ x ∈ l, In k x) → 0 ≤ s.c → 0 ≤ s.m → 0 ≤ s.p → s.c + l.length * k ≤ 9223372036854775807 → s.m + l.length * k ≤ 9223372036854775807 → s.p + l.length * k ≤ 9223372036854775807 →
    sumR s l = (⟨s.c + tot Rx.c l, s.m + tot Rx.m l, s.p + tot Rx.p l⟩, true)
  | [], s, _, _, _, _, _, _, _ => by simp [sumR, tot_nil]
  | x :: l, s, h, h1, h2, h3, h4, h5, h6 => by
    have hx := h x (by simp)
    have e : (((x :: l).length : Nat) : Int) * k = (l.length : Int) * k + k := by rw [List.length_cons, Int.natCast_add, Int.add_mul]; simp
    rw [e] at h4 h5 h6
    have hl : 0 ≤ (l.length : Int) * k := Int.mul_nonneg (by omega) hk
    have a1 := hx.c; have a2 := hx.m; have a3 := hx.p
    have hadd : addR s x = (⟨s.c + x.c, s.m + x.m, s.p + x.p⟩, true) := by
      unfold addR
      rw [fits_yes (by omega) (by omega), fits_yes (n := s.m + x.m) (by omega) (by omega), fits_yes (n := s.p + x.p) (by omega) (by omega)]
      rfl
    unfold sumR
    rw [hadd, if_pos rfl, sum_in hk (l := l) (s := ⟨s.c + x.c, s.m + x.m, s.p + x.p⟩) (fun y hy => h y (by simp [hy])) (by show 0 ≤ s.c + x.c; omega) (by show 0 ≤ s.m + x.m; omega) (by show 0 ≤ s.p + x.p; omega) (by show s.c + x.c + _ ≤ _; omega) (by show s.m + x.m + _ ≤ _; omega) (by show s.p + x.p + _ ≤ _; omega)]
    simp only [tot_cons, Int.add_assoc]
theorem sum_z {k : Int} (hk : 0 ≤ k) {l : List Rx} (h : ∀ x ∈ l, In k x) (hb : (l.length : Int) * k ≤ 9223372036854775807) : sumR z3 l = (⟨tot Rx.c l, tot Rx.m l, tot Rx.p l⟩, true) := by
  rw [sum_in hk h (Int.le_refl _) (Int.le_refl _) (Int.le_refl _) (by show 0 + _ ≤ _; omega) (by show 0 + _ ≤ _; omega) (by show 0 + _ ≤ _; omega)]
  simp [z3]
theorem add_in {a b : Rx} (h1 : 0 ≤ a.c ∧ 0 ≤ b.c ∧ a.c + b.c ≤ 9223372036854775807) (h2 : 0 ≤ a.m ∧ 0 ≤ b.m ∧ a.m + b.m ≤ 9223372036854775807) (h3 : 0 ≤ a.p ∧ 0 ≤ b.p ∧ a.p + b.p ≤ 9223372036854775807) : addR a b = (⟨a.c + b.c, a.m + b.m, a.p + b.p⟩, true) := by
  unfold addR
  rw [fits_yes (by omega) (by omega), fits_yes (n := a.m + b.m) (by omega) (by omega), fits_yes (n := a.p + b.p) (by omega) (by omega)]
  rfl
theorem sub_in {a b : Rx} (h1 : 0 ≤ b.c ∧ b.c ≤ a.c ∧ a.c ≤ 9223372036854775807) (h2 : 0 ≤ b.m ∧ b.m ≤ a.m ∧ a.m ≤ 9223372036854775807) (h3 : 0 ≤ b.p ∧ b.p ≤ a.p ∧ a.p ≤ 9223372036854775807) : subR a b = (⟨a.c - b.c, a.m - b.m, a.p - b.p⟩, true) := by
  unfold subR subB
  rw [fits_yes (n := a.c - b.c) (by omega) (by omega), fits_yes (n := a.m - b.m) (by omega) (by omega), fits_yes (n := a.p - b.p) (by omega) (by omega), decide_eq_true h1.2.1, decide_eq_true h2.2.1, decide_eq_true h3.2.1]
  rfl
/-- the greater ones of many -/
theorem maxL_ge : ∀ (l : List Rx) (s : Rx), fitsR s (maxL s l) = true ∧ ∀ x ∈ l, fitsR x (maxL s l) = true
  | [], s => ⟨fitsR_iff.2 ⟨Int.le_refl _, Int.le_refl _, Int.le_refl _⟩, fun x hx => by cases hx⟩
  | y :: l, s => by
    obtain ⟨h1, h2⟩ := maxL_ge l (maxR s y)
    rw [fitsR_iff] at h1
    have e : maxL s (y :: l) = maxL (maxR s y) l := rfl
    rw [e]
    have h3 : max s.c y.c ≤ _ := h1.1
    have h4 : max s.m y.m ≤ _ := h1.2.1
    have h5 : max s.p y.p ≤ _ := h1.2.2
    refine ⟨fitsR_iff.2 ⟨by omega, by omega, by omega⟩, fun x hx => ?_⟩
    rcases List.mem_cons.1 hx with rfl | hx
    · exact fitsR_iff.2 ⟨by omega, by omega, by omega⟩
    · exact h2 x hx
theorem maxL_mono : ∀ (l : List Rx) {s t : Rx}, fitsR s t = true → fitsR (maxL s l) (maxL t l) = true
  | [], _, _, h => h
  | y :: l, s, t, h => maxL_mono l (s := maxR s y) (t := maxR t y) (by
      rw [fitsR_iff] at h ⊢
      show max s.c y.c ≤ max t.c y.c ∧ max s.m y.m ≤ max t.m y.m ∧ max s.p y.p ≤ max t.p y.p
      omega)
/-- ALL THAT IT ASKS FOR: of containers whose numbers are from 0 on -/
theorem of_in {k : Int} (hk : 0 ≤ k) {i m : List Rx} (h : ∀ x ∈ m, In k x) (hb : (m.length : Int) * k ≤ 9223372036854775807) : ofR i m = (maxL ⟨tot Rx.c m, tot Rx.m m, tot Rx.p m⟩ i, true) := by
  unfold ofR
  rw [sum_z hk h hb, if_pos rfl]
theorem tot_less {k : Int} {a b : List Rx} {x : Rx} (h : ∀ y ∈ a ++ x :: b, In k y) : (tot Rx.c (a ++ x :: b) = tot Rx.c (a ++ b) + x.c ∧ tot Rx.m (a ++ x :: b) = tot Rx.m (a ++ b) + x.m ∧ tot Rx.p (a ++ x :: b) = tot Rx.p (a ++ b) + x.p) ∧ In k x := by
  refine ⟨⟨?_, ?_, ?_⟩, h x (by simp)⟩ <;> rw [tot_append, tot_append, tot_cons] <;> omega
end Re
end Go.Proofs.YtpllcnpmjnmcfaaDoor
