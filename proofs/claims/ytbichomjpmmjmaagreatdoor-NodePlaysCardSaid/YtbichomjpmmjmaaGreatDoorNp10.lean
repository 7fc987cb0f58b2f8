/-
  A region that draws its order, reads, calls functions, and stores into one box that was there (JE), or into one that it makes (JN): what is true on the way, whatever the numbers of these operations. Condition: what depends on what (D).
-/
import Derived.Test.YtbichomjpmmjmaaGreatDoorNp4
import Derived.Test.YtbichomjpmmjmaaGreatDoorNp9
import Derived.Test.YtbichomjpmmjmaaGreatDoorNp6
import Derived.Deep.MidRow
import Derived.ProofKit
import Derived.WalkKit
import Derived.Below
import Derived.Lib.Hide
import Derived.Laws.AppendOwn
set_option linter.unusedVariables false
set_option linter.unusedSimpArgs false
namespace Go.Proofs.YtbichomjpmmjmaaGreatDoor
open Go.ChangeShapes Go.WideShapes Go.ChangeAt Go.RowKit Go.Lib
namespace Jx
theorem lt_of_at {w : World} {g : Nat} {o : Obj} (h : w.heap[g]? = some o) : g < w.heap.size := by
  rcases Nat.lt_or_ge g w.heap.size with hl | hl
  · exact hl
  · rw [Array.getElem?_eq_none hl] at h; cases h
/-- all that is below B is as it was, but block b -/
structure But (B b : Nat) (v u : World) : Prop where
  os : u.os = v.os
  tape : u.tape = v.tape
  output : u.output = v.output
  size : v.heap.size ≤ u.heap.size
  block : ∀ k, k < B → k ≠ b → u.heap[k]? = v.heap[k]?
theorem But.below {B B' b : Nat} {w v u : World} (h : But B b v u) (hw : Below B' w v) (h1 : B' ≤ B) (h2 : B' ≤ b) : Below B' w u :=
  ⟨h.os.trans hw.os, h.tape.trans hw.tape, h.output.trans hw.output, Nat.le_trans hw.size h.size, fun k hk => (h.block k (by omega) (by omega)).trans (hw.block k hk)⟩
theorem But.then {B b : Nat} {v u u' : World} (h : But B b v u) (hB : B ≤ v.heap.size) (hb : Below u.heap.size u u') : But B b v u' :=
  ⟨hb.os.trans h.os, hb.tape.trans h.tape, hb.output.trans h.output, Nat.le_trans h.size hb.size, fun k hk hn => (hb.block k (by have := h.size; omega)).trans (h.block k hk hn)⟩
structure JE (v : World) (b n : Nat) (cs ds : List Value) (t : TypeId) (D : List (Nat × Nat)) (vs : List Value) (s : Nat → Bool) (V : Nat → Value) (u : World) : Prop where
  but : But v.heap.size b v u
  val : ∀ j, j ≠ n → s j = true → V j = vs.getD j undef
  cl : ∀ p ∈ D, s p.1 = true → s p.2 = true
  bx : u.heap[b]? = some (.cells (if s n = true then ds else cs).toArray t (0, 0))
section
variable {v u : World} {b n : Nat} {cs ds : List Value} {t : TypeId} {D : List (Nat × Nat)} {vs : List Value} {s : Nat → Bool} {V : Nat → Value}
theorem cl_add {i : Nat} (h : ∀ p ∈ D, s p.1 = true → s p.2 = true) (hi : (D.filter fun p => p.1 == i).all (fun p => s p.2) = true) : ∀ p ∈ D, (s p.1 || p.1 == i) = true → (s p.2 || p.2 == i) = true := fun p hp h1 => by
  rw [Bool.or_eq_true] at h1 ⊢
  rcases h1 with h1 | h1
  · exact .inl (h p hp h1)
  · exact .inl (List.all_eq_true.1 hi p (List.mem_filter.2 ⟨hp, h1⟩))
theorem JE.start (hb : v.heap[b]? = some (.cells cs.toArray t (0, 0))) (V : Nat → Value) : JE v b n cs ds t D vs (fun _ => false) V v.drew :=
  ⟨⟨rfl, rfl, rfl, Nat.le_refl _, fun _ _ _ => rfl⟩, fun _ _ h => Bool.noConfusion h, fun _ _ h => Bool.noConfusion h, hb⟩
theorem JE.get (h : JE v b n cs ds t D vs s V u) (j : Nat) (hj : j ≠ n) (hs : s j = true) {x : Value} (hx : vs.getD j undef = x) : V j = x := (h.val j hj hs).trans hx
theorem JE.step (h : JE v b n cs ds t D vs s V u) (i : Nat) (hi : i ≠ n) (hc : (D.filter fun p => p.1 == i).all (fun p => s p.2) = true) {u' : World} (hb : Below u.heap.size u u') {x : Value} (hx : x = vs.getD i undef) : JE v b n cs ds t D vs (fun j => s j || j == i) (fun j => if j = i then x else V j) u' := by
  refine ⟨h.but.then (Nat.le_refl _) hb, fun j hj hs => ?_, cl_add h.cl hc, ?_⟩
  · by_cases hji : j = i
    · subst hji; rw [if_pos rfl]; exact hx
    · rw [if_neg hji]; exact h.val j hj (by simpa [hji] using hs)
  · have e : (n == i) = false := by simp; omega
    simp only [e, Bool.or_false]
    exact (hb.block b (lt_of_at h.bx)).trans h.bx
theorem JE.st (h : JE v b n cs ds t D vs s V u) (hc : (D.filter fun p => p.1 == n).all (fun p => s p.2) = true) (hl : cs.length = ds.length) (x : Value) : JE v b n cs ds t D vs (fun j => s j || j == n) (fun j => if j = n then x else V j) (u.setCells b 0 ds) := by
  have f := Back.far b ds 0 u
  refine ⟨⟨f.1.trans h.but.os, f.2.1.trans h.but.tape, f.2.2.1.trans h.but.output, by rw [f.2.2.2.1]; exact h.but.size, fun k hk hn => (f.2.2.2.2 k hn).trans (h.but.block k hk hn)⟩, fun j hj hs => ?_, cl_add h.cl hc, ?_⟩
  · rw [if_neg hj]; exact h.val j hj (by simpa [hj] using hs)
  · have e : (n == n) = true := by simp
    simp only [e, Bool.or_true, if_true]
    exact Back.st h.bx (by split <;> simp [hl])
/-- before the store -/
theorem JE.old (h : JE v b n cs ds t D vs s V u) (hs : s n = false) : u.heap[b]? = some (.cells cs.toArray t (0, 0)) := by
  have := h.bx
  rwa [hs, if_neg (by decide)] at this
theorem JE.back (h : JE v b n cs ds t D vs s V u) {j : Nat} (k : Nat) (hp : (k, j) ∈ D) (hs : s j = false) : s k = false := by
  cases hk : s k with
  | false => rfl
  | true => rw [h.cl _ hp hk] at hs; cases hs
end
/-- a new box, made (na) and filled (ns) -/
structure JN (v : World) (na ns : Nat) (m : Nat) (ds : List Value) (t : TypeId) (vs : List Value) (s : Nat → Bool) (V : Nat → Value) (u : World) : Prop where
  bel : Below v.heap.size v u
  val : ∀ j, j ≠ na → j ≠ ns → s j = true → V j = vs.getD j undef
  bx : s na = true → ∃ q X, V na = .pointer (some ⟨q, 0, none⟩) ∧ v.heap.size ≤ q ∧ u.heap[q]? = some (.cells X t (0, 0)) ∧ X.size = m ∧ (s ns = true → X = ds.toArray)
  ord : s ns = true → s na = true
section
variable {v u : World} {na ns m : Nat} {ds : List Value} {t : TypeId} {vs : List Value} {s : Nat → Bool} {V : Nat → Value}
theorem JN.start (V : Nat → Value) : JN v na ns m ds t vs (fun _ => false) V v.drew :=
  ⟨Below.drew (Below.refl _ _), fun _ _ _ h => Bool.noConfusion h, fun h => Bool.noConfusion h, fun h => Bool.noConfusion h⟩
theorem JN.get (h : JN v na ns m ds t vs s V u) (j : Nat) (h1 : j ≠ na) (h2 : j ≠ ns) (hs : s j = true) {x : Value} (hx : vs.getD j undef = x) : V j = x := (h.val j h1 h2 hs).trans hx
theorem JN.step (h : JN v na ns m ds t vs s V u) (i : Nat) (h1 : i ≠ na) (h2 : i ≠ ns) {u' : World} (hb : Below u.heap.size u u') {x : Value} (hx : x = vs.getD i undef) : JN v na ns m ds t vs (fun j => s j || j == i) (fun j => if j = i then x else V j) u' := by
  have e1 : (na == i) = false := by simp; omega
  have e2 : (ns == i) = false := by simp; omega
  refine ⟨h.bel.trans (hb.mono h.bel.size), fun j g1 g2 hs => ?_, ?_, ?_⟩
  · by_cases hji : j = i
    · subst hji; rw [if_pos rfl]; exact hx
    · rw [if_neg hji]; exact h.val j g1 g2 (by simpa [hji] using hs)
  all_goals simp only [e1, e2, Bool.or_false, if_neg (Ne.symm h1)]
  · intro hs
    obtain ⟨q, X, q1, q2, q3, q4⟩ := h.bx hs
    exact ⟨q, X, q1, q2, (hb.block q (lt_of_at q3)).trans q3, q4⟩
  · exact h.ord
theorem JN.al (h : JN v na ns m ds t vs s V u) (hne : ns ≠ na) (hs : s na = false) (Z : Array Value) (hZ : Z.size = m) : JN v na ns m ds t vs (fun j => s j || j == na) (fun j => if j = na then .pointer (some ⟨u.heap.size, 0, none⟩) else V j) (u.alloc (.cells Z t (0, 0))) := by
  have hb : Below u.heap.size u (u.alloc (.cells Z t (0, 0))) := (Below.refl _ _).alloc (Nat.le_refl _) _
  have hn : s ns = false := by
    cases hk : s ns with
    | false => rfl
    | true => rw [h.ord hk] at hs; cases hs
  have e1 : (na == na) = true := by simp
  have e2 : (ns == na) = false := by simp; omega
  refine ⟨h.bel.trans (hb.mono h.bel.size), fun j g1 g2 hs => ?_, ?_, ?_⟩
  · rw [if_neg g1]; exact h.val j g1 g2 (by simpa [g1] using hs)
  all_goals simp only [e1, e2, Bool.or_false, Bool.or_true, if_pos]
  · exact fun _ => ⟨u.heap.size, Z, rfl, h.bel.size, heap_alloc_new u _, hZ, fun h => by rw [hn] at h; cases h⟩
  · exact fun h => by simp
theorem JN.st (h : JN v na ns m ds t vs s V u) (hne : ns ≠ na) (hr : ds.length = m) (hs : s na = true) {q : Nat} (hq : V na = .pointer (some ⟨q, 0, none⟩)) (x : Value) : JN v na ns m ds t vs (fun j => s j || j == ns) (fun j => if j = ns then x else V j) (u.setCells q 0 ds) := by
  obtain ⟨p, X, e1, e2, e3, e4, e5⟩ := h.bx hs
  obtain rfl : p = q := by rw [hq] at e1; injection e1 with e1; injection e1 with e1; injection e1 with e1; exact e1.symm
  have f := Back.far p ds 0 u
  have g1 : (na == ns) = false := by simp; omega
  have g2 : (ns == ns) = true := by simp
  refine ⟨⟨f.1.trans h.bel.os, f.2.1.trans h.bel.tape, f.2.2.1.trans h.bel.output, by rw [f.2.2.2.1]; exact h.bel.size, fun k hk => (f.2.2.2.2 k (by omega)).trans (h.bel.block k hk)⟩, fun j h1 h2 hs => ?_, ?_, ?_⟩
  · rw [if_neg h2]; exact h.val j h1 h2 (by simpa [h2] using hs)
  all_goals simp only [g1, g2, Bool.or_false, Bool.or_true, if_neg (Ne.symm hne)]
  · exact fun _ => ⟨p, ds.toArray, hq, e2, Back.st e3 (by rw [e4, hr]), by simpa using hr, fun _ => rfl⟩
  · exact fun _ => hs
end
end Jx
end Go.Proofs.YtbichomjpmmjmaaGreatDoor

/-
  A region that draws its order, reads, calls functions, and does one thing to the world (operation n: P ahead of it, Q behind); one value (of operation x) may be what R says instead of a plain one. Condition: what depends on what (D).
-/
set_option linter.unusedVariables false
set_option linter.unusedSimpArgs false
namespace Go.Proofs.YtbichomjpmmjmaaGreatDoor
open Go.RowKit
namespace Jx
structure JX (P Q : World → Prop) (n x : Nat) (R : Value → World → Prop) (D : List (Nat × Nat)) (vs : List Value) (s : Nat → Bool) (V : Nat → Value) (u : World) : Prop where
  pre : s n = false → P u
  post : s n = true → Q u
  rx : s n = false → s x = true → R (V x) u
  val : ∀ j, j ≠ n → j ≠ x → s j = true → V j = vs.getD j undef
  cl : ∀ p ∈ D, s p.1 = true → s p.2 = true
section
variable {P Q : World → Prop} {n x : Nat} {R : Value → World → Prop} {D : List (Nat × Nat)} {vs : List Value} {s : Nat → Bool} {V : Nat → Value} {u : World}
theorem JX.start (h : P u) (V : Nat → Value) : JX P Q n x R D vs (fun _ => false) V u :=
  ⟨fun _ => h, fun h => Bool.noConfusion h, fun _ h => Bool.noConfusion h, fun _ _ _ h => Bool.noConfusion h, fun _ _ h => Bool.noConfusion h⟩
theorem JX.get (h : JX P Q n x R D vs s V u) (j : Nat) (h1 : j ≠ n) (h2 : j ≠ x) (hs : s j = true) {y : Value} (hy : vs.getD j undef = y) : V j = y := (h.val j h1 h2 hs).trans hy
theorem JX.both (h : JX P P n x R D vs s V u) : P u := by
  cases hn : s n with
  | false => exact h.pre hn
  | true => exact h.post hn
/-- one that leaves the world as it is, or (before n) lets it grow -/
theorem JX.step (h : JX P Q n x R D vs s V u) (i : Nat) (hi : i ≠ n) (hx : i ≠ x) (hc : (D.filter fun p => p.1 == i).all (fun p => s p.2) = true) {u' : World} (hp : s n = false → P u → P u') (hq : s n = true → Q u → Q u') (hr : s n = false → s x = true → R (V x) u → R (V x) u') {y : Value} (hy : y = vs.getD i undef) :
    JX P Q n x R D vs (fun j => s j || j == i) (fun j => if j = i then y else V j) u' := by
  have e1 : (n == i) = false := by simp; omega
  have e2 : (x == i) = false := by simp; omega
  refine ⟨?_, ?_, ?_, fun j g1 g2 hs => ?_, cl_add h.cl hc⟩
  · simp only [e1, Bool.or_false]; exact fun hs => hp hs (h.pre hs)
  · simp only [e1, Bool.or_false]; exact fun hs => hq hs (h.post hs)
  · simp only [e1, e2, Bool.or_false, if_neg (Ne.symm hx)]; exact fun h1 h2 => hr h1 h2 (h.rx h1 h2)
  · by_cases hji : j = i
    · subst hji; rw [if_pos rfl]; exact hy
    · rw [if_neg hji]; exact h.val j g1 g2 (by simpa [hji] using hs)
theorem JX.stay (h : JX P Q n x R D vs s V u) (i : Nat) (hi : i ≠ n) (hx : i ≠ x) (hc : (D.filter fun p => p.1 == i).all (fun p => s p.2) = true) {y : Value} (hy : y = vs.getD i undef) :
    JX P Q n x R D vs (fun j => s j || j == i) (fun j => if j = i then y else V j) u := h.step i hi hx hc (fun _ h => h) (fun _ h => h) (fun _ _ h => h) hy
/-- the one whose value is told by R -/
theorem JX.told (h : JX P Q n x R D vs s V u) (hne : x ≠ n) (hc : (D.filter fun p => p.1 == x).all (fun p => s p.2) = true) (hs : s n = false) {u' : World} {y : Value} (hp : P u') (hr : R y u') :
    JX P Q n x R D vs (fun j => s j || j == x) (fun j => if j = x then y else V j) u' := by
  have e1 : (n == x) = false := by simp; omega
  refine ⟨fun _ => hp, ?_, fun _ _ => by simp only [if_true]; exact hr, fun j g1 g2 hs => ?_, cl_add h.cl hc⟩
  · simp only [e1, Bool.or_false]; exact fun h => by rw [hs] at h; cases h
  · rw [if_neg g2]; exact h.val j g1 g2 (by simpa [g2] using hs)
/-- the thing itself -/
theorem JX.fire (h : JX P Q n x R D vs s V u) (hc : (D.filter fun p => p.1 == n).all (fun p => s p.2) = true) {u' : World} (hq : Q u') (y : Value) :
    JX P Q n x R D vs (fun j => s j || j == n) (fun j => if j = n then y else V j) u' := by
  have e1 : (n == n) = true := by simp
  refine ⟨?_, fun _ => hq, ?_, fun j g1 g2 hs => ?_, cl_add h.cl hc⟩
  · simp only [e1, Bool.or_true]; exact fun h => Bool.noConfusion h
  · simp only [e1, Bool.or_true]; exact fun h => Bool.noConfusion h
  · rw [if_neg g1]; exact h.val j g1 g2 (by simpa [g1] using hs)
theorem JX.back (h : JX P Q n x R D vs s V u) {j : Nat} (k : Nat) (hp : (k, j) ∈ D) (hs : s j = false) : s k = false := by
  cases hk : s k with
  | false => rfl
  | true => rw [h.cl _ hp hk] at hs; cases hs
end
theorem wanted_of {ops : Array Oper} {o : Oper} {a : Act} {j d : Nat} {b : Bool} (hg : o.guard = some (j, b)) (hj : (ops[j]?).bind (·.dst) = some d) (hv : a.tmps.getD d undef = .bool b) : Region.wanted o (yielded ops a.tmps) = true := by
  have hs : a.tmps[d]? = some (.bool b) := by
    rw [Array.getD_eq_getD_getElem?] at hv
    cases h : a.tmps[d]? with
    | none => rw [h] at hv; simp [undef] at hv
    | some x => rw [h] at hv; simp at hv; rw [hv]
  unfold Region.wanted
  rw [hg]
  simp [yielded, hj, hs]
theorem unwanted_of {ops : Array Oper} {o : Oper} {a : Act} {j d : Nat} {b : Bool} (hg : o.guard = some (j, !b)) (hj : (ops[j]?).bind (·.dst) = some d) (hv : a.tmps.getD d undef = .bool b) : Region.wanted o (yielded ops a.tmps) = false := by
  have hs : a.tmps[d]? = some (.bool b) := by
    rw [Array.getD_eq_getD_getElem?] at hv
    cases h : a.tmps[d]? with
    | none => rw [h] at hv; simp [undef] at hv
    | some x => rw [h] at hv; simp at hv; rw [hv]
  unfold Region.wanted
  rw [hg]
  simp [yielded, hj, hs]
/-- cells written in the middle of a box -/
def setA (A : Array Value) : Nat → List Value → Array Value
  | _, [] => A
  | o, v :: vs => setA (A.setIfInBounds o v) (o + 1) vs
theorem set_mid (g : Nat) (t : TypeId) : ∀ (vs : List Value) (o : Nat) (w : World) (A : Array Value), w.heap[g]? = some (.cells A t (0, 0)) → (w.setCells g o vs).heap[g]? = some (.cells (setA A o vs) t (0, 0))
  | [], _, _, _, h => h
  | v :: vs, o, w, A, h => set_mid g t vs (o + 1) (w.setCell ⟨g, o, none⟩ v) _ (heap_setCell_same w g o A t v h)
end Jx
end Go.Proofs.YtbichomjpmmjmaaGreatDoor

/-
  The program's node: Has, Used, Owner, and whether a port is taken. Condition: the node is one (Nn).
-/
set_option linter.unusedVariables false
set_option linter.unusedSimpArgs false
namespace Go.Proofs.YtbichomjpmmjmaaGreatDoor
open Go.ChangeShapes Go.WideShapes Go.ChangeAt Go.RowKit Go.Lib
namespace Nn
open Re Nd
theorem res_has (tmps : Array Value) (w : World) (p : Nat) (xs : List Value) (h2 : tmps.getD 2 undef = .pointer (some ⟨p, 0, none⟩)) (hX : w.heap[p]? = some (.cells xs.toArray 23 (0, 0))) (hm : xs.length = 3) :
    (results Tryz.f15 tmps).run Tryz.prog w = .ok (.agg xs.toArray) w := by
  have h1 : (loadVar 23 ⟨p, 0, none⟩).run Tryz.prog w = .ok (.agg xs.toArray) w := run_loadVar_mid w p 0 23 _ _ (range_box hX) Tryz.underlying23 rfl (by rw [hm]; kernel_rfl)
  simp only [results, Tryz.results15]
  simp only [Array.getD_eq_getD_getElem?] at h2
  have ha : (asAddr (tmps[2]?.getD undef)).run Tryz.prog w = .ok ⟨p, 0, none⟩ w := by rw [h2]; rfl
  simp [Sem.run_bind, h1, ha]
theorem res_used (tmps : Array Value) (w : World) (p : Nat) (xs : List Value) (h2 : tmps.getD 2 undef = .pointer (some ⟨p, 0, none⟩)) (hX : w.heap[p]? = some (.cells xs.toArray 23 (0, 0))) (hm : xs.length = 3) :
    (results Tryz.f13 tmps).run Tryz.prog w = .ok (.agg xs.toArray) w := by
  have h1 : (loadVar 23 ⟨p, 0, none⟩).run Tryz.prog w = .ok (.agg xs.toArray) w := run_loadVar_mid w p 0 23 _ _ (range_box hX) Tryz.underlying23 rfl (by rw [hm]; kernel_rfl)
  simp only [results, Tryz.results13]
  simp only [Array.getD_eq_getD_getElem?] at h2
  have ha : (asAddr (tmps[2]?.getD undef)).run Tryz.prog w = .ok ⟨p, 0, none⟩ w := by rw [h2]; rfl
  simp [Sem.run_bind, h1, ha]
set_option maxRecDepth 100000 in
theorem has_any {B : Nat} {g : Nat} {has : Rx} {l : Pods} (w : World) (h : Nn B w g has l) : Calls Tryz.prog 15 #[.pointer (some ⟨g, 0, none⟩)] w (Told1 has w) := by
  obtain ⟨m, p, T, h⟩ := h
  obtain ⟨w0, hw0⟩ : ∃ v, w.alloc (.cells #[.int .i64 0, .int .i64 0, .int .i64 0] 23) = v := ⟨_, rfl⟩
  have B0 := Lib.hid (show Below w.heap.size w w0 by rw [← hw0]; exact (Below.refl _ _).alloc (Nat.le_refl _) _)
  have Z0 := Lib.hid (show w0.heap[w.heap.size]? = some (.cells #[.int .i64 0, .int .i64 0, .int .i64 0] 23 (0, 0)) by rw [← hw0]; exact heap_alloc_new w _)
  have RR := Lib.hid ((h.below B0.out).has3)
  obtain ⟨w6, hw6⟩ : ∃ v, w0.setCells w.heap.size 0 (R3 has) = v := ⟨_, rfl⟩
  have THy := Lib.hid (show w0.there w.heap.size 0 3 from Back.th Z0.out rfl)
  have ONEy := Lib.hid (show (R3 has).toArray.all (·.oneCell') = true by simp [Value.oneCell'])
  have HVy := Lib.hid hw6
  have Z6 := Lib.hid (show w6.heap[w.heap.size]? = some (.cells (R3 has).toArray 23 (0, 0)) by rw [← hw6]; exact Back.st Z0.out rfl)
  have B6 := Lib.hid (show Below w.heap.size w w6 by rw [← hw6]; exact bel_set B0.out (Nat.le_refl _))
  clear hw6 h
  go_enter Tryz.func15, Tryz.ntmps15
  go_wp2_with (first | (refine wpList_load_mid rfl 23 _ rfl _ _ rfl _ _ RR.out Tryz.underlying23 rfl (by kernel_rfl) ?_) | (refine wpList_store_at rfl 23 _ _ rfl _ _ _ rfl rfl THy.out (by kernel_rfl) ONEy.out HVy.out ?_))
  refine bodyPost_ret (v := .agg (R3 has).toArray) (res_has _ _ _ (R3 has) rfl Z6.out rfl) rfl ?_
  exact ⟨rfl, B6.out⟩
set_option maxRecDepth 100000 in
theorem used_any {B : Nat} {g : Nat} {has : Rx} {l : Pods} (w : World) (h : Nn B w g has l) : Calls Tryz.prog 13 #[.pointer (some ⟨g, 0, none⟩)] w (Told1 (usedR l) w) := by
  obtain ⟨m, p, T, h⟩ := h
  obtain ⟨w0, hw0⟩ : ∃ v, w.alloc (.cells #[.int .i64 0, .int .i64 0, .int .i64 0] 23) = v := ⟨_, rfl⟩
  have B0 := Lib.hid (show Below w.heap.size w w0 by rw [← hw0]; exact (Below.refl _ _).alloc (Nat.le_refl _) _)
  have Z0 := Lib.hid (show w0.heap[w.heap.size]? = some (.cells #[.int .i64 0, .int .i64 0, .int .i64 0] 23 (0, 0)) by rw [← hw0]; exact heap_alloc_new w _)
  have RR0 := (h.below B0.out).used3
  obtain ⟨us, hus⟩ : ∃ us, usedR l = us := ⟨_, rfl⟩
  rw [hus] at RR0 ⊢
  have RR := Lib.hid RR0
  obtain ⟨w6, hw6⟩ : ∃ v, w0.setCells w.heap.size 0 (R3 us) = v := ⟨_, rfl⟩
  have THy := Lib.hid (show w0.there w.heap.size 0 3 from Back.th Z0.out rfl)
  have ONEy := Lib.hid (show (R3 us).toArray.all (·.oneCell') = true by simp [Value.oneCell'])
  have HVy := Lib.hid hw6
  have Z6 := Lib.hid (show w6.heap[w.heap.size]? = some (.cells (R3 us).toArray 23 (0, 0)) by rw [← hw6]; exact Back.st Z0.out rfl)
  have B6 := Lib.hid (show Below w.heap.size w w6 by rw [← hw6]; exact bel_set B0.out (Nat.le_refl _))
  clear hw6 h hus RR0
  go_enter Tryz.func13, Tryz.ntmps13
  go_wp2_with (first | (refine wpList_load_mid rfl 23 _ rfl _ _ rfl _ _ RR.out Tryz.underlying23 rfl (by kernel_rfl) ?_) | (refine wpList_store_at rfl 23 _ _ rfl _ _ _ rfl rfl THy.out (by kernel_rfl) ONEy.out HVy.out ?_))
  refine bodyPost_ret (v := .agg (R3 us).toArray) (res_used _ _ _ (R3 us) rfl Z6.out rfl) rfl ?_
  exact ⟨rfl, B6.out⟩
set_option maxRecDepth 100000 in
theorem owner_any {B : Nat} {g : Nat} {has : Rx} {l : Pods} (q : Int) (w : World) (h : Nn B w g has l) : Calls Tryz.prog 16 #[.pointer (some ⟨g, 0, none⟩), .int .i64 q] w fun e w' => e = .returned (.int .i64 (ownR l q)) ∧ Below w.heap.size w w' := by
  obtain ⟨m, p, T, h⟩ := h
  have c7 := h.ports
  have cO := Pt.owner_any q w h.tab h.same.ok (by have := h.few; omega)
  rw [h.same.own] at cO
  obtain ⟨o, ho⟩ : ∃ o, ownR l q = o := ⟨_, rfl⟩
  rw [ho] at cO ⊢
  clear ho h
  go_enter Tryz.func16, Tryz.ntmps16
  go_wp2_with (go_at_call 39; refine cO.mono ?_; clear cO; rintro e w1 ⟨rfl, hb⟩; have HB := Lib.hid hb; clear hb)
  go_ret
  exact ⟨rfl, HB.out⟩
set_option maxRecDepth 100000 in
theorem taken_any {B : Nat} {g : Nat} {has : Rx} {l : Pods} (q : Int) (w : World) (h : Nn B w g has l) : Calls Tryz.prog 48 #[.pointer (some ⟨g, 0, none⟩), .int .i64 q] w fun e w' => e = .returned (.bool (ownR l q != 0)) ∧ Below w.heap.size w w' := by
  have cO := owner_any q w h
  obtain ⟨o, ho⟩ : ∃ o, ownR l q = o := ⟨_, rfl⟩
  rw [ho] at cO ⊢
  clear ho h
  go_enter Tryz.func48, Tryz.ntmps48
  go_wp2_with (go_at_call 16; refine cO.mono ?_; clear cO; rintro e w1 ⟨rfl, hb⟩; have HB := Lib.hid hb; clear hb)
  all_goals (go_ret; exact ⟨by simp_all [bne], HB.out⟩)
/-- the first port that is taken; -1: none -/
def idxT (l : Pods) : Nat → List Int → Int
  | _, [] => -1
  | k, x :: ps => if ownR l x = 0 then idxT l (k + 1) ps else (k : Int)
theorem idxT_spec (l : Pods) : ∀ (ps : List Int) (k : Nat), (idxT l k ps = -1 ∧ anyOwn l ps = false) ∨ (0 ≤ idxT l k ps ∧ anyOwn l ps = true)
  | [], k => .inl ⟨rfl, rfl⟩
  | x :: ps, k => by
    unfold idxT anyOwn
    by_cases h : ownR l x = 0
    · rw [if_pos h, List.any_cons, h]
      exact idxT_spec l ps (k + 1)
    · rw [if_neg h, List.any_cons]
      exact .inr ⟨by omega, by simp [h]⟩
set_option maxRecDepth 100000 in
theorem index_any {B B2 : Nat} {g : Nat} {has : Rx} {l : Pods} (A : Option Addr) (c : Nat) (ps : List Int) (w : World) (h : Nn B w g has l) (hA : w.ownsRow B2 3 1 (.slice A ps.length c) ps.length (ps.map (Value.int .i64))) (hn : ps.length ≤ 100000) :
    Calls Tryz.prog 78 #[.slice A ps.length c, .func (.func 48) #[.pointer (some ⟨g, 0, none⟩)] #[]] w fun e w' => e = .returned (.int .i64 (idxT l 0 ps)) ∧ Below w.heap.size w w' := by
  have H := Lib.hid h
  have HA := Lib.hid hA
  obtain ⟨R, hR⟩ : ∃ R, idxT l 0 ps = R := ⟨_, rfl⟩
  obtain ⟨n, hln⟩ : ∃ n, ps.length = n := ⟨_, rfl⟩
  have HLN := Lib.hid hln
  rw [hln] at hn
  rw [hR, hln]
  have HR := Lib.hid hR
  clear h hR hln hA
  have hn' : (n : Int) ≤ 100000 := by omega
  go_enter Tryz.func78, Tryz.ntmps78
  go_wp2
  go_loopw [8] (fun i wr => ∃ k : Nat, k ≤ n ∧ i = .int .i64 k ∧ Hid (R = idxT l k (ps.drop k)) ∧ Hid (Below w.heap.size w wr)) (fun i _ => n - (RowKit.intOf i).toNat)
  case atStart => exact ⟨0, Nat.zero_le _, rfl, by unfold Hid; rw [← HR.out, List.drop_zero], Below.refl _ _⟩
  case round =>
    obtain ⟨k, hk, rfl, HK, HW⟩ := hrel
    by_cases hkn : k < n
    · obtain ⟨y, hy⟩ : ∃ y, ps[k]? = some y := ⟨_, List.getElem?_eq_getElem (by have := HLN.out; omega)⟩
      obtain ⟨r, hAr, hr, k1⟩ : ∃ r, A = some ⟨r, 0, none⟩ ∧ r < wr.heap.size ∧ wr.cell? ⟨r, k, none⟩ = some (.int .i64 y) := by
        have PW := Pt.owns_below HA.out HW.out
        rcases Pt.own_addr PW with ⟨_, h2, _⟩ | ⟨r, hA, _, hr⟩
        · have := HLN.out; omega
        · refine ⟨r, hA, hr, ?_⟩
          rw [hA] at PW
          rw [PW.cellAt k (by have := HLN.out; omega)]
          simp [hy]
      subst hAr
      have hd : ps.drop k = y :: ps.drop (k + 1) := by
        rw [List.drop_eq_getElem_cons (by have := HLN.out; omega), (List.getElem?_eq_some_iff.1 hy).2]
      have hc := taken_any y wr (H.out.below HW.out)
      have hkn' : (k : Int) < (n : Int) := by omega
      clear hy
      by_cases hyo : ownR l y = 0
      · rw [show (ownR l y != 0) = false by rw [hyo]; rfl] at hc
        have HK2 := Lib.hid (show R = idxT l (k + 1) (ps.drop (k + 1)) by rw [HK.out, hd]; conv => lhs; unfold idxT; rw [if_pos hyo])
        clear hyo hd
        go_wp2_with (go_at_call 48; refine hc.mono ?_; rintro e w' ⟨rfl, hbb⟩; have HBB := Lib.hid hbb; clear hbb)
        go_roundw
        case rel => exact ⟨k + 1, by omega, by simp, HK2.out, HW.out.trans (HBB.out.mono HW.out.size)⟩
        case measure => simp [RowKit.intOf]; omega
      · rw [show (ownR l y != 0) = true by simpa using hyo] at hc
        have HK2 := Lib.hid (show R = (k : Int) by rw [HK.out, hd]; unfold idxT; rw [if_neg hyo])
        clear hyo hd
        go_wp2_with (go_at_call 48; refine hc.mono ?_; rintro e w' ⟨rfl, hbb⟩; have HBB := Lib.hid hbb; clear hbb)
        go_ret
        exact ⟨by rw [HK2.out]; rfl, HW.out.trans (HBB.out.mono HW.out.size)⟩
    · have hkn' : ¬ (k : Int) < (n : Int) := by omega
      have HK2 := Lib.hid (show R = -1 by rw [HK.out, List.drop_eq_nil_of_le (by have := HLN.out; omega)]; rfl)
      go_wp2
      go_ret
      exact ⟨by rw [HK2.out]; rfl, HW.out⟩
theorem contains_any {B B2 : Nat} {g : Nat} {has : Rx} {l : Pods} (A : Option Addr) (c : Nat) (ps : List Int) (w : World) (h : Nn B w g has l) (hA : w.ownsRow B2 3 1 (.slice A ps.length c) ps.length (ps.map (Value.int .i64))) (hn : ps.length ≤ 100000) :
    Calls Tryz.prog 47 #[.slice A ps.length c, .func (.func 48) #[.pointer (some ⟨g, 0, none⟩)] #[]] w fun e w' => e = .returned (.bool (anyOwn l ps)) ∧ Below w.heap.size w w' := by
  have hi := index_any A c ps w h hA hn
  have hs := idxT_spec l ps 0
  generalize idxT l 0 ps = R at hi hs
  obtain ⟨b, hb⟩ : ∃ b, anyOwn l ps = b := ⟨_, rfl⟩
  rw [hb] at hs ⊢
  generalize ps.length = n at hi ⊢
  clear h hn hb hA
  rcases hs with ⟨rfl, rfl⟩ | ⟨h0, rfl⟩
  · go_enter Tryz.func47, Tryz.ntmps47
    go_wp2_with (go_at_call 78; refine hi.mono ?_; rintro e w' ⟨rfl, hbb⟩; have HBB := Lib.hid hbb; clear hbb)
    go_ret
    exact ⟨rfl, HBB.out⟩
  · go_enter Tryz.func47, Tryz.ntmps47
    go_wp2_with (go_at_call 78; refine hi.mono ?_; rintro e w' ⟨rfl, hbb⟩; have HBB := Lib.hid hbb; clear hbb)
    go_ret
    exact ⟨by simp [h0], HBB.out⟩
end Nn
end Go.Proofs.YtbichomjpmmjmaaGreatDoor

/-
  The program's node: what is left. Condition: the node is one (Nn).
-/
set_option linter.unusedVariables false
set_option linter.unusedSimpArgs false
namespace Go.Proofs.YtbichomjpmmjmaaGreatDoor
open Go.ChangeShapes Go.WideShapes Go.ChangeAt Go.RowKit Go.Lib
open NumMath
namespace Nn
open Re Nd
theorem res_left (tmps : Array Value) (w : World) (p : Nat) (xs : List Value) (h2 : tmps.getD 2 undef = .pointer (some ⟨p, 0, none⟩)) (hX : w.heap[p]? = some (.cells xs.toArray 23 (0, 0))) (hm : xs.length = 3) :
    (results Tryz.f14 tmps).run Tryz.prog w = .ok (.agg xs.toArray) w := by
  have h1 : (loadVar 23 ⟨p, 0, none⟩).run Tryz.prog w = .ok (.agg xs.toArray) w := run_loadVar_mid w p 0 23 _ _ (range_box hX) Tryz.underlying23 rfl (by rw [hm]; kernel_rfl)
  simp only [results, Tryz.results14]
  simp only [Array.getD_eq_getD_getElem?] at h2
  have ha : (asAddr (tmps[2]?.getD undef)).run Tryz.prog w = .ok ⟨p, 0, none⟩ w := by rw [h2]; rfl
  simp [Sem.run_bind, h1, ha]
set_option maxRecDepth 100000 in
set_option maxHeartbeats 2000000 in
theorem left_any {B : Nat} {g : Nat} {has : Rx} {l : Pods} (w : World) (h : Nn B w g has l) : Calls Tryz.prog 14 #[.pointer (some ⟨g, 0, none⟩)] w (Told1 (subR has (usedR l)).1 w) := by
  obtain ⟨m, p, T, h⟩ := h
  obtain ⟨us, hus⟩ : ∃ us, usedR l = us := ⟨_, rfl⟩
  obtain ⟨q, hq⟩ : ∃ q, subR has us = q := ⟨_, rfl⟩
  obtain ⟨w0, hw0⟩ : ∃ v, w.alloc (.cells #[.int .i64 0, .int .i64 0, .int .i64 0] 23) = v := ⟨_, rfl⟩
  have B0 := Lib.hid (show Below w.heap.size w w0 by rw [← hw0]; exact (Below.refl _ _).alloc (Nat.le_refl _) _)
  have Z0 := Lib.hid (show w0.heap[w.heap.size]? = some (.cells #[.int .i64 0, .int .i64 0, .int .i64 0] 23 (0, 0)) by rw [← hw0]; exact heap_alloc_new w _)
  have H0 := Lib.hid (h.below B0.out)
  have HU := Lib.hid (show ∀ u, Below w0.heap.size w0 u → u.rangeAt g 3 (R3 us) from fun u hu => by rw [← hus]; exact (H0.out.below hu).used3)
  have CS := Lib.hid (show ∀ u, Calls Tryz.prog 38 #[.agg (R3 has).toArray, .agg (R3 us).toArray] u (fun e w' => e = .returned (.tuple #[.agg (R3 q.1).toArray, .bool q.2]) ∧ Below u.heap.size u w') from fun u => by rw [← hq]; exact sub_any has us h.ok.has_ok (by rw [← hus]; exact h.ok.used_ok) u)
  rw [hus, hq]
  clear hus hq h
  go_enter Tryz.func14, Tryz.ntmps14
  go_wp2_with fail
  clear hw0
  refine Vls.wp_region (by kernel_rfl) (Jx.JN w0 12 13 3 (R3 q.1) 23 [.pointer (some ⟨g, 0, none⟩), .pointer (some ⟨g, 0, none⟩), .pointer (some ⟨g, 0, none⟩), .agg (R3 has).toArray, .pointer (some ⟨g, 0, none⟩), .pointer (some ⟨g, 0, none⟩), .pointer (some ⟨g, 3, none⟩), .agg (R3 us).toArray, .tuple #[.agg (R3 q.1).toArray, .bool q.2], .tuple #[.agg (R3 q.1).toArray, .bool q.2], .agg (R3 q.1).toArray, .bool q.2, undef, undef, .bool q.2]) (by kernel_rfl) (fun _ => undef) (Jx.JN.start _) ?_ ?_
  · refine ⟨?_, ?_, ?_, ?_, ?_, ?_, ?_, ?_, ?_, ?_, ?_, ?_, ?_, ?_, ?_, trivial⟩
    · intro s_ a_ u V hs hd hfr hpo hJ
      have f0 : a_.tmps.getD 0 undef = .pointer (some ⟨g, 0, none⟩) := hfr 0 (by kernel_rfl)
      refine .inl ⟨rfl, ?_⟩
      unfold Oper.wp
      rw [show (execOp a_.eval _).run Tryz.prog u = .ok (.value (.pointer (some ⟨g, 0, none⟩))) u from by simp [go_sem, Act.eval, f0]]
      exact ⟨_, rfl, hJ.step 0 (by decide) (by decide) (Below.refl _ _) rfl⟩
    · intro s_ a_ u V hs hd hfr hpo hJ
      have e0 : a_.tmps.getD 6 undef = .pointer (some ⟨g, 0, none⟩) := (hpo 0 6 (by kernel_rfl)).trans (hJ.get 0 (by decide) (by decide) (hd 0 (by kernel_rfl)) rfl)
      refine .inl ⟨rfl, ?_⟩
      unfold Oper.wp
      rw [show (execOp a_.eval _).run Tryz.prog u = .ok (.value (.pointer (some ⟨g, 0, none⟩))) u from by simp [go_sem, Act.eval, e0]]
      exact ⟨_, rfl, hJ.step 1 (by decide) (by decide) (Below.refl _ _) rfl⟩
    · intro s_ a_ u V hs hd hfr hpo hJ
      have e1 : a_.tmps.getD 7 undef = .pointer (some ⟨g, 0, none⟩) := (hpo 1 7 (by kernel_rfl)).trans (hJ.get 1 (by decide) (by decide) (hd 1 (by kernel_rfl)) rfl)
      refine .inl ⟨rfl, ?_⟩
      unfold Oper.wp
      rw [show (execOp a_.eval _).run Tryz.prog u = .ok (.value (.pointer (some ⟨g, 0, none⟩))) u from by simp [go_sem, Act.eval, e1]]
      exact ⟨_, rfl, hJ.step 2 (by decide) (by decide) (Below.refl _ _) rfl⟩
    · intro s_ a_ u V hs hd hfr hpo hJ
      have e2 : a_.tmps.getD 8 undef = .pointer (some ⟨g, 0, none⟩) := (hpo 2 8 (by kernel_rfl)).trans (hJ.get 2 (by decide) (by decide) (hd 2 (by kernel_rfl)) rfl)
      refine .inl ⟨rfl, ?_⟩
      exact wp_load_mid 23 (.tmp 8) rfl (g) (0) e2 (R3 has) _ ((H0.out.below hJ.bel).has3) Tryz.underlying23 rfl (by kernel_rfl) ⟨_, rfl, hJ.step 3 (by decide) (by decide) (Below.refl _ _) rfl⟩
    · intro s_ a_ u V hs hd hfr hpo hJ
      have f0 : a_.tmps.getD 0 undef = .pointer (some ⟨g, 0, none⟩) := hfr 0 (by kernel_rfl)
      refine .inl ⟨rfl, ?_⟩
      unfold Oper.wp
      rw [show (execOp a_.eval _).run Tryz.prog u = .ok (.value (.pointer (some ⟨g, 0, none⟩))) u from by simp [go_sem, Act.eval, f0]]
      exact ⟨_, rfl, hJ.step 4 (by decide) (by decide) (Below.refl _ _) rfl⟩
    · intro s_ a_ u V hs hd hfr hpo hJ
      have e4 : a_.tmps.getD 10 undef = .pointer (some ⟨g, 0, none⟩) := (hpo 4 10 (by kernel_rfl)).trans (hJ.get 4 (by decide) (by decide) (hd 4 (by kernel_rfl)) rfl)
      refine .inl ⟨rfl, ?_⟩
      unfold Oper.wp
      rw [show (execOp a_.eval _).run Tryz.prog u = .ok (.value (.pointer (some ⟨g, 0, none⟩))) u from by simp [go_sem, Act.eval, e4]]
      exact ⟨_, rfl, hJ.step 5 (by decide) (by decide) (Below.refl _ _) rfl⟩
    · intro s_ a_ u V hs hd hfr hpo hJ
      have e5 : a_.tmps.getD 11 undef = .pointer (some ⟨g, 0, none⟩) := (hpo 5 11 (by kernel_rfl)).trans (hJ.get 5 (by decide) (by decide) (hd 5 (by kernel_rfl)) rfl)
      refine .inl ⟨rfl, ?_⟩
      unfold Oper.wp
      rw [show (execOp a_.eval _).run Tryz.prog u = .ok (.value (.pointer (some ⟨g, 3, none⟩))) u from by simp [go_sem, Act.eval, e5]]
      exact ⟨_, rfl, hJ.step 6 (by decide) (by decide) (Below.refl _ _) rfl⟩
    · intro s_ a_ u V hs hd hfr hpo hJ
      have e6 : a_.tmps.getD 12 undef = .pointer (some ⟨g, 3, none⟩) := (hpo 6 12 (by kernel_rfl)).trans (hJ.get 6 (by decide) (by decide) (hd 6 (by kernel_rfl)) rfl)
      refine .inl ⟨rfl, ?_⟩
      exact wp_load_mid 23 (.tmp 12) rfl (g) (3) e6 (R3 us) _ (HU.out u hJ.bel) Tryz.underlying23 rfl (by kernel_rfl) ⟨_, rfl, hJ.step 7 (by decide) (by decide) (Below.refl _ _) rfl⟩
    · intro s_ a_ u V hs hd hfr hpo hJ
      have e3 : a_.tmps.getD 9 undef = .agg (R3 has).toArray := (hpo 3 9 (by kernel_rfl)).trans (hJ.get 3 (by decide) (by decide) (hd 3 (by kernel_rfl)) rfl)
      have e7 : a_.tmps.getD 13 undef = .agg (R3 us).toArray := (hpo 7 13 (by kernel_rfl)).trans (hJ.get 7 (by decide) (by decide) (hd 7 (by kernel_rfl)) rfl)
      refine .inl ⟨rfl, ?_⟩
      unfold Oper.wp
      rw [show (execOp a_.eval _).run Tryz.prog u = .ok (.enter 38 #[.agg (R3 has).toArray, .agg (R3 us).toArray]) u from by simp [go_sem, Act.eval, e3, e7]]
      refine Calls.mono (CS.out u) ?_
      rintro e u2 ⟨rfl, hb⟩
      exact ⟨_, rfl, hJ.step 8 (by decide) (by decide) hb rfl⟩
    · intro s_ a_ u V hs hd hfr hpo hJ
      have e8 : a_.tmps.getD 14 undef = .tuple #[.agg (R3 q.1).toArray, .bool q.2] := (hpo 8 14 (by kernel_rfl)).trans (hJ.get 8 (by decide) (by decide) (hd 8 (by kernel_rfl)) rfl)
      refine .inl ⟨rfl, ?_⟩
      unfold Oper.wp
      rw [show (execOp a_.eval _).run Tryz.prog u = .ok (.value (.tuple #[.agg (R3 q.1).toArray, .bool q.2])) u from by simp [go_sem, Act.eval, e8]]
      exact ⟨_, rfl, hJ.step 9 (by decide) (by decide) (Below.refl _ _) rfl⟩
    · intro s_ a_ u V hs hd hfr hpo hJ
      have e9 : a_.tmps.getD 5 undef = .tuple #[.agg (R3 q.1).toArray, .bool q.2] := (hpo 9 5 (by kernel_rfl)).trans (hJ.get 9 (by decide) (by decide) (hd 9 (by kernel_rfl)) rfl)
      refine .inl ⟨rfl, ?_⟩
      unfold Oper.wp
      rw [show (execOp a_.eval _).run Tryz.prog u = .ok (.value (.agg (R3 q.1).toArray)) u from by simp [go_sem, Act.eval, e9]]
      exact ⟨_, rfl, hJ.step 10 (by decide) (by decide) (Below.refl _ _) rfl⟩
    · intro s_ a_ u V hs hd hfr hpo hJ
      have e9 : a_.tmps.getD 5 undef = .tuple #[.agg (R3 q.1).toArray, .bool q.2] := (hpo 9 5 (by kernel_rfl)).trans (hJ.get 9 (by decide) (by decide) (hd 9 (by kernel_rfl)) rfl)
      refine .inl ⟨rfl, ?_⟩
      unfold Oper.wp
      rw [show (execOp a_.eval _).run Tryz.prog u = .ok (.value (.bool q.2)) u from by simp [go_sem, Act.eval, e9]]
      exact ⟨_, rfl, hJ.step 11 (by decide) (by decide) (Below.refl _ _) rfl⟩
    · intro s_ a_ u V hs hd hfr hpo hJ
      refine .inl ⟨rfl, ?_⟩
      unfold Oper.wp
      rw [show (execOp a_.eval _).run Tryz.prog u = .ok (.value (.pointer (some ⟨u.heap.size, 0, none⟩))) (u.alloc (.cells #[.int .i64 0, .int .i64 0, .int .i64 0] 23 (0, 0))) from by simp [go_sem, Act.eval]]
      exact ⟨_, rfl, hJ.al (by decide) hs _ rfl⟩
    · intro s_ a_ u V hs hd hfr hpo hJ
      have e10 : a_.tmps.getD 15 undef = .agg (R3 q.1).toArray := (hpo 10 15 (by kernel_rfl)).trans (hJ.get 10 (by decide) (by decide) (hd 10 (by kernel_rfl)) rfl)
      have h_ : s_ 12 = true := hd 12 (by kernel_rfl)
      obtain ⟨qq, X, hq, hqv, hX, hXs, _⟩ := hJ.bx h_
      have e_ : a_.tmps.getD 3 undef = .pointer (some ⟨qq, 0, none⟩) := (hpo 12 3 (by kernel_rfl)).trans hq
      refine .inl ⟨rfl, ?_⟩
      exact wp_store_mid 23 (.tmp 3) (.tmp 15) rfl qq 0 (R3 q.1).toArray e_ e10 (Back.th hX hXs) (by kernel_rfl) (by simp [Value.oneCell']) ⟨undef, rfl, hJ.st (by decide) rfl h_ hq _⟩
    · intro s_ a_ u V hs hd hfr hpo hJ
      have e11 : a_.tmps.getD 16 undef = .bool q.2 := (hpo 11 16 (by kernel_rfl)).trans (hJ.get 11 (by decide) (by decide) (hd 11 (by kernel_rfl)) rfl)
      refine .inl ⟨rfl, ?_⟩
      unfold Oper.wp
      rw [show (execOp a_.eval _).run Tryz.prog u = .ok (.value (.bool q.2)) u from by simp [go_sem, Act.eval, e11]]
      exact ⟨_, rfl, hJ.step 14 (by decide) (by decide) (Below.refl _ _) rfl⟩
  · intro s_ V w5 hall hJ
    obtain ⟨gg, X, e7, hgv, hX, hXs, hXe⟩ := hJ.bx (hall 12 (by decide))
    rw [hXe (hall 13 (by decide))] at hX
    have QX := Lib.hid (range_box hX)
    have B5 := Lib.hid (B0.out.trans (hJ.bel.mono B0.out.size))
    have Z5 := Lib.hid ((hJ.bel.block _ (lt_of_block Z0.out)).trans Z0.out)
    clear hall hJ hX hXs hXe hgv CS HU H0
    simp only [Bxs.puts, Nat.reduceAdd, put_none, put_lit, List.set_cons_succ, List.set_cons_zero]
    rw [e7]
    clear e7
    obtain ⟨w6, hw6⟩ : ∃ v, w5.setCells w.heap.size 0 (R3 q.1) = v := ⟨_, rfl⟩
    have THy := Lib.hid (show w5.there w.heap.size 0 3 from Back.th Z5.out rfl)
    have ONEy := Lib.hid (show (R3 q.1).toArray.all (·.oneCell') = true by simp [Value.oneCell'])
    have HVy := Lib.hid hw6
    have Z6 := Lib.hid (show w6.heap[w.heap.size]? = some (.cells (R3 q.1).toArray 23 (0, 0)) by rw [← hw6]; exact Back.st Z5.out rfl)
    have B6 := Lib.hid (show Below w.heap.size w w6 by rw [← hw6]; exact bel_set B5.out (Nat.le_refl _))
    clear hw6
    go_wp2_with (first | (refine wpList_load_mid rfl 23 _ rfl _ _ rfl _ _ QX.out Tryz.underlying23 rfl (by kernel_rfl) ?_) | (refine wpList_store_at rfl 23 _ _ rfl _ _ _ rfl rfl THy.out (by kernel_rfl) ONEy.out HVy.out ?_))
    refine bodyPost_ret (v := .agg (R3 q.1).toArray) (res_left _ _ _ (R3 q.1) rfl Z6.out rfl) rfl ?_
    exact ⟨rfl, B6.out⟩
end Nn
end Go.Proofs.YtbichomjpmmjmaaGreatDoor

/-
  The document's answers for nodes: where a pod stands, whose a port is. All that was there is left as it was. Conditions: the pods lie in a row, their ports in memory.
-/
set_option linter.unusedVariables false
set_option linter.unusedSimpArgs false
namespace Go.Proofs.YtbichomjpmmjmaaGreatDoor
open Go.ChangeShapes Go.WideShapes Go.ChangeAt Go.RowKit Go.Lib
namespace Nd
open Re
set_option maxRecDepth 100000 in
set_option maxHeartbeats 1000000 in
theorem refindex_any {B : Nat} {ds : List Pd} {A : Option Addr} {c : Nat} (has : Rx) (u : Int) (w : World) (h : Nl w B A c ds) :
    Calls Tryz.prog 19 #[.agg #[.int .i64 has.c, .int .i64 has.m, .int .i64 has.p, .slice A ds.length c], .int .i64 u] w fun e w' => e = .returned (.int .i64 (idxI u (pods ds))) ∧ Below w.heap.size w w' := by
  have H := Lib.hid h
  obtain ⟨R, hR⟩ : ∃ R, idxI u (pods ds) = R := ⟨_, rfl⟩
  obtain ⟨n, hln⟩ : ∃ n, ds.length = n := ⟨_, rfl⟩
  have HLN := Lib.hid hln
  have hn := h.few
  rw [hln] at hn
  rw [hR, hln]
  have HR := Lib.hid hR
  clear h hR hln
  have hn' : (n : Int) ≤ 100000 := by omega
  go_enter Tryz.func19, Tryz.ntmps19
  go_wp2_with fail
  obtain ⟨w3, hw3⟩ : ∃ w3, w.alloc (.cells #[.int .i64 has.c, .int .i64 has.m, .int .i64 has.p, .slice A n c] 29) = w3 := ⟨_, rfl⟩
  have HB3 := Lib.hid (show Below w.heap.size w w3 by rw [← hw3]; exact (Below.refl _ _).alloc (Nat.le_refl _) _)
  have HX3 := Lib.hid (show w3.heap[w.heap.size]? = some (.cells #[.int .i64 has.c, .int .i64 has.m, .int .i64 has.p, .slice A n c] 29 (0, 0)) by rw [← hw3]; exact heap_alloc_new w _)
  rw [hw3]
  clear hw3
  have b3 := box_cell HX3.out 3 (v := .slice A n c) rfl
  have H3 := Lib.hid (H.out.below HB3.out)
  go_loopw [5] (fun i wr => ∃ k : Nat, k ≤ n ∧ i = .int .i64 k ∧ wr = w3 ∧ Hid (∀ t y, t < k → (pods ds)[t]? = some y → y.uid ≠ u)) (fun i _ => n - (RowKit.intOf i).toNat)
  case atStart => exact ⟨0, Nat.zero_le _, rfl, by trivial, fun t y ht _ => by omega⟩
  case round =>
    obtain ⟨k, hk, rfl, rfl, HK⟩ := hrel
    by_cases hkn : k < n
    · obtain ⟨y, hy⟩ : ∃ y, ds[k]? = some y := ⟨_, List.getElem?_eq_getElem (by have := HLN.out; omega)⟩
      obtain ⟨r, rfl, hr, k0, k1, k2, k3, k4⟩ := row_at H3.out.row hy
      have hp : (pods ds)[k]? = some y.x := by simp [hy]
      have HY := Lib.hid hp
      have hkn' : (k : Int) < (n : Int) := by omega
      clear hy hp k1 k2 k3 k4
      by_cases hyo : y.x.uid = u
      · have hyo' : (y.x.uid == u) = true := by simpa using hyo
        have HK2 := Lib.hid (show R = (k : Int) by
          rw [← HR.out]
          have e := idx_run HK.out HY.out hyo
          unfold idxI
          rw [isIn_iff.2 ⟨_, List.mem_of_getElem? HY.out, hyo⟩, if_pos rfl, e])
        clear hyo
        go_wp2
        go_ret
        exact ⟨by rw [HK2.out]; rfl, HB3.out⟩
      · have hyo' : (y.x.uid == u) = false := by simpa using hyo
        have HK2 := Lib.hid (show ∀ t z, t < k + 1 → (pods ds)[t]? = some z → z.uid ≠ u from fun t z ht hz => by
          rcases Nat.lt_or_ge t k with h | h
          · exact HK.out t z h hz
          · obtain rfl : t = k := by omega
            rw [HY.out] at hz
            injection hz with hz
            subst hz
            exact hyo)
        clear hyo
        go_wp2
        go_roundw
        case rel => exact ⟨k + 1, by omega, by simp, by trivial, HK2.out⟩
        case measure => simp [RowKit.intOf]; omega
    · have hkn' : ¬ (k : Int) < (n : Int) := by omega
      have HK2 := Lib.hid (show R = -1 by
        rw [← HR.out]
        unfold idxI
        rw [idx_none fun t y ht hy => HK.out t y (by have := HLN.out; simp at ht; omega) hy, if_neg (by decide)])
      go_wp2
      go_ret
      exact ⟨by rw [HK2.out]; rfl, HB3.out⟩
theorem own_drop {ds : List Pd} {k : Nat} {d : Pd} (h : ds[k]? = some d) (p : Int) : ownR (pods (ds.drop k)) p = if p ∈ d.x.ports then d.x.uid else ownR (pods (ds.drop (k + 1))) p := by
  rw [List.drop_eq_getElem_cons (List.getElem?_eq_some_iff.1 h).1, (List.getElem?_eq_some_iff.1 h).2]
  rfl
set_option maxRecDepth 100000 in
set_option maxHeartbeats 1000000 in
theorem refowner_any {B : Nat} {ds : List Pd} {A : Option Addr} {c : Nat} (has : Rx) (p : Int) (w : World) (h : Nl w B A c ds) :
    Calls Tryz.prog 17 #[.agg #[.int .i64 has.c, .int .i64 has.m, .int .i64 has.p, .slice A ds.length c], .int .i64 p] w fun e w' => e = .returned (.int .i64 (ownR (pods ds) p)) ∧ Below w.heap.size w w' := by
  have H := Lib.hid h
  obtain ⟨R, hR⟩ : ∃ R, ownR (pods ds) p = R := ⟨_, rfl⟩
  obtain ⟨n, hln⟩ : ∃ n, ds.length = n := ⟨_, rfl⟩
  have HLN := Lib.hid hln
  have hn := h.few
  rw [hln] at hn
  rw [hR, hln]
  have HR := Lib.hid hR
  clear h hR hln
  have hn' : (n : Int) ≤ 100000 := by omega
  go_enter Tryz.func17, Tryz.ntmps17
  go_wp2_with fail
  obtain ⟨w3, hw3⟩ : ∃ w3, w.alloc (.cells #[.int .i64 has.c, .int .i64 has.m, .int .i64 has.p, .slice A n c] 29) = w3 := ⟨_, rfl⟩
  have HB3 := Lib.hid (show Below w.heap.size w w3 by rw [← hw3]; exact (Below.refl _ _).alloc (Nat.le_refl _) _)
  have HX3 := Lib.hid (show w3.heap[w.heap.size]? = some (.cells #[.int .i64 has.c, .int .i64 has.m, .int .i64 has.p, .slice A n c] 29 (0, 0)) by rw [← hw3]; exact heap_alloc_new w _)
  rw [hw3]
  clear hw3
  have b3 := box_cell HX3.out 3 (v := .slice A n c) rfl
  have H3 := Lib.hid (H.out.below HB3.out)
  go_loopw [5] (fun i wr => ∃ k : Nat, k ≤ n ∧ i = .int .i64 k ∧ wr = w3 ∧ Hid (R = ownR (pods (ds.drop k)) p)) (fun i _ => n - (RowKit.intOf i).toNat)
  case atStart => exact ⟨0, Nat.zero_le _, rfl, by trivial, by unfold Hid; rw [← HR.out, List.drop_zero]⟩
  case round =>
    obtain ⟨k, hk, rfl, rfl, HK⟩ := hrel
    by_cases hkn : k < n
    · obtain ⟨y, hy⟩ : ∃ y, ds[k]? = some y := ⟨_, List.getElem?_eq_getElem (by have := HLN.out; omega)⟩
      obtain ⟨r, rfl, hr, k0, k1, k2, k3, k4⟩ := row_at H3.out.row hy
      have HM := Lib.hid (List.mem_of_getElem? hy)
      have HD := Lib.hid (own_drop hy p)
      have hkn' : (k : Int) < (n : Int) := by omega
      obtain ⟨m, hm⟩ : ∃ m, y.x.ports.length = m := ⟨_, rfl⟩
      have hm1 : (m : Int) ≤ 100000 := by have := (H3.out.ask y HM.out).2; omega
      rw [hm] at k4
      have HPL := Lib.hid hm
      clear hy k1 k2 k3 hm
      go_wp2_with fail
      go_loopw [6] (fun i wq => ∃ j : Nat, j ≤ m ∧ i = .int .i64 j ∧ wq = wr ∧ Hid (∀ t q, t < j → y.x.ports[t]? = some q → q ≠ p)) (fun i _ => m - (RowKit.intOf i).toNat)
      case atStart => exact ⟨0, Nat.zero_le _, rfl, by trivial, fun t y ht _ => by omega⟩
      case round =>
        obtain ⟨j, hj, rfl, rfl, HJ⟩ := hrel
        by_cases hjm : j < m
        · obtain ⟨q, hq⟩ : ∃ q, y.x.ports[j]? = some q := ⟨_, List.getElem?_eq_getElem (by have := HPL.out; omega)⟩
          obtain ⟨r2, hA2, hr2, q0⟩ := H3.out.port HM.out hq
          have hjm' : (j : Int) < (m : Int) := by omega
          have HQ := Lib.hid hq
          rw [hA2] at k4
          clear hq
          by_cases hqp : q = p
          · have hqp' : (q == p) = true := by simpa using hqp
            have HK2 := Lib.hid (show R = y.x.uid by rw [HK.out, HD.out, if_pos (by rw [← hqp]; exact List.mem_of_getElem? HQ.out)])
            clear hqp
            go_wp2
            go_ret
            exact ⟨by rw [HK2.out]; rfl, HB3.out⟩
          · have hqp' : (q == p) = false := by simpa using hqp
            have HJ2 := Lib.hid (show ∀ t z, t < j + 1 → y.x.ports[t]? = some z → z ≠ p from fun t z ht hz => by
              rcases Nat.lt_or_ge t j with h | h
              · exact HJ.out t z h hz
              · obtain rfl : t = j := by omega
                rw [HQ.out] at hz
                injection hz with hz
                subst hz
                exact hqp)
            clear hqp
            go_wp2
            go_roundw
            case rel => exact ⟨j + 1, by omega, by simp, by trivial, HJ2.out⟩
            case measure => simp [RowKit.intOf]; omega
        · have hjm' : ¬ (j : Int) < (m : Int) := by omega
          have HK2 := Lib.hid (show R = ownR (pods (ds.drop (k + 1))) p by
            rw [HK.out, HD.out, if_neg]
            intro hp
            obtain ⟨t, ht, e⟩ := List.getElem_of_mem hp
            exact HJ.out t p (by have := HPL.out; omega) (by rw [List.getElem?_eq_getElem ht, e]) rfl)
          go_wp2
          go_roundw
          case rel => exact ⟨k + 1, by omega, by simp, by trivial, HK2.out⟩
          case measure => simp [RowKit.intOf]; omega
    · have hkn' : ¬ (k : Int) < (n : Int) := by omega
      have HK2 := Lib.hid (show R = 0 by rw [HK.out, List.drop_eq_nil_of_le (by have := HLN.out; omega)]; rfl)
      go_wp2
      go_ret
      exact ⟨by rw [HK2.out]; rfl, HB3.out⟩
end Nd
end Go.Proofs.YtbichomjpmmjmaaGreatDoor
