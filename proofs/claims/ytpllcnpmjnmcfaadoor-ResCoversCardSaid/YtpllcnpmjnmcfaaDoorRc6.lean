/-
  A region that draws its order and holds 'x, y := f(..)': reads and makers of memory that a writing call waits for, the call, what is taken out of its answer, boxes that may be made at any time, and stores of the answer's parts into them. Condition: no guard; each operation is of one of these kinds (chk).
-/
import Derived.Test.YtpllcnpmjnmcfaaDoorRc5
set_option linter.unusedVariables false
set_option linter.unusedSimpArgs false
namespace Go.Proofs.YtpllcnpmjnmcfaaDoor
open Go.RowKit
namespace Bxs
variable {P : Program} {Q : Exit → Act → World → Prop}
inductive Kind where
  | pre | call | box (k : Nat) | post | store (k : Nat)
  deriving DecidableEq
/-- a box: made by operation al into slot da, filled by operation st with what operation rd has put into slot dr -/
structure Bx where
  al : Nat
  da : Tmp
  st : Nat
  rd : Nat
  dr : Tmp
  T : TypeId
  Z : Array Value
def kd (ks : List Kind) (i : Nat) : Kind := ks.getD i .pre
def dep (l : List Oper) (i j : Nat) : Bool := (l[i]?).any fun o => o.after.any fun e => e.on == j && Region.binds .any e
def depsAll (l : List Oper) (i : Nat) (f : Nat → Bool) : Bool := (l[i]?).all fun o => o.after.all fun e => !Region.binds .any e || f e.on
def dstB (l : List Oper) (n i : Nat) : Bool := (l[i]?).all fun o => (o.dst.any fun d => decide (d < n)) && (List.range i).all fun j => (l[j]?).all fun oj => oj.dst != o.dst
def one (l : List Oper) (n : Nat) (ks : List Kind) (c : Nat) (bs : List Bx) (i : Nat) : Bool := match kd ks i with
  | .pre => dstB l n i && depsAll l i (fun j => kd ks j == .pre) && (List.range l.length).any (fun j => dep l j i && (kd ks j == .pre || j == c))
  | .call => dstB l n i && depsAll l i (fun j => kd ks j == .pre) && i == c
  | .box k => dstB l n i && (bs[k]?).any (fun b => b.al == i && (l[i]?).any (fun o => o.dst == some b.da))
  | .post => dstB l n i && (List.range l.length).any (fun j => dep l i j && (kd ks j == .post || j == c))
  | .store k => (l[i]?).all (fun o => o.dst == none) && (bs[k]?).any (fun b => b.st == i && dep l i b.al && dep l i b.rd && kd ks b.rd == .post && (l[b.rd]?).any (fun o => o.dst == some b.dr) && (l[b.al]?).any (fun o => o.dst == some b.da))
def chk (l : List Oper) (n : Nat) (ks : List Kind) (c : Nat) (bs : List Bx) : Bool :=
  decide (c < l.length) && kd ks c == .call && (List.range l.length).all (fun i => (l[i]?).all (fun o => o.guard == none) && depsAll l i (fun j => decide (j < i)) && one l n ks c bs i) &&
    (List.range bs.length).all fun k => (bs[k]?).all fun b => kd ks b.al == .box k && kd ks b.st == .store k && decide (b.al < l.length) && decide (b.st < l.length)
theorem deps_of {l : List Oper} {i : Nat} {o : Oper} {f : Nat → Bool} (h : depsAll l i f = true) (ho : l[i]? = some o) : ∀ e ∈ o.after, Region.binds .any e = true → f e.on = true := fun e he hb => by
  unfold depsAll at h
  rw [ho] at h
  have := Array.all_eq_true_iff_forall_mem.1 (show o.after.all _ = true from h) e he
  rw [hb] at this
  simpa using this
theorem dep_some {l : List Oper} {i j : Nat} {o : Oper} (h : dep l i j = true) (ho : l[i]? = some o) : ∃ e ∈ o.after, e.on = j ∧ Region.binds .any e = true := by
  unfold dep at h
  rw [ho] at h
  obtain ⟨k, hk, h1⟩ := Array.any_eq_true.1 (show o.after.any _ = true from h)
  rw [Bool.and_eq_true, beq_iff_eq] at h1
  exact ⟨_, Array.getElem_mem hk, h1.1, h1.2⟩
theorem dst_of {l : List Oper} {n i : Nat} {o : Oper} (h : dstB l n i = true) (ho : l[i]? = some o) : (∃ d, o.dst = some d ∧ d < n) ∧ ∀ j oj, j < i → l[j]? = some oj → oj.dst ≠ o.dst := by
  unfold dstB at h
  rw [ho] at h
  simp only [Option.all_some, Bool.and_eq_true] at h
  obtain ⟨h1, h2⟩ := h
  refine ⟨?_, fun j oj hj hoj => ?_⟩
  · cases hd : o.dst with
    | none => rw [hd] at h1; cases h1
    | some d => rw [hd] at h1; exact ⟨d, rfl, by simpa using h1⟩
  · have := List.all_eq_true.1 h2 j (List.mem_range.2 hj)
    rw [hoj] at this
    simpa using this
structure Good (l : List Oper) (n : Nat) (ks : List Kind) (c : Nat) (bs : List Bx) : Prop where
  cc : c < l.length ∧ kd ks c = .call
  each : ∀ i o, l[i]? = some o → o.guard = none ∧ (∀ e ∈ o.after, Region.binds .any e = true → e.on < i) ∧ one l n ks c bs i = true
  box : ∀ (k : Nat) b, bs[k]? = some b → kd ks b.al = .box k ∧ kd ks b.st = .store k ∧ b.al < l.length ∧ b.st < l.length
theorem good_of {l : List Oper} {n : Nat} {ks : List Kind} {c : Nat} {bs : List Bx} (h : chk l n ks c bs = true) : Good l n ks c bs := by
  unfold chk at h
  simp only [Bool.and_eq_true, decide_eq_true_eq, beq_iff_eq] at h
  obtain ⟨⟨⟨h1, h2⟩, h3⟩, h4⟩ := h
  refine ⟨⟨h1, h2⟩, fun i o ho => ?_, fun k b hb => ?_⟩
  · have := List.all_eq_true.1 h3 i (List.mem_range.2 (List.getElem?_eq_some_iff.1 ho).1)
    simp only [Bool.and_eq_true] at this
    obtain ⟨⟨g1, g2⟩, g3⟩ := this
    rw [ho] at g1
    exact ⟨by simpa using g1, fun e he hb => by simpa using deps_of g2 ho e he hb, g3⟩
  · have := List.all_eq_true.1 h4 k (List.mem_range.2 (List.getElem?_eq_some_iff.1 hb).1)
    rw [hb] at this
    simp only [Option.all_some, Bool.and_eq_true, decide_eq_true_eq, beq_iff_eq] at this
    exact ⟨this.1.1.1, this.1.1.2, this.1.2, this.2⟩
/-- slots of operations that differ differ -/
theorem Good.unlike {l : List Oper} {n : Nat} {ks : List Kind} {c : Nat} {bs : List Bx} (h : Good l n ks c bs) {i j : Nat} {o oj : Oper} {d d' : Tmp} (ho : l[i]? = some o) (hoj : l[j]? = some oj) (hne : j ≠ i) (hd : o.dst = some d) (hd' : oj.dst = some d') : d' ≠ d := by
  have key : ∀ {i j : Nat} {o oj : Oper} {d d' : Tmp}, l[i]? = some o → l[j]? = some oj → j < i → o.dst = some d → oj.dst = some d' → d' ≠ d := by
    intro i j o oj d d' ho hoj hlt hd hd' he
    have hb : dstB l n i = true ∨ o.dst = none := by
      have := (h.each i o ho).2.2
      unfold one at this
      split at this
      · simp only [Bool.and_eq_true] at this; exact .inl this.1.1
      · simp only [Bool.and_eq_true] at this; exact .inl this.1.1
      · simp only [Bool.and_eq_true] at this; exact .inl this.1
      · simp only [Bool.and_eq_true] at this; exact .inl this.1
      · simp only [Bool.and_eq_true, ho, Option.all_some, beq_iff_eq] at this; exact .inr this.1
    rcases hb with hb | hb
    · exact (dst_of hb ho).2 j oj hlt hoj (by rw [hd, hd', he])
    · rw [hb] at hd; cases hd
  rcases Nat.lt_or_gt_of_ne hne with hl | hl
  · exact key ho hoj hl hd hd'
  · exact fun e => key hoj ho hl hd' hd e.symm
theorem Good.small {l : List Oper} {n : Nat} {ks : List Kind} {c : Nat} {bs : List Bx} (h : Good l n ks c bs) {i : Nat} {o : Oper} {d : Tmp} (ho : l[i]? = some o) (hd : o.dst = some d) : d < n := by
  have hb : dstB l n i = true ∨ o.dst = none := by
    have := (h.each i o ho).2.2
    unfold one at this
    split at this
    · simp only [Bool.and_eq_true] at this; exact .inl this.1.1
    · simp only [Bool.and_eq_true] at this; exact .inl this.1.1
    · simp only [Bool.and_eq_true] at this; exact .inl this.1
    · simp only [Bool.and_eq_true] at this; exact .inl this.1
    · simp only [Bool.and_eq_true, ho, Option.all_some, beq_iff_eq] at this; exact .inr this.1
  rcases hb with hb | hb
  · obtain ⟨⟨d', h1, h2⟩, _⟩ := dst_of hb ho
    obtain rfl : d' = d := by rw [h1] at hd; exact Option.some.inj hd
    exact h2
  · rw [hb] at hd; cases hd
/-- what is said of the region -/
structure Plan (α : Type) where
  ks : List Kind
  c : Nat
  bs : List Bx
  F : Nat → Value → World → Prop
  K : World → α → World → Prop
  R : α → Value
  G : Nat → α → Value
  ys : Nat → α → List Value
variable {α : Type}
def Plan.val (p : Plan α) (j : Nat) (x : α) : Value := if j = p.c then p.R x else p.G j x
/-- an operation is met -/
def Step (p : Plan α) (P : Program) (l : List Oper) (Q : Exit → Act → World → Prop) (a0 : Act) (w0 : World) (i : Nat) (o : Oper) : Prop := match kd p.ks i with
  | .pre => Loose.Step P l.toArray Q p.F a0 w0 i o
  | .call => ∀ a w, Loose.Framed l.toArray a0 w0 a w → (∀ e ∈ o.after, Region.binds .any e = true → ∀ oj d, l.toArray[e.on]? = some oj → oj.dst = some d → p.F e.on (a.tmps.getD d undef) w) →
      o.wp P a w (fun a' w' => ∃ x, a' = a.put o.dst (p.R x) ∧ p.K w x w') Q
  | .box k => ∀ b, p.bs[k]? = some b → ∀ a w, o.wp P a w (fun a' w' => a' = a.put o.dst (.pointer (some ⟨w.heap.size, 0, none⟩)) ∧ w' = w.alloc (.cells b.Z b.T (0, 0))) Q
  | .post => ∀ a w x, (∃ v v', p.K v x v') → (∀ e ∈ o.after, Region.binds .any e = true → ∀ oj d, l[e.on]? = some oj → oj.dst = some d → kd p.ks e.on = .post ∨ e.on = p.c → a.tmps.getD d undef = p.val e.on x) →
      o.wp P a w (fun a' w' => a' = a.put o.dst (p.G i x) ∧ w' = w) Q
  | .store k => ∀ b, p.bs[k]? = some b → ∀ a w x q, (∃ v v', p.K v x v') → a.tmps.getD b.da undef = .pointer (some ⟨q, 0, none⟩) → a.tmps.getD b.dr undef = p.G b.rd x → (∃ X, w.heap[q]? = some (.cells X b.T (0, 0)) ∧ X.size = (p.ys k x).length) →
      o.wp P a w (fun a' w' => a' = a ∧ w' = w.setCells q 0 (p.ys k x)) Q
def Steps (p : Plan α) (P : Program) (l : List Oper) (Q : Exit → Act → World → Prop) (a0 : Act) (w0 : World) : Nat → List Oper → Prop
  | _, [] => True
  | k, o :: r => Step p P l Q a0 w0 k o ∧ Steps p P l Q a0 w0 (k + 1) r
theorem Steps.at {p : Plan α} {l : List Oper} {a0 : Act} {w0 : World} : ∀ {r : List Oper} {k i : Nat} {o : Oper}, Steps p P l Q a0 w0 k r → r[i]? = some o → Step p P l Q a0 w0 (k + i) o
  | [], _, _, _, _, h => by simp at h
  | x :: r, k, 0, o, hs, h => by
    simp only [List.getElem?_cons_zero, Option.some.injEq] at h
    subst h
    exact hs.1
  | x :: r, k, i + 1, o, hs, h => by
    have := Steps.at hs.2 (show r[i]? = some o by simpa using h)
    rwa [Nat.add_assoc, Nat.add_comm 1 i] at this
def puts (V : Nat → Value) : Nat → List Oper → Act → Act
  | _, [], a => a
  | k, o :: r, a => puts V (k + 1) r (a.put o.dst (V k))
theorem puts_of {V : Nat → Value} {a : Act} : ∀ {r : List Oper} {k : Nat} {b : Act}, (∀ i o d, r[i]? = some o → o.dst = some d → a.tmps.getD d undef = V (k + i)) → (∀ o ∈ r, ∀ d, o.dst = some d → d < a.tmps.size) → b.tmps.size = a.tmps.size → b.defers = a.defers →
    (∀ t, (∀ o ∈ r, o.dst ≠ some t) → b.tmps.getD t undef = a.tmps.getD t undef) → puts V k r b = a
  | [], k, b, _, _, hs, hd, ht => Loose.act_ext hs hd fun t => ht t (fun o ho => by cases ho)
  | o :: r, k, b, hV, hr, hs, hd, ht => by
    refine puts_of (r := r) (k := k + 1) (fun i o' d ho' hd' => ?_) (fun o' ho' => hr o' (by simp [ho'])) ?_ ?_ fun t hnt => ?_
    · have := hV (i + 1) o' d (by simpa using ho') hd'
      rwa [show k + (i + 1) = k + 1 + i from by omega] at this
    · cases h : o.dst with
      | none => exact hs
      | some d => simpa [Act.put] using hs
    · cases h : o.dst <;> exact hd
    · cases h : o.dst with
      | none => exact ht t (fun o' ho' => by rcases List.mem_cons.1 ho' with rfl | h1; (· rw [h]; simp); exact hnt o' h1)
      | some d =>
        by_cases e : d = t
        · subst e
          rw [Loose.put_same (by rw [hs]; exact hr o (by simp) d h)]
          exact (hV 0 o d rfl h).symm
        · rw [Loose.put_other e]
          exact ht t fun o' ho' => by
            rcases List.mem_cons.1 ho' with rfl | h1
            · rw [h]; exact fun h2 => e (Option.some.inj h2)
            · exact hnt o' h1
/-- behind the call -/
structure Behind (p : Plan α) (B : Nat) (wc : World) (x : α) (wd w : World) : Prop where
  below : ∃ w0 : World, w0.heap.size = B ∧ B ≤ wc.heap.size
  K : p.K wc x wd
  os : w.os = wd.os
  tape : w.tape = wd.tape
  output : w.output = wd.output
  size : wd.heap.size ≤ w.heap.size
  keep : ∀ b, b < wd.heap.size → (b < B ∨ wc.heap.size ≤ b) → w.heap[b]? = wd.heap[b]?
def Inv (p : Plan α) (l : List Oper) (a0 : Act) (w0 : World) (s : Nat → Bool) (a : Act) (w : World) : Prop :=
  a.tmps.size = a0.tmps.size ∧ a.defers = a0.defers ∧ (∀ t, (∀ (i : Nat) (o : Oper), l[i]? = some o → o.dst ≠ some t) → a.tmps.getD t undef = a0.tmps.getD t undef) ∧
  (∀ (i : Nat) o, l[i]? = some o → s i = true → ∀ e ∈ o.after, Region.binds .any e = true → s e.on = true) ∧
  ∃ bx : Nat → Nat, (∀ (k k' : Nat) b b', p.bs[k]? = some b → p.bs[k']? = some b' → k ≠ k' → s b.al = true → s b'.al = true → bx k ≠ bx k') ∧
    ((s p.c = false ∧ Below w0.heap.size w0 w ∧ (∀ (i : Nat) o d, l[i]? = some o → kd p.ks i = .pre → s i = true → o.dst = some d → p.F i (a.tmps.getD d undef) w) ∧
        ∀ (k : Nat) b, p.bs[k]? = some b → s b.al = true → a.tmps.getD b.da undef = .pointer (some ⟨bx k, 0, none⟩) ∧ w0.heap.size ≤ bx k ∧ bx k < w.heap.size ∧ w.heap[bx k]? = some (.cells b.Z b.T (0, 0))) ∨
      (s p.c = true ∧ ∃ wc wd x, Below w0.heap.size w0 wc ∧ Behind p w0.heap.size wc x wd w ∧ (∀ q, q < wd.heap.size → (∀ (k : Nat) b, p.bs[k]? = some b → s b.al = true → q ≠ bx k) → w.heap[q]? = wd.heap[q]?) ∧ (∀ (k : Nat) b, p.bs[k]? = some b → s b.al = true → bx k < wc.heap.size → wc.heap[bx k]? = some (.cells b.Z b.T (0, 0))) ∧ (∀ (i : Nat) o d, l[i]? = some o → (kd p.ks i = .post ∨ i = p.c) → s i = true → o.dst = some d → a.tmps.getD d undef = p.val i x) ∧
        ∀ (k : Nat) b, p.bs[k]? = some b → s b.al = true → a.tmps.getD b.da undef = .pointer (some ⟨bx k, 0, none⟩) ∧ ((w0.heap.size ≤ bx k ∧ bx k < wc.heap.size) ∨ wd.heap.size ≤ bx k) ∧ bx k < w.heap.size ∧
          ∃ X, w.heap[bx k]? = some (.cells X b.T (0, 0)) ∧ X.size = (p.ys k x).length ∧ (s b.st = true → X = (p.ys k x).toArray)))
theorem wp_region {id : Nat} {l : List Oper} {a0 : Act} {w0 : World} (hm : P.follows .mixedOrders = true) (p : Plan α) (hok : chk l a0.tmps.size p.ks p.c p.bs = true)
    (keepF : ∀ i v w w', p.F i v w → Below w.heap.size w w' → p.F i v w')
    (hK : ∀ w x w', Below w0.heap.size w0 w → p.K w x w' → w.heap.size ≤ w'.heap.size ∧ (∀ b, w0.heap.size ≤ b → b < w.heap.size → w'.heap[b]? = w.heap[b]?) ∧ ∀ (k : Nat) b, p.bs[k]? = some b → b.Z.size = (p.ys k x).length)
    (hsteps : Steps p P l Q a0 w0 0 l)
    (hend : ∀ (V : Nat → Value) (bx : Nat → Nat) wc wd w x, Below w0.heap.size w0 wc → Behind p w0.heap.size wc x wd w → V p.c = p.R x → (∀ i, i < l.length → kd p.ks i = .post → V i = p.G i x) →
      (∀ (k : Nat) b, p.bs[k]? = some b → V b.al = .pointer (some ⟨bx k, 0, none⟩) ∧ ((w0.heap.size ≤ bx k ∧ bx k < wc.heap.size) ∨ wd.heap.size ≤ bx k) ∧ bx k < w.heap.size ∧ w.heap[bx k]? = some (.cells (p.ys k x).toArray b.T (0, 0))) →
      (∀ (k k' : Nat), k < p.bs.length → k' < p.bs.length → k ≠ k' → bx k ≠ bx k') → (∀ q, q < wd.heap.size → (∀ (k : Nat) b, p.bs[k]? = some b → q ≠ bx k) → w.heap[q]? = wd.heap[q]?) → (∀ (k : Nat) b, p.bs[k]? = some b → bx k < wc.heap.size → wc.heap[bx k]? = some (.cells b.Z b.T (0, 0))) → Q .normal (puts V 0 l a0) w) :
    (Code.region id l.toArray true).wp P Q a0 w0 := by
  have g := good_of hok
  have sc : ∀ {s : Nat → Bool}, (∀ (i : Nat) o, l[i]? = some o → s i = true → ∀ e ∈ o.after, Region.binds .any e = true → s e.on = true) → ∀ {i : Nat} {o : Oper}, l[i]? = some o → (∀ e ∈ o.after, Region.binds .any e = true → s e.on = true) → (kd p.ks i = .post ∨ ∃ k, kd p.ks i = .store k) → s p.c = true := by
    intro s hcl i
    induction i using Nat.strongRecOn with
    | _ i ih =>
      intro o ho hdep hk
      have h1 := (g.each i o ho).2.2
      have hb := (g.each i o ho).2.1
      have post : ∀ j, dep l i j = true → (kd p.ks j = .post ∨ j = p.c) → s p.c = true := by
        intro j hj hkj
        obtain ⟨e, he, rfl, hbd⟩ := dep_some hj ho
        have hs := hdep e he hbd
        rcases hkj with h2 | h2
        · have hlt := hb e he hbd
          have hil := (List.getElem?_eq_some_iff.1 ho).1
          have hoj : l[e.on]? = some l[e.on] := List.getElem?_eq_getElem (by omega)
          exact ih e.on hlt hoj (hcl e.on _ hoj hs) (.inl h2)
        · rw [← h2]; exact hs
      unfold one at h1
      rcases hk with hk | ⟨k, hk⟩
      · rw [hk] at h1
        simp only [Bool.and_eq_true, List.any_eq_true, Bool.or_eq_true, beq_iff_eq] at h1
        obtain ⟨_, j, _, h2, h3⟩ := h1
        exact post j h2 h3
      · rw [hk] at h1
        simp only [Bool.and_eq_true] at h1
        obtain ⟨_, h2⟩ := h1
        obtain ⟨b, hbk, h3⟩ := (Option.any_eq_true _ _).1 h2
        simp only [Bool.and_eq_true, beq_iff_eq] at h3
        exact post b.rd h3.1.1.1.2 (.inl h3.1.1.2)
  have pc : ∀ {s : Nat → Bool}, (∀ (i : Nat) o, l[i]? = some o → s i = true → ∀ e ∈ o.after, Region.binds .any e = true → s e.on = true) → s p.c = true → ∀ (m i : Nat) (o : Oper), l.length ≤ i + m → l[i]? = some o → kd p.ks i = .pre → s i = true := by
    intro s hcl hs m
    induction m with
    | zero => intro i o hm ho _; have := (List.getElem?_eq_some_iff.1 ho).1; omega
    | succ m ih =>
      intro i o hmi ho hk
      have h1 := (g.each i o ho).2.2
      unfold one at h1
      rw [hk] at h1
      simp only [Bool.and_eq_true, List.any_eq_true, Bool.or_eq_true, beq_iff_eq] at h1
      obtain ⟨_, j, _, h2, h3⟩ := h1
      have hoj : ∃ oj, l[j]? = some oj := by
        unfold dep at h2
        obtain ⟨oj, hoj, _⟩ := (Option.any_eq_true _ _).1 h2
        exact ⟨oj, hoj⟩
      obtain ⟨oj, hoj⟩ := hoj
      obtain ⟨e, he, rfl, hbd⟩ := dep_some h2 hoj
      have hlt := (g.each j oj hoj).2.1 e he hbd
      have hsj : s j = true := by
        rcases h3 with h3 | h3
        · exact ih j oj (by omega) hoj h3
        · rw [h3]; exact hs
      exact hcl j oj hoj hsj e he hbd
  refine Back.wp_region hm (fun i o ho e he hb => (g.each i o (by simpa using ho)).2.1 e he hb) (Inv p l a0 w0) ?_ ?_ ?_
  · exact ⟨rfl, rfl, fun _ _ => rfl, fun _ _ _ h => Bool.noConfusion h, fun _ => 0, fun _ _ _ _ _ _ _ h => Bool.noConfusion h, .inl ⟨rfl, (Below.refl _ _).drew, fun _ _ _ _ _ h => Bool.noConfusion h, fun _ _ _ h => Bool.noConfusion h⟩⟩
  · rintro s i o a w ho hs hdep ⟨i1, i2, i3, i4, bx, i5, i6⟩
    have ho' : l[i]? = some o := by simpa using ho
    have hil := (List.getElem?_eq_some_iff.1 ho').1
    obtain ⟨hg, hback, hone⟩ := g.each i o ho'
    refine ⟨hg, ?_⟩
    have hst := hsteps.at ho'
    rw [Nat.zero_add] at hst
    have c1 : ∀ (v : Value), (a.put o.dst v).tmps.size = a0.tmps.size := fun v => by cases h : o.dst <;> simpa [Act.put] using i1
    have c2 : ∀ (v : Value), (a.put o.dst v).defers = a0.defers := fun v => by cases h : o.dst <;> exact i2
    have other : ∀ (v : Value) (t : Tmp), o.dst ≠ some t → (a.put o.dst v).tmps.getD t undef = a.tmps.getD t undef := fun v t ht => by
      cases h : o.dst with
      | none => rfl
      | some d => exact Loose.put_other (fun e => ht (by rw [h, e]))
    have c3 : ∀ (v : Value) t, (∀ (i : Nat) (o : Oper), l[i]? = some o → o.dst ≠ some t) → (a.put o.dst v).tmps.getD t undef = a0.tmps.getD t undef := fun v t ht => (other v t (ht i o ho')).trans (i3 t ht)
    have c4 : ∀ (i' : Nat) o', l[i']? = some o' → (s i' || i' == i) = true → ∀ e ∈ o'.after, Region.binds .any e = true → (s e.on || e.on == i) = true := by
      intro i' o' h1 h2 e he hb
      rw [Bool.or_eq_true, beq_iff_eq] at h2
      rw [Bool.or_eq_true]
      rcases h2 with h2 | rfl
      · exact .inl (i4 i' o' h1 h2 e he hb)
      · obtain rfl : o = o' := by rw [ho'] at h1; exact Option.some.inj h1
        exact .inl (hdep e he hb)
    have keepSlot : ∀ (v : Value) {j : Nat} {oj : Oper} {d : Tmp}, l[j]? = some oj → oj.dst = some d → j ≠ i → (a.put o.dst v).tmps.getD d undef = a.tmps.getD d undef := fun v j oj d hoj hd hne => other v d (fun e => g.unlike ho' hoj hne e hd rfl)
    have own : ∀ (v : Value) {d : Tmp}, o.dst = some d → (a.put o.dst v).tmps.getD d undef = v := fun v d hd => by
      rw [hd]; exact Loose.put_same (by rw [i1]; exact g.small ho' hd)
    have boxSlot : ∀ (k : Nat) b, p.bs[k]? = some b → ∃ oj, l[b.al]? = some oj ∧ oj.dst = some b.da := by
      intro k b hb
      obtain ⟨h1, _, h3, _⟩ := g.box k b hb
      have hoj : l[b.al]? = some l[b.al] := List.getElem?_eq_getElem h3
      have := (g.each _ _ hoj).2.2
      unfold one at this
      rw [h1] at this
      simp only [Bool.and_eq_true, hb, Option.any_some, hoj, beq_iff_eq] at this
      exact ⟨_, hoj, this.2.2⟩
    -- what stays of the boxes when no box is made and none is filled
    have sameBox : ∀ (k : Nat) b, p.bs[k]? = some b → kd p.ks i ≠ .box k → (s b.al || b.al == i) = s b.al := by
      intro k b hb hne
      have : b.al ≠ i := fun e => hne (by rw [← e]; exact (g.box k b hb).1)
      have h2 : (b.al == i) = false := by simpa using this
      rw [h2, Bool.or_false]
    have sameStore : ∀ (k : Nat) b, p.bs[k]? = some b → kd p.ks i ≠ .store k → (s b.st || b.st == i) = s b.st := by
      intro k b hb hne
      have : b.st ≠ i := fun e => hne (by rw [← e]; exact (g.box k b hb).2.1)
      have h2 : (b.st == i) = false := by simpa using this
      rw [h2, Bool.or_false]
    unfold Step at hst
    cases hk : kd p.ks i with
    | pre =>
      rw [hk] at hst
      have hns : s p.c = false := by
        cases hc : s p.c with
        | false => rfl
        | true => rw [pc i4 hc l.length i o (by omega) ho' hk] at hs; cases hs
      rcases i6 with ⟨_, hbel, hF, hB⟩ | ⟨hc, _⟩
      · have hdepF : ∀ e ∈ o.after, Region.binds .any e = true → ∀ oj d, l.toArray[e.on]? = some oj → oj.dst = some d → p.F e.on (a.tmps.getD d undef) w := fun e he hb oj d hoj hd => by
          have hpre : kd p.ks e.on = .pre := by
            unfold one at hone
            rw [hk] at hone
            simp only [Bool.and_eq_true] at hone
            simpa using deps_of hone.1.2 ho' e he hb
          exact hF e.on oj d (by simpa using hoj) hpre (hdep e he hb) hd
        rcases hst a w ⟨i1, i2, hbel, fun t ht => i3 t (fun j oj hoj => ht j oj (by simpa using hoj))⟩ hdepF with ⟨_, hwp⟩ | ⟨hw, _⟩
        · refine Oper.wp_mono ?_ hwp
          rintro a' w' ⟨v, rfl, hv, hb⟩
          have hci : p.c ≠ i := fun e => by rw [← e, g.cc.2] at hk; cases hk
          refine ⟨c1 v, c2 v, c3 v, c4, bx, ?_, .inl ⟨?_, hbel.trans (hb.mono hbel.size), ?_, ?_⟩⟩
          · intro k k' b b' hb1 hb2 hne h1 h2
            replace h1 := (sameBox k b hb1 (by rw [hk]; simp)).symm.trans h1
            replace h2 := (sameBox k' b' hb2 (by rw [hk]; simp)).symm.trans h2
            exact i5 k k' b b' hb1 hb2 hne h1 h2
          · show (s p.c || p.c == i) = false
            rw [hns]; simpa using hci
          · intro j oj d hoj hkj hsj hd
            by_cases hji : j = i
            · subst hji
              obtain rfl : o = oj := by rw [ho'] at hoj; exact Option.some.inj hoj
              rw [own v hd]; exact hv
            · rw [keepSlot v hoj hd hji]
              exact keepF j _ _ _ (hF j oj d hoj hkj (by simpa [hji] using hsj) hd) hb
          · intro k b hbk h1
            replace h1 := (sameBox k b hbk (by rw [hk]; simp)).symm.trans h1
            obtain ⟨oj, hoj, hd⟩ := boxSlot k b hbk
            have hne : b.al ≠ i := fun e => by rw [← e, (g.box k b hbk).1] at hk; cases hk
            obtain ⟨q1, q2, q3, q4⟩ := hB k b hbk h1
            exact ⟨(keepSlot v hoj hd hne).trans q1, q2, Nat.lt_of_lt_of_le q3 hb.size, (hb.block _ q3).trans q4⟩
        · simp [Region.wanted, hg] at hw
      · rw [hns] at hc; cases hc
    | call =>
      rw [hk] at hst
      have hic : i = p.c := by
        unfold one at hone
        rw [hk] at hone
        simp only [Bool.and_eq_true, beq_iff_eq] at hone
        exact hone.2
      rcases i6 with ⟨_, hbel, hF, hB⟩ | ⟨hc, _⟩
      · have hdepF : ∀ e ∈ o.after, Region.binds .any e = true → ∀ oj d, l.toArray[e.on]? = some oj → oj.dst = some d → p.F e.on (a.tmps.getD d undef) w := fun e he hb oj d hoj hd => by
          have hpre : kd p.ks e.on = .pre := by
            unfold one at hone
            rw [hk] at hone
            simp only [Bool.and_eq_true] at hone
            simpa using deps_of hone.1.2 ho' e he hb
          exact hF e.on oj d (by simpa using hoj) hpre (hdep e he hb) hd
        refine Oper.wp_mono ?_ (hst a w ⟨i1, i2, hbel, fun t ht => i3 t (fun j oj hoj => ht j oj (by simpa using hoj))⟩ hdepF)
        rintro a' w' ⟨x, rfl, hx⟩
        obtain ⟨k1, k2, k3⟩ := hK w x w' hbel hx
        refine ⟨c1 _, c2 _, c3 _, c4, bx, ?_, .inr ⟨by show (s p.c || p.c == i) = true; rw [← hic]; simp, w, w', x, hbel, ⟨⟨w0, rfl, hbel.size⟩, hx, rfl, rfl, rfl, Nat.le_refl _, fun _ _ _ => rfl⟩, fun _ _ _ => rfl, fun k b hbk h1 _ => (hB k b hbk ((sameBox k b hbk (by rw [hk]; simp)).symm.trans h1)).2.2.2, ?_, ?_⟩⟩
        · intro k k' b b' hb1 hb2 hne h1 h2
          replace h1 := (sameBox k b hb1 (by rw [hk]; simp)).symm.trans h1
          replace h2 := (sameBox k' b' hb2 (by rw [hk]; simp)).symm.trans h2
          exact i5 k k' b b' hb1 hb2 hne h1 h2
        · intro j oj d hoj hkj hsj hd
          by_cases hji : j = i
          · subst hji
            obtain rfl : o = oj := by rw [ho'] at hoj; exact Option.some.inj hoj
            rw [own _ hd]
            unfold Plan.val
            rw [if_pos hic]
          · exfalso
            have hsj' : s j = true := by simpa [hji] using hsj
            rcases hkj with hkj | hkj
            · have := sc i4 hoj (i4 j oj hoj hsj') (.inl hkj)
              rw [← hic, hs] at this; cases this
            · exact hji (hkj.trans hic.symm)
        · intro k b hbk h1
          replace h1 := (sameBox k b hbk (by rw [hk]; simp)).symm.trans h1
          obtain ⟨oj, hoj, hd⟩ := boxSlot k b hbk
          have hne : b.al ≠ i := fun e => by rw [← e, (g.box k b hbk).1] at hk; cases hk
          obtain ⟨q1, q2, q3, q4⟩ := hB k b hbk h1
          refine ⟨(keepSlot _ hoj hd hne).trans q1, .inl ⟨q2, q3⟩, Nat.lt_of_lt_of_le q3 k1, b.Z, (k2 _ q2 q3).trans q4, k3 k b hbk, fun h => ?_⟩
          replace h := (sameStore k b hbk (by rw [hk]; simp)).symm.trans h
          have hlt := (g.box k b hbk).2.2.2
          have hol : l[b.st]? = some l[b.st] := List.getElem?_eq_getElem hlt
          have := sc i4 hol (i4 _ _ hol h) (.inr ⟨k, (g.box k b hbk).2.1⟩)
          rw [← hic, hs] at this; cases this
      · rw [← hic, hs] at hc; cases hc
    | box k =>
      rw [hk] at hst
      obtain ⟨b, hbk, hal, hda⟩ : ∃ b, p.bs[k]? = some b ∧ b.al = i ∧ o.dst = some b.da := by
        unfold one at hone
        rw [hk] at hone
        simp only [Bool.and_eq_true] at hone
        obtain ⟨b, hb, h1⟩ := (Option.any_eq_true _ _).1 hone.2
        simp only [Bool.and_eq_true, beq_iff_eq, ho', Option.any_some] at h1
        exact ⟨b, hb, h1.1, h1.2⟩
      refine Oper.wp_mono ?_ (hst b hbk a w)
      rintro a' w' ⟨rfl, rfl⟩
      have hb : Below w.heap.size w (w.alloc (.cells b.Z b.T (0, 0))) := (Below.refl _ _).alloc (Nat.le_refl _) _
      have hnew : (w.alloc (.cells b.Z b.T (0, 0))).heap[w.heap.size]? = some (.cells b.Z b.T (0, 0)) := heap_alloc_new w _
      have hsz : (w.alloc (.cells b.Z b.T (0, 0))).heap.size = w.heap.size + 1 := by simp
      have hci : p.c ≠ i := fun e => by rw [← e, g.cc.2] at hk; cases hk
      have hbx : ∀ k', k' ≠ k → (if k' = k then w.heap.size else bx k') = bx k' := fun k' h => if_neg h
      have hold : ∀ (k' : Nat) b', p.bs[k']? = some b' → s b'.al = true → bx k' < w.heap.size := by
        intro k' b' h1 h2
        rcases i6 with ⟨_, _, _, hB⟩ | ⟨_, _, _, _, _, _, _, _, _, hB⟩
        · exact (hB k' b' h1 h2).2.2.1
        · exact (hB k' b' h1 h2).2.2.1
      refine ⟨c1 _, c2 _, c3 _, c4, fun k' => if k' = k then w.heap.size else bx k', ?_, ?_⟩
      · intro k1 k2 b1 b2 hb1 hb2 hne h1 h2
        simp only
        by_cases e1 : k1 = k
        · by_cases e2 : k2 = k
          · exact absurd (e1.trans e2.symm) hne
          · rw [if_pos e1, if_neg e2]
            replace h2 := (sameBox k2 b2 hb2 (by rw [hk]; simpa using Ne.symm e2)).symm.trans h2
            have := hold k2 b2 hb2 h2
            omega
        · rw [if_neg e1]
          replace h1 := (sameBox k1 b1 hb1 (by rw [hk]; simpa using Ne.symm e1)).symm.trans h1
          have := hold k1 b1 hb1 h1
          by_cases e2 : k2 = k
          · rw [if_pos e2]; omega
          · rw [if_neg e2]
            replace h2 := (sameBox k2 b2 hb2 (by rw [hk]; simpa using Ne.symm e2)).symm.trans h2
            exact i5 k1 k2 b1 b2 hb1 hb2 hne h1 h2
      · rcases i6 with ⟨hc, hbel, hF, hB⟩ | ⟨hc, wc, wd, x, hbel, hbeh, hkp, hwcb, hpost, hB⟩
        · refine .inl ⟨by show (s p.c || p.c == i) = false; rw [hc]; simpa using hci, hbel.trans (hb.mono hbel.size), ?_, ?_⟩
          · intro j oj d hoj hkj hsj hd
            have hji : j ≠ i := fun e => by rw [e, hk] at hkj; cases hkj
            rw [keepSlot _ hoj hd hji]
            exact keepF j _ _ _ (hF j oj d hoj hkj (by simpa [hji] using hsj) hd) hb
          · intro k' b' hb' h1
            by_cases e : k' = k
            · subst e
              obtain rfl : b = b' := by rw [hbk] at hb'; exact Option.some.inj hb'
              simp only [if_pos]
              exact ⟨own _ hda, hbel.size, by omega, hnew⟩
            · simp only [if_neg e]
              replace h1 := (sameBox k' b' hb' (by rw [hk]; simpa using Ne.symm e)).symm.trans h1
              obtain ⟨oj, hoj, hd⟩ := boxSlot k' b' hb'
              have hne : b'.al ≠ i := fun he => by
                have h2 := (g.box k' b' hb').1
                rw [he, hk] at h2
                exact e (Kind.box.inj h2).symm
              obtain ⟨q1, q2, q3, q4⟩ := hB k' b' hb' h1
              exact ⟨(keepSlot _ hoj hd hne).trans q1, q2, by omega, (hb.block _ q3).trans q4⟩
        · refine .inr ⟨by show (s p.c || p.c == i) = true; rw [hc]; rfl, wc, wd, x, hbel, ⟨hbeh.below, hbeh.K, hb.os.trans hbeh.os, hb.tape.trans hbeh.tape, hb.output.trans hbeh.output, Nat.le_trans hbeh.size hb.size, fun q h1 h2 => (hb.block q (Nat.lt_of_lt_of_le h1 hbeh.size)).trans (hbeh.keep q h1 h2)⟩, fun q h1 h2 => (hb.block q (Nat.lt_of_lt_of_le h1 hbeh.size)).trans (hkp q h1 fun k' b' hb' h3 => by
              have hkk : k' ≠ k := fun e => by
                subst e
                obtain rfl : b = b' := by rw [hbk] at hb'; exact Option.some.inj hb'
                rw [hal, hs] at h3; cases h3
              have h4 := h2 k' b' hb' (by show (s b'.al || b'.al == i) = true; rw [h3]; rfl)
              simp only [if_neg hkk] at h4
              exact h4), fun k' b' hb' h1 h2 => by
              by_cases e : k' = k
              · simp only [if_pos e] at h2
                have := hbeh.size
                have := (hK wc x wd hbel hbeh.K).1
                omega
              · simp only [if_neg e] at h2 ⊢
                exact hwcb k' b' hb' ((sameBox k' b' hb' (by rw [hk]; simpa using Ne.symm e)).symm.trans h1) h2, ?_, ?_⟩
          · intro j oj d hoj hkj hsj hd
            have hji : j ≠ i := fun e => by
              rcases hkj with hkj | hkj
              · rw [e, hk] at hkj; cases hkj
              · exact hci (hkj.symm.trans e)
            rw [keepSlot _ hoj hd hji]
            exact hpost j oj d hoj hkj (by simpa [hji] using hsj) hd
          · intro k' b' hb' h1
            by_cases e : k' = k
            · subst e
              obtain rfl : b = b' := by rw [hbk] at hb'; exact Option.some.inj hb'
              simp only [if_pos]
              refine ⟨own _ hda, .inr hbeh.size, by omega, b.Z, hnew, (hK wc x wd hbel hbeh.K).2.2 _ b hbk, fun h => ?_⟩
              exfalso
              replace h := (sameStore _ b hbk (by rw [hk]; simp)).symm.trans h
              have hlt := (g.box _ b hbk).2.2.2
              have hol : l[b.st]? = some l[b.st] := List.getElem?_eq_getElem hlt
              have h2 := (g.each _ _ hol).2.2
              unfold one at h2
              rw [(g.box _ b hbk).2.1] at h2
              simp only [Bool.and_eq_true, hbk, Option.any_some] at h2
              obtain ⟨e', he', h3, hbd⟩ := dep_some h2.2.1.1.1.1.2 hol
              have h4 := i4 _ _ hol h e' he' hbd
              rw [h3, hal, hs] at h4; cases h4
            · simp only [if_neg e]
              replace h1 := (sameBox k' b' hb' (by rw [hk]; simpa using Ne.symm e)).symm.trans h1
              obtain ⟨oj, hoj, hd⟩ := boxSlot k' b' hb'
              have hne : b'.al ≠ i := fun he => by
                have h2 := (g.box k' b' hb').1
                rw [he, hk] at h2
                exact e (Kind.box.inj h2).symm
              obtain ⟨q1, q2, q3, X, q4, q5, q6⟩ := hB k' b' hb' h1
              exact ⟨(keepSlot _ hoj hd hne).trans q1, q2, by omega, X, (hb.block _ q3).trans q4, q5, fun h => q6 ((sameStore k' b' hb' (by rw [hk]; simp)).symm.trans h)⟩
    | post =>
      rw [hk] at hst
      have hsc := sc i4 ho' hdep (.inl hk)
      rcases i6 with ⟨hc, _⟩ | ⟨hc, wc, wd, x, hbel, hbeh, hkp, hwcb, hpost, hB⟩
      · rw [hsc] at hc; cases hc
      · refine Oper.wp_mono ?_ (hst a w x ⟨_, _, hbeh.K⟩ (fun e he hb oj d hoj hd hkj => hpost e.on oj d hoj hkj (hdep e he hb) hd))
        rintro a' w' ⟨rfl, rfl⟩
        refine ⟨c1 _, c2 _, c3 _, c4, bx, ?_, .inr ⟨by show (s p.c || p.c == i) = true; rw [hc]; rfl, wc, wd, x, hbel, hbeh, fun q h1 h2 => hkp q h1 fun k b hb h3 => h2 k b hb (by show (s b.al || b.al == i) = true; rw [h3]; rfl), fun k b hb h1 => hwcb k b hb ((sameBox k b hb (by rw [hk]; simp)).symm.trans h1), ?_, ?_⟩⟩
        · intro k k' b b' hb1 hb2 hne h1 h2
          replace h1 := (sameBox k b hb1 (by rw [hk]; simp)).symm.trans h1
          replace h2 := (sameBox k' b' hb2 (by rw [hk]; simp)).symm.trans h2
          exact i5 k k' b b' hb1 hb2 hne h1 h2
        · intro j oj d hoj hkj hsj hd
          by_cases hji : j = i
          · subst hji
            obtain rfl : o = oj := by rw [ho'] at hoj; exact Option.some.inj hoj
            rw [own _ hd]
            unfold Plan.val
            rw [if_neg (fun e => by rw [e, g.cc.2] at hk; cases hk)]
          · rw [keepSlot _ hoj hd hji]
            exact hpost j oj d hoj hkj (by simpa [hji] using hsj) hd
        · intro k b hbk h1
          replace h1 := (sameBox k b hbk (by rw [hk]; simp)).symm.trans h1
          obtain ⟨oj, hoj, hd⟩ := boxSlot k b hbk
          have hne : b.al ≠ i := fun e => by rw [← e, (g.box k b hbk).1] at hk; cases hk
          obtain ⟨q1, q2, q3, X, q4, q5, q6⟩ := hB k b hbk h1
          exact ⟨(keepSlot _ hoj hd hne).trans q1, q2, q3, X, q4, q5, fun h => q6 ((sameStore k b hbk (by rw [hk]; simp)).symm.trans h)⟩
    | store k =>
      rw [hk] at hst
      have hsc := sc i4 ho' hdep (.inr ⟨k, hk⟩)
      obtain ⟨b, hbk, hbst, hdal, hdrd, hkr, hdr, hnone⟩ : ∃ b, p.bs[k]? = some b ∧ b.st = i ∧ dep l i b.al = true ∧ dep l i b.rd = true ∧ kd p.ks b.rd = .post ∧ (∃ or, l[b.rd]? = some or ∧ or.dst = some b.dr) ∧ o.dst = none := by
        unfold one at hone
        rw [hk] at hone
        simp only [Bool.and_eq_true, ho', Option.all_some, beq_iff_eq] at hone
        obtain ⟨b, hb, h1⟩ := (Option.any_eq_true _ _).1 hone.2
        simp only [Bool.and_eq_true, beq_iff_eq] at h1
        obtain ⟨⟨⟨⟨⟨h2, h3⟩, h4⟩, h5⟩, h6⟩, _⟩ := h1
        obtain ⟨or, h7, h8⟩ := (Option.any_eq_true _ _).1 h6
        exact ⟨b, hb, h2, h3, h4, h5, ⟨or, h7, by simpa using h8⟩, hone.1⟩
      have hsal : s b.al = true := by
        obtain ⟨e, he, h1, h2⟩ := dep_some hdal ho'
        rw [← h1]; exact hdep e he h2
      have hsrd : s b.rd = true := by
        obtain ⟨e, he, h1, h2⟩ := dep_some hdrd ho'
        rw [← h1]; exact hdep e he h2
      rcases i6 with ⟨hc, _⟩ | ⟨hc, wc, wd, x, hbel, hbeh, hkp, hwcb, hpost, hB⟩
      · rw [hsc] at hc; cases hc
      · obtain ⟨q1, q2, q3, X, q4, q5, q6⟩ := hB k b hbk hsal
        obtain ⟨or, hor, hdor⟩ := hdr
        have hrv := hpost b.rd or b.dr hor (.inl hkr) hsrd hdor
        have hrc : b.rd ≠ p.c := fun e => by rw [e, g.cc.2] at hkr; cases hkr
        unfold Plan.val at hrv
        rw [if_neg hrc] at hrv
        refine Oper.wp_mono ?_ (hst b hbk a w x (bx k) ⟨_, _, hbeh.K⟩ q1 hrv ⟨X, q4, q5⟩)
        rintro a' w' ⟨rfl, rfl⟩
        obtain ⟨f1, f2, f3, f4, f5⟩ := Back.far (bx k) (p.ys k x) 0 w
        have hwc := hbel.size
        have hcd := (hK wc x wd hbel hbeh.K).1
        refine ⟨i1, i2, i3, c4, bx, ?_, .inr ⟨by show (s p.c || p.c == i) = true; rw [hc]; rfl, wc, wd, x, hbel, ⟨hbeh.below, hbeh.K, f1.trans hbeh.os, f2.trans hbeh.tape, f3.trans hbeh.output, by rw [f4]; exact hbeh.size, fun q h1 h2 => (f5 q (fun e => by rw [e] at h1 h2; omega)).trans (hbeh.keep q h1 h2)⟩, fun q h1 h2 => (f5 q (h2 k b hbk (by show (s b.al || b.al == i) = true; rw [hsal]; rfl))).trans (hkp q h1 fun k b hb h3 => h2 k b hb (by show (s b.al || b.al == i) = true; rw [h3]; rfl)), fun k b hb h1 => hwcb k b hb ((sameBox k b hb (by rw [hk]; simp)).symm.trans h1), ?_, ?_⟩⟩
        · intro k1 k2 b1 b2 hb1 hb2 hne h1 h2
          replace h1 := (sameBox k1 b1 hb1 (by rw [hk]; simp)).symm.trans h1
          replace h2 := (sameBox k2 b2 hb2 (by rw [hk]; simp)).symm.trans h2
          exact i5 k1 k2 b1 b2 hb1 hb2 hne h1 h2
        · intro j oj d hoj hkj hsj hd
          have hji : j ≠ i := fun e => by
            rcases hkj with hkj | hkj
            · rw [e, hk] at hkj; cases hkj
            · rw [← e, hkj, g.cc.2] at hk; cases hk
          exact hpost j oj d hoj hkj (by simpa [hji] using hsj) hd
        · intro k' b' hb' h1
          replace h1 := (sameBox k' b' hb' (by rw [hk]; simp)).symm.trans h1
          obtain ⟨r1, r2, r3, X', r4, r5, r6⟩ := hB k' b' hb' h1
          by_cases e : k' = k
          · subst e
            exact ⟨r1, r2, by rw [f4]; exact r3, _, Back.st r4 r5, by simp, fun _ => rfl⟩
          · have hbn : bx k' ≠ bx k := i5 k' k b' b hb' hbk e h1 hsal
            exact ⟨r1, r2, by rw [f4]; exact r3, X', (f5 _ hbn).trans r4, r5, fun h => r6 ((sameStore k' b' hb' (by rw [hk]; simpa using Ne.symm e)).symm.trans h)⟩
  · rintro s a w hall ⟨i1, i2, i3, i4, bx, i5, i6⟩
    have hall' : ∀ i, i < l.length → s i = true := fun i hi => hall i (by simpa using hi)
    rcases i6 with ⟨hc, _⟩ | ⟨hc, wc, wd, x, hbel, hbeh, hkp, hwcb, hpost, hB⟩
    · rw [hall' _ g.cc.1] at hc; cases hc
    · obtain ⟨V, hV⟩ : ∃ V : Nat → Value, V = fun i => ((l[i]?).bind (·.dst)).elim undef (fun d => a.tmps.getD d undef) := ⟨_, rfl⟩
      have hVd : ∀ (i : Nat) o d, l[i]? = some o → o.dst = some d → a.tmps.getD d undef = V i := fun i o d ho hd => by rw [hV]; simp [ho, hd]
      have ha : puts V 0 l a0 = a := puts_of (fun i o d ho hd => by rw [Nat.zero_add]; exact hVd i o d ho hd) (fun o ho d hd => by
        obtain ⟨i, hi, rfl⟩ := List.getElem_of_mem ho
        rw [i1]; exact g.small (List.getElem?_eq_getElem hi) hd) i1.symm i2.symm (fun t ht => (i3 t (fun i o ho => ht o (List.mem_of_getElem? ho))).symm)
      have dst : ∀ i, i < l.length → (∀ k, kd p.ks i ≠ .store k) → ∃ o d, l[i]? = some o ∧ o.dst = some d := by
        intro i hi hne
        have ho : l[i]? = some l[i] := List.getElem?_eq_getElem hi
        have h1 := (g.each i _ ho).2.2
        unfold one at h1
        have hb : dstB l a0.tmps.size i = true := by
          split at h1
          · simp only [Bool.and_eq_true] at h1; exact h1.1.1
          · simp only [Bool.and_eq_true] at h1; exact h1.1.1
          · simp only [Bool.and_eq_true] at h1; exact h1.1
          · simp only [Bool.and_eq_true] at h1; exact h1.1
          · rename_i k hks; exact absurd hks (hne k)
        obtain ⟨⟨d, h2, _⟩, _⟩ := dst_of hb ho
        exact ⟨_, d, ho, h2⟩
      rw [← ha]
      refine hend V bx wc wd w x hbel hbeh ?_ ?_ ?_ ?_ (fun q h1 h2 => hkp q h1 fun k b hb _ => h2 k b hb) (fun k b hb h1 => hwcb k b hb (hall' _ (g.box k b hb).2.2.1) h1)
      · obtain ⟨o, d, ho, hd⟩ := dst p.c g.cc.1 (fun k h => by rw [g.cc.2] at h; cases h)
        rw [← hVd _ o d ho hd, hpost _ o d ho (.inr rfl) (hall' _ g.cc.1) hd]
        unfold Plan.val
        rw [if_pos rfl]
      · intro i hi hk
        obtain ⟨o, d, ho, hd⟩ := dst i hi (fun k h => by rw [hk] at h; cases h)
        rw [← hVd _ o d ho hd, hpost _ o d ho (.inl hk) (hall' _ hi) hd]
        unfold Plan.val
        rw [if_neg (fun e => by rw [e, g.cc.2] at hk; cases hk)]
      · intro k b hb
        obtain ⟨h1, h2, h3, h4⟩ := g.box k b hb
        have ho : l[b.al]? = some l[b.al] := List.getElem?_eq_getElem h3
        have h5 := (g.each _ _ ho).2.2
        unfold one at h5
        rw [h1] at h5
        simp only [Bool.and_eq_true, hb, Option.any_some, ho, beq_iff_eq] at h5
        obtain ⟨q1, q2, q3, X, q4, q5, q6⟩ := hB k b hb (hall' _ h3)
        exact ⟨(hVd _ _ _ ho h5.2.2).symm.trans q1, q2, q3, by rw [q4, q6 (hall' _ h4)]⟩
      · intro k k' hk hk' hne
        exact i5 k k' _ _ (List.getElem?_eq_getElem hk) (List.getElem?_eq_getElem hk') hne (hall' _ (g.box k _ (List.getElem?_eq_getElem hk)).2.2.1) (hall' _ (g.box k' _ (List.getElem?_eq_getElem hk')).2.2.1)
end Bxs
end Go.Proofs.YtpllcnpmjnmcfaaDoor
