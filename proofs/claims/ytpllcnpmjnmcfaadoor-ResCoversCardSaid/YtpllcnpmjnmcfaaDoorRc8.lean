/-
  A region that draws its order and reads first, then lays: 'return x, y.f, z' and the like: operations that read or compute (all of them first), then stores into boxes known beforehand and assignments, in whatever order. Condition: no guard; each operation is of one of these kinds (chk).
-/
import Derived.Test.YtpllcnpmjnmcfaaDoorRc6
import Derived.Test.YtpllcnpmjnmcfaaDoorRc7
import Derived.Test.YtpllcnpmjnmcfaaDoorRc4
import Derived.Deep.MidRow
set_option linter.unusedVariables false
set_option linter.unusedSimpArgs false
namespace Go.Proofs.YtpllcnpmjnmcfaaDoor
open Go.RowKit
namespace Phs
open Bxs
variable {P : Program} {Q : Exit → Act → World → Prop}
inductive Knd where
  | pre | asg | store (k : Nat)
  deriving DecidableEq
/-- a box at b, filled by operation st with what operation rd has put into slot dr; its address lies in slot s -/
structure Box where
  b : Nat
  s : Tmp
  st : Nat
  rd : Nat
  dr : Tmp
  T : TypeId
  ys : List Value
def kn (ks : List Knd) (i : Nat) : Knd := ks.getD i .pre
def one (l : List Oper) (n : Nat) (ks : List Knd) (st rd : List Nat) (ss dr : List Tmp) (i : Nat) : Bool := match kn ks i with
  | .pre => dstB l n i && depsAll l i (fun j => kn ks j == .pre)
  | .asg => dstB l n i
  | .store k => (l[i]?).all (fun o => o.dst == none) && st[k]? == some i && (rd[k]?).any (fun r => dep l i r && kn ks r == .pre && decide (r < l.length) && (l[r]?).any (fun o => o.dst == dr[k]?)) && (ss[k]?).any (fun s => Loose.freeB l.toArray s)
def chk (l : List Oper) (n : Nat) (ks : List Knd) (st rd : List Nat) (ss dr : List Tmp) : Bool :=
  (List.range l.length).all (fun i => (l[i]?).all (fun o => o.guard == none) && depsAll l i (fun j => decide (j < i)) && one l n ks st rd ss dr i) &&
    (List.range st.length).all fun k => (st[k]?).all fun i => kn ks i == .store k && decide (i < l.length)
structure Plan where
  ks : List Knd
  vl : Nat → Value
  bs : List Box
def Step (p : Plan) (P : Program) (l : List Oper) (Q : Exit → Act → World → Prop) (a0 : Act) (w0 : World) (i : Nat) (o : Oper) : Prop := match kn p.ks i with
  | .pre => ∀ a w, (∀ q, (∀ (k : Nat) b, p.bs[k]? = some b → q ≠ b.b) → w.heap[q]? = w0.heap[q]?) → (∀ t, Loose.freeB l.toArray t = true → a.tmps.getD t undef = a0.tmps.getD t undef) → (∀ j d, postB l o j d = true → a.tmps.getD d undef = p.vl j) → o.wp P a w (fun a' w' => a' = a.put o.dst (p.vl i) ∧ w' = w) Q
  | .asg => ∀ a w, (∀ t, Loose.freeB l.toArray t = true → a.tmps.getD t undef = a0.tmps.getD t undef) → (∀ j d, postB l o j d = true → a.tmps.getD d undef = p.vl j) → o.wp P a w (fun a' w' => a' = a.put o.dst (p.vl i) ∧ w' = w) Q
  | .store k => ∀ b, p.bs[k]? = some b → ∀ a w, a.tmps.getD b.s undef = a0.tmps.getD b.s undef → a.tmps.getD b.dr undef = p.vl b.rd → (∃ X, w.heap[b.b]? = some (.cells X b.T (0, 0)) ∧ X.size = b.ys.length) → o.wp P a w (fun a' w' => a' = a ∧ w' = w.setCells b.b 0 b.ys) Q
where postB (l : List Oper) (o : Oper) (j d : Nat) : Bool := (o.after.any fun e => e.on == j && Region.binds .any e) && ((l[j]?).bind (·.dst) == some d)
def Steps (p : Plan) (P : Program) (l : List Oper) (Q : Exit → Act → World → Prop) (a0 : Act) (w0 : World) : Nat → List Oper → Prop
  | _, [] => True
  | k, o :: r => Step p P l Q a0 w0 k o ∧ Steps p P l Q a0 w0 (k + 1) r
theorem Steps.at {p : Plan} {l : List Oper} {a0 : Act} {w0 : World} : ∀ {r : List Oper} {k i : Nat} {o : Oper}, Steps p P l Q a0 w0 k r → r[i]? = some o → Step p P l Q a0 w0 (k + i) o
  | [], _, _, _, _, h => by simp at h
  | x :: r, k, 0, o, hs, h => by
    simp only [List.getElem?_cons_zero, Option.some.injEq] at h
    subst h
    exact hs.1
  | x :: r, k, i + 1, o, hs, h => by
    have := Steps.at hs.2 (show r[i]? = some o by simpa using h)
    rwa [Nat.add_assoc, Nat.add_comm 1 i] at this
def Inv (p : Plan) (l : List Oper) (a0 : Act) (w0 : World) (s : Nat → Bool) (a : Act) (w : World) : Prop :=
  a.tmps.size = a0.tmps.size ∧ a.defers = a0.defers ∧ (∀ t, (∀ (i : Nat) (o : Oper), l[i]? = some o → o.dst ≠ some t) → a.tmps.getD t undef = a0.tmps.getD t undef) ∧
  (∀ (i : Nat) o, l[i]? = some o → s i = true → ∀ e ∈ o.after, Region.binds .any e = true → s e.on = true) ∧
  (∀ (i : Nat) o d, l[i]? = some o → s i = true → o.dst = some d → a.tmps.getD d undef = p.vl i) ∧
  (w.os = w0.drew.os ∧ w.tape = w0.drew.tape ∧ w.output = w0.drew.output ∧ w.heap.size = w0.heap.size ∧ ∀ q, (∀ (k : Nat) b, p.bs[k]? = some b → q ≠ b.b) → w.heap[q]? = w0.heap[q]?) ∧
  ∀ (k : Nat) b, p.bs[k]? = some b → ∃ X, w.heap[b.b]? = some (.cells X b.T (0, 0)) ∧ X.size = b.ys.length ∧ (s b.st = true → X = b.ys.toArray)
theorem wp_region {id : Nat} {l : List Oper} {a0 : Act} {w0 : World} (hm : P.follows .mixedOrders = true) (p : Plan) (st rd : List Nat) (ss dr : List Tmp) (hok : chk l a0.tmps.size p.ks st rd ss dr = true)
    (hbs : p.bs.map (fun b => (b.st, b.rd, b.s, b.dr)) = (st.zip (rd.zip (ss.zip dr)))) (hln : st.length = p.bs.length ∧ rd.length = p.bs.length ∧ ss.length = p.bs.length ∧ dr.length = p.bs.length)
    (hne : ∀ (k k' : Nat) b b', p.bs[k]? = some b → p.bs[k']? = some b' → k ≠ k' → b.b ≠ b'.b)
    (hbox : ∀ (k : Nat) b, p.bs[k]? = some b → ∃ X, w0.heap[b.b]? = some (.cells X b.T (0, 0)) ∧ X.size = b.ys.length)
    (hsteps : Steps p P l Q a0 w0 0 l)
    (hend : ∀ w, w.os = w0.os → w.tape = w0.drew.tape → w.output = w0.output → w.heap.size = w0.heap.size → (∀ q, (∀ (k : Nat) b, p.bs[k]? = some b → q ≠ b.b) → w.heap[q]? = w0.heap[q]?) →
      (∀ (k : Nat) b, p.bs[k]? = some b → w.heap[b.b]? = some (.cells b.ys.toArray b.T (0, 0))) → Q .normal (puts p.vl 0 l a0) w) :
    (Code.region id l.toArray true).wp P Q a0 w0 := by
  unfold chk at hok
  rw [Bool.and_eq_true] at hok
  have each : ∀ (i : Nat) o, l[i]? = some o → o.guard = none ∧ (∀ e ∈ o.after, Region.binds .any e = true → e.on < i) ∧ one l a0.tmps.size p.ks st rd ss dr i = true := fun i o ho => by
    have := List.all_eq_true.1 hok.1 i (List.mem_range.2 (List.getElem?_eq_some_iff.1 ho).1)
    simp only [Bool.and_eq_true] at this
    obtain ⟨⟨g1, g2⟩, g3⟩ := this
    rw [ho] at g1
    exact ⟨by simpa using g1, fun e he hb => by simpa using deps_of g2 ho e he hb, g3⟩
  have dst : ∀ {i : Nat} {o : Oper}, l[i]? = some o → dstB l a0.tmps.size i = true ∨ o.dst = none := fun {i o} ho => by
    have := (each i o ho).2.2
    unfold one at this
    split at this
    · simp only [Bool.and_eq_true] at this; exact .inl this.1
    · exact .inl this
    · simp only [Bool.and_eq_true, ho, Option.all_some, beq_iff_eq] at this; exact .inr this.1.1.1
  have small : ∀ {i : Nat} {o : Oper} {d : Tmp}, l[i]? = some o → o.dst = some d → d < a0.tmps.size := fun {i o d} ho hd => by
    rcases dst ho with hb | hb
    · obtain ⟨⟨d', h1, h2⟩, _⟩ := dst_of hb ho
      obtain rfl : d' = d := by rw [h1] at hd; exact Option.some.inj hd
      exact h2
    · rw [hb] at hd; cases hd
  have unlike : ∀ {i j : Nat} {o oj : Oper} {d d' : Tmp}, l[i]? = some o → l[j]? = some oj → j ≠ i → o.dst = some d → oj.dst = some d' → d' ≠ d := by
    have key : ∀ {i j : Nat} {o oj : Oper} {d d' : Tmp}, l[i]? = some o → l[j]? = some oj → j < i → o.dst = some d → oj.dst = some d' → d' ≠ d := by
      intro i j o oj d d' ho hoj hlt hd hd' he
      rcases dst ho with hb | hb
      · exact (dst_of hb ho).2 j oj hlt hoj (by rw [hd, hd', he])
      · rw [hb] at hd; cases hd
    intro i j o oj d d' ho hoj hn hd hd'
    rcases Nat.lt_or_gt_of_ne hn with hl | hl
    · exact key ho hoj hl hd hd'
    · exact fun e => key hoj ho hl hd' hd e.symm
  have laid : ∀ (k : Nat) b, p.bs[k]? = some b → st[k]? = some b.st ∧ rd[k]? = some b.rd ∧ ss[k]? = some b.s ∧ dr[k]? = some b.dr := fun k b hb => by
    have h1 : (st.zip (rd.zip (ss.zip dr)))[k]? = some (b.st, b.rd, b.s, b.dr) := by rw [← hbs, List.getElem?_map, hb]; rfl
    rw [List.getElem?_zip_eq_some, List.getElem?_zip_eq_some, List.getElem?_zip_eq_some] at h1
    exact ⟨h1.1, h1.2.1, h1.2.2.1, h1.2.2.2⟩
  have boxAt : ∀ (k : Nat), k < p.bs.length → ∃ b, p.bs[k]? = some b := fun k hk => ⟨_, List.getElem?_eq_getElem hk⟩
  have kst : ∀ (k : Nat) b, p.bs[k]? = some b → kn p.ks b.st = .store k ∧ b.st < l.length := fun k b hb => by
    have h1 := (laid k b hb).1
    have := List.all_eq_true.1 hok.2 k (List.mem_range.2 (List.getElem?_eq_some_iff.1 h1).1)
    rw [h1] at this
    simpa using this
  have free_of : ∀ {t : Tmp}, Loose.freeB l.toArray t = true → ∀ (i : Nat) (o : Oper), l[i]? = some o → o.dst ≠ some t := fun {t} ht i o ho e => by
    have := Array.all_eq_true_iff_forall_mem.1 ht o (by simpa using List.mem_of_getElem? ho)
    rw [e] at this
    simp at this
  refine Back.wp_region hm (fun i o ho e he hb => (each i o (by simpa using ho)).2.1 e he hb) (Inv p l a0 w0) ?_ ?_ ?_
  · exact ⟨rfl, rfl, fun _ _ => rfl, fun _ _ _ h => Bool.noConfusion h, fun _ _ _ _ h => Bool.noConfusion h, ⟨rfl, rfl, rfl, rfl, fun _ _ => rfl⟩, fun k b hb => by
      obtain ⟨X, h1, h2⟩ := hbox k b hb
      exact ⟨X, h1, h2, fun h => Bool.noConfusion h⟩⟩
  · rintro s i o a w ho hs hdep ⟨i1, i2, i3, i4, i5, ⟨i7, i8, i9, i10, i11⟩, i12⟩
    have ho' : l[i]? = some o := by simpa using ho
    have hil := (List.getElem?_eq_some_iff.1 ho').1
    obtain ⟨hg, hback, hone⟩ := each i o ho'
    refine ⟨hg, ?_⟩
    have hst := hsteps.at ho'
    rw [Nat.zero_add] at hst
    have c1 : ∀ (v : Value), (a.put o.dst v).tmps.size = a0.tmps.size := fun v => by cases h : o.dst <;> simpa [Act.put] using i1
    have c2 : ∀ (v : Value), (a.put o.dst v).defers = a0.defers := fun v => by cases h : o.dst <;> exact i2
    have other : ∀ (v : Value) (t : Tmp), o.dst ≠ some t → (a.put o.dst v).tmps.getD t undef = a.tmps.getD t undef := fun v t ht => by
      cases h : o.dst with
      | none => rfl
      | some d => exact Loose.put_other (fun e => ht (by rw [h, e]))
    have c3 : ∀ (v : Value) t, (∀ (i : Nat) (o : Oper), l[i]? = some o → o.dst ≠ some t) → (a.put o.dst v).tmps.getD t undef = a0.tmps.getD t undef := fun v t ht => (other v t (ht i o ho')).trans (i3 t ht)
    have c4 : ∀ (i' : Nat) o', l[i']? = some o' → (s i' || i' == i) = true → ∀ e ∈ o'.after, Region.binds .any e = true → (s e.on || e.on == i) = true := by
      intro i' o' h1 h2 e he hb
      rw [Bool.or_eq_true, beq_iff_eq] at h2
      rw [Bool.or_eq_true]
      rcases h2 with h2 | rfl
      · exact .inl (i4 i' o' h1 h2 e he hb)
      · obtain rfl : o = o' := by rw [ho'] at h1; exact Option.some.inj h1
        exact .inl (hdep e he hb)
    have c5 : ∀ (v : Value), v = p.vl i → ∀ (j : Nat) oj d, l[j]? = some oj → (s j || j == i) = true → oj.dst = some d → (a.put o.dst v).tmps.getD d undef = p.vl j := by
      intro v hv j oj d hoj hsj hd
      by_cases hji : j = i
      · subst hji
        obtain rfl : o = oj := by rw [ho'] at hoj; exact Option.some.inj hoj
        rw [hd, Loose.put_same (by rw [i1]; exact small ho' hd), hv]
      · rw [other v d (fun e => unlike ho' hoj hji e hd rfl)]
        exact i5 j oj d hoj (by simpa [hji] using hsj) hd
    have hfree : ∀ t, Loose.freeB l.toArray t = true → a.tmps.getD t undef = a0.tmps.getD t undef := fun t ht => i3 t (free_of ht)
    have hvals : ∀ j d, Step.postB l o j d = true → a.tmps.getD d undef = p.vl j := fun j d h => by
      unfold Step.postB at h
      rw [Bool.and_eq_true, beq_iff_eq] at h
      obtain ⟨q, hq, h3⟩ := Array.any_eq_true.1 h.1
      rw [Bool.and_eq_true, beq_iff_eq] at h3
      obtain ⟨oj, h4, h5⟩ := Option.bind_eq_some_iff.1 h.2
      exact i5 j oj d h4 (by rw [← h3.1]; exact hdep _ (Array.getElem_mem hq) h3.2) h5
    unfold Step at hst
    cases hk : kn p.ks i with
    | pre =>
      rw [hk] at hst
      refine Oper.wp_mono ?_ (hst a w i11 hfree hvals)
      rintro a' w' ⟨rfl, rfl⟩
      refine ⟨c1 _, c2 _, c3 _, c4, c5 _ rfl, ⟨i7, i8, i9, i10, i11⟩, fun k b hb => ?_⟩
      obtain ⟨X, h1, h2, h3⟩ := i12 k b hb
      refine ⟨X, h1, h2, fun h => h3 ?_⟩
      have : b.st ≠ i := fun e => by have := (kst k b hb).1; rw [e, hk] at this; cases this
      simpa [this] using h
    | asg =>
      rw [hk] at hst
      refine Oper.wp_mono ?_ (hst a w hfree hvals)
      rintro a' w' ⟨rfl, rfl⟩
      refine ⟨c1 _, c2 _, c3 _, c4, c5 _ rfl, ⟨i7, i8, i9, i10, i11⟩, fun k b hb => ?_⟩
      · obtain ⟨X, h1, h2, h3⟩ := i12 k b hb
        refine ⟨X, h1, h2, fun h => h3 ?_⟩
        have : b.st ≠ i := fun e => by have := (kst k b hb).1; rw [e, hk] at this; cases this
        simpa [this] using h
    | store k =>
      rw [hk] at hst
      unfold one at hone
      rw [hk] at hone
      simp only [Bool.and_eq_true, ho', Option.all_some, beq_iff_eq] at hone
      obtain ⟨⟨⟨hnone, hsk⟩, hrk⟩, hss⟩ := hone
      obtain ⟨b, hb⟩ := boxAt k (by rw [← hln.1]; exact (List.getElem?_eq_some_iff.1 hsk).1)
      obtain ⟨l1, l2, l3, l4⟩ := laid k b hb
      have hbst : b.st = i := by rw [l1] at hsk; exact Option.some.inj hsk
      rw [l2] at hrk
      rw [l3] at hss
      simp only [Option.any_some, Bool.and_eq_true, beq_iff_eq, decide_eq_true_eq] at hrk hss
      obtain ⟨⟨⟨hdp, hkr⟩, hrl⟩, hor⟩ := hrk
      have hol : l[b.rd]? = some l[b.rd] := List.getElem?_eq_getElem hrl
      rw [hol] at hor
      have hdr : (l[b.rd]).dst = some b.dr := by rw [l4] at hor; simpa using hor
      have hsr : s b.rd = true := by
        obtain ⟨e, he, h2, h3⟩ := dep_some hdp ho'
        rw [← h2]; exact hdep e he h3
      obtain ⟨X, h1, h2, h3⟩ := i12 k b hb
      obtain ⟨f1, f2, f3, f4, f5⟩ := Back.far b.b b.ys 0 w
      refine Oper.wp_mono ?_ (hst b hb a w (hfree _ hss) (i5 _ _ _ hol hsr hdr) ⟨X, h1, h2⟩)
      rintro a' w' ⟨rfl, rfl⟩
      refine ⟨i1, i2, i3, c4, fun j oj d hoj hsj hd => ?_, ⟨f1.trans i7, f2.trans i8, f3.trans i9, f4.trans i10, fun q hq => (f5 q (hq k b hb)).trans (i11 q hq)⟩, fun k' b' hb' => ?_⟩
      · have hji : j ≠ i := fun e => by
          subst e
          obtain rfl : o = oj := by rw [ho'] at hoj; exact Option.some.inj hoj
          rw [hnone] at hd; cases hd
        exact i5 j oj d hoj (by simpa [hji] using hsj) hd
      · by_cases e : k' = k
        · subst e
          obtain rfl : b = b' := by rw [hb] at hb'; exact Option.some.inj hb'
          exact ⟨_, Back.st h1 h2, by simp, fun _ => rfl⟩
        · obtain ⟨X', g1, g2, g3⟩ := i12 k' b' hb'
          refine ⟨X', (f5 _ (hne k' k b' b hb' hb e)).trans g1, g2, fun h => g3 ?_⟩
          have : b'.st ≠ i := fun e' => by
            have h4 := (kst k' b' hb').1
            rw [e', hk] at h4
            exact e (Knd.store.inj h4).symm
          simpa [this] using h
  · rintro s a w hall ⟨i1, i2, i3, i4, i5, ⟨i7, i8, i9, i10, i11⟩, i12⟩
    have hall' : ∀ i, i < l.length → s i = true := fun i hi => hall i (by simpa using hi)
    have ha : puts p.vl 0 l a0 = a := puts_of (fun i o d ho hd => by rw [Nat.zero_add]; exact i5 i o d ho (hall' i (List.getElem?_eq_some_iff.1 ho).1) hd) (fun o ho d hd => by
      obtain ⟨i, hi, rfl⟩ := List.getElem_of_mem ho
      rw [i1]; exact small (List.getElem?_eq_getElem hi) hd) i1.symm i2.symm (fun t ht => (i3 t (fun i o ho => ht o (List.mem_of_getElem? ho))).symm)
    rw [← ha]
    refine hend w i7 i8 i9 i10 i11 fun k b hb => ?_
    obtain ⟨X, h1, h2, h3⟩ := i12 k b hb
    rw [h1, h3 (hall' _ (kst k b hb).2)]
end Phs
end Go.Proofs.YtpllcnpmjnmcfaaDoor

/-
  A region that draws its order, of any kind: what each operation leaves in its slot is told by a fact on the value alone (F), what becomes of the world by a condition on what is done (J). Guards may stand. Condition: slots of their own (chk).
-/
set_option linter.unusedVariables false
set_option linter.unusedSimpArgs false
namespace Go.Proofs.YtpllcnpmjnmcfaaDoor
open Go.RowKit
namespace Slt
open Bxs
variable {P : Program} {Q : Exit → Act → World → Prop}
def dstO (l : List Oper) (n i : Nat) : Bool := (l[i]?).all fun o => match o.dst with
  | none => true
  | some d => decide (d < n) && (List.range i).all fun j => (l[j]?).all fun oj => oj.dst != some d
def chk (l : List Oper) (n : Nat) : Bool := (List.range l.length).all fun i => dstO l n i && depsAll l i (fun j => decide (j < i))
/-- operation i is met -/
def Step (F : Nat → Value → Prop) (J : (Nat → Bool) → World → Prop) (P : Program) (l : List Oper) (Q : Exit → Act → World → Prop) (a0 : Act) (i : Nat) (o : Oper) : Prop :=
  ∀ s a w, s i = false → (∀ j, dep l i j = true → s j = true) → (∀ t, Loose.freeB l.toArray t = true → a.tmps.getD t undef = a0.tmps.getD t undef) → (∀ j d, Phs.Step.postB l o j d = true → F j (a.tmps.getD d undef)) → J s w →
    (Region.wanted o (yielded l.toArray a.tmps) = true ∧ o.wp P a w (fun a' w' => ∃ v, a' = a.put o.dst v ∧ F i v ∧ J (fun j => s j || j == i) w') Q) ∨ (Region.wanted o (yielded l.toArray a.tmps) = false ∧ F i undef ∧ J (fun j => s j || j == i) w)
def Steps (F : Nat → Value → Prop) (J : (Nat → Bool) → World → Prop) (P : Program) (l : List Oper) (Q : Exit → Act → World → Prop) (a0 : Act) : Nat → List Oper → Prop
  | _, [] => True
  | k, o :: r => Step F J P l Q a0 k o ∧ Steps F J P l Q a0 (k + 1) r
theorem Steps.at {F : Nat → Value → Prop} {J : (Nat → Bool) → World → Prop} {l : List Oper} {a0 : Act} : ∀ {r : List Oper} {k i : Nat} {o : Oper}, Steps F J P l Q a0 k r → r[i]? = some o → Step F J P l Q a0 (k + i) o
  | [], _, _, _, _, h => by simp at h
  | x :: r, k, 0, o, hs, h => by
    simp only [List.getElem?_cons_zero, Option.some.injEq] at h
    subst h
    exact hs.1
  | x :: r, k, i + 1, o, hs, h => by
    have := Steps.at hs.2 (show r[i]? = some o by simpa using h)
    rwa [Nat.add_assoc, Nat.add_comm 1 i] at this
theorem wp_region {id : Nat} {l : List Oper} {a0 : Act} {w0 : World} (hm : P.follows .mixedOrders = true) (F : Nat → Value → Prop) (J : (Nat → Bool) → World → Prop) (hok : chk l a0.tmps.size = true) (h0 : J (fun _ => false) w0.drew) (hsteps : Steps F J P l Q a0 0 l)
    (hend : ∀ (s : Nat → Bool) (V : Nat → Value) w, (∀ i, i < l.length → s i = true) → (∀ (i : Nat) o d, l[i]? = some o → o.dst = some d → F i (V i)) → J s w → Q .normal (puts V 0 l a0) w) :
    (Code.region id l.toArray true).wp P Q a0 w0 := by
  have each : ∀ (i : Nat) o, l[i]? = some o → (∀ e ∈ o.after, Region.binds .any e = true → e.on < i) ∧ ∀ d, o.dst = some d → d < a0.tmps.size ∧ ∀ (j : Nat) oj, j < i → l[j]? = some oj → oj.dst ≠ some d := fun i o ho => by
    have := List.all_eq_true.1 hok i (List.mem_range.2 (List.getElem?_eq_some_iff.1 ho).1)
    rw [Bool.and_eq_true] at this
    refine ⟨fun e he hb => by simpa using deps_of this.2 ho e he hb, fun d hd => ?_⟩
    have h1 := this.1
    unfold dstO at h1
    rw [ho] at h1
    simp only [Option.all_some, hd, Bool.and_eq_true, decide_eq_true_eq] at h1
    refine ⟨h1.1, fun j oj hj hoj => ?_⟩
    have h2 := List.all_eq_true.1 h1.2 j (List.mem_range.2 hj)
    rw [hoj] at h2
    simpa using h2
  have unlike : ∀ {i j : Nat} {o oj : Oper} {d : Tmp}, l[i]? = some o → l[j]? = some oj → j ≠ i → o.dst = some d → oj.dst ≠ some d := by
    intro i j o oj d ho hoj hne hd hd'
    rcases Nat.lt_or_gt_of_ne hne with hl | hl
    · exact ((each i o ho).2 d hd).2 j oj hl hoj hd'
    · exact ((each j oj hoj).2 d hd').2 i o hl ho hd
  have free_of : ∀ {t : Tmp}, Loose.freeB l.toArray t = true → ∀ (i : Nat) (o : Oper), l[i]? = some o → o.dst ≠ some t := fun {t} ht i o ho e => by
    have := Array.all_eq_true_iff_forall_mem.1 ht o (by simpa using List.mem_of_getElem? ho)
    rw [e] at this
    simp at this
  refine Back.wp_region_g hm (fun i o ho e he hb => (each i o (by simpa using ho)).1 e he hb) (fun s a w => a.tmps.size = a0.tmps.size ∧ a.defers = a0.defers ∧ (∀ t, (∀ (i : Nat) (o : Oper), l[i]? = some o → o.dst ≠ some t) → a.tmps.getD t undef = a0.tmps.getD t undef) ∧
    (∀ (i : Nat) o d, l[i]? = some o → s i = true → o.dst = some d → F i (a.tmps.getD d undef)) ∧ J s w) ⟨rfl, rfl, fun _ _ => rfl, fun _ _ _ _ h => Bool.noConfusion h, h0⟩ ?_ ?_
  · rintro s i o a w ho hs hdep ⟨i1, i2, i3, i4, i5⟩
    have ho' : l[i]? = some o := by simpa using ho
    have hst := hsteps.at ho'
    rw [Nat.zero_add] at hst
    have other : ∀ (v : Value) (t : Tmp), o.dst ≠ some t → (a.put o.dst v).tmps.getD t undef = a.tmps.getD t undef := fun v t ht => by
      cases h : o.dst with
      | none => rfl
      | some d => exact Loose.put_other (fun e => ht (by rw [h, e]))
    have next : ∀ (v : Value) w', F i v → J (fun j => s j || j == i) w' → (a.put o.dst v).tmps.size = a0.tmps.size ∧ (a.put o.dst v).defers = a0.defers ∧ (∀ t, (∀ (i : Nat) (o : Oper), l[i]? = some o → o.dst ≠ some t) → (a.put o.dst v).tmps.getD t undef = a0.tmps.getD t undef) ∧
        (∀ (j : Nat) oj d, l[j]? = some oj → (s j || j == i) = true → oj.dst = some d → F j ((a.put o.dst v).tmps.getD d undef)) ∧ J (fun j => s j || j == i) w' := by
      intro v w' hv hJ
      refine ⟨by cases h : o.dst <;> simpa [Act.put] using i1, by cases h : o.dst <;> exact i2, fun t ht => (other v t (ht i o ho')).trans (i3 t ht), fun j oj d hoj hsj hd => ?_, hJ⟩
      by_cases hji : j = i
      · subst hji
        obtain rfl : o = oj := by rw [ho'] at hoj; exact Option.some.inj hoj
        rw [hd, Loose.put_same (by rw [i1]; exact ((each j o ho').2 d hd).1)]
        exact hv
      · rw [other v d (fun e => unlike ho' hoj hji e hd)]
        exact i4 j oj d hoj (by simpa [hji] using hsj) hd
    rcases hst s a w hs (fun j hj => by obtain ⟨e, he, h1, h2⟩ := dep_some hj ho'; rw [← h1]; exact hdep e he h2) (fun t ht => i3 t (free_of ht)) (fun j d h => by
        unfold Phs.Step.postB at h
        rw [Bool.and_eq_true, beq_iff_eq] at h
        obtain ⟨q, hq, h3⟩ := Array.any_eq_true.1 h.1
        rw [Bool.and_eq_true, beq_iff_eq] at h3
        obtain ⟨oj, h4, h5⟩ := Option.bind_eq_some_iff.1 h.2
        exact i4 j oj d h4 (by rw [← h3.1]; exact hdep _ (Array.getElem_mem hq) h3.2) h5) i5 with ⟨hw, hwp⟩ | ⟨hw, hu, hJ⟩
    · refine .inl ⟨hw, Oper.wp_mono ?_ hwp⟩
      rintro a' w' ⟨v, rfl, hv, hJ⟩
      exact next v w' hv hJ
    · exact .inr ⟨hw, next _ _ hu hJ⟩
  · rintro s a w hall ⟨i1, i2, i3, i4, i5⟩
    have hall' : ∀ i, i < l.length → s i = true := fun i hi => hall i (by simpa using hi)
    obtain ⟨V, hV⟩ : ∃ V : Nat → Value, V = fun i => ((l[i]?).bind (·.dst)).elim undef (fun d => a.tmps.getD d undef) := ⟨_, rfl⟩
    have hVd : ∀ (i : Nat) o d, l[i]? = some o → o.dst = some d → a.tmps.getD d undef = V i := fun i o d ho hd => by rw [hV]; simp [ho, hd]
    have ha : puts V 0 l a0 = a := puts_of (fun i o d ho hd => by rw [Nat.zero_add]; exact hVd i o d ho hd) (fun o ho d hd => by
      obtain ⟨i, hi, rfl⟩ := List.getElem_of_mem ho
      rw [i1]; exact ((each i _ (List.getElem?_eq_getElem hi)).2 d hd).1) i1.symm i2.symm (fun t ht => (i3 t (fun i o ho => ht o (List.mem_of_getElem? ho))).symm)
    rw [← ha]
    exact hend s V w hall' (fun i o d ho hd => by rw [← hVd i o d ho hd]; exact i4 i o d ho (hall' i (List.getElem?_eq_some_iff.1 ho).1) hd) i5
end Slt
end Go.Proofs.YtpllcnpmjnmcfaaDoor

/-
  A region that draws its order, of any kind: what is true of what is done, of the values that stand in the slots and of the world is one condition (J). Guards may stand. Condition: slots of their own (chk).
-/
set_option linter.unusedVariables false
set_option linter.unusedSimpArgs false
namespace Go.Proofs.YtpllcnpmjnmcfaaDoor
open Go.RowKit
namespace Vls
open Bxs
variable {P : Program} {Q : Exit → Act → World → Prop}

/-- operation i is met -/
def Step (J : (Nat → Bool) → (Nat → Value) → World → Prop) (P : Program) (l : List Oper) (Q : Exit → Act → World → Prop) (a0 : Act) (i : Nat) (o : Oper) : Prop :=
  ∀ s a w V, s i = false → (∀ j, dep l i j = true → s j = true) → (∀ t, Loose.freeB l.toArray t = true → a.tmps.getD t undef = a0.tmps.getD t undef) → (∀ j d, Phs.Step.postB l o j d = true → a.tmps.getD d undef = V j) → J s V w →
    (Region.wanted o (yielded l.toArray a.tmps) = true ∧ o.wp P a w (fun a' w' => ∃ v, a' = a.put o.dst v ∧ J (fun j => s j || j == i) (fun j => if j = i then v else V j) w') Q) ∨ (Region.wanted o (yielded l.toArray a.tmps) = false ∧ J (fun j => s j || j == i) (fun j => if j = i then undef else V j) w)
def Steps (J : (Nat → Bool) → (Nat → Value) → World → Prop) (P : Program) (l : List Oper) (Q : Exit → Act → World → Prop) (a0 : Act) : Nat → List Oper → Prop
  | _, [] => True
  | k, o :: r => Step J P l Q a0 k o ∧ Steps J P l Q a0 (k + 1) r
theorem Steps.at {J : (Nat → Bool) → (Nat → Value) → World → Prop} {l : List Oper} {a0 : Act} : ∀ {r : List Oper} {k i : Nat} {o : Oper}, Steps J P l Q a0 k r → r[i]? = some o → Step J P l Q a0 (k + i) o
  | [], _, _, _, _, h => by simp at h
  | x :: r, k, 0, o, hs, h => by
    simp only [List.getElem?_cons_zero, Option.some.injEq] at h
    subst h
    exact hs.1
  | x :: r, k, i + 1, o, hs, h => by
    have := Steps.at hs.2 (show r[i]? = some o by simpa using h)
    rwa [Nat.add_assoc, Nat.add_comm 1 i] at this
theorem wp_region {id : Nat} {l : List Oper} {a0 : Act} {w0 : World} (hm : P.follows .mixedOrders = true) (J : (Nat → Bool) → (Nat → Value) → World → Prop) (hok : Slt.chk l a0.tmps.size = true) (V0 : Nat → Value) (h0 : J (fun _ => false) V0 w0.drew) (hsteps : Steps J P l Q a0 0 l)
    (hend : ∀ (s : Nat → Bool) (V : Nat → Value) w, (∀ i, i < l.length → s i = true) → J s V w → Q .normal (puts V 0 l a0) w) :
    (Code.region id l.toArray true).wp P Q a0 w0 := by
  have each : ∀ (i : Nat) o, l[i]? = some o → (∀ e ∈ o.after, Region.binds .any e = true → e.on < i) ∧ ∀ d, o.dst = some d → d < a0.tmps.size ∧ ∀ (j : Nat) oj, j < i → l[j]? = some oj → oj.dst ≠ some d := fun i o ho => by
    have := List.all_eq_true.1 hok i (List.mem_range.2 (List.getElem?_eq_some_iff.1 ho).1)
    rw [Bool.and_eq_true] at this
    refine ⟨fun e he hb => by simpa using deps_of this.2 ho e he hb, fun d hd => ?_⟩
    have h1 := this.1
    unfold Slt.dstO at h1
    rw [ho] at h1
    simp only [Option.all_some, hd, Bool.and_eq_true, decide_eq_true_eq] at h1
    refine ⟨h1.1, fun j oj hj hoj => ?_⟩
    have h2 := List.all_eq_true.1 h1.2 j (List.mem_range.2 hj)
    rw [hoj] at h2
    simpa using h2
  have unlike : ∀ {i j : Nat} {o oj : Oper} {d : Tmp}, l[i]? = some o → l[j]? = some oj → j ≠ i → o.dst = some d → oj.dst ≠ some d := by
    intro i j o oj d ho hoj hne hd hd'
    rcases Nat.lt_or_gt_of_ne hne with hl | hl
    · exact ((each i o ho).2 d hd).2 j oj hl hoj hd'
    · exact ((each j oj hoj).2 d hd').2 i o hl ho hd
  have free_of : ∀ {t : Tmp}, Loose.freeB l.toArray t = true → ∀ (i : Nat) (o : Oper), l[i]? = some o → o.dst ≠ some t := fun {t} ht i o ho e => by
    have := Array.all_eq_true_iff_forall_mem.1 ht o (by simpa using List.mem_of_getElem? ho)
    rw [e] at this
    simp at this
  refine Back.wp_region_g hm (fun i o ho e he hb => (each i o (by simpa using ho)).1 e he hb) (fun s a w => a.tmps.size = a0.tmps.size ∧ a.defers = a0.defers ∧ (∀ t, (∀ (i : Nat) (o : Oper), l[i]? = some o → o.dst ≠ some t) → a.tmps.getD t undef = a0.tmps.getD t undef) ∧
    ∃ V : Nat → Value, (∀ (i : Nat) o d, l[i]? = some o → s i = true → o.dst = some d → a.tmps.getD d undef = V i) ∧ J s V w) ⟨rfl, rfl, fun _ _ => rfl, V0, fun _ _ _ _ h => Bool.noConfusion h, h0⟩ ?_ ?_
  · rintro s i o a w ho hs hdep ⟨i1, i2, i3, V, i4, i5⟩
    have ho' : l[i]? = some o := by simpa using ho
    have hst := hsteps.at ho'
    rw [Nat.zero_add] at hst
    have other : ∀ (v : Value) (t : Tmp), o.dst ≠ some t → (a.put o.dst v).tmps.getD t undef = a.tmps.getD t undef := fun v t ht => by
      cases h : o.dst with
      | none => rfl
      | some d => exact Loose.put_other (fun e => ht (by rw [h, e]))
    have next : ∀ (v : Value) w', J (fun j => s j || j == i) (fun j => if j = i then v else V j) w' → (a.put o.dst v).tmps.size = a0.tmps.size ∧ (a.put o.dst v).defers = a0.defers ∧ (∀ t, (∀ (i : Nat) (o : Oper), l[i]? = some o → o.dst ≠ some t) → (a.put o.dst v).tmps.getD t undef = a0.tmps.getD t undef) ∧
        ∃ V : Nat → Value, (∀ (j : Nat) oj d, l[j]? = some oj → (s j || j == i) = true → oj.dst = some d → (a.put o.dst v).tmps.getD d undef = V j) ∧ J (fun j => s j || j == i) V w' := by
      intro v w' hJ
      refine ⟨by cases h : o.dst <;> simpa [Act.put] using i1, by cases h : o.dst <;> exact i2, fun t ht => (other v t (ht i o ho')).trans (i3 t ht), _, fun j oj d hoj hsj hd => ?_, hJ⟩
      by_cases hji : j = i
      · subst hji
        obtain rfl : o = oj := by rw [ho'] at hoj; exact Option.some.inj hoj
        rw [hd, Loose.put_same (by rw [i1]; exact ((each j o ho').2 d hd).1), if_pos rfl]
      · rw [other v d (fun e => unlike ho' hoj hji e hd), if_neg hji]
        exact i4 j oj d hoj (by simpa [hji] using hsj) hd
    rcases hst s a w V hs (fun j hj => by obtain ⟨e, he, h1, h2⟩ := dep_some hj ho'; rw [← h1]; exact hdep e he h2) (fun t ht => i3 t (free_of ht)) (fun j d h => by
        unfold Phs.Step.postB at h
        rw [Bool.and_eq_true, beq_iff_eq] at h
        obtain ⟨q, hq, h3⟩ := Array.any_eq_true.1 h.1
        rw [Bool.and_eq_true, beq_iff_eq] at h3
        obtain ⟨oj, h4, h5⟩ := Option.bind_eq_some_iff.1 h.2
        exact i4 j oj d h4 (by rw [← h3.1]; exact hdep _ (Array.getElem_mem hq) h3.2) h5) i5 with ⟨hw, hwp⟩ | ⟨hw, hJ⟩
    · refine .inl ⟨hw, Oper.wp_mono ?_ hwp⟩
      rintro a' w' ⟨v, rfl, hJ⟩
      exact next v w' hJ
    · exact .inr ⟨hw, next _ _ hJ⟩
  · rintro s a w hall ⟨i1, i2, i3, V, i4, i5⟩
    have hall' : ∀ i, i < l.length → s i = true := fun i hi => hall i (by simpa using hi)
    have ha : puts V 0 l a0 = a := puts_of (fun i o d ho hd => by rw [Nat.zero_add]; exact i4 i o d ho (hall' i (List.getElem?_eq_some_iff.1 ho).1) hd) (fun o ho d hd => by
      obtain ⟨i, hi, rfl⟩ := List.getElem_of_mem ho
      rw [i1]; exact ((each i _ (List.getElem?_eq_getElem hi)).2 d hd).1) i1.symm i2.symm (fun t ht => (i3 t (fun i o ho => ht o (List.mem_of_getElem? ho))).symm)
    rw [← ha]
    exact hend s V w hall' i5
end Vls
end Go.Proofs.YtpllcnpmjnmcfaaDoor

/-
  'first, second := apart(a), apart(b)', in whatever order: what is true on the way (J2). No condition.
-/
set_option linter.unusedVariables false
set_option linter.unusedSimpArgs false
namespace Go.Proofs.YtpllcnpmjnmcfaaDoor
open Go.ChangeShapes Go.WideShapes Go.ChangeAt Go.RowKit Go.Lib
open NumMath
namespace Re
theorem lt_of_at {w : World} {g : Nat} {o : Obj} (h : w.heap[g]? = some o) : g < w.heap.size := by
  rcases Nat.lt_or_ge g w.heap.size with hl | hl
  · exact hl
  · rw [Array.getElem?_eq_none hl] at h; cases h
def BoxAt (v u : World) (x : Value) (f : Bool) (a : List Value) : Prop := ∃ q X, x = .pointer (some ⟨q, 0, none⟩) ∧ v.heap.size ≤ q ∧ u.heap[q]? = some (.cells X 56 (0, 0)) ∧ X.size = 3 ∧ (f = true → X = a.toArray)
theorem BoxAt.grow {v u u' : World} {x : Value} {f : Bool} {a : List Value} (h : BoxAt v u x f a) (hb : Below u.heap.size u u') : BoxAt v u' x f a := by
  obtain ⟨q, X, h1, h2, h3, h4⟩ := h
  exact ⟨q, X, h1, h2, (hb.block q (lt_of_at h3)).trans h3, h4⟩
structure J2 (v : World) (a b : List Value) (s : Nat → Bool) (V : Nat → Value) (u : World) : Prop where
  bel : Below v.heap.size v u
  pre : ∀ j, j < 4 → s j = true → V j = if j < 2 then .agg a.toArray else .agg b.toArray
  b4 : s 4 = true → BoxAt v u (V 4) (s 6) a
  b5 : s 5 = true → BoxAt v u (V 5) (s 7) b
  ne : s 4 = true → s 5 = true → V 4 ≠ V 5
  o6 : s 6 = true → s 4 = true
  o7 : s 7 = true → s 5 = true
variable {v u : World} {a b : List Value} {s : Nat → Bool} {V : Nat → Value}
theorem J2.start (v : World) (a b : List Value) (V : Nat → Value) : J2 v a b (fun _ => false) V v.drew :=
  ⟨Below.drew (Below.refl _ _), fun _ _ h => Bool.noConfusion h, fun h => Bool.noConfusion h, fun h => Bool.noConfusion h, fun h => Bool.noConfusion h, fun h => Bool.noConfusion h, fun h => Bool.noConfusion h⟩
theorem J2.get (h : J2 v a b s V u) (j : Nat) (hj : j < 4) (hs : s j = true) {x : Value} (hx : (if j < 2 then .agg a.toArray else .agg b.toArray) = x) : V j = x := (h.pre j hj hs).trans hx
theorem J2.step (h : J2 v a b s V u) (i : Nat) (hi : i < 4) {u' : World} (hb : Below u.heap.size u u') {x : Value} (hx : x = if i < 2 then .agg a.toArray else .agg b.toArray) : J2 v a b (fun j => s j || j == i) (fun j => if j = i then x else V j) u' := by
  have e : ∀ k, 4 ≤ k → (k == i) = false := fun k hk => by simp; omega
  have f : ∀ k, 4 ≤ k → ¬ k = i := fun k hk => by omega
  refine ⟨h.bel.trans (hb.mono h.bel.size), fun j hj hs => ?_, ?_, ?_, ?_, ?_, ?_⟩
  · by_cases hji : j = i
    · subst hji; rw [if_pos rfl]; exact hx
    · rw [if_neg hji]; exact h.pre j hj (by simpa [hji] using hs)
  all_goals simp only [e 4 (by decide), e 5 (by decide), e 6 (by decide), e 7 (by decide), if_neg (f 4 (by decide)), if_neg (f 5 (by decide)), Bool.or_false]
  · exact fun hs => (h.b4 hs).grow hb
  · exact fun hs => (h.b5 hs).grow hb
  · exact h.ne
  · exact h.o6
  · exact h.o7
theorem ptr_ne {p q : Nat} (h : p ≠ q) : (Value.pointer (some ⟨p, 0, none⟩)) ≠ .pointer (some ⟨q, 0, none⟩) := fun e => by
  injection e with e; injection e with e; injection e with e; exact h e
theorem J2.al4 (h : J2 v a b s V u) (hs : s 4 = false) (Z : Array Value) (hZ : Z.size = 3) : J2 v a b (fun j => s j || j == 4) (fun j => if j = 4 then .pointer (some ⟨u.heap.size, 0, none⟩) else V j) (u.alloc (.cells Z 56 (0, 0))) := by
  have hb : Below u.heap.size u (u.alloc (.cells Z 56 (0, 0))) := (Below.refl _ _).alloc (Nat.le_refl _) _
  have h6 : s 6 = false := by
    cases h6 : s 6 with
    | false => rfl
    | true => rw [h.o6 h6] at hs; cases hs
  refine ⟨h.bel.trans (hb.mono h.bel.size), fun j hj hs => ?_, ?_, ?_, ?_, ?_, ?_⟩
  · have : ¬ j = 4 := by omega
    rw [if_neg this]; exact h.pre j hj (by simpa [this] using hs)
  all_goals simp only [show ((4 : Nat) == 4) = true from rfl, show ((5 : Nat) == 4) = false from rfl, show ((6 : Nat) == 4) = false from rfl, show ((7 : Nat) == 4) = false from rfl, Bool.or_false, Bool.or_true, if_pos, if_neg (show ¬ (5 : Nat) = 4 by decide)]
  · exact fun _ => ⟨u.heap.size, Z, rfl, h.bel.size, heap_alloc_new u _, hZ, fun h => by rw [h6] at h; cases h⟩
  · exact fun hs => (h.b5 hs).grow hb
  · intro _ h5
    obtain ⟨q, X, h1, h2, h3, h4⟩ := h.b5 h5
    rw [h1]
    exact ptr_ne (by have := lt_of_at h3; omega)
  · exact fun h => by simp
  · exact h.o7
theorem J2.al5 (h : J2 v a b s V u) (hs : s 5 = false) (Z : Array Value) (hZ : Z.size = 3) : J2 v a b (fun j => s j || j == 5) (fun j => if j = 5 then .pointer (some ⟨u.heap.size, 0, none⟩) else V j) (u.alloc (.cells Z 56 (0, 0))) := by
  have hb : Below u.heap.size u (u.alloc (.cells Z 56 (0, 0))) := (Below.refl _ _).alloc (Nat.le_refl _) _
  have h7 : s 7 = false := by
    cases h7 : s 7 with
    | false => rfl
    | true => rw [h.o7 h7] at hs; cases hs
  refine ⟨h.bel.trans (hb.mono h.bel.size), fun j hj hs => ?_, ?_, ?_, ?_, ?_, ?_⟩
  · have : ¬ j = 5 := by omega
    rw [if_neg this]; exact h.pre j hj (by simpa [this] using hs)
  all_goals simp only [show ((4 : Nat) == 5) = false from rfl, show ((5 : Nat) == 5) = true from rfl, show ((6 : Nat) == 5) = false from rfl, show ((7 : Nat) == 5) = false from rfl, Bool.or_false, Bool.or_true, if_pos, if_neg (show ¬ (4 : Nat) = 5 by decide)]
  · exact fun hs => (h.b4 hs).grow hb
  · exact fun _ => ⟨u.heap.size, Z, rfl, h.bel.size, heap_alloc_new u _, hZ, fun h => by rw [h7] at h; cases h⟩
  · intro h4 _
    obtain ⟨q, X, h1, h2, h3, h4⟩ := h.b4 h4
    rw [h1]
    exact ptr_ne (by have := lt_of_at h3; omega)
  · exact h.o6
  · exact fun h => by simp
theorem BoxAt.set {x y : Value} {f : Bool} {c d : List Value} {q : Nat} (h : BoxAt v u x f c) (hne : x ≠ y) (hy : y = .pointer (some ⟨q, 0, none⟩)) : BoxAt v (u.setCells q 0 d) x f c := by
  obtain ⟨p, X, h1, h2, h3, h4⟩ := h
  obtain ⟨_, _, _, _, f5⟩ := Back.far q d 0 u
  exact ⟨p, X, h1, h2, (f5 p (fun e => hne (by rw [h1, hy, e]))).trans h3, h4⟩
theorem bel_set {q : Nat} {d : List Value} (h : Below v.heap.size v u) (hq : v.heap.size ≤ q) : Below v.heap.size v (u.setCells q 0 d) := by
  obtain ⟨f1, f2, f3, f4, f5⟩ := Back.far q d 0 u
  exact ⟨f1.trans h.os, f2.trans h.tape, f3.trans h.output, by rw [f4]; exact h.size, fun k hk => (f5 k (by omega)).trans (h.block k hk)⟩
theorem J2.st6 (h : J2 v a b s V u) (ha : a.length = 3) (h4 : s 4 = true) {q : Nat} (hq : V 4 = .pointer (some ⟨q, 0, none⟩)) (x : Value) : J2 v a b (fun j => s j || j == 6) (fun j => if j = 6 then x else V j) (u.setCells q 0 a) := by
  obtain ⟨p, X, e1, e2, e3, e4, e5⟩ := h.b4 h4
  obtain rfl : p = q := by rw [hq] at e1; injection e1 with e1; injection e1 with e1; injection e1 with e1; exact e1.symm
  refine ⟨bel_set h.bel e2, fun j hj hs => ?_, ?_, ?_, ?_, ?_, ?_⟩
  · have : ¬ j = 6 := by omega
    rw [if_neg this]; exact h.pre j hj (by simpa [this] using hs)
  all_goals simp only [show ((4 : Nat) == 6) = false from rfl, show ((5 : Nat) == 6) = false from rfl, show ((6 : Nat) == 6) = true from rfl, show ((7 : Nat) == 6) = false from rfl, Bool.or_false, Bool.or_true, if_neg (show ¬ (4 : Nat) = 6 by decide), if_neg (show ¬ (5 : Nat) = 6 by decide)]
  · exact fun _ => ⟨p, a.toArray, hq, e2, Back.st e3 (by rw [e4, ha]), by simpa using ha, fun _ => rfl⟩
  · exact fun h5 => (h.b5 h5).set (Ne.symm (h.ne h4 h5)) hq
  · exact h.ne
  · exact fun _ => h4
  · exact h.o7
theorem J2.st7 (h : J2 v a b s V u) (hb : b.length = 3) (h5 : s 5 = true) {q : Nat} (hq : V 5 = .pointer (some ⟨q, 0, none⟩)) (x : Value) : J2 v a b (fun j => s j || j == 7) (fun j => if j = 7 then x else V j) (u.setCells q 0 b) := by
  obtain ⟨p, X, e1, e2, e3, e4, e5⟩ := h.b5 h5
  obtain rfl : p = q := by rw [hq] at e1; injection e1 with e1; injection e1 with e1; injection e1 with e1; exact e1.symm
  refine ⟨bel_set h.bel e2, fun j hj hs => ?_, ?_, ?_, ?_, ?_, ?_⟩
  · have : ¬ j = 7 := by omega
    rw [if_neg this]; exact h.pre j hj (by simpa [this] using hs)
  all_goals simp only [show ((4 : Nat) == 7) = false from rfl, show ((5 : Nat) == 7) = false from rfl, show ((6 : Nat) == 7) = false from rfl, show ((7 : Nat) == 7) = true from rfl, Bool.or_false, Bool.or_true, if_neg (show ¬ (4 : Nat) = 7 by decide), if_neg (show ¬ (5 : Nat) = 7 by decide)]
  · exact fun h4 => (h.b4 h4).set (h.ne h4 h5) hq
  · exact fun _ => ⟨p, b.toArray, hq, e2, Back.st e3 (by rw [e4, hb]), by simpa using hb, fun _ => rfl⟩
  · exact h.ne
  · exact h.o6
  · exact fun _ => h5
theorem J2.fin (h : J2 v a b s V u) (hall : ∀ i, i < 8 → s i = true) : ∃ p q, V 4 = .pointer (some ⟨p, 0, none⟩) ∧ V 5 = .pointer (some ⟨q, 0, none⟩) ∧ p ≠ q ∧ v.heap.size ≤ p ∧ v.heap.size ≤ q ∧ u.heap[p]? = some (.cells a.toArray 56 (0, 0)) ∧ u.heap[q]? = some (.cells b.toArray 56 (0, 0)) ∧ Below v.heap.size v u := by
  obtain ⟨p, X, e1, e2, e3, e4, e5⟩ := h.b4 (hall 4 (by decide))
  obtain ⟨q, Y, g1, g2, g3, g4, g5⟩ := h.b5 (hall 5 (by decide))
  refine ⟨p, q, e1, g1, fun e => h.ne (hall 4 (by decide)) (hall 5 (by decide)) (by rw [e1, g1, e]), e2, g2, by rw [e3, e5 (hall 6 (by decide))], by rw [g3, g5 (hall 7 (by decide))], h.bel⟩
theorem put_none (a : Act) (v : Value) : a.put none v = a := rfl
end Re
end Go.Proofs.YtpllcnpmjnmcfaaDoor
