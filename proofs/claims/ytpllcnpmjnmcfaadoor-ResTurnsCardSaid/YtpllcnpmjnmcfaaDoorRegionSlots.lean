/-
  A region that draws its order, of any kind: what each operation leaves in its slot is told by a fact on the value alone (F), what becomes of the world by a condition on what is done (J). Guards may stand. Condition: slots of their own (chk).
-/
import Derived.Test.YtpllcnpmjnmcfaaDoorRegionGuard
import Derived.Test.YtpllcnpmjnmcfaaDoorRegionPhase
set_option linter.unusedVariables false
set_option linter.unusedSimpArgs false
namespace Go.Proofs.YtpllcnpmjnmcfaaDoor
open Go.RowKit
namespace Slt
open Bxs
variable {P : Program} {Q : Exit → Act → World → Prop}
def dstO (l : List Oper) (n i : Nat) : Bool := (l[i]?).all fun o => match o.dst with
  | none => true
  | some d => decide (d < n) && (List.range i).all fun j => (l[j]?).all fun oj => oj.dst != some d
def chk (l : List Oper) (n : Nat) : Bool := (List.range l.length).all fun i => dstO l n i && depsAll l i (fun j => decide (j < i))
/-- operation i is met -/
def Step (F : Nat → Value → Prop) (J : (Nat → Bool) → World → Prop) (P : Program) (l : List Oper) (Q : Exit → Act → World → Prop) (a0 : Act) (i : Nat) (o : Oper) : Prop :=
  ∀ s a w, s i = false → (∀ j, dep l i j = true → s j = true) → (∀ t, Loose.freeB l.toArray t = true → a.tmps.getD t undef = a0.tmps.getD t undef) → (∀ j d, Phs.Step.postB l o j d = true → F j (a.tmps.getD d undef)) → J s w →
    (Region.wanted o (yielded l.toArray a.tmps) = true ∧ o.wp P a w (fun a' w' => ∃ v, a' = a.put o.dst v ∧ F i v ∧ J (fun j => s j || j == i) w') Q) ∨ (Region.wanted o (yielded l.toArray a.tmps) = false ∧ F i undef ∧ J (fun j => s j || j == i) w)
def Steps (F : Nat → Value → Prop) (J : (Nat → Bool) → World → Prop) (P : Program) (l : List Oper) (Q : Exit → Act → World → Prop) (a0 : Act) : Nat → List Oper → Prop
  | _, [] => True
  | k, o :: r => Step F J P l Q a0 k o ∧ Steps F J P l Q a0 (k + 1) r
theorem Steps.at {F : Nat → Value → Prop} {J : (Nat → Bool) → World → Prop} {l : List Oper} {a0 : Act} : ∀ {r : List Oper} {k i : Nat} {o : Oper}, Steps F J P l Q a0 k r → r[i]? = some o → Step F J P l Q a0 (k + i) o
  | [], _, _, _, _, h => by simp at h
  | x :: r, k, 0, o, hs, h => by
    simp only [List.getElem?_cons_zero, Option.some.injEq] at h
    subst h
    exact hs.1
  | x :: r, k, i + 1, o, hs, h => by
    have := Steps.at hs.2 (show r[i]? = some o by simpa using h)
    rwa [Nat.add_assoc, Nat.add_comm 1 i] at this
theorem wp_region {id : Nat} {l : List Oper} {a0 : Act} {w0 : World} (hm : P.follows .mixedOrders = true) (F : Nat → Value → Prop) (J : (Nat → Bool) → World → Prop) (hok : chk l a0.tmps.size = true) (h0 : J (fun _ => false) w0.drew) (hsteps : Steps F J P l Q a0 0 l)
    (hend : ∀ (s : Nat → Bool) (V : Nat → Value) w, (∀ i, i < l.length → s i = true) → (∀ (i : Nat) o d, l[i]? = some o → o.dst = some d → F i (V i)) → J s w → Q .normal (puts V 0 l a0) w) :
    (Code.region id l.toArray true).wp P Q a0 w0 := by
  have each : ∀ (i : Nat) o, l[i]? = some o → (∀ e ∈ o.after, Region.binds .any e = true → e.on < i) ∧ ∀ d, o.dst = some d → d < a0.tmps.size ∧ ∀ (j : Nat) oj, j < i → l[j]? = some oj → oj.dst ≠ some d := fun i o ho => by
    have := List.all_eq_true.1 hok i (List.mem_range.2 (List.getElem?_eq_some_iff.1 ho).1)
    rw [Bool.and_eq_true] at this
    refine ⟨fun e he hb => by simpa using deps_of this.2 ho e he hb, fun d hd => ?_⟩
    have h1 := this.1
    unfold dstO at h1
    rw [ho] at h1
    simp only [Option.all_some, hd, Bool.and_eq_true, decide_eq_true_eq] at h1
    refine ⟨h1.1, fun j oj hj hoj => ?_⟩
    have h2 := List.all_eq_true.1 h1.2 j (List.mem_range.2 hj)
    rw [hoj] at h2
    simpa using h2
  have unlike : ∀ {i j : Nat} {o oj : Oper} {d : Tmp}, l[i]? = some o → l[j]? = some oj → j ≠ i → o.dst = some d → oj.dst ≠ some d := by
    intro i j o oj d ho hoj hne hd hd'
    rcases Nat.lt_or_gt_of_ne hne with hl | hl
    · exact ((each i o ho).2 d hd).2 j oj hl hoj hd'
    · exact ((each j oj hoj).2 d hd').2 i o hl ho hd
  have free_of : ∀ {t : Tmp}, Loose.freeB l.toArray t = true → ∀ (i : Nat) (o : Oper), l[i]? = some o → o.dst ≠ some t := fun {t} ht i o ho e => by
    have := Array.all_eq_true_iff_forall_mem.1 ht o (by simpa using List.mem_of_getElem? ho)
    rw [e] at this
    simp at this
  refine Back.wp_region_g hm (fun i o ho e he hb => (each i o (by simpa using ho)).1 e he hb) (fun s a w => a.tmps.size = a0.tmps.size ∧ a.defers = a0.defers ∧ (∀ t, (∀ (i : Nat) (o : Oper), l[i]? = some o → o.dst ≠ some t) → a.tmps.getD t undef = a0.tmps.getD t undef) ∧
    (∀ (i : Nat) o d, l[i]? = some o → s i = true → o.dst = some d → F i (a.tmps.getD d undef)) ∧ J s w) ⟨rfl, rfl, fun _ _ => rfl, fun _ _ _ _ h => Bool.noConfusion h, h0⟩ ?_ ?_
  · rintro s i o a w ho hs hdep ⟨i1, i2, i3, i4, i5⟩
    have ho' : l[i]? = some o := by simpa using ho
    have hst := hsteps.at ho'
    rw [Nat.zero_add] at hst
    have other : ∀ (v : Value) (t : Tmp), o.dst ≠ some t → (a.put o.dst v).tmps.getD t undef = a.tmps.getD t undef := fun v t ht => by
      cases h : o.dst with
      | none => rfl
      | some d => exact Loose.put_other (fun e => ht (by rw [h, e]))
    have next : ∀ (v : Value) w', F i v → J (fun j => s j || j == i) w' → (a.put o.dst v).tmps.size = a0.tmps.size ∧ (a.put o.dst v).defers = a0.defers ∧ (∀ t, (∀ (i : Nat) (o : Oper), l[i]? = some o → o.dst ≠ some t) → (a.put o.dst v).tmps.getD t undef = a0.tmps.getD t undef) ∧
        (∀ (j : Nat) oj d, l[j]? = some oj → (s j || j == i) = true → oj.dst = some d → F j ((a.put o.dst v).tmps.getD d undef)) ∧ J (fun j => s j || j == i) w' := by
      intro v w' hv hJ
      refine ⟨by cases h : o.dst <;> simpa [Act.put] using i1, by cases h : o.dst <;> exact i2, fun t ht => (other v t (ht i o ho')).trans (i3 t ht), fun j oj d hoj hsj hd => ?_, hJ⟩
      by_cases hji : j = i
      · subst hji
        obtain rfl : o = oj := by rw [ho'] at hoj; exact Option.some.inj hoj
        rw [hd, Loose.put_same (by rw [i1]; exact ((each j o ho').2 d hd).1)]
        exact hv
      · rw [other v d (fun e => unlike ho' hoj hji e hd)]
        exact i4 j oj d hoj (by simpa [hji] using hsj) hd
    rcases hst s a w hs (fun j hj => by obtain ⟨e, he, h1, h2⟩ := dep_some hj ho'; rw [← h1]; exact hdep e he h2) (fun t ht => i3 t (free_of ht)) (fun j d h => by
        unfold Phs.Step.postB at h
        rw [Bool.and_eq_true, beq_iff_eq] at h
        obtain ⟨q, hq, h3⟩ := Array.any_eq_true.1 h.1
        rw [Bool.and_eq_true, beq_iff_eq] at h3
        obtain ⟨oj, h4, h5⟩ := Option.bind_eq_some_iff.1 h.2
        exact i4 j oj d h4 (by rw [← h3.1]; exact hdep _ (Array.getElem_mem hq) h3.2) h5) i5 with ⟨hw, hwp⟩ | ⟨hw, hu, hJ⟩
    · refine .inl ⟨hw, Oper.wp_mono ?_ hwp⟩
      rintro a' w' ⟨v, rfl, hv, hJ⟩
      exact next v w' hv hJ
    · exact .inr ⟨hw, next _ _ hu hJ⟩
  · rintro s a w hall ⟨i1, i2, i3, i4, i5⟩
    have hall' : ∀ i, i < l.length → s i = true := fun i hi => hall i (by simpa using hi)
    obtain ⟨V, hV⟩ : ∃ V : Nat → Value, V = fun i => ((l[i]?).bind (·.dst)).elim undef (fun d => a.tmps.getD d undef) := ⟨_, rfl⟩
    have hVd : ∀ (i : Nat) o d, l[i]? = some o → o.dst = some d → a.tmps.getD d undef = V i := fun i o d ho hd => by rw [hV]; simp [ho, hd]
    have ha : puts V 0 l a0 = a := puts_of (fun i o d ho hd => by rw [Nat.zero_add]; exact hVd i o d ho hd) (fun o ho d hd => by
      obtain ⟨i, hi, rfl⟩ := List.getElem_of_mem ho
      rw [i1]; exact ((each i _ (List.getElem?_eq_getElem hi)).2 d hd).1) i1.symm i2.symm (fun t ht => (i3 t (fun i o ho => ht o (List.mem_of_getElem? ho))).symm)
    rw [← ha]
    exact hend s V w hall' (fun i o d ho hd => by rw [← hVd i o d ho hd]; exact i4 i o d ho (hall' i (List.getElem?_eq_some_iff.1 ho).1) hd) i5
end Slt
end Go.Proofs.YtpllcnpmjnmcfaaDoor
