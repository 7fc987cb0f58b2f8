/-
  A region that draws its order and may be guarded, by a condition on what is done already. No condition.
-/
import Derived.Test.YtbichomjpmmjmaaGreatDoorNu2
import Derived.Deep.MidRow
import Derived.Deep.QuietTactic
import Derived.BigQuiet
set_option linter.unusedVariables false
set_option linter.unusedSimpArgs false
namespace Go.Proofs.YtbichomjpmmjmaaGreatDoor
open Go.RowKit
namespace Back
variable {P : Program} {Q : Exit → Act → World → Prop}
theorem wp_region_g {id : Nat} {ops : Array Oper} {a0 : Act} {w0 : World} (hm : P.follows .mixedOrders = true) (hback : ∀ i o, ops[i]? = some o → ∀ e ∈ o.after, Region.binds .any e = true → e.on < i)
    (I : (Nat → Bool) → Act → World → Prop) (h0 : I (fun _ => false) a0 w0.drew)
    (hstep : ∀ (s : Nat → Bool) i o a w, ops[i]? = some o → s i = false → (∀ e ∈ o.after, Region.binds .any e = true → s e.on = true) → I s a w → (Region.wanted o (yielded ops a.tmps) = true ∧ o.wp P a w (fun a' w' => I (fun j => s j || j == i) a' w') Q) ∨ (Region.wanted o (yielded ops a.tmps) = false ∧ I (fun j => s j || j == i) (a.put o.dst undef) w))
    (hend : ∀ s a w, (∀ i, i < ops.size → s i = true) → I s a w → Q .normal a w) : (Code.region id ops true).wp P Q a0 w0 := by
  have main : ∀ (fuel : Nat) (listed : Array Bool) (s : Nat → Bool) (a : Act) (w : World), listed.size = ops.size → (∀ i, i < ops.size → listed.getD i true = s i ∧ listed.getD i false = s i) → ((List.range ops.size).filter fun j => !s j).length ≤ fuel → I s a w → wpAny P .any ops Q fuel listed a w := by
    intro fuel
    induction fuel with
    | zero =>
      intro listed s a w hz hl hf hi
      have hall : ∀ i, i < ops.size → s i = true := fun i h => by
        cases hs : s i with
        | true => rfl
        | false =>
          have : i ∈ (List.range ops.size).filter fun j => !s j := List.mem_filter.2 ⟨List.mem_range.2 h, by rw [hs]; rfl⟩
          rw [List.eq_nil_of_length_eq_zero (Nat.le_zero.1 hf)] at this
          cases this
      refine ⟨List.eq_nil_iff_forall_not_mem.2 fun i h => ?_, hend s a w hall hi⟩
      obtain ⟨h1, o, ho, _⟩ := mem_ready.1 h
      have hlt := (Array.getElem?_eq_some_iff.1 ho).1
      rw [(hl i hlt).1, hall i hlt] at h1
      cases h1
    | succ fuel ih =>
      intro listed s a w hz hl hf hi
      refine ⟨fun hr => hend s a w (fun i => ?_) hi, fun i h => ?_⟩
      · induction i using Nat.strongRecOn with
        | _ i hin =>
          intro hlt
          cases hs : s i with
          | true => rfl
          | false =>
            have : i ∈ Region.ready .any ops listed := mem_ready.2 ⟨by rw [(hl i hlt).1]; exact hs, _, Array.getElem?_eq_getElem hlt, fun e he hb => by
              have h1 := hback i _ (Array.getElem?_eq_getElem hlt) e he hb
              rw [(hl e.on (by omega)).2]
              exact hin e.on h1 (by omega)⟩
            rw [hr] at this
            cases this
      · obtain ⟨h1, o, ho, hd⟩ := mem_ready.1 h
        have hlt := (Array.getElem?_eq_some_iff.1 ho).1
        rw [(hl i hlt).1] at h1
        have hstep' := hstep s i o a w ho h1 (fun e he hb => by have h2 := hback i o ho e he hb; rw [← (hl e.on (by omega)).2]; exact hd e he hb) hi
        have next : ∀ a' w', I (fun j => s j || j == i) a' w' → wpAny P .any ops Q fuel (listed.setIfInBounds i true) a' w' := by
          intro a' w' hi'
          refine ih _ (fun j => s j || j == i) a' w' (by simpa using hz) (fun j hj => ?_) ?_ hi'
          · have h3 := hl j hj
            simp only [Array.getD_eq_getD_getElem?] at h3 ⊢
            by_cases e : i = j
            · subst e; simp [show i < listed.size by omega]
            · rw [Array.getElem?_setIfInBounds_ne e, h3.1, h3.2]
              simp [Ne.symm e]
          · have e : ((List.range ops.size).filter fun j => !(s j || j == i)) = ((List.range ops.size).filter fun j => !s j).filter fun j => !(j == i) := by
              rw [List.filter_filter]
              refine List.filter_congr fun j _ => ?_
              cases s j <;> simp
            have hm : i ∈ (List.range ops.size).filter fun j => !s j := List.mem_filter.2 ⟨List.mem_range.2 hlt, by rw [h1]; rfl⟩
            have : (((List.range ops.size).filter fun j => !s j).filter fun j => !(j == i)).length < ((List.range ops.size).filter fun j => !s j).length := by
              exact List.length_filter_lt_length_iff_exists.2 ⟨i, hm, by simp⟩
            rw [e]; omega
        unfold wpOp
        simp only [ho]
        rcases hstep' with ⟨hw, hwp⟩ | ⟨hw, hi'⟩
        · rw [if_pos hw]
          exact .inl (Oper.wp_mono (fun a' w' hi' => next a' w' hi') hwp)
        · rw [if_neg (by rw [hw]; simp)]
          exact next _ _ hi'
  exact wp_region_any hm (main _ _ (fun _ => false) a0 _ (by simp) (fun i h => by simp [Array.getD_eq_getD_getElem?, h]) (Nat.le_trans (List.length_filter_le _ _) (by simp)) h0)
end Back
end Go.Proofs.YtbichomjpmmjmaaGreatDoor

/-
  A region that draws its order and holds 'x, y := f(..)': reads and makers of memory that a writing call waits for, the call, what is taken out of its answer, boxes that may be made at any time, and stores of the answer's parts into them. Condition: no guard; each operation is of one of these kinds (chk).
-/
set_option linter.unusedVariables false
set_option linter.unusedSimpArgs false
namespace Go.Proofs.YtbichomjpmmjmaaGreatDoor
open Go.RowKit
namespace Bxs
variable {P : Program} {Q : Exit → Act → World → Prop}
def dep (l : List Oper) (i j : Nat) : Bool := (l[i]?).any fun o => o.after.any fun e => e.on == j && Region.binds .any e
def depsAll (l : List Oper) (i : Nat) (f : Nat → Bool) : Bool := (l[i]?).all fun o => o.after.all fun e => !Region.binds .any e || f e.on
theorem deps_of {l : List Oper} {i : Nat} {o : Oper} {f : Nat → Bool} (h : depsAll l i f = true) (ho : l[i]? = some o) : ∀ e ∈ o.after, Region.binds .any e = true → f e.on = true := fun e he hb => by
  unfold depsAll at h
  rw [ho] at h
  have := Array.all_eq_true_iff_forall_mem.1 (show o.after.all _ = true from h) e he
  rw [hb] at this
  simpa using this
theorem dep_some {l : List Oper} {i j : Nat} {o : Oper} (h : dep l i j = true) (ho : l[i]? = some o) : ∃ e ∈ o.after, e.on = j ∧ Region.binds .any e = true := by
  unfold dep at h
  rw [ho] at h
  obtain ⟨k, hk, h1⟩ := Array.any_eq_true.1 (show o.after.any _ = true from h)
  rw [Bool.and_eq_true, beq_iff_eq] at h1
  exact ⟨_, Array.getElem_mem hk, h1.1, h1.2⟩
variable {α : Type}
def puts (V : Nat → Value) : Nat → List Oper → Act → Act
  | _, [], a => a
  | k, o :: r, a => puts V (k + 1) r (a.put o.dst (V k))
theorem puts_of {V : Nat → Value} {a : Act} : ∀ {r : List Oper} {k : Nat} {b : Act}, (∀ i o d, r[i]? = some o → o.dst = some d → a.tmps.getD d undef = V (k + i)) → (∀ o ∈ r, ∀ d, o.dst = some d → d < a.tmps.size) → b.tmps.size = a.tmps.size → b.defers = a.defers →
    (∀ t, (∀ o ∈ r, o.dst ≠ some t) → b.tmps.getD t undef = a.tmps.getD t undef) → puts V k r b = a
  | [], k, b, _, _, hs, hd, ht => Loose.act_ext hs hd fun t => ht t (fun o ho => by cases ho)
  | o :: r, k, b, hV, hr, hs, hd, ht => by
    refine puts_of (r := r) (k := k + 1) (fun i o' d ho' hd' => ?_) (fun o' ho' => hr o' (by simp [ho'])) ?_ ?_ fun t hnt => ?_
    · have := hV (i + 1) o' d (by simpa using ho') hd'
      rwa [show k + (i + 1) = k + 1 + i from by omega] at this
    · cases h : o.dst with
      | none => exact hs
      | some d => simpa [Act.put] using hs
    · cases h : o.dst <;> exact hd
    · cases h : o.dst with
      | none => exact ht t (fun o' ho' => by rcases List.mem_cons.1 ho' with rfl | h1; (· rw [h]; simp); exact hnt o' h1)
      | some d =>
        by_cases e : d = t
        · subst e
          rw [Loose.put_same (by rw [hs]; exact hr o (by simp) d h)]
          exact (hV 0 o d rfl h).symm
        · rw [Loose.put_other e]
          exact ht t fun o' ho' => by
            rcases List.mem_cons.1 ho' with rfl | h1
            · rw [h]; exact fun h2 => e (Option.some.inj h2)
            · exact hnt o' h1
end Bxs
end Go.Proofs.YtbichomjpmmjmaaGreatDoor

/-
  A region that draws its order, of any kind: what each operation leaves in its slot is told by a fact on the value alone (F), what becomes of the world by a condition on what is done (J). Guards may stand. Condition: slots of their own (chk).
-/
set_option linter.unusedVariables false
set_option linter.unusedSimpArgs false
namespace Go.Proofs.YtbichomjpmmjmaaGreatDoor
open Go.RowKit
namespace Slt
open Bxs
def postB (l : List Oper) (o : Oper) (j d : Nat) : Bool := (o.after.any fun e => e.on == j && Region.binds .any e) && ((l[j]?).bind (·.dst) == some d)
variable {P : Program} {Q : Exit → Act → World → Prop}
def dstO (l : List Oper) (n i : Nat) : Bool := (l[i]?).all fun o => match o.dst with
  | none => true
  | some d => decide (d < n) && (List.range i).all fun j => (l[j]?).all fun oj => oj.dst != some d
def chk (l : List Oper) (n : Nat) : Bool := (List.range l.length).all fun i => dstO l n i && depsAll l i (fun j => decide (j < i))
/-- operation i is met -/
def Step (F : Nat → Value → Prop) (J : (Nat → Bool) → World → Prop) (P : Program) (l : List Oper) (Q : Exit → Act → World → Prop) (a0 : Act) (i : Nat) (o : Oper) : Prop :=
  ∀ s a w, s i = false → (∀ j, dep l i j = true → s j = true) → (∀ t, Loose.freeB l.toArray t = true → a.tmps.getD t undef = a0.tmps.getD t undef) → (∀ j d, postB l o j d = true → F j (a.tmps.getD d undef)) → J s w →
    (Region.wanted o (yielded l.toArray a.tmps) = true ∧ o.wp P a w (fun a' w' => ∃ v, a' = a.put o.dst v ∧ F i v ∧ J (fun j => s j || j == i) w') Q) ∨ (Region.wanted o (yielded l.toArray a.tmps) = false ∧ F i undef ∧ J (fun j => s j || j == i) w)
def Steps (F : Nat → Value → Prop) (J : (Nat → Bool) → World → Prop) (P : Program) (l : List Oper) (Q : Exit → Act → World → Prop) (a0 : Act) : Nat → List Oper → Prop
  | _, [] => True
  | k, o :: r => Step F J P l Q a0 k o ∧ Steps F J P l Q a0 (k + 1) r
theorem Steps.at {F : Nat → Value → Prop} {J : (Nat → Bool) → World → Prop} {l : List Oper} {a0 : Act} : ∀ {r : List Oper} {k i : Nat} {o : Oper}, Steps F J P l Q a0 k r → r[i]? = some o → Step F J P l Q a0 (k + i) o
  | [], _, _, _, _, h => by simp at h
  | x :: r, k, 0, o, hs, h => by
    simp only [List.getElem?_cons_zero, Option.some.injEq] at h
    subst h
    exact hs.1
  | x :: r, k, i + 1, o, hs, h => by
    have := Steps.at hs.2 (show r[i]? = some o by simpa using h)
    rwa [Nat.add_assoc, Nat.add_comm 1 i] at this
theorem wp_region {id : Nat} {l : List Oper} {a0 : Act} {w0 : World} (hm : P.follows .mixedOrders = true) (F : Nat → Value → Prop) (J : (Nat → Bool) → World → Prop) (hok : chk l a0.tmps.size = true) (h0 : J (fun _ => false) w0.drew) (hsteps : Steps F J P l Q a0 0 l)
    (hend : ∀ (s : Nat → Bool) (V : Nat → Value) w, (∀ i, i < l.length → s i = true) → (∀ (i : Nat) o d, l[i]? = some o → o.dst = some d → F i (V i)) → J s w → Q .normal (puts V 0 l a0) w) :
    (Code.region id l.toArray true).wp P Q a0 w0 := by
  have each : ∀ (i : Nat) o, l[i]? = some o → (∀ e ∈ o.after, Region.binds .any e = true → e.on < i) ∧ ∀ d, o.dst = some d → d < a0.tmps.size ∧ ∀ (j : Nat) oj, j < i → l[j]? = some oj → oj.dst ≠ some d := fun i o ho => by
    have := List.all_eq_true.1 hok i (List.mem_range.2 (List.getElem?_eq_some_iff.1 ho).1)
    rw [Bool.and_eq_true] at this
    refine ⟨fun e he hb => by simpa using deps_of this.2 ho e he hb, fun d hd => ?_⟩
    have h1 := this.1
    unfold dstO at h1
    rw [ho] at h1
    simp only [Option.all_some, hd, Bool.and_eq_true, decide_eq_true_eq] at h1
    refine ⟨h1.1, fun j oj hj hoj => ?_⟩
    have h2 := List.all_eq_true.1 h1.2 j (List.mem_range.2 hj)
    rw [hoj] at h2
    simpa using h2
  have unlike : ∀ {i j : Nat} {o oj : Oper} {d : Tmp}, l[i]? = some o → l[j]? = some oj → j ≠ i → o.dst = some d → oj.dst ≠ some d := by
    intro i j o oj d ho hoj hne hd hd'
    rcases Nat.lt_or_gt_of_ne hne with hl | hl
    · exact ((each i o ho).2 d hd).2 j oj hl hoj hd'
    · exact ((each j oj hoj).2 d hd').2 i o hl ho hd
  have free_of : ∀ {t : Tmp}, Loose.freeB l.toArray t = true → ∀ (i : Nat) (o : Oper), l[i]? = some o → o.dst ≠ some t := fun {t} ht i o ho e => by
    have := Array.all_eq_true_iff_forall_mem.1 ht o (by simpa using List.mem_of_getElem? ho)
    rw [e] at this
    simp at this
  refine Back.wp_region_g hm (fun i o ho e he hb => (each i o (by simpa using ho)).1 e he hb) (fun s a w => a.tmps.size = a0.tmps.size ∧ a.defers = a0.defers ∧ (∀ t, (∀ (i : Nat) (o : Oper), l[i]? = some o → o.dst ≠ some t) → a.tmps.getD t undef = a0.tmps.getD t undef) ∧
    (∀ (i : Nat) o d, l[i]? = some o → s i = true → o.dst = some d → F i (a.tmps.getD d undef)) ∧ J s w) ⟨rfl, rfl, fun _ _ => rfl, fun _ _ _ _ h => Bool.noConfusion h, h0⟩ ?_ ?_
  · rintro s i o a w ho hs hdep ⟨i1, i2, i3, i4, i5⟩
    have ho' : l[i]? = some o := by simpa using ho
    have hst := hsteps.at ho'
    rw [Nat.zero_add] at hst
    have other : ∀ (v : Value) (t : Tmp), o.dst ≠ some t → (a.put o.dst v).tmps.getD t undef = a.tmps.getD t undef := fun v t ht => by
      cases h : o.dst with
      | none => rfl
      | some d => exact Loose.put_other (fun e => ht (by rw [h, e]))
    have next : ∀ (v : Value) w', F i v → J (fun j => s j || j == i) w' → (a.put o.dst v).tmps.size = a0.tmps.size ∧ (a.put o.dst v).defers = a0.defers ∧ (∀ t, (∀ (i : Nat) (o : Oper), l[i]? = some o → o.dst ≠ some t) → (a.put o.dst v).tmps.getD t undef = a0.tmps.getD t undef) ∧
        (∀ (j : Nat) oj d, l[j]? = some oj → (s j || j == i) = true → oj.dst = some d → F j ((a.put o.dst v).tmps.getD d undef)) ∧ J (fun j => s j || j == i) w' := by
      intro v w' hv hJ
      refine ⟨by cases h : o.dst <;> simpa [Act.put] using i1, by cases h : o.dst <;> exact i2, fun t ht => (other v t (ht i o ho')).trans (i3 t ht), fun j oj d hoj hsj hd => ?_, hJ⟩
      by_cases hji : j = i
      · subst hji
        obtain rfl : o = oj := by rw [ho'] at hoj; exact Option.some.inj hoj
        rw [hd, Loose.put_same (by rw [i1]; exact ((each j o ho').2 d hd).1)]
        exact hv
      · rw [other v d (fun e => unlike ho' hoj hji e hd)]
        exact i4 j oj d hoj (by simpa [hji] using hsj) hd
    rcases hst s a w hs (fun j hj => by obtain ⟨e, he, h1, h2⟩ := dep_some hj ho'; rw [← h1]; exact hdep e he h2) (fun t ht => i3 t (free_of ht)) (fun j d h => by
        unfold postB at h
        rw [Bool.and_eq_true, beq_iff_eq] at h
        obtain ⟨q, hq, h3⟩ := Array.any_eq_true.1 h.1
        rw [Bool.and_eq_true, beq_iff_eq] at h3
        obtain ⟨oj, h4, h5⟩ := Option.bind_eq_some_iff.1 h.2
        exact i4 j oj d h4 (by rw [← h3.1]; exact hdep _ (Array.getElem_mem hq) h3.2) h5) i5 with ⟨hw, hwp⟩ | ⟨hw, hu, hJ⟩
    · refine .inl ⟨hw, Oper.wp_mono ?_ hwp⟩
      rintro a' w' ⟨v, rfl, hv, hJ⟩
      exact next v w' hv hJ
    · exact .inr ⟨hw, next _ _ hu hJ⟩
  · rintro s a w hall ⟨i1, i2, i3, i4, i5⟩
    have hall' : ∀ i, i < l.length → s i = true := fun i hi => hall i (by simpa using hi)
    obtain ⟨V, hV⟩ : ∃ V : Nat → Value, V = fun i => ((l[i]?).bind (·.dst)).elim undef (fun d => a.tmps.getD d undef) := ⟨_, rfl⟩
    have hVd : ∀ (i : Nat) o d, l[i]? = some o → o.dst = some d → a.tmps.getD d undef = V i := fun i o d ho hd => by rw [hV]; simp [ho, hd]
    have ha : puts V 0 l a0 = a := puts_of (fun i o d ho hd => by rw [Nat.zero_add]; exact hVd i o d ho hd) (fun o ho d hd => by
      obtain ⟨i, hi, rfl⟩ := List.getElem_of_mem ho
      rw [i1]; exact ((each i _ (List.getElem?_eq_getElem hi)).2 d hd).1) i1.symm i2.symm (fun t ht => (i3 t (fun i o ho => ht o (List.mem_of_getElem? ho))).symm)
    rw [← ha]
    exact hend s V w hall' (fun i o d ho hd => by rw [← hVd i o d ho hd]; exact i4 i o d ho (hall' i (List.getElem?_eq_some_iff.1 ho).1) hd) i5
end Slt
end Go.Proofs.YtbichomjpmmjmaaGreatDoor

/-
  A region that draws its order, of any kind: what is true of what is done, of the values that stand in the slots and of the world is one condition (J). Guards may stand. Condition: slots of their own (chk).
-/
set_option linter.unusedVariables false
set_option linter.unusedSimpArgs false
namespace Go.Proofs.YtbichomjpmmjmaaGreatDoor
open Go.RowKit
namespace Vls
open Bxs
variable {P : Program} {Q : Exit → Act → World → Prop}
/-- operation i is met -/
def Step (J : (Nat → Bool) → (Nat → Value) → World → Prop) (P : Program) (l : List Oper) (Q : Exit → Act → World → Prop) (a0 : Act) (i : Nat) (o : Oper) : Prop :=
  ∀ s a w V, s i = false → (∀ j, dep l i j = true → s j = true) → (∀ t, Loose.freeB l.toArray t = true → a.tmps.getD t undef = a0.tmps.getD t undef) → (∀ j d, Slt.postB l o j d = true → a.tmps.getD d undef = V j) → J s V w →
    (Region.wanted o (yielded l.toArray a.tmps) = true ∧ o.wp P a w (fun a' w' => ∃ v, a' = a.put o.dst v ∧ J (fun j => s j || j == i) (fun j => if j = i then v else V j) w') Q) ∨ (Region.wanted o (yielded l.toArray a.tmps) = false ∧ J (fun j => s j || j == i) (fun j => if j = i then undef else V j) w)
def Steps (J : (Nat → Bool) → (Nat → Value) → World → Prop) (P : Program) (l : List Oper) (Q : Exit → Act → World → Prop) (a0 : Act) : Nat → List Oper → Prop
  | _, [] => True
  | k, o :: r => Step J P l Q a0 k o ∧ Steps J P l Q a0 (k + 1) r
theorem Steps.at {J : (Nat → Bool) → (Nat → Value) → World → Prop} {l : List Oper} {a0 : Act} : ∀ {r : List Oper} {k i : Nat} {o : Oper}, Steps J P l Q a0 k r → r[i]? = some o → Step J P l Q a0 (k + i) o
  | [], _, _, _, _, h => by simp at h
  | x :: r, k, 0, o, hs, h => by
    simp only [List.getElem?_cons_zero, Option.some.injEq] at h
    subst h
    exact hs.1
  | x :: r, k, i + 1, o, hs, h => by
    have := Steps.at hs.2 (show r[i]? = some o by simpa using h)
    rwa [Nat.add_assoc, Nat.add_comm 1 i] at this
theorem wp_region {id : Nat} {l : List Oper} {a0 : Act} {w0 : World} (hm : P.follows .mixedOrders = true) (J : (Nat → Bool) → (Nat → Value) → World → Prop) (hok : Slt.chk l a0.tmps.size = true) (V0 : Nat → Value) (h0 : J (fun _ => false) V0 w0.drew) (hsteps : Steps J P l Q a0 0 l)
    (hend : ∀ (s : Nat → Bool) (V : Nat → Value) w, (∀ i, i < l.length → s i = true) → J s V w → Q .normal (puts V 0 l a0) w) :
    (Code.region id l.toArray true).wp P Q a0 w0 := by
  have each : ∀ (i : Nat) o, l[i]? = some o → (∀ e ∈ o.after, Region.binds .any e = true → e.on < i) ∧ ∀ d, o.dst = some d → d < a0.tmps.size ∧ ∀ (j : Nat) oj, j < i → l[j]? = some oj → oj.dst ≠ some d := fun i o ho => by
    have := List.all_eq_true.1 hok i (List.mem_range.2 (List.getElem?_eq_some_iff.1 ho).1)
    rw [Bool.and_eq_true] at this
    refine ⟨fun e he hb => by simpa using deps_of this.2 ho e he hb, fun d hd => ?_⟩
    have h1 := this.1
    unfold Slt.dstO at h1
    rw [ho] at h1
    simp only [Option.all_some, hd, Bool.and_eq_true, decide_eq_true_eq] at h1
    refine ⟨h1.1, fun j oj hj hoj => ?_⟩
    have h2 := List.all_eq_true.1 h1.2 j (List.mem_range.2 hj)
    rw [hoj] at h2
    simpa using h2
  have unlike : ∀ {i j : Nat} {o oj : Oper} {d : Tmp}, l[i]? = some o → l[j]? = some oj → j ≠ i → o.dst = some d → oj.dst ≠ some d := by
    intro i j o oj d ho hoj hne hd hd'
    rcases Nat.lt_or_gt_of_ne hne with hl | hl
    · exact ((each i o ho).2 d hd).2 j oj hl hoj hd'
    · exact ((each j oj hoj).2 d hd').2 i o hl ho hd
  have free_of : ∀ {t : Tmp}, Loose.freeB l.toArray t = true → ∀ (i : Nat) (o : Oper), l[i]? = some o → o.dst ≠ some t := fun {t} ht i o ho e => by
    have := Array.all_eq_true_iff_forall_mem.1 ht o (by simpa using List.mem_of_getElem? ho)
    rw [e] at this
    simp at this
  refine Back.wp_region_g hm (fun i o ho e he hb => (each i o (by simpa using ho)).1 e he hb) (fun s a w => a.tmps.size = a0.tmps.size ∧ a.defers = a0.defers ∧ (∀ t, (∀ (i : Nat) (o : Oper), l[i]? = some o → o.dst ≠ some t) → a.tmps.getD t undef = a0.tmps.getD t undef) ∧
    ∃ V : Nat → Value, (∀ (i : Nat) o d, l[i]? = some o → s i = true → o.dst = some d → a.tmps.getD d undef = V i) ∧ J s V w) ⟨rfl, rfl, fun _ _ => rfl, V0, fun _ _ _ _ h => Bool.noConfusion h, h0⟩ ?_ ?_
  · rintro s i o a w ho hs hdep ⟨i1, i2, i3, V, i4, i5⟩
    have ho' : l[i]? = some o := by simpa using ho
    have hst := hsteps.at ho'
    rw [Nat.zero_add] at hst
    have other : ∀ (v : Value) (t : Tmp), o.dst ≠ some t → (a.put o.dst v).tmps.getD t undef = a.tmps.getD t undef := fun v t ht => by
      cases h : o.dst with
      | none => rfl
      | some d => exact Loose.put_other (fun e => ht (by rw [h, e]))
    have next : ∀ (v : Value) w', J (fun j => s j || j == i) (fun j => if j = i then v else V j) w' → (a.put o.dst v).tmps.size = a0.tmps.size ∧ (a.put o.dst v).defers = a0.defers ∧ (∀ t, (∀ (i : Nat) (o : Oper), l[i]? = some o → o.dst ≠ some t) → (a.put o.dst v).tmps.getD t undef = a0.tmps.getD t undef) ∧
        ∃ V : Nat → Value, (∀ (j : Nat) oj d, l[j]? = some oj → (s j || j == i) = true → oj.dst = some d → (a.put o.dst v).tmps.getD d undef = V j) ∧ J (fun j => s j || j == i) V w' := by
      intro v w' hJ
      refine ⟨by cases h : o.dst <;> simpa [Act.put] using i1, by cases h : o.dst <;> exact i2, fun t ht => (other v t (ht i o ho')).trans (i3 t ht), _, fun j oj d hoj hsj hd => ?_, hJ⟩
      by_cases hji : j = i
      · subst hji
        obtain rfl : o = oj := by rw [ho'] at hoj; exact Option.some.inj hoj
        rw [hd, Loose.put_same (by rw [i1]; exact ((each j o ho').2 d hd).1), if_pos rfl]
      · rw [other v d (fun e => unlike ho' hoj hji e hd), if_neg hji]
        exact i4 j oj d hoj (by simpa [hji] using hsj) hd
    rcases hst s a w V hs (fun j hj => by obtain ⟨e, he, h1, h2⟩ := dep_some hj ho'; rw [← h1]; exact hdep e he h2) (fun t ht => i3 t (free_of ht)) (fun j d h => by
        unfold Slt.postB at h
        rw [Bool.and_eq_true, beq_iff_eq] at h
        obtain ⟨q, hq, h3⟩ := Array.any_eq_true.1 h.1
        rw [Bool.and_eq_true, beq_iff_eq] at h3
        obtain ⟨oj, h4, h5⟩ := Option.bind_eq_some_iff.1 h.2
        exact i4 j oj d h4 (by rw [← h3.1]; exact hdep _ (Array.getElem_mem hq) h3.2) h5) i5 with ⟨hw, hwp⟩ | ⟨hw, hJ⟩
    · refine .inl ⟨hw, Oper.wp_mono ?_ hwp⟩
      rintro a' w' ⟨v, rfl, hJ⟩
      exact next v w' hJ
    · exact .inr ⟨hw, next _ _ hJ⟩
  · rintro s a w hall ⟨i1, i2, i3, V, i4, i5⟩
    have hall' : ∀ i, i < l.length → s i = true := fun i hi => hall i (by simpa using hi)
    have ha : puts V 0 l a0 = a := puts_of (fun i o d ho hd => by rw [Nat.zero_add]; exact i4 i o d ho (hall' i (List.getElem?_eq_some_iff.1 ho).1) hd) (fun o ho d hd => by
      obtain ⟨i, hi, rfl⟩ := List.getElem_of_mem ho
      rw [i1]; exact ((each i _ (List.getElem?_eq_getElem hi)).2 d hd).1) i1.symm i2.symm (fun t ht => (i3 t (fun i o ho => ht o (List.mem_of_getElem? ho))).symm)
    rw [← ha]
    exact hend s V w hall' i5
end Vls
end Go.Proofs.YtbichomjpmmjmaaGreatDoor

/-
  'first, second := apart(a), apart(b)', in whatever order: what is true on the way (J2). No condition.
-/
set_option linter.unusedVariables false
set_option linter.unusedSimpArgs false
namespace Go.Proofs.YtbichomjpmmjmaaGreatDoor
open Go.ChangeShapes Go.WideShapes Go.ChangeAt Go.RowKit Go.Lib
open NumMath
namespace Re
theorem lt_of_at {w : World} {g : Nat} {o : Obj} (h : w.heap[g]? = some o) : g < w.heap.size := by
  rcases Nat.lt_or_ge g w.heap.size with hl | hl
  · exact hl
  · rw [Array.getElem?_eq_none hl] at h; cases h
def BoxAt (v u : World) (x : Value) (f : Bool) (a : List Value) : Prop := ∃ q X, x = .pointer (some ⟨q, 0, none⟩) ∧ v.heap.size ≤ q ∧ u.heap[q]? = some (.cells X 95 (0, 0)) ∧ X.size = 3 ∧ (f = true → X = a.toArray)
theorem BoxAt.grow {v u u' : World} {x : Value} {f : Bool} {a : List Value} (h : BoxAt v u x f a) (hb : Below u.heap.size u u') : BoxAt v u' x f a := by
  obtain ⟨q, X, h1, h2, h3, h4⟩ := h
  exact ⟨q, X, h1, h2, (hb.block q (lt_of_at h3)).trans h3, h4⟩
structure J2 (v : World) (a b : List Value) (s : Nat → Bool) (V : Nat → Value) (u : World) : Prop where
  bel : Below v.heap.size v u
  pre : ∀ j, j < 4 → s j = true → V j = if j < 2 then .agg a.toArray else .agg b.toArray
  b4 : s 4 = true → BoxAt v u (V 4) (s 6) a
  b5 : s 5 = true → BoxAt v u (V 5) (s 7) b
  ne : s 4 = true → s 5 = true → V 4 ≠ V 5
  o6 : s 6 = true → s 4 = true
  o7 : s 7 = true → s 5 = true
variable {v u : World} {a b : List Value} {s : Nat → Bool} {V : Nat → Value}
theorem J2.start (v : World) (a b : List Value) (V : Nat → Value) : J2 v a b (fun _ => false) V v.drew :=
  ⟨Below.drew (Below.refl _ _), fun _ _ h => Bool.noConfusion h, fun h => Bool.noConfusion h, fun h => Bool.noConfusion h, fun h => Bool.noConfusion h, fun h => Bool.noConfusion h, fun h => Bool.noConfusion h⟩
theorem J2.get (h : J2 v a b s V u) (j : Nat) (hj : j < 4) (hs : s j = true) {x : Value} (hx : (if j < 2 then .agg a.toArray else .agg b.toArray) = x) : V j = x := (h.pre j hj hs).trans hx
theorem J2.step (h : J2 v a b s V u) (i : Nat) (hi : i < 4) {u' : World} (hb : Below u.heap.size u u') {x : Value} (hx : x = if i < 2 then .agg a.toArray else .agg b.toArray) : J2 v a b (fun j => s j || j == i) (fun j => if j = i then x else V j) u' := by
  have e : ∀ k, 4 ≤ k → (k == i) = false := fun k hk => by simp; omega
  have f : ∀ k, 4 ≤ k → ¬ k = i := fun k hk => by omega
  refine ⟨h.bel.trans (hb.mono h.bel.size), fun j hj hs => ?_, ?_, ?_, ?_, ?_, ?_⟩
  · by_cases hji : j = i
    · subst hji; rw [if_pos rfl]; exact hx
    · rw [if_neg hji]; exact h.pre j hj (by simpa [hji] using hs)
  all_goals simp only [e 4 (by decide), e 5 (by decide), e 6 (by decide), e 7 (by decide), if_neg (f 4 (by decide)), if_neg (f 5 (by decide)), Bool.or_false]
  · exact fun hs => (h.b4 hs).grow hb
  · exact fun hs => (h.b5 hs).grow hb
  · exact h.ne
  · exact h.o6
  · exact h.o7
theorem ptr_ne {p q : Nat} (h : p ≠ q) : (Value.pointer (some ⟨p, 0, none⟩)) ≠ .pointer (some ⟨q, 0, none⟩) := fun e => by
  injection e with e; injection e with e; injection e with e; exact h e
theorem J2.al4 (h : J2 v a b s V u) (hs : s 4 = false) (Z : Array Value) (hZ : Z.size = 3) : J2 v a b (fun j => s j || j == 4) (fun j => if j = 4 then .pointer (some ⟨u.heap.size, 0, none⟩) else V j) (u.alloc (.cells Z 95 (0, 0))) := by
  have hb : Below u.heap.size u (u.alloc (.cells Z 95 (0, 0))) := (Below.refl _ _).alloc (Nat.le_refl _) _
  have h6 : s 6 = false := by
    cases h6 : s 6 with
    | false => rfl
    | true => rw [h.o6 h6] at hs; cases hs
  refine ⟨h.bel.trans (hb.mono h.bel.size), fun j hj hs => ?_, ?_, ?_, ?_, ?_, ?_⟩
  · have : ¬ j = 4 := by omega
    rw [if_neg this]; exact h.pre j hj (by simpa [this] using hs)
  all_goals simp only [show ((4 : Nat) == 4) = true from rfl, show ((5 : Nat) == 4) = false from rfl, show ((6 : Nat) == 4) = false from rfl, show ((7 : Nat) == 4) = false from rfl, Bool.or_false, Bool.or_true, if_pos, if_neg (show ¬ (5 : Nat) = 4 by decide)]
  · exact fun _ => ⟨u.heap.size, Z, rfl, h.bel.size, heap_alloc_new u _, hZ, fun h => by rw [h6] at h; cases h⟩
  · exact fun hs => (h.b5 hs).grow hb
  · intro _ h5
    obtain ⟨q, X, h1, h2, h3, h4⟩ := h.b5 h5
    rw [h1]
    exact ptr_ne (by have := lt_of_at h3; omega)
  · exact fun h => by simp
  · exact h.o7
theorem J2.al5 (h : J2 v a b s V u) (hs : s 5 = false) (Z : Array Value) (hZ : Z.size = 3) : J2 v a b (fun j => s j || j == 5) (fun j => if j = 5 then .pointer (some ⟨u.heap.size, 0, none⟩) else V j) (u.alloc (.cells Z 95 (0, 0))) := by
  have hb : Below u.heap.size u (u.alloc (.cells Z 95 (0, 0))) := (Below.refl _ _).alloc (Nat.le_refl _) _
  have h7 : s 7 = false := by
    cases h7 : s 7 with
    | false => rfl
    | true => rw [h.o7 h7] at hs; cases hs
  refine ⟨h.bel.trans (hb.mono h.bel.size), fun j hj hs => ?_, ?_, ?_, ?_, ?_, ?_⟩
  · have : ¬ j = 5 := by omega
    rw [if_neg this]; exact h.pre j hj (by simpa [this] using hs)
  all_goals simp only [show ((4 : Nat) == 5) = false from rfl, show ((5 : Nat) == 5) = true from rfl, show ((6 : Nat) == 5) = false from rfl, show ((7 : Nat) == 5) = false from rfl, Bool.or_false, Bool.or_true, if_pos, if_neg (show ¬ (4 : Nat) = 5 by decide)]
  · exact fun hs => (h.b4 hs).grow hb
  · exact fun _ => ⟨u.heap.size, Z, rfl, h.bel.size, heap_alloc_new u _, hZ, fun h => by rw [h7] at h; cases h⟩
  · intro h4 _
    obtain ⟨q, X, h1, h2, h3, h4⟩ := h.b4 h4
    rw [h1]
    exact ptr_ne (by have := lt_of_at h3; omega)
  · exact h.o6
  · exact fun h => by simp
theorem BoxAt.set {x y : Value} {f : Bool} {c d : List Value} {q : Nat} (h : BoxAt v u x f c) (hne : x ≠ y) (hy : y = .pointer (some ⟨q, 0, none⟩)) : BoxAt v (u.setCells q 0 d) x f c := by
  obtain ⟨p, X, h1, h2, h3, h4⟩ := h
  obtain ⟨_, _, _, _, f5⟩ := Back.far q d 0 u
  exact ⟨p, X, h1, h2, (f5 p (fun e => hne (by rw [h1, hy, e]))).trans h3, h4⟩
theorem bel_set {q : Nat} {d : List Value} (h : Below v.heap.size v u) (hq : v.heap.size ≤ q) : Below v.heap.size v (u.setCells q 0 d) := by
  obtain ⟨f1, f2, f3, f4, f5⟩ := Back.far q d 0 u
  exact ⟨f1.trans h.os, f2.trans h.tape, f3.trans h.output, by rw [f4]; exact h.size, fun k hk => (f5 k (by omega)).trans (h.block k hk)⟩
theorem J2.st6 (h : J2 v a b s V u) (ha : a.length = 3) (h4 : s 4 = true) {q : Nat} (hq : V 4 = .pointer (some ⟨q, 0, none⟩)) (x : Value) : J2 v a b (fun j => s j || j == 6) (fun j => if j = 6 then x else V j) (u.setCells q 0 a) := by
  obtain ⟨p, X, e1, e2, e3, e4, e5⟩ := h.b4 h4
  obtain rfl : p = q := by rw [hq] at e1; injection e1 with e1; injection e1 with e1; injection e1 with e1; exact e1.symm
  refine ⟨bel_set h.bel e2, fun j hj hs => ?_, ?_, ?_, ?_, ?_, ?_⟩
  · have : ¬ j = 6 := by omega
    rw [if_neg this]; exact h.pre j hj (by simpa [this] using hs)
  all_goals simp only [show ((4 : Nat) == 6) = false from rfl, show ((5 : Nat) == 6) = false from rfl, show ((6 : Nat) == 6) = true from rfl, show ((7 : Nat) == 6) = false from rfl, Bool.or_false, Bool.or_true, if_neg (show ¬ (4 : Nat) = 6 by decide), if_neg (show ¬ (5 : Nat) = 6 by decide)]
  · exact fun _ => ⟨p, a.toArray, hq, e2, Back.st e3 (by rw [e4, ha]), by simpa using ha, fun _ => rfl⟩
  · exact fun h5 => (h.b5 h5).set (Ne.symm (h.ne h4 h5)) hq
  · exact h.ne
  · exact fun _ => h4
  · exact h.o7
theorem J2.st7 (h : J2 v a b s V u) (hb : b.length = 3) (h5 : s 5 = true) {q : Nat} (hq : V 5 = .pointer (some ⟨q, 0, none⟩)) (x : Value) : J2 v a b (fun j => s j || j == 7) (fun j => if j = 7 then x else V j) (u.setCells q 0 b) := by
  obtain ⟨p, X, e1, e2, e3, e4, e5⟩ := h.b5 h5
  obtain rfl : p = q := by rw [hq] at e1; injection e1 with e1; injection e1 with e1; injection e1 with e1; exact e1.symm
  refine ⟨bel_set h.bel e2, fun j hj hs => ?_, ?_, ?_, ?_, ?_, ?_⟩
  · have : ¬ j = 7 := by omega
    rw [if_neg this]; exact h.pre j hj (by simpa [this] using hs)
  all_goals simp only [show ((4 : Nat) == 7) = false from rfl, show ((5 : Nat) == 7) = false from rfl, show ((6 : Nat) == 7) = false from rfl, show ((7 : Nat) == 7) = true from rfl, Bool.or_false, Bool.or_true, if_neg (show ¬ (4 : Nat) = 7 by decide), if_neg (show ¬ (5 : Nat) = 7 by decide)]
  · exact fun h4 => (h.b4 h4).set (h.ne h4 h5) hq
  · exact fun _ => ⟨p, b.toArray, hq, e2, Back.st e3 (by rw [e4, hb]), by simpa using hb, fun _ => rfl⟩
  · exact h.ne
  · exact h.o6
  · exact fun _ => h5
theorem J2.fin (h : J2 v a b s V u) (hall : ∀ i, i < 8 → s i = true) : ∃ p q, V 4 = .pointer (some ⟨p, 0, none⟩) ∧ V 5 = .pointer (some ⟨q, 0, none⟩) ∧ p ≠ q ∧ v.heap.size ≤ p ∧ v.heap.size ≤ q ∧ u.heap[p]? = some (.cells a.toArray 95 (0, 0)) ∧ u.heap[q]? = some (.cells b.toArray 95 (0, 0)) ∧ Below v.heap.size v u := by
  obtain ⟨p, X, e1, e2, e3, e4, e5⟩ := h.b4 (hall 4 (by decide))
  obtain ⟨q, Y, g1, g2, g3, g4, g5⟩ := h.b5 (hall 5 (by decide))
  refine ⟨p, q, e1, g1, fun e => h.ne (hall 4 (by decide)) (hall 5 (by decide)) (by rw [e1, g1, e]), e2, g2, by rw [e3, e5 (hall 6 (by decide))], by rw [g3, g5 (hall 7 (by decide))], h.bel⟩
theorem put_none (a : Act) (v : Value) : a.put none v = a := rfl
end Re
end Go.Proofs.YtbichomjpmmjmaaGreatDoor

/-
  Package res: each of three numbers reckoned, Add, Sub, Max, Fits, Over. What was there is left as it was. Condition: the numbers are 64-bit integers.
-/
set_option linter.unusedVariables false
set_option linter.unusedSimpArgs false
namespace Go.Proofs.YtbichomjpmmjmaaGreatDoor
open Go.ChangeShapes Go.WideShapes Go.ChangeAt Go.RowKit Go.Lib
open NumMath
namespace Re
/-- three numbers' cells -/
abbrev R3 (a : Rx) : List Value := [.int .i64 a.c, .int .i64 a.m, .int .i64 a.p]
def F2 (a b : Rx) : Nat → Value → Prop
  | 0, v => v = .agg (R3 a).toArray
  | 1, v => v = .agg (R3 b).toArray
  | 2, v => v = .agg (R3 (maxR a b)).toArray
  | 3, v => v = .agg (R3 b).toArray
  | _, v => v = .bool (fitsR a b)
theorem put_lit (l : List Value) (ds : List Deferred) (d : Tmp) (v : Value) : (⟨l.toArray, ds⟩ : Act).put (some d) v = ⟨(l.set d v).toArray, ds⟩ := by simp [Act.put]
theorem cell_of {w : World} {g : Nat} {A : Array Value} {t : TypeId} (h : w.heap[g]? = some (.cells A t (0, 0))) (k : Nat) {v : Value} (hv : A[k]? = some v) : w.cell? ⟨g, k, none⟩ = some v := by
  simp [World.cell?, h, hv]
theorem free_of {w : World} {g : Nat} {A : Array Value} {t : TypeId} (h : w.heap[g]? = some (.cells A t (0, 0))) (k : Nat) : w.frozen? ⟨g, k, none⟩ = false := by
  simp [World.frozen?, h]
theorem range_box {w : World} {b : Nat} {cs : List Value} {t : TypeId} (h : w.heap[b]? = some (.cells cs.toArray t (0, 0))) : w.rangeAt b 0 cs := fun j v hv => by
  rw [Nat.zero_add]
  exact cell_of h j (by simpa using hv)
set_option maxRecDepth 100000 in
set_option maxHeartbeats 2000000 in
theorem fits_any (a b : Rx) (w : World) : Calls Tryz.prog 46 #[.agg #[.int .i64 a.c, .int .i64 a.m, .int .i64 a.p], .agg #[.int .i64 b.c, .int .i64 b.m, .int .i64 b.p]] w fun e w' => e = .returned (.bool (fitsR a b)) ∧ Below w.heap.size w w' := by
  obtain ⟨w0, hw0⟩ : ∃ v, (w.alloc (.cells #[.int .i64 a.c, .int .i64 a.m, .int .i64 a.p] 23)).alloc (.cells #[.int .i64 b.c, .int .i64 b.m, .int .i64 b.p] 23) = v := ⟨_, rfl⟩
  have X := Lib.hid (show w0.heap[w.heap.size]? = some (.cells #[.int .i64 a.c, .int .i64 a.m, .int .i64 a.p] 23 (0, 0)) by rw [← hw0, Below.heap_alloc _ _ _ (by simp)]; exact heap_alloc_new w _)
  have Y := Lib.hid (show w0.heap[w.heap.size + 1]? = some (.cells #[.int .i64 b.c, .int .i64 b.m, .int .i64 b.p] 23 (0, 0)) by rw [← hw0]; have := heap_alloc_new (w.alloc (.cells #[.int .i64 a.c, .int .i64 a.m, .int .i64 a.p] 23)) (.cells #[.int .i64 b.c, .int .i64 b.m, .int .i64 b.p] 23); simpa using this)
  have B0 := Lib.hid (show Below w.heap.size w w0 by rw [← hw0]; go_grown)
  go_enter Tryz.func46, Tryz.ntmps46
  go_wp2_with fail
  clear hw0
  refine Vls.wp_region (by kernel_rfl) (J2 w0 (R3 a) (R3 b)) (by kernel_rfl) (fun _ => undef) (J2.start _ _ _ _) ?_ ?_
  · refine ⟨?_, ?_, ?_, ?_, ?_, ?_, ?_, ?_, trivial⟩
    · intro s a_ u V hs hd hfr hpo hJ
      have f0 : a_.tmps.getD 2 undef = .pointer (some ⟨w.heap.size, 0, none⟩) := hfr 2 (by kernel_rfl)
      refine .inl ⟨rfl, ?_⟩
      exact wp_load_mid 23 (.tmp 2) rfl (w.heap.size) 0 f0 (R3 a) _ (range_box ((hJ.bel.block _ (lt_of_at X.out)).trans X.out)) Tryz.underlying23 rfl (by kernel_rfl) ⟨_, rfl, hJ.step 0 (by decide) (Below.refl _ _) rfl⟩
    · intro s a_ u V hs hd hfr hpo hJ
      have e0 : a_.tmps.getD 7 undef = .agg (R3 a).toArray := (hpo 0 7 (by kernel_rfl)).trans (hJ.get 0 (by decide) (hd 0 (by kernel_rfl)) rfl)
      refine .inl ⟨rfl, ?_⟩
      unfold Oper.wp
      rw [show (execOp a_.eval _).run Tryz.prog u = .ok (.enter 54 #[.agg (R3 a).toArray]) u from by simp [go_sem, Act.eval, e0]]
      refine Calls.mono (apart_any a.c a.m a.p u) ?_
      rintro e u2 ⟨rfl, hb⟩
      exact ⟨_, rfl, hJ.step 1 (by decide) hb rfl⟩
    · intro s a_ u V hs hd hfr hpo hJ
      have f0 : a_.tmps.getD 3 undef = .pointer (some ⟨w.heap.size + 1, 0, none⟩) := hfr 3 (by kernel_rfl)
      refine .inl ⟨rfl, ?_⟩
      exact wp_load_mid 23 (.tmp 3) rfl (w.heap.size + 1) 0 f0 (R3 b) _ (range_box ((hJ.bel.block _ (lt_of_at Y.out)).trans Y.out)) Tryz.underlying23 rfl (by kernel_rfl) ⟨_, rfl, hJ.step 2 (by decide) (Below.refl _ _) rfl⟩
    · intro s a_ u V hs hd hfr hpo hJ
      have e0 : a_.tmps.getD 9 undef = .agg (R3 b).toArray := (hpo 2 9 (by kernel_rfl)).trans (hJ.get 2 (by decide) (hd 2 (by kernel_rfl)) rfl)
      refine .inl ⟨rfl, ?_⟩
      unfold Oper.wp
      rw [show (execOp a_.eval _).run Tryz.prog u = .ok (.enter 54 #[.agg (R3 b).toArray]) u from by simp [go_sem, Act.eval, e0]]
      refine Calls.mono (apart_any b.c b.m b.p u) ?_
      rintro e u2 ⟨rfl, hb⟩
      exact ⟨_, rfl, hJ.step 3 (by decide) hb rfl⟩
    · intro s a_ u V hs hd hfr hpo hJ
      refine .inl ⟨rfl, ?_⟩
      unfold Oper.wp
      rw [show (execOp a_.eval _).run Tryz.prog u = .ok (.value (.pointer (some ⟨u.heap.size, 0, none⟩))) (u.alloc (.cells #[.int .i64 0, .int .i64 0, .int .i64 0] 95 (0, 0))) from by simp [go_sem, Act.eval]]
      exact ⟨_, rfl, hJ.al4 hs _ rfl⟩
    · intro s a_ u V hs hd hfr hpo hJ
      refine .inl ⟨rfl, ?_⟩
      unfold Oper.wp
      rw [show (execOp a_.eval _).run Tryz.prog u = .ok (.value (.pointer (some ⟨u.heap.size, 0, none⟩))) (u.alloc (.cells #[.int .i64 0, .int .i64 0, .int .i64 0] 95 (0, 0))) from by simp [go_sem, Act.eval]]
      exact ⟨_, rfl, hJ.al5 hs _ rfl⟩
    · intro s a_ u V hs hd hfr hpo hJ
      have h4 : s 4 = true := hd 4 (by kernel_rfl)
      obtain ⟨q, X, hq, hqv, hX, hXs, _⟩ := hJ.b4 h4
      have e1 : a_.tmps.getD 5 undef = .pointer (some ⟨q, 0, none⟩) := (hpo 4 5 (by kernel_rfl)).trans hq
      have e2 : a_.tmps.getD 8 undef = .agg (R3 a).toArray := (hpo 1 8 (by kernel_rfl)).trans (hJ.get 1 (by decide) (hd 1 (by kernel_rfl)) rfl)
      refine .inl ⟨rfl, ?_⟩
      exact wp_store_mid 95 (.tmp 5) (.tmp 8) rfl q 0 (R3 a).toArray e1 e2 (Back.th hX hXs) (by kernel_rfl) (by simp [Value.oneCell']) ⟨undef, rfl, hJ.st6 rfl h4 hq _⟩
    · intro s a_ u V hs hd hfr hpo hJ
      have h4 : s 5 = true := hd 5 (by kernel_rfl)
      obtain ⟨q, X, hq, hqv, hX, hXs, _⟩ := hJ.b5 h4
      have e1 : a_.tmps.getD 6 undef = .pointer (some ⟨q, 0, none⟩) := (hpo 5 6 (by kernel_rfl)).trans hq
      have e2 : a_.tmps.getD 10 undef = .agg (R3 b).toArray := (hpo 3 10 (by kernel_rfl)).trans (hJ.get 3 (by decide) (hd 3 (by kernel_rfl)) rfl)
      refine .inl ⟨rfl, ?_⟩
      exact wp_store_mid 95 (.tmp 6) (.tmp 10) rfl q 0 (R3 b).toArray e1 e2 (Back.th hX hXs) (by kernel_rfl) (by simp [Value.oneCell']) ⟨undef, rfl, hJ.st7 rfl h4 hq _⟩
  · intro s V u hall hJ
    obtain ⟨p, q, e4, e5, hpq, hp, hq, hX, hY, hbu⟩ := hJ.fin hall
    have P := Lib.hid hX
    have Q := Lib.hid hY
    have BU := Lib.hid hbu
    have PQ := Lib.hid hpq
    have PG := Lib.hid hp
    have QG := Lib.hid hq
    clear hall hJ hX hY hbu hpq hp hq
    simp only [Bxs.puts, Nat.reduceAdd, put_none, put_lit, List.set_cons_succ, List.set_cons_zero]
    rw [e4, e5]
    clear e4 e5
    go_wp2_with fail
    refine Slt.wp_region (by kernel_rfl) (F2 a b) (fun _ v => Below u.heap.size u v) (by kernel_rfl) (Below.drew (Below.refl _ _)) ?_ ?_
    · refine ⟨?_, ?_, ?_, ?_, ?_, ?_, trivial⟩
      · intro s a_ u1 hs hd hfr hpo hJ
        have f0 : a_.tmps.getD 5 undef = .pointer (some ⟨p, 0, none⟩) := hfr 5 (by kernel_rfl)
        refine .inl ⟨rfl, ?_⟩
        exact wp_load_mid 95 (.tmp 5) rfl p 0 f0 (R3 a) _ (range_box ((hJ.block _ (lt_of_at P.out)).trans P.out)) Tryz.underlying95 rfl (by kernel_rfl) ⟨_, rfl, rfl, hJ⟩
      · intro s a_ u1 hs hd hfr hpo hJ
        have f0 : a_.tmps.getD 6 undef = .pointer (some ⟨q, 0, none⟩) := hfr 6 (by kernel_rfl)
        refine .inl ⟨rfl, ?_⟩
        exact wp_load_mid 95 (.tmp 6) rfl q 0 f0 (R3 b) _ (range_box ((hJ.block _ (lt_of_at Q.out)).trans Q.out)) Tryz.underlying95 rfl (by kernel_rfl) ⟨_, rfl, rfl, hJ⟩
      · intro s a_ u1 hs hd hfr hpo hJ
        have e0 : a_.tmps.getD 11 undef = .agg (R3 a).toArray := hpo 0 11 (by kernel_rfl)
        have e1 : a_.tmps.getD 12 undef = .agg (R3 b).toArray := hpo 1 12 (by kernel_rfl)
        refine .inl ⟨rfl, ?_⟩
        unfold Oper.wp
        rw [show (execOp a_.eval _).run Tryz.prog u1 = .ok (.enter 53 #[.agg (R3 a).toArray, .agg (R3 b).toArray]) u1 from by simp [go_sem, Act.eval, e0, e1]]
        refine Calls.mono (greater_any a.c a.m a.p b.c b.m b.p u1) ?_
        rintro e u2 ⟨rfl, hb⟩
        exact ⟨_, rfl, rfl, hJ.trans (hb.mono hJ.size)⟩
      · intro s a_ u1 hs hd hfr hpo hJ
        have f0 : a_.tmps.getD 6 undef = .pointer (some ⟨q, 0, none⟩) := hfr 6 (by kernel_rfl)
        refine .inl ⟨rfl, ?_⟩
        exact wp_load_mid 95 (.tmp 6) rfl q 0 f0 (R3 b) _ (range_box ((hJ.block _ (lt_of_at Q.out)).trans Q.out)) Tryz.underlying95 rfl (by kernel_rfl) ⟨_, rfl, rfl, hJ⟩
      · intro s a_ u1 hs hd hfr hpo hJ
        have e2 : a_.tmps.getD 13 undef = .agg (R3 (maxR a b)).toArray := hpo 2 13 (by kernel_rfl)
        have e3 : a_.tmps.getD 14 undef = .agg (R3 b).toArray := hpo 3 14 (by kernel_rfl)
        have eq := eqIn_num (maxR a b) b u1
        rw [eqR_fits] at eq
        refine .inl ⟨rfl, ?_⟩
        unfold Oper.wp
        rw [show (execOp a_.eval _).run Tryz.prog u1 = .ok (.value (.bool (fitsR a b))) u1 from by simp [go_sem, Act.eval, e2, e3, eq]]
        exact ⟨_, rfl, rfl, hJ⟩
      · intro s a_ u1 hs hd hfr hpo hJ
        have e4 : a_.tmps.getD 15 undef = .bool (fitsR a b) := hpo 4 15 (by kernel_rfl)
        refine .inl ⟨rfl, ?_⟩
        unfold Oper.wp
        rw [show (execOp a_.eval _).run Tryz.prog u1 = .ok (.value (.bool (fitsR a b))) u1 from by simp [go_sem, Act.eval, e4]]
        exact ⟨_, rfl, rfl, hJ⟩
    · intro s V u1 hall hF hJ
      have e5 : V 5 = .bool (fitsR a b) := hF 5 _ _ rfl rfl
      have B1 := Lib.hid (B0.out.trans (BU.out.mono B0.out.size))
      have B2 := Lib.hid (B1.out.trans (hJ.mono B1.out.size))
      clear hall hF hJ
      simp only [Bxs.puts, Nat.reduceAdd, put_none, put_lit, List.set_cons_succ, List.set_cons_zero]
      rw [e5]
      go_wp2_with fail
      go_ret
      exact ⟨rfl, B2.out⟩
end Re
end Go.Proofs.YtbichomjpmmjmaaGreatDoor
