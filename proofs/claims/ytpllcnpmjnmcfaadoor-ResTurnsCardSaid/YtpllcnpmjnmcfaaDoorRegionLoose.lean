/-
  A region that draws its order, whose operations leave the memory that was there as it was (they read, compute, make memory, call what makes memory): what each operation leaves in its slot is told by a fact that stays true while memory only grows; each operation is met once, by the facts of those that it waits for, and the facts of all hold behind the region, whatever the order. Conditions: each operation writes a slot of its own, and waits for earlier ones alone.
-/
import Derived.Orders
import Derived.Below
import Derived.WalkKit
namespace Go.Proofs.YtpllcnpmjnmcfaaDoor
open Go.RowKit
namespace Loose
variable {P : Program} {ops : Array Oper} {Q : Exit → Act → World → Prop}

/-- each operation writes a slot of its own, within the frame, and waits for earlier ones alone -/
def okB (ops : Array Oper) (n : Nat) : Bool :=
  (List.range ops.size).all fun i => (ops[i]?).all fun o =>
    (o.dst.any fun d => decide (d < n)) && o.after.all (fun e => !Region.binds .any e || decide (e.on < i)) && (List.range i).all fun j => (ops[j]?).all fun oj => oj.dst != o.dst
theorem ok_spec {n i : Nat} {o : Oper} (h : okB ops n = true) (ho : ops[i]? = some o) :
    (∃ d, o.dst = some d ∧ d < n) ∧ (∀ e ∈ o.after, Region.binds .any e = true → e.on < i) ∧ ∀ j oj, j < i → ops[j]? = some oj → oj.dst ≠ o.dst := by
  have hlt : i < ops.size := (Array.getElem?_eq_some_iff.1 ho).1
  have h1 := List.all_eq_true.1 h i (List.mem_range.2 hlt)
  rw [ho] at h1
  simp only [Option.all_some, Bool.and_eq_true] at h1
  obtain ⟨⟨ha, hb⟩, hc⟩ := h1
  refine ⟨?_, fun e he hbd => ?_, fun j oj hj hoj => ?_⟩
  · cases hd : o.dst with
    | none => rw [hd] at ha; cases ha
    | some d => rw [hd] at ha; exact ⟨d, rfl, by simpa using ha⟩
  · have := Array.all_eq_true_iff_forall_mem.1 hb e he
    rw [hbd] at this
    simpa using this
  · have := List.all_eq_true.1 hc j (List.mem_range.2 hj)
    rw [hoj] at this
    simpa using this
theorem ok_unlike {n i j : Nat} {o oj : Oper} (h : okB ops n = true) (ho : ops[i]? = some o) (hoj : ops[j]? = some oj) (hne : j ≠ i) : oj.dst ≠ o.dst := by
  rcases Nat.lt_or_gt_of_ne hne with hl | hl
  · exact (ok_spec h ho).2.2 j oj hl hoj
  · exact fun e => (ok_spec h hoj).2.2 i o hl ho e.symm
/-- the frame behind some of the operations -/
structure Framed (ops : Array Oper) (a0 : Act) (w0 : World) (a : Act) (w : World) : Prop where
  size : a.tmps.size = a0.tmps.size
  defers : a.defers = a0.defers
  below : Below w0.heap.size w0 w
  free : ∀ t, (∀ (i : Nat) (o : Oper), ops[i]? = some o → o.dst ≠ some t) → a.tmps.getD t undef = a0.tmps.getD t undef
/-- the operation number i is met -/
def Step (P : Program) (ops : Array Oper) (Q : Exit → Act → World → Prop) (F : Nat → Value → World → Prop) (a0 : Act) (w0 : World) (i : Nat) (o : Oper) : Prop :=
  ∀ a w, Framed ops a0 w0 a w → (∀ e ∈ o.after, Region.binds .any e = true → ∀ oj d, ops[e.on]? = some oj → oj.dst = some d → F e.on (a.tmps.getD d undef) w) →
    (Region.wanted o (yielded ops a.tmps) = true ∧ o.wp P a w (fun a' w' => ∃ v, a' = a.put o.dst v ∧ F i v w' ∧ Below w.heap.size w w') Q) ∨ (Region.wanted o (yielded ops a.tmps) = false ∧ F i undef w)
theorem put_same {a : Act} {d : Nat} {v : Value} (h : d < a.tmps.size) : (a.put (some d) v).tmps.getD d undef = v := by
  simp [Act.put, Array.getD, h]
theorem put_other {a : Act} {d t : Nat} {v : Value} (h : d ≠ t) : (a.put (some d) v).tmps.getD t undef = a.tmps.getD t undef := by
  simp [Act.put, Array.getD_eq_getD_getElem?, Array.getElem?_setIfInBounds_ne h]
theorem left_lt {n : Nat} {listed : Array Bool} {i : Nat} (hi : i < n) (h : listed.getD i true = false) :
    ((List.range n).filter fun j => !(listed.setIfInBounds i true).getD j true).length < ((List.range n).filter fun j => !listed.getD j true).length := by
  have e : ((List.range n).filter fun j => !(listed.setIfInBounds i true).getD j true) = ((List.range n).filter fun j => !listed.getD j true).filter fun j => !(listed.setIfInBounds i true).getD j true := by
    rw [List.filter_filter]
    congr 1
    funext j
    by_cases hj : i = j
    · subst hj
      have hs : i < listed.size := by
        rcases Nat.lt_or_ge i listed.size with hl | hl
        · exact hl
        · rw [Array.getD_eq_getD_getElem?, Array.getElem?_eq_none hl] at h; cases h
      simp [Array.getD_eq_getD_getElem?, hs]
    · rw [getD_set_ne true hj]; simp
  rw [e, List.length_filter_lt_length_iff_exists]
  refine ⟨i, List.mem_filter.2 ⟨List.mem_range.2 hi, by rw [h]; rfl⟩, ?_⟩
  have hs : i < listed.size := by
    rcases Nat.lt_or_ge i listed.size with hl | hl
    · exact hl
    · rw [Array.getD_eq_getD_getElem?, Array.getElem?_eq_none hl] at h; cases h
  simp [Array.getD_eq_getD_getElem?, hs]
theorem wp_region_loose {id : Nat} {a0 : Act} {w0 : World} (hm : P.follows .mixedOrders = true) (hok : okB ops a0.tmps.size = true) (F : Nat → Value → World → Prop)
    (hF : ∀ i v w w', F i v w → Below w.heap.size w w' → F i v w') (hstep : ∀ i o, ops[i]? = some o → Step P ops Q F a0 w0 i o)
    (hend : ∀ a w, Framed ops a0 w0 a w → (∀ i o d, ops[i]? = some o → o.dst = some d → F i (a.tmps.getD d undef) w) → Q .normal a w) : (Code.region id ops true).wp P Q a0 w0 := by
  have main : ∀ (fuel : Nat) (listed : Array Bool) (a : Act) (w : World), listed.size = ops.size → ((List.range ops.size).filter fun j => !listed.getD j true).length ≤ fuel → Framed ops a0 w0 a w →
      (∀ i o d, ops[i]? = some o → listed.getD i true = true → o.dst = some d → F i (a.tmps.getD d undef) w) → wpAny P .any ops Q fuel listed a w := by
    intro fuel
    induction fuel with
    | zero =>
      intro listed a w hsz hl hfr hd
      have hall : ∀ i, i < ops.size → listed.getD i true = true := by
        intro i hi
        cases hc : listed.getD i true with
        | true => rfl
        | false =>
          have : i ∈ (List.range ops.size).filter fun j => !listed.getD j true := List.mem_filter.2 ⟨List.mem_range.2 hi, by rw [hc]; rfl⟩
          have h0 := List.eq_nil_of_length_eq_zero (Nat.le_zero.1 hl)
          rw [h0] at this
          cases this
      refine ⟨?_, hend a w hfr fun i o d ho hdst => hd i o d ho (hall i (Array.getElem?_eq_some_iff.1 ho).1) hdst⟩
      rw [List.eq_nil_iff_forall_not_mem]
      intro i hi
      obtain ⟨h1, o, ho, _⟩ := mem_ready.1 hi
      rw [hall i (Array.getElem?_eq_some_iff.1 ho).1] at h1
      cases h1
    | succ fuel ih =>
      intro listed a w hsz hl hfr hd
      refine ⟨fun hr => ?_, fun i hi => ?_⟩
      · have hall : ∀ i, i < ops.size → listed.getD i true = true := by
          intro i
          induction i using Nat.strongRecOn with
          | _ i hi =>
            intro hlt
            cases hc : listed.getD i true with
            | true => rfl
            | false =>
              have ho : ops[i]? = some ops[i] := Array.getElem?_eq_getElem hlt
              have : i ∈ Region.ready .any ops listed := mem_ready.2 ⟨hc, _, ho, fun e he hb => by
                have hlt' := (ok_spec hok ho).2.1 e he hb
                have h1 := hi e.on hlt' (by omega)
                rw [Array.getD_eq_getD_getElem?] at h1 ⊢
                have : e.on < listed.size := by omega
                simp [this] at h1 ⊢
                exact h1⟩
              rw [hr] at this
              cases this
        exact hend a w hfr fun i o d ho hdst => hd i o d ho (hall i (Array.getElem?_eq_some_iff.1 ho).1) hdst
      · obtain ⟨hun, o, ho, hdep⟩ := mem_ready.1 hi
        have hlt : i < ops.size := (Array.getElem?_eq_some_iff.1 ho).1
        obtain ⟨⟨d, hdst, hdn⟩, hback, _⟩ := ok_spec hok ho
        have hsz' : (listed.setIfInBounds i true).size = ops.size := by simpa using hsz
        have hl' : ((List.range ops.size).filter fun j => !(listed.setIfInBounds i true).getD j true).length ≤ fuel := by
          have := left_lt (n := ops.size) hlt hun
          omega
        -- whatever the operation leaves
        have next : ∀ v w', F i v w' → Below w.heap.size w w' → wpAny P .any ops Q fuel (listed.setIfInBounds i true) (a.put o.dst v) w' := by
          intro v w' hv hb
          refine ih _ _ _ hsz' hl' ⟨?_, ?_, hfr.below.trans (hb.mono hfr.below.size), fun t ht => ?_⟩ fun j oj dj hoj hlj hdj => ?_
          · rw [hdst]; simpa [Act.put] using hfr.size
          · rw [hdst]; exact hfr.defers
          · rw [hdst, put_other (fun e => ht i o ho (by rw [hdst, e]))]
            exact hfr.free t ht
          · by_cases hji : j = i
            · subst hji
              obtain rfl : oj = o := Option.some.inj (hoj.symm.trans ho)
              obtain rfl : dj = d := Option.some.inj (hdj.symm.trans hdst)
              rw [hdst, put_same (by rw [hfr.size]; exact hdn)]
              exact hv
            · have hne := ok_unlike hok ho hoj hji
              rw [hdst, hdj] at hne
              rw [hdst, put_other (fun e => hne (by rw [e]))]
              rw [getD_set_ne true (Ne.symm hji)] at hlj
              exact hF j _ _ _ (hd j oj dj hoj hlj hdj) hb
        have hdeps : ∀ e ∈ o.after, Region.binds .any e = true → ∀ oj dj, ops[e.on]? = some oj → oj.dst = some dj → F e.on (a.tmps.getD dj undef) w := by
          intro e he hb oj dj hoj hdj
          have h1 := hdep e he hb
          have hs : e.on < listed.size := by have := hback e he hb; omega
          refine hd e.on oj dj hoj ?_ hdj
          rw [Array.getD_eq_getD_getElem?] at h1 ⊢
          simp [hs] at h1 ⊢
          exact h1
        unfold wpOp
        simp only [ho]
        rcases hstep i o ho a w hfr hdeps with ⟨hw, hwp⟩ | ⟨hw, hu⟩
        · rw [if_pos hw]
          refine .inl (Oper.wp_mono ?_ hwp)
          rintro a' w' ⟨v, rfl, hv, hb⟩
          exact next v w' hv hb
        · rw [if_neg (by rw [hw]; simp)]
          exact next undef w hu (Below.refl _ _)
  refine wp_region_any hm (main _ _ _ _ (by simp) ?_ ⟨rfl, rfl, ⟨rfl, rfl, rfl, Nat.le_refl _, fun _ _ => rfl⟩, fun _ _ => rfl⟩ ?_)
  · refine Nat.le_trans (List.length_filter_le _ _) ?_
    simp
  · intro i o d ho hl _
    have hlt : i < ops.size := (Array.getElem?_eq_some_iff.1 ho).1
    rw [Array.getD_eq_getD_getElem?] at hl
    simp [hlt] at hl
/-- the steps, one behind the other -/
def Steps (P : Program) (ops : Array Oper) (Q : Exit → Act → World → Prop) (F : Nat → Value → World → Prop) (a0 : Act) (w0 : World) : Nat → List Oper → Prop
  | _, [] => True
  | k, o :: l => Step P ops Q F a0 w0 k o ∧ Steps P ops Q F a0 w0 (k + 1) l
theorem Steps.at {F : Nat → Value → World → Prop} {a0 : Act} {w0 : World} : ∀ {l : List Oper} {k i : Nat} {o : Oper}, Steps P ops Q F a0 w0 k l → l[i]? = some o → Step P ops Q F a0 w0 (k + i) o
  | [], _, _, _, _, h => by simp at h
  | x :: l, k, 0, o, hs, h => by
    simp only [List.getElem?_cons_zero, Option.some.injEq] at h
    subst h
    exact hs.1
  | x :: l, k, i + 1, o, hs, h => by
    have := Steps.at hs.2 (show l[i]? = some o by simpa using h)
    rwa [Nat.add_assoc, Nat.add_comm 1 i] at this
/-- behind the region: whatever the slots hold, by the facts on it -/
def Ends (Q : Exit → Act → World → Prop) (F : Nat → Value → World → Prop) (w0 : World) : Nat → List Oper → Act → (World → Prop) → Prop
  | _, [], a, C => ∀ w, Below w0.heap.size w0 w → C w → Q .normal a w
  | k, o :: l, a, C => ∀ v, Ends Q F w0 (k + 1) l (a.put o.dst v) (fun w => C w ∧ F k v w)
theorem act_ext {a b : Act} (hs : a.tmps.size = b.tmps.size) (hd : a.defers = b.defers) (h : ∀ t, a.tmps.getD t undef = b.tmps.getD t undef) : a = b := by
  obtain ⟨ta, da⟩ := a
  obtain ⟨tb, db⟩ := b
  simp only at hs hd h
  subst hd
  congr 1
  apply Array.ext hs
  intro i h1 h2
  have := h i
  simpa [Array.getD, h1, h2] using this
theorem ends_sound {F : Nat → Value → World → Prop} {w0 : World} {a : Act} {w : World} (hb : Below w0.heap.size w0 w) : ∀ {l : List Oper} {k : Nat} {b : Act} {C : World → Prop}, Ends Q F w0 k l b C → C w →
    (∀ i o d, l[i]? = some o → o.dst = some d → F (k + i) (a.tmps.getD d undef) w) → (∀ o ∈ l, ∃ d, o.dst = some d ∧ d < a.tmps.size) → b.tmps.size = a.tmps.size → b.defers = a.defers →
    (∀ t, (∀ o ∈ l, o.dst ≠ some t) → b.tmps.getD t undef = a.tmps.getD t undef) → Q .normal a w
  | [], k, b, C, he, hC, _, _, hs, hd, ht => by
    obtain rfl : b = a := act_ext hs hd fun t => ht t (fun o ho => by cases ho)
    exact he w hb hC
  | o :: l, k, b, C, he, hC, hF, hr, hs, hd, ht => by
    obtain ⟨d, hdst, hdn⟩ := hr o (by simp)
    have h0 : F k (a.tmps.getD d undef) w := hF 0 o d rfl hdst
    refine ends_sound hb (he (a.tmps.getD d undef)) ⟨hC, h0⟩ (fun i o' d' ho' hd' => ?_) (fun o' ho' => hr o' (by simp [ho'])) ?_ ?_ fun t hnt => ?_
    · have := hF (i + 1) o' d' (by simpa using ho') hd'
      rwa [show k + (i + 1) = k + 1 + i from by omega] at this
    · rw [hdst]; simpa [Act.put] using hs
    · rw [hdst]; exact hd
    · by_cases e : d = t
      · subst e
        rw [hdst, put_same (by rw [hs]; exact hdn)]
      · rw [hdst, put_other e]
        exact ht t fun o' ho' => by
          rcases List.mem_cons.1 ho' with rfl | h
          · rw [hdst]; exact fun h => e (Option.some.inj h)
          · exact hnt o' h
/-- THE LAW, for a region whose operations are written out -/
theorem wp_region_walk {id : Nat} {l : List Oper} {a0 : Act} {w0 : World} (hm : P.follows .mixedOrders = true) (hok : okB l.toArray a0.tmps.size = true) (F : Nat → Value → World → Prop)
    (hF : ∀ i v w w', F i v w → Below w.heap.size w w' → F i v w') (hsteps : Steps P l.toArray Q F a0 w0 0 l) (hend : Ends Q F w0 0 l a0 (fun _ => True)) : (Code.region id l.toArray true).wp P Q a0 w0 := by
  refine wp_region_loose hm hok F hF (fun i o ho => ?_) fun a w hfr hall => ?_
  · have := hsteps.at (i := i) (o := o) (by simpa using ho)
    rwa [Nat.zero_add] at this
  · refine ends_sound hfr.below hend trivial (fun i o d ho hd => ?_) (fun o ho => ?_) hfr.size.symm hfr.defers.symm fun t ht => ?_
    · rw [Nat.zero_add]
      exact hall i o d (by simpa using ho) hd
    · obtain ⟨i, hi, rfl⟩ := List.getElem_of_mem ho
      obtain ⟨d, h1, h2⟩ := (ok_spec hok (i := i) (o := l[i]) (by simp [hi])).1
      exact ⟨d, h1, by rw [hfr.size]; exact h2⟩
    · exact (hfr.free t fun i o ho => ht o (by
        have := List.mem_of_getElem? (show l[i]? = some o by simpa using ho)
        exact this)).symm
/-- a slot that no operation of the region writes -/
def freeB (ops : Array Oper) (t : Nat) : Bool := ops.all fun o => o.dst != some t
theorem Framed.slot {a0 a : Act} {w0 w : World} (h : Framed ops a0 w0 a w) (t : Nat) (ht : freeB ops t = true) : a.tmps.getD t undef = a0.tmps.getD t undef :=
  h.free t fun i o ho e => by
    have := Array.all_eq_true_iff_forall_mem.1 ht o (Array.mem_of_getElem? ho)
    rw [e] at this
    simp at this
/-- an operation that is no call and only computes, reads or makes memory -/
theorem Step.value {F : Nat → Value → World → Prop} {i : Nat} {o : Oper} {a : Act} {w w' : World} {v : Value} (hg : o.guard = none) (hr : (execOp a.eval o).run P w = .ok (.value v) w') (hv : F i v w') (hb : Below w.heap.size w w') :
    (Region.wanted o (yielded ops a.tmps) = true ∧ o.wp P a w (fun a' w' => ∃ v, a' = a.put o.dst v ∧ F i v w' ∧ Below w.heap.size w w') Q) ∨ (Region.wanted o (yielded ops a.tmps) = false ∧ F i undef w) := by
  refine .inl ⟨by simp [Region.wanted, hg], ?_⟩
  unfold Oper.wp
  rw [hr]
  exact ⟨v, rfl, hv, hb⟩
/-- a call, by its contract -/
theorem Step.call {F : Nat → Value → World → Prop} {i : Nat} {o : Oper} {a : Act} {w : World} {f : FuncId} {args : Array Value} (hg : o.guard = none) (hr : (execOp a.eval o).run P w = .ok (.enter f args) w)
    (hc : Calls P f args w fun e w' => ∃ v, e = .returned v ∧ F i v w' ∧ Below w.heap.size w w') :
    (Region.wanted o (yielded ops a.tmps) = true ∧ o.wp P a w (fun a' w' => ∃ v, a' = a.put o.dst v ∧ F i v w' ∧ Below w.heap.size w w') Q) ∨ (Region.wanted o (yielded ops a.tmps) = false ∧ F i undef w) := by
  refine .inl ⟨by simp [Region.wanted, hg], ?_⟩
  unfold Oper.wp
  rw [hr]
  refine Calls.mono hc ?_
  rintro e w' ⟨v, rfl, hv, hb⟩
  exact ⟨v, rfl, hv, hb⟩
/-- the operation waits for number j, which writes slot d -/
def depB (ops : Array Oper) (o : Oper) (j d : Nat) : Bool := o.after.any (fun e => e.on == j && Region.binds .any e) && (ops[j]?).any fun oj => oj.dst == some d
theorem dep_of {F : Nat → Value → World → Prop} {o : Oper} {a : Act} {w : World} (hdep : ∀ e ∈ o.after, Region.binds .any e = true → ∀ oj d, ops[e.on]? = some oj → oj.dst = some d → F e.on (a.tmps.getD d undef) w)
    (j d : Nat) (h : depB ops o j d = true) : F j (a.tmps.getD d undef) w := by
  unfold depB at h
  rw [Bool.and_eq_true] at h
  obtain ⟨h1, h2⟩ := h
  rw [Array.any_eq_true] at h1
  obtain ⟨i, hi, h1⟩ := h1
  rw [Bool.and_eq_true, beq_iff_eq] at h1
  obtain ⟨rfl, hb⟩ := h1
  cases hj : ops[o.after[i].on]? with
  | none => rw [hj] at h2; cases h2
  | some oj =>
    rw [hj] at h2
    simp only [Option.any_some, beq_iff_eq] at h2
    exact hdep _ (Array.getElem_mem hi) hb oj d hj h2
/-- a guard whose slot says yes -/
theorem wanted_of {o : Oper} {a : Act} {j d : Nat} {b : Bool} (hg : o.guard = some (j, b)) (hj : (ops[j]?).bind (·.dst) = some d) (hv : a.tmps.getD d undef = .bool b) : Region.wanted o (yielded ops a.tmps) = true := by
  have hs : a.tmps[d]? = some (.bool b) := by
    rw [Array.getD_eq_getD_getElem?] at hv
    cases h : a.tmps[d]? with
    | none => rw [h] at hv; simp [undef] at hv
    | some x => rw [h] at hv; simp at hv; rw [hv]
  unfold Region.wanted
  rw [hg]
  simp [yielded, hj, hs]
theorem Step.valueG {F : Nat → Value → World → Prop} {i : Nat} {o : Oper} {a : Act} {w w' : World} {v : Value} (hg : Region.wanted o (yielded ops a.tmps) = true) (hr : (execOp a.eval o).run P w = .ok (.value v) w') (hv : F i v w') (hb : Below w.heap.size w w') :
    (Region.wanted o (yielded ops a.tmps) = true ∧ o.wp P a w (fun a' w' => ∃ v, a' = a.put o.dst v ∧ F i v w' ∧ Below w.heap.size w w') Q) ∨ (Region.wanted o (yielded ops a.tmps) = false ∧ F i undef w) := by
  refine .inl ⟨hg, ?_⟩
  unfold Oper.wp
  rw [hr]
  exact ⟨v, rfl, hv, hb⟩
theorem Step.callG {F : Nat → Value → World → Prop} {i : Nat} {o : Oper} {a : Act} {w : World} {f : FuncId} {args : Array Value} (hg : Region.wanted o (yielded ops a.tmps) = true) (hr : (execOp a.eval o).run P w = .ok (.enter f args) w)
    (hc : Calls P f args w fun e w' => ∃ v, e = .returned v ∧ F i v w' ∧ Below w.heap.size w w') :
    (Region.wanted o (yielded ops a.tmps) = true ∧ o.wp P a w (fun a' w' => ∃ v, a' = a.put o.dst v ∧ F i v w' ∧ Below w.heap.size w w') Q) ∨ (Region.wanted o (yielded ops a.tmps) = false ∧ F i undef w) := by
  refine .inl ⟨hg, ?_⟩
  unfold Oper.wp
  rw [hr]
  refine Calls.mono hc ?_
  rintro e w' ⟨v, rfl, hv, hb⟩
  exact ⟨v, rfl, hv, hb⟩
end Loose
end Go.Proofs.YtpllcnpmjnmcfaaDoor
