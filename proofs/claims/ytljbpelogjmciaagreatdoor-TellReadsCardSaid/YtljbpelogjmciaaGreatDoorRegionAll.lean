/-
 A region that draws its order, whose operations leave the memory that was there as it was (they read, compute, make memory, call what makes memory): what each operation leaves in its slot is told by a fact that stays true while memory only grows; each operation is met once, by the facts of those that it waits for, and the facts of all hold behind the region, whatever the order. Conditions: each operation writes a slot of its own, and waits for earlier ones alone. And what follows of it, part by part, each with its conditions.
-/
import Derived.Orders
import Derived.Below
import Derived.WalkKit
namespace Go.Proofs.YtljbpelogjmciaaGreatDoor
open Go.RowKit
namespace Loose
variable {P : Program} {ops : Array Oper} {Q : Exit → Act → World → Prop}
def okB (ops : Array Oper) (n : Nat) : Bool :=
 (List.range ops.size).all fun i => (ops[i]?).all fun o =>
  (o.dst.any fun d => decide (d < n)) && o.after.all (fun e => !Region.binds .any e || decide (e.on < i)) && (List.range i).all fun j => (ops[j]?).all fun oj => oj.dst != o.dst
theorem ok_spec {n i : Nat} {o : Oper} (h : okB ops n = true) (ho : ops[i]? = some o) :
 (∃ d, o.dst = some d ∧ d < n) ∧ (∀ e ∈ o.after, Region.binds .any e = true → e.on < i) ∧ ∀ j oj, j < i → ops[j]? = some oj → oj.dst ≠ o.dst := by
 have hlt : i < ops.size := (Array.getElem?_eq_some_iff.1 ho).1
 have h1 := List.all_eq_true.1 h i (List.mem_range.2 hlt)
 rw [ho] at h1
 simp only [Option.all_some, Bool.and_eq_true] at h1
 obtain ⟨⟨ha, hb⟩, hc⟩ := h1
 refine ⟨?_, fun e he hbd => ?_, fun j oj hj hoj => ?_⟩
 · cases hd : o.dst with
   | none => rw [hd] at ha; cases ha
   | some d => rw [hd] at ha; exact ⟨d, rfl, by simpa using ha⟩
 · have := Array.all_eq_true_iff_forall_mem.1 hb e he
   rw [hbd] at this
   simpa using this
 · have := List.all_eq_true.1 hc j (List.mem_range.2 hj)
   rw [hoj] at this
   simpa using this
theorem ok_unlike {n i j : Nat} {o oj : Oper} (h : okB ops n = true) (ho : ops[i]? = some o) (hoj : ops[j]? = some oj) (hne : j ≠ i) : oj.dst ≠ o.dst := by
 rcases Nat.lt_or_gt_of_ne hne with hl | hl
 · exact (ok_spec h ho).2.2 j oj hl hoj
 · exact fun e => (ok_spec h hoj).2.2 i o hl ho e.symm
structure Framed (ops : Array Oper) (a0 : Act) (w0 : World) (a : Act) (w : World) : Prop where
 size : a.tmps.size = a0.tmps.size
 defers : a.defers = a0.defers
 below : Below w0.heap.size w0 w
 free : ∀ t, (∀ (i : Nat) (o : Oper), ops[i]? = some o → o.dst ≠ some t) → a.tmps.getD t undef = a0.tmps.getD t undef
def Step (P : Program) (ops : Array Oper) (Q : Exit → Act → World → Prop) (F : Nat → Value → World → Prop) (a0 : Act) (w0 : World) (i : Nat) (o : Oper) : Prop :=
 ∀ a w, Framed ops a0 w0 a w → (∀ e ∈ o.after, Region.binds .any e = true → ∀ oj d, ops[e.on]? = some oj → oj.dst = some d → F e.on (a.tmps.getD d undef) w) →
  (Region.wanted o (yielded ops a.tmps) = true ∧ o.wp P a w (fun a' w' => ∃ v, a' = a.put o.dst v ∧ F i v w' ∧ Below w.heap.size w w') Q) ∨ (Region.wanted o (yielded ops a.tmps) = false ∧ F i undef w)
theorem put_same {a : Act} {d : Nat} {v : Value} (h : d < a.tmps.size) : (a.put (some d) v).tmps.getD d undef = v := by
 simp [Act.put, Array.getD, h]
theorem put_other {a : Act} {d t : Nat} {v : Value} (h : d ≠ t) : (a.put (some d) v).tmps.getD t undef = a.tmps.getD t undef := by
 simp [Act.put, Array.getD_eq_getD_getElem?, Array.getElem?_setIfInBounds_ne h]
theorem left_lt {n : Nat} {listed : Array Bool} {i : Nat} (hi : i < n) (h : listed.getD i true = false) :
 ((List.range n).filter fun j => !(listed.setIfInBounds i true).getD j true).length < ((List.range n).filter fun j => !listed.getD j true).length := by
 have e : ((List.range n).filter fun j => !(listed.setIfInBounds i true).getD j true) = ((List.range n).filter fun j => !listed.getD j true).filter fun j => !(listed.setIfInBounds i true).getD j true := by
  rw [List.filter_filter]
  congr 1
  funext j
  by_cases hj : i = j
  · subst hj
    have hs : i < listed.size := by
     rcases Nat.lt_or_ge i listed.size with hl | hl
     · exact hl
     · rw [Array.getD_eq_getD_getElem?, Array.getElem?_eq_none hl] at h; cases h
    simp [Array.getD_eq_getD_getElem?, hs]
  · rw [getD_set_ne true hj]; simp
 rw [e, List.length_filter_lt_length_iff_exists]
 refine ⟨i, List.mem_filter.2 ⟨List.mem_range.2 hi, by rw [h]; rfl⟩, ?_⟩
 have hs : i < listed.size := by
  rcases Nat.lt_or_ge i listed.size with hl | hl
  · exact hl
  · rw [Array.getD_eq_getD_getElem?, Array.getElem?_eq_none hl] at h; cases h
 simp [Array.getD_eq_getD_getElem?, hs]
theorem wp_region_loose {id : Nat} {a0 : Act} {w0 : World} (hm : P.follows .mixedOrders = true) (hok : okB ops a0.tmps.size = true) (F : Nat → Value → World → Prop)
 (hF : ∀ i v w w', F i v w → Below w.heap.size w w' → F i v w') (hstep : ∀ i o, ops[i]? = some o → Step P ops Q F a0 w0 i o)
 (hend : ∀ a w, Framed ops a0 w0 a w → (∀ i o d, ops[i]? = some o → o.dst = some d → F i (a.tmps.getD d undef) w) → Q .normal a w) : (Code.region id ops true).wp P Q a0 w0 := by
 have main : ∀ (fuel : Nat) (listed : Array Bool) (a : Act) (w : World), listed.size = ops.size → ((List.range ops.size).filter fun j => !listed.getD j true).length ≤ fuel → Framed ops a0 w0 a w →
  (∀ i o d, ops[i]? = some o → listed.getD i true = true → o.dst = some d → F i (a.tmps.getD d undef) w) → wpAny P .any ops Q fuel listed a w := by
  intro fuel
  induction fuel with
  | zero =>
   intro listed a w hsz hl hfr hd
   have hall : ∀ i, i < ops.size → listed.getD i true = true := by
    intro i hi
    cases hc : listed.getD i true with
    | true => rfl
    | false =>
     have : i ∈ (List.range ops.size).filter fun j => !listed.getD j true := List.mem_filter.2 ⟨List.mem_range.2 hi, by rw [hc]; rfl⟩
     have h0 := List.eq_nil_of_length_eq_zero (Nat.le_zero.1 hl)
     rw [h0] at this
     cases this
   refine ⟨?_, hend a w hfr fun i o d ho hdst => hd i o d ho (hall i (Array.getElem?_eq_some_iff.1 ho).1) hdst⟩
   rw [List.eq_nil_iff_forall_not_mem]
   intro i hi
   obtain ⟨h1, o, ho, _⟩ := mem_ready.1 hi
   rw [hall i (Array.getElem?_eq_some_iff.1 ho).1] at h1
   cases h1
  | succ fuel ih =>
   intro listed a w hsz hl hfr hd
   refine ⟨fun hr => ?_, fun i hi => ?_⟩
   · have hall : ∀ i, i < ops.size → listed.getD i true = true := by
      intro i
      induction i using Nat.strongRecOn with
      | _ i hi =>
       intro hlt
       cases hc : listed.getD i true with
       | true => rfl
       | false =>
        have ho : ops[i]? = some ops[i] := Array.getElem?_eq_getElem hlt
        have : i ∈ Region.ready .any ops listed := mem_ready.2 ⟨hc, _, ho, fun e he hb => by
         have hlt' := (ok_spec hok ho).2.1 e he hb
         have h1 := hi e.on hlt' (by omega)
         rw [Array.getD_eq_getD_getElem?] at h1 ⊢
         have : e.on < listed.size := by omega
         simp [this] at h1 ⊢
         exact h1⟩
        rw [hr] at this
        cases this
     exact hend a w hfr fun i o d ho hdst => hd i o d ho (hall i (Array.getElem?_eq_some_iff.1 ho).1) hdst
   · obtain ⟨hun, o, ho, hdep⟩ := mem_ready.1 hi
     have hlt : i < ops.size := (Array.getElem?_eq_some_iff.1 ho).1
     obtain ⟨⟨d, hdst, hdn⟩, hback, _⟩ := ok_spec hok ho
     have hsz' : (listed.setIfInBounds i true).size = ops.size := by simpa using hsz
     have hl' : ((List.range ops.size).filter fun j => !(listed.setIfInBounds i true).getD j true).length ≤ fuel := by
      have := left_lt (n := ops.size) hlt hun
      omega
     -- whatever the operation leaves
     have next : ∀ v w', F i v w' → Below w.heap.size w w' → wpAny P .any ops Q fuel (listed.setIfInBounds i true) (a.put o.dst v) w' := by
      intro v w' hv hb
      refine ih _ _ _ hsz' hl' ⟨?_, ?_, hfr.below.trans (hb.mono hfr.below.size), fun t ht => ?_⟩ fun j oj dj hoj hlj hdj => ?_
      · rw [hdst]; simpa [Act.put] using hfr.size
      · rw [hdst]; exact hfr.defers
      · rw [hdst, put_other (fun e => ht i o ho (by rw [hdst, e]))]
        exact hfr.free t ht
      · by_cases hji : j = i
        · subst hji
          obtain rfl : oj = o := Option.some.inj (hoj.symm.trans ho); obtain rfl : dj = d := Option.some.inj (hdj.symm.trans hdst); rw [hdst, put_same (by rw [hfr.size]; exact hdn)]
          exact hv
        · have hne := ok_unlike hok ho hoj hji
          rw [hdst, hdj] at hne
          rw [hdst, put_other (fun e => hne (by rw [e]))]
          rw [getD_set_ne true (Ne.symm hji)] at hlj
          exact hF j _ _ _ (hd j oj dj hoj hlj hdj) hb
     have hdeps : ∀ e ∈ o.after, Region.binds .any e = true → ∀ oj dj, ops[e.on]? = some oj → oj.dst = some dj → F e.on (a.tmps.getD dj undef) w := by
      intro e he hb oj dj hoj hdj
      have h1 := hdep e he hb
      have hs : e.on < listed.size := by have := hback e he hb; omega
      refine hd e.on oj dj hoj ?_ hdj
      rw [Array.getD_eq_getD_getElem?] at h1 ⊢
      simp [hs] at h1 ⊢
      exact h1
     unfold wpOp
     simp only [ho]
     rcases hstep i o ho a w hfr hdeps with ⟨hw, hwp⟩ | ⟨hw, hu⟩
     · rw [if_pos hw]
       refine .inl (Oper.wp_mono ?_ hwp)
       rintro a' w' ⟨v, rfl, hv, hb⟩
       exact next v w' hv hb
     · rw [if_neg (by rw [hw]; simp)]
       exact next undef w hu (Below.refl _ _)
 refine wp_region_any hm (main _ _ _ _ (by simp) ?_ ⟨rfl, rfl, ⟨rfl, rfl, rfl, Nat.le_refl _, fun _ _ => rfl⟩, fun _ _ => rfl⟩ ?_)
 · refine Nat.le_trans (List.length_filter_le _ _) ?_
   simp
 · intro i o d ho hl _
   have hlt : i < ops.size := (Array.getElem?_eq_some_iff.1 ho).1
   rw [Array.getD_eq_getD_getElem?] at hl
   simp [hlt] at hl
def Steps (P : Program) (ops : Array Oper) (Q : Exit → Act → World → Prop) (F : Nat → Value → World → Prop) (a0 : Act) (w0 : World) : Nat → List Oper → Prop
 | _, [] => True
 | k, o :: l => Step P ops Q F a0 w0 k o ∧ Steps P ops Q F a0 w0 (k + 1) l
theorem Steps.at {F : Nat → Value → World → Prop} {a0 : Act} {w0 : World} : ∀ {l : List Oper} {k i : Nat} {o : Oper}, Steps P ops Q F a0 w0 k l → l[i]? = some o → Step P ops Q F a0 w0 (k + i) o
 | [], _, _, _, _, h => by simp at h
 | x :: l, k, 0, o, hs, h => by
  simp only [List.getElem?_cons_zero, Option.some.injEq] at h
  subst h
  exact hs.1
 | x :: l, k, i + 1, o, hs, h => by
  have := Steps.at hs.2 (show l[i]? = some o by simpa using h)
  rwa [Nat.add_assoc, Nat.add_comm 1 i] at this
def Ends (Q : Exit → Act → World → Prop) (F : Nat → Value → World → Prop) (w0 : World) : Nat → List Oper → Act → (World → Prop) → Prop
 | _, [], a, C => ∀ w, Below w0.heap.size w0 w → C w → Q .normal a w
 | k, o :: l, a, C => ∀ v, Ends Q F w0 (k + 1) l (a.put o.dst v) (fun w => C w ∧ F k v w)
theorem act_ext {a b : Act} (hs : a.tmps.size = b.tmps.size) (hd : a.defers = b.defers) (h : ∀ t, a.tmps.getD t undef = b.tmps.getD t undef) : a = b := by
 obtain ⟨ta, da⟩ := a
 obtain ⟨tb, db⟩ := b
 simp only at hs hd h
 subst hd
 congr 1
 apply Array.ext hs
 intro i h1 h2
 have := h i
 simpa [Array.getD, h1, h2] using this
theorem ends_sound {F : Nat → Value → World → Prop} {w0 : World} {a : Act} {w : World} (hb : Below w0.heap.size w0 w) : ∀ {l : List Oper} {k : Nat} {b : Act} {C : World → Prop}, Ends Q F w0 k l b C → C w →
 (∀ i o d, l[i]? = some o → o.dst = some d → F (k + i) (a.tmps.getD d undef) w) → (∀ o ∈ l, ∃ d, o.dst = some d ∧ d < a.tmps.size) → b.tmps.size = a.tmps.size → b.defers = a.defers →
 (∀ t, (∀ o ∈ l, o.dst ≠ some t) → b.tmps.getD t undef = a.tmps.getD t undef) → Q .normal a w
 | [], k, b, C, he, hC, _, _, hs, hd, ht => by
  obtain rfl : b = a := act_ext hs hd fun t => ht t (fun o ho => by cases ho)
  exact he w hb hC
 | o :: l, k, b, C, he, hC, hF, hr, hs, hd, ht => by
  obtain ⟨d, hdst, hdn⟩ := hr o (by simp)
  have h0 : F k (a.tmps.getD d undef) w := hF 0 o d rfl hdst
  refine ends_sound hb (he (a.tmps.getD d undef)) ⟨hC, h0⟩ (fun i o' d' ho' hd' => ?_) (fun o' ho' => hr o' (by simp [ho'])) ?_ ?_ fun t hnt => ?_
  · have := hF (i + 1) o' d' (by simpa using ho') hd'
    rwa [show k + (i + 1) = k + 1 + i from by omega] at this
  · rw [hdst]; simpa [Act.put] using hs
  · rw [hdst]; exact hd
  · by_cases e : d = t
    · subst e
      rw [hdst, put_same (by rw [hs]; exact hdn)]
    · rw [hdst, put_other e]
      exact ht t fun o' ho' => by
       rcases List.mem_cons.1 ho' with rfl | h
       · rw [hdst]; exact fun h => e (Option.some.inj h)
       · exact hnt o' h
theorem wp_region_walk {id : Nat} {l : List Oper} {a0 : Act} {w0 : World} (hm : P.follows .mixedOrders = true) (hok : okB l.toArray a0.tmps.size = true) (F : Nat → Value → World → Prop)
 (hF : ∀ i v w w', F i v w → Below w.heap.size w w' → F i v w') (hsteps : Steps P l.toArray Q F a0 w0 0 l) (hend : Ends Q F w0 0 l a0 (fun _ => True)) : (Code.region id l.toArray true).wp P Q a0 w0 := by
 refine wp_region_loose hm hok F hF (fun i o ho => ?_) fun a w hfr hall => ?_
 · have := hsteps.at (i := i) (o := o) (by simpa using ho)
   rwa [Nat.zero_add] at this
 · refine ends_sound hfr.below hend trivial (fun i o d ho hd => ?_) (fun o ho => ?_) hfr.size.symm hfr.defers.symm fun t ht => ?_
   · rw [Nat.zero_add]
     exact hall i o d (by simpa using ho) hd
   · obtain ⟨i, hi, rfl⟩ := List.getElem_of_mem ho
     obtain ⟨d, h1, h2⟩ := (ok_spec hok (i := i) (o := l[i]) (by simp [hi])).1
     exact ⟨d, h1, by rw [hfr.size]; exact h2⟩
   · exact (hfr.free t fun i o ho => ht o (by
      have := List.mem_of_getElem? (show l[i]? = some o by simpa using ho)
      exact this)).symm
def freeB (ops : Array Oper) (t : Nat) : Bool := ops.all fun o => o.dst != some t
theorem Framed.slot {a0 a : Act} {w0 w : World} (h : Framed ops a0 w0 a w) (t : Nat) (ht : freeB ops t = true) : a.tmps.getD t undef = a0.tmps.getD t undef :=
 h.free t fun i o ho e => by
  have := Array.all_eq_true_iff_forall_mem.1 ht o (Array.mem_of_getElem? ho)
  rw [e] at this
  simp at this
theorem Step.value {F : Nat → Value → World → Prop} {i : Nat} {o : Oper} {a : Act} {w w' : World} {v : Value} (hg : o.guard = none) (hr : (execOp a.eval o).run P w = .ok (.value v) w') (hv : F i v w') (hb : Below w.heap.size w w') :
 (Region.wanted o (yielded ops a.tmps) = true ∧ o.wp P a w (fun a' w' => ∃ v, a' = a.put o.dst v ∧ F i v w' ∧ Below w.heap.size w w') Q) ∨ (Region.wanted o (yielded ops a.tmps) = false ∧ F i undef w) := by
 refine .inl ⟨by simp [Region.wanted, hg], ?_⟩
 unfold Oper.wp
 rw [hr]
 exact ⟨v, rfl, hv, hb⟩
theorem Step.call {F : Nat → Value → World → Prop} {i : Nat} {o : Oper} {a : Act} {w : World} {f : FuncId} {args : Array Value} (hg : o.guard = none) (hr : (execOp a.eval o).run P w = .ok (.enter f args) w)
 (hc : Calls P f args w fun e w' => ∃ v, e = .returned v ∧ F i v w' ∧ Below w.heap.size w w') :
 (Region.wanted o (yielded ops a.tmps) = true ∧ o.wp P a w (fun a' w' => ∃ v, a' = a.put o.dst v ∧ F i v w' ∧ Below w.heap.size w w') Q) ∨ (Region.wanted o (yielded ops a.tmps) = false ∧ F i undef w) := by
 refine .inl ⟨by simp [Region.wanted, hg], ?_⟩
 unfold Oper.wp
 rw [hr]
 refine Calls.mono hc ?_
 rintro e w' ⟨v, rfl, hv, hb⟩
 exact ⟨v, rfl, hv, hb⟩
def depB (ops : Array Oper) (o : Oper) (j d : Nat) : Bool := o.after.any (fun e => e.on == j && Region.binds .any e) && (ops[j]?).any fun oj => oj.dst == some d
theorem dep_of {F : Nat → Value → World → Prop} {o : Oper} {a : Act} {w : World} (hdep : ∀ e ∈ o.after, Region.binds .any e = true → ∀ oj d, ops[e.on]? = some oj → oj.dst = some d → F e.on (a.tmps.getD d undef) w)
 (j d : Nat) (h : depB ops o j d = true) : F j (a.tmps.getD d undef) w := by
 unfold depB at h
 rw [Bool.and_eq_true] at h
 obtain ⟨h1, h2⟩ := h
 rw [Array.any_eq_true] at h1
 obtain ⟨i, hi, h1⟩ := h1
 rw [Bool.and_eq_true, beq_iff_eq] at h1
 obtain ⟨rfl, hb⟩ := h1
 cases hj : ops[o.after[i].on]? with
 | none => rw [hj] at h2; cases h2
 | some oj =>
  rw [hj] at h2
  simp only [Option.any_some, beq_iff_eq] at h2
  exact hdep _ (Array.getElem_mem hi) hb oj d hj h2
theorem wanted_of {o : Oper} {a : Act} {j d : Nat} {b : Bool} (hg : o.guard = some (j, b)) (hj : (ops[j]?).bind (·.dst) = some d) (hv : a.tmps.getD d undef = .bool b) : Region.wanted o (yielded ops a.tmps) = true := by
 have hs : a.tmps[d]? = some (.bool b) := by
  rw [Array.getD_eq_getD_getElem?] at hv
  cases h : a.tmps[d]? with
  | none => rw [h] at hv; simp [undef] at hv
  | some x => rw [h] at hv; simp at hv; rw [hv]
 unfold Region.wanted
 rw [hg]
 simp [yielded, hj, hs]
theorem Step.valueG {F : Nat → Value → World → Prop} {i : Nat} {o : Oper} {a : Act} {w w' : World} {v : Value} (hg : Region.wanted o (yielded ops a.tmps) = true) (hr : (execOp a.eval o).run P w = .ok (.value v) w') (hv : F i v w') (hb : Below w.heap.size w w') :
 (Region.wanted o (yielded ops a.tmps) = true ∧ o.wp P a w (fun a' w' => ∃ v, a' = a.put o.dst v ∧ F i v w' ∧ Below w.heap.size w w') Q) ∨ (Region.wanted o (yielded ops a.tmps) = false ∧ F i undef w) := by
 refine .inl ⟨hg, ?_⟩
 unfold Oper.wp
 rw [hr]
 exact ⟨v, rfl, hv, hb⟩
theorem Step.callG {F : Nat → Value → World → Prop} {i : Nat} {o : Oper} {a : Act} {w : World} {f : FuncId} {args : Array Value} (hg : Region.wanted o (yielded ops a.tmps) = true) (hr : (execOp a.eval o).run P w = .ok (.enter f args) w)
 (hc : Calls P f args w fun e w' => ∃ v, e = .returned v ∧ F i v w' ∧ Below w.heap.size w w') :
 (Region.wanted o (yielded ops a.tmps) = true ∧ o.wp P a w (fun a' w' => ∃ v, a' = a.put o.dst v ∧ F i v w' ∧ Below w.heap.size w w') Q) ∨ (Region.wanted o (yielded ops a.tmps) = false ∧ F i undef w) := by
 refine .inl ⟨hg, ?_⟩
 unfold Oper.wp
 rw [hr]
 refine Calls.mono hc ?_
 rintro e w' ⟨v, rfl, hv, hb⟩
 exact ⟨v, rfl, hv, hb⟩
end Loose
end Go.Proofs.YtljbpelogjmciaaGreatDoor
namespace Go.Proofs.YtljbpelogjmciaaGreatDoor
open Go.RowKit
namespace Line
open Loose
variable {P : Program} {ops : Array Oper} {Q : Exit → Act → World → Prop}
structure Plan where
 A : World → World → Prop
 refl : ∀ w, A w w
 trans : ∀ {a b c}, A a b → A b c → A a c
 below : ∀ {w w'}, Below w.heap.size w w' → A w w'
 cs : List Nat
 G : Nat → World → Prop
 F : Nat → Value → World → Prop
 keepG : ∀ j w w', G j w → Below w.heap.size w w' → G j w'
 keepF : ∀ i v w w', F i v w → A w w' → F i v w'
def lineB (ops : Array Oper) : List Nat → Bool
 | [] => true
 | [_] => true
 | c :: d :: l => decide (c < d) && (ops[d]?).any (fun o => o.after.any fun e => e.on == c && Region.binds .any e) && lineB ops (d :: l)
theorem line_next : ∀ {cs : List Nat} {k : Nat} {c d : Nat} {o : Oper}, lineB ops cs = true → cs[k]? = some c → cs[k + 1]? = some d → ops[d]? = some o → c < d ∧ ∃ e ∈ o.after, e.on = c ∧ Region.binds .any e = true
 | [], _, _, _, _, _, h, _, _ => by simp at h
 | [_], 0, _, _, _, _, _, h, _ => by simp at h
 | [_], _ + 1, _, _, _, _, h, _, _ => by simp at h
 | x :: y :: l, 0, c, d, o, h, h1, h2, ho => by
  simp only [List.getElem?_cons_zero, Option.some.injEq, List.getElem?_cons_succ] at h1 h2
  subst h1 h2
  simp only [lineB, ho, Option.any_some, Bool.and_eq_true, decide_eq_true_eq] at h
  obtain ⟨⟨hl, h3⟩, _⟩ := h
  rw [Array.any_eq_true] at h3
  obtain ⟨i, hi, h3⟩ := h3
  rw [Bool.and_eq_true, beq_iff_eq] at h3
  exact ⟨hl, _, Array.getElem_mem hi, h3.1, h3.2⟩
 | x :: y :: l, k + 1, c, d, o, h, h1, h2, ho => by
  simp only [lineB, Bool.and_eq_true] at h
  exact line_next (cs := y :: l) (k := k) h.2 (by simpa using h1) (by simpa using h2) ho
theorem line_lt : ∀ {cs : List Nat} {k m : Nat} {c d : Nat}, lineB ops cs = true → cs[k]? = some c → cs[m]? = some d → k < m → c < d
 | [], _, _, _, _, _, h, _, _ => by simp at h
 | x :: l, k, 0, _, _, _, _, _, h => by omega
 | [_], _, m + 1, _, _, _, _, h, _ => by simp at h
 | x :: y :: l, 0, m + 1, c, d, h, h1, h2, _ => by
  simp only [List.getElem?_cons_zero, Option.some.injEq] at h1
  subst h1
  simp only [lineB, Bool.and_eq_true, decide_eq_true_eq] at h
  rcases m with _ | m
  · simp only [List.getElem?_cons_succ, List.getElem?_cons_zero, Option.some.injEq] at h2
    rw [← h2]; exact h.1.1
  · have := line_lt (cs := y :: l) (k := 0) (m := m + 1) (c := y) (d := d) h.2 rfl (by simpa using h2) (by omega)
    have := h.1.1
    omega
 | x :: y :: l, k + 1, m + 1, c, d, h, h1, h2, hk => by
  simp only [lineB, Bool.and_eq_true] at h
  exact line_lt (cs := y :: l) (k := k) (m := m) h.2 (by simpa using h1) (by simpa using h2) (by omega)
structure Framed (p : Plan) (ops : Array Oper) (a0 : Act) (w0 : World) (a : Act) (w : World) : Prop where
 size : a.tmps.size = a0.tmps.size
 defers : a.defers = a0.defers
 kept : p.A w0 w
 free : ∀ t, (∀ (i : Nat) (o : Oper), ops[i]? = some o → o.dst ≠ some t) → a.tmps.getD t undef = a0.tmps.getD t undef
def Leaves (p : Plan) (i : Nat) (w w' : World) : Prop := (i ∉ p.cs ∧ Below w.heap.size w w') ∨ ∃ j, p.cs[j]? = some i ∧ p.A w w' ∧ p.G (j + 1) w'
def Step (p : Plan) (P : Program) (ops : Array Oper) (Q : Exit → Act → World → Prop) (a0 : Act) (w0 : World) (i : Nat) (o : Oper) : Prop :=
 ∀ a w, Framed p ops a0 w0 a w → (∀ e ∈ o.after, Region.binds .any e = true → ∀ oj d, ops[e.on]? = some oj → oj.dst = some d → p.F e.on (a.tmps.getD d undef) w) → (∀ j, p.cs[j]? = some i → p.G j w) →
  (Region.wanted o (yielded ops a.tmps) = true ∧ o.wp P a w (fun a' w' => ∃ v, a' = a.put o.dst v ∧ p.F i v w' ∧ Leaves p i w w') Q) ∨ (Region.wanted o (yielded ops a.tmps) = false ∧ p.F i undef w ∧ Leaves p i w w)
theorem wp_region_line {id : Nat} {a0 : Act} {w0 : World} (hm : P.follows .mixedOrders = true) (hok : okB ops a0.tmps.size = true) (p : Plan) (hline : lineB ops p.cs = true) (h0 : p.G 0 w0)
 (hstep : ∀ i o, ops[i]? = some o → Step p P ops Q a0 w0 i o) (hcs : ∀ i ∈ p.cs, i < ops.size)
 (hend : ∀ a w, Framed p ops a0 w0 a w → (∀ i o d, ops[i]? = some o → o.dst = some d → p.F i (a.tmps.getD d undef) w) → p.G p.cs.length w → Q .normal a w) : (Code.region id ops true).wp P Q a0 w0 := by
 have main : ∀ (fuel : Nat) (listed : Array Bool) (a : Act) (w : World), listed.size = ops.size → ((List.range ops.size).filter fun j => !listed.getD j true).length ≤ fuel → Framed p ops a0 w0 a w →
  (∃ j, j ≤ p.cs.length ∧ p.G j w ∧ (∀ k c, k < j → p.cs[k]? = some c → listed.getD c true = true) ∧ (∀ k c, j ≤ k → p.cs[k]? = some c → listed.getD c true = false)) →
  (∀ i o d, ops[i]? = some o → listed.getD i true = true → o.dst = some d → p.F i (a.tmps.getD d undef) w) → wpAny P .any ops Q fuel listed a w := by
  have last : ∀ (listed : Array Bool) (a : Act) (w : World), (∀ i, i < ops.size → listed.getD i true = true) → Framed p ops a0 w0 a w →
   (∃ j, j ≤ p.cs.length ∧ p.G j w ∧ (∀ k c, k < j → p.cs[k]? = some c → listed.getD c true = true) ∧ (∀ k c, j ≤ k → p.cs[k]? = some c → listed.getD c true = false)) →
   (∀ i o d, ops[i]? = some o → listed.getD i true = true → o.dst = some d → p.F i (a.tmps.getD d undef) w) → Q .normal a w := by
   rintro listed a w hall hfr ⟨j, hj, hG, _, hun⟩ hd
   refine hend a w hfr (fun i o d ho hdst => hd i o d ho (hall i (Array.getElem?_eq_some_iff.1 ho).1) hdst) ?_
   rcases Nat.lt_or_ge j p.cs.length with hl | hl
   · have h1 := hun j _ (Nat.le_refl _) (List.getElem?_eq_getElem hl)
     rw [hall _ (hcs _ (List.getElem_mem hl))] at h1
     cases h1
   · obtain rfl : j = p.cs.length := by omega
     exact hG
  intro fuel
  induction fuel with
  | zero =>
   intro listed a w hsz hl hfr hJ hd
   have hall : ∀ i, i < ops.size → listed.getD i true = true := by
    intro i hi
    cases hc : listed.getD i true with
    | true => rfl
    | false =>
     have : i ∈ (List.range ops.size).filter fun j => !listed.getD j true := List.mem_filter.2 ⟨List.mem_range.2 hi, by rw [hc]; rfl⟩
     have h0 := List.eq_nil_of_length_eq_zero (Nat.le_zero.1 hl)
     rw [h0] at this
     cases this
   refine ⟨?_, last listed a w hall hfr hJ hd⟩
   rw [List.eq_nil_iff_forall_not_mem]
   intro i hi
   obtain ⟨h1, o, ho, _⟩ := mem_ready.1 hi
   rw [hall i (Array.getElem?_eq_some_iff.1 ho).1] at h1
   cases h1
  | succ fuel ih =>
   intro listed a w hsz hl hfr hJ hd
   refine ⟨fun hr => ?_, fun i hi => ?_⟩
   · have hall : ∀ i, i < ops.size → listed.getD i true = true := by
      intro i
      induction i using Nat.strongRecOn with
      | _ i hi =>
       intro hlt
       cases hc : listed.getD i true with
       | true => rfl
       | false =>
        have ho : ops[i]? = some ops[i] := Array.getElem?_eq_getElem hlt
        have : i ∈ Region.ready .any ops listed := mem_ready.2 ⟨hc, _, ho, fun e he hb => by
         have hlt' := (ok_spec hok ho).2.1 e he hb
         have h1 := hi e.on hlt' (by omega)
         rw [Array.getD_eq_getD_getElem?] at h1 ⊢
         have : e.on < listed.size := by omega
         simp [this] at h1 ⊢
         exact h1⟩
        rw [hr] at this
        cases this
     exact last listed a w hall hfr hJ hd
   · obtain ⟨hun, o, ho, hdep⟩ := mem_ready.1 hi
     have hlt : i < ops.size := (Array.getElem?_eq_some_iff.1 ho).1
     obtain ⟨⟨d, hdst, hdn⟩, hback, _⟩ := ok_spec hok ho
     have hsz' : (listed.setIfInBounds i true).size = ops.size := by simpa using hsz
     have hl' : ((List.range ops.size).filter fun j => !(listed.setIfInBounds i true).getD j true).length ≤ fuel := by
      have := left_lt (n := ops.size) hlt hun
      omega
     have hset : (listed.setIfInBounds i true).getD i true = true := by
      have : i < listed.size := by omega
      simp [Array.getD_eq_getD_getElem?, this]
     have hdl : ∀ e ∈ o.after, Region.binds .any e = true → listed.getD e.on true = true := by
      intro e he hb
      have h1 := hdep e he hb
      have hs : e.on < listed.size := by have := hback e he hb; omega
      rw [Array.getD_eq_getD_getElem?] at h1 ⊢
      simp [hs] at h1 ⊢
      exact h1
     obtain ⟨j, hj, hG, hdone, hleft⟩ := hJ
     -- a writing operation that is ready is the next one
     have hnext : ∀ m, p.cs[m]? = some i → m = j := by
      intro m hm
      rcases Nat.lt_trichotomy m j with h | h | h
      · have := hdone m i h hm
        rw [hun] at this; cases this
      · exact h
      · exfalso
        obtain ⟨n, rfl⟩ : ∃ n, m = n + 1 := ⟨m - 1, by omega⟩
        have hn : n < p.cs.length := by have := (List.getElem?_eq_some_iff.1 hm).1; omega
        obtain ⟨_, e, he, hon, hbd⟩ := line_next hline (List.getElem?_eq_getElem hn) hm ho
        have h1 := hdl e he hbd
        rw [hon, hleft n _ (by omega) (List.getElem?_eq_getElem hn)] at h1
        cases h1
     -- whatever the operation leaves
     have next : ∀ v w', p.F i v w' → Leaves p i w w' → wpAny P .any ops Q fuel (listed.setIfInBounds i true) (a.put o.dst v) w' := by
      intro v w' hv hlv
      have hA : p.A w w' := by
       rcases hlv with ⟨_, h⟩ | ⟨_, _, h, _⟩
       · exact p.below h
       · exact h
      refine ih _ _ _ hsz' hl' ⟨?_, ?_, p.trans hfr.kept hA, fun t ht => ?_⟩ ?_ fun k oj dj hoj hlj hdj => ?_
      · rw [hdst]; simpa [Act.put] using hfr.size
      · rw [hdst]; exact hfr.defers
      · rw [hdst, put_other (fun e => ht i o ho (by rw [hdst, e]))]
        exact hfr.free t ht
      · rcases hlv with ⟨hni, hb⟩ | ⟨m, hmi, _, hG'⟩
        · refine ⟨j, hj, p.keepG _ _ _ hG hb, fun k c hk hc => ?_, fun k c hk hc => ?_⟩
          · have hci : c ≠ i := fun e => hni (e ▸ List.mem_of_getElem? hc)
            rw [getD_set_ne true (Ne.symm hci)]
            exact hdone k c hk hc
          · have hci : c ≠ i := fun e => hni (e ▸ List.mem_of_getElem? hc)
            rw [getD_set_ne true (Ne.symm hci)]
            exact hleft k c hk hc
        · obtain rfl := hnext m hmi
          have hml := (List.getElem?_eq_some_iff.1 hmi).1
          refine ⟨m + 1, hml, hG', fun k c hk hc => ?_, fun k c hk hc => ?_⟩
          · by_cases hkm : k = m
            · subst hkm
              obtain rfl : c = i := Option.some.inj (hc.symm.trans hmi)
              exact hset
            · have hci : c ≠ i := by have := line_lt hline hc hmi (by omega); omega
              rw [getD_set_ne true (Ne.symm hci)]
              exact hdone k c (by omega) hc
          · have hci : c ≠ i := by have := line_lt hline hmi hc (by omega); omega
            rw [getD_set_ne true (Ne.symm hci)]
            exact hleft k c (by omega) hc
      · by_cases hji : k = i
        · subst hji
          obtain rfl : oj = o := Option.some.inj (hoj.symm.trans ho); obtain rfl : dj = d := Option.some.inj (hdj.symm.trans hdst); rw [hdst, put_same (by rw [hfr.size]; exact hdn)]
          exact hv
        · have hne := ok_unlike hok ho hoj hji
          rw [hdst, hdj] at hne
          rw [hdst, put_other (fun e => hne (by rw [e]))]
          rw [getD_set_ne true (Ne.symm hji)] at hlj
          exact p.keepF k _ _ _ (hd k oj dj hoj hlj hdj) hA
     have hdeps : ∀ e ∈ o.after, Region.binds .any e = true → ∀ oj dj, ops[e.on]? = some oj → oj.dst = some dj → p.F e.on (a.tmps.getD dj undef) w :=
      fun e he hb oj dj hoj hdj => hd e.on oj dj hoj (hdl e he hb) hdj
     unfold wpOp
     simp only [ho]
     rcases hstep i o ho a w hfr hdeps (fun m hm => by rw [hnext m hm]; exact hG) with ⟨hw, hwp⟩ | ⟨hw, hu, hlv⟩
     · rw [if_pos hw]
       refine .inl (Oper.wp_mono ?_ hwp)
       rintro a' w' ⟨v, rfl, hv, hb⟩
       exact next v w' hv hb
     · rw [if_neg (by rw [hw]; simp)]
       exact next undef w hu hlv
 refine wp_region_any hm (main _ _ _ _ (by simp) ?_ ⟨rfl, rfl, p.below ⟨rfl, rfl, rfl, Nat.le_refl _, fun _ _ => rfl⟩, fun _ _ => rfl⟩ ⟨0, Nat.zero_le _, p.keepG _ w0 _ h0 ⟨rfl, rfl, rfl, Nat.le_refl _, fun _ _ => rfl⟩, fun k c hk _ => by omega, fun k c _ hc => ?_⟩ ?_)
 · refine Nat.le_trans (List.length_filter_le _ _) ?_
   simp
 · have := hcs c (List.mem_of_getElem? hc)
   rw [Array.getD_eq_getD_getElem?]
   simp [this]
 · intro i o d ho hl _
   have hlt : i < ops.size := (Array.getElem?_eq_some_iff.1 ho).1
   rw [Array.getD_eq_getD_getElem?] at hl
   simp [hlt] at hl
def Steps (p : Plan) (P : Program) (ops : Array Oper) (Q : Exit → Act → World → Prop) (a0 : Act) (w0 : World) : Nat → List Oper → Prop
 | _, [] => True
 | k, o :: l => Step p P ops Q a0 w0 k o ∧ Steps p P ops Q a0 w0 (k + 1) l
theorem Steps.at {p : Plan} {a0 : Act} {w0 : World} : ∀ {l : List Oper} {k i : Nat} {o : Oper}, Steps p P ops Q a0 w0 k l → l[i]? = some o → Step p P ops Q a0 w0 (k + i) o
 | [], _, _, _, _, h => by simp at h
 | x :: l, k, 0, o, hs, h => by
  simp only [List.getElem?_cons_zero, Option.some.injEq] at h
  subst h
  exact hs.1
 | x :: l, k, i + 1, o, hs, h => by
  have := Steps.at hs.2 (show l[i]? = some o by simpa using h)
  rwa [Nat.add_assoc, Nat.add_comm 1 i] at this
def Ends (p : Plan) (Q : Exit → Act → World → Prop) (w0 : World) : Nat → List Oper → Act → (World → Prop) → Prop
 | _, [], a, C => ∀ w, p.A w0 w → C w → p.G p.cs.length w → Q .normal a w
 | k, o :: l, a, C => ∀ v, Ends p Q w0 (k + 1) l (a.put o.dst v) (fun w => C w ∧ p.F k v w)
theorem ends_sound {p : Plan} {w0 : World} {a : Act} {w : World} (hb : p.A w0 w) (hG : p.G p.cs.length w) : ∀ {l : List Oper} {k : Nat} {b : Act} {C : World → Prop}, Ends p Q w0 k l b C → C w →
 (∀ i o d, l[i]? = some o → o.dst = some d → p.F (k + i) (a.tmps.getD d undef) w) → (∀ o ∈ l, ∃ d, o.dst = some d ∧ d < a.tmps.size) → b.tmps.size = a.tmps.size → b.defers = a.defers →
 (∀ t, (∀ o ∈ l, o.dst ≠ some t) → b.tmps.getD t undef = a.tmps.getD t undef) → Q .normal a w
 | [], k, b, C, he, hC, _, _, hs, hd, ht => by
  obtain rfl : b = a := act_ext hs hd fun t => ht t (fun o ho => by cases ho)
  exact he w hb hC hG
 | o :: l, k, b, C, he, hC, hF, hr, hs, hd, ht => by
  obtain ⟨d, hdst, hdn⟩ := hr o (by simp)
  have h0 : p.F k (a.tmps.getD d undef) w := hF 0 o d rfl hdst
  refine ends_sound hb hG (he (a.tmps.getD d undef)) ⟨hC, h0⟩ (fun i o' d' ho' hd' => ?_) (fun o' ho' => hr o' (by simp [ho'])) ?_ ?_ fun t hnt => ?_
  · have := hF (i + 1) o' d' (by simpa using ho') hd'
    rwa [show k + (i + 1) = k + 1 + i from by omega] at this
  · rw [hdst]; simpa [Act.put] using hs
  · rw [hdst]; exact hd
  · by_cases e : d = t
    · subst e
      rw [hdst, put_same (by rw [hs]; exact hdn)]
    · rw [hdst, put_other e]
      exact ht t fun o' ho' => by
       rcases List.mem_cons.1 ho' with rfl | h
       · rw [hdst]; exact fun h => e (Option.some.inj h)
       · exact hnt o' h
theorem wp_region_walk {id : Nat} {l : List Oper} {a0 : Act} {w0 : World} (hm : P.follows .mixedOrders = true) (hok : okB l.toArray a0.tmps.size = true) (p : Plan) (hline : lineB l.toArray p.cs = true) (hcs : p.cs.all (fun i => decide (i < l.length)) = true) (h0 : p.G 0 w0)
 (hsteps : Steps p P l.toArray Q a0 w0 0 l) (hend : Ends p Q w0 0 l a0 (fun _ => True)) : (Code.region id l.toArray true).wp P Q a0 w0 := by
 refine wp_region_line hm hok p hline h0 (fun i o ho => ?_) (fun i hi => by simpa using List.all_eq_true.1 hcs i hi) fun a w hfr hall hG => ?_
 · have := hsteps.at (i := i) (o := o) (by simpa using ho)
   rwa [Nat.zero_add] at this
 · refine ends_sound hfr.kept hG hend trivial (fun i o d ho hd => ?_) (fun o ho => ?_) hfr.size.symm hfr.defers.symm fun t ht => ?_
   · rw [Nat.zero_add]
     exact hall i o d (by simpa using ho) hd
   · obtain ⟨i, hi, rfl⟩ := List.getElem_of_mem ho
     obtain ⟨d, h1, h2⟩ := (ok_spec hok (i := i) (o := l[i]) (by simp [hi])).1
     exact ⟨d, h1, by rw [hfr.size]; exact h2⟩
   · exact (hfr.free t fun i o ho => ht o (by
      have := List.mem_of_getElem? (show l[i]? = some o by simpa using ho)
      exact this)).symm
theorem Framed.slot {p : Plan} {a0 a : Act} {w0 w : World} (h : Framed p ops a0 w0 a w) (t : Nat) (ht : freeB ops t = true) : a.tmps.getD t undef = a0.tmps.getD t undef :=
 h.free t fun i o ho e => by
  have := Array.all_eq_true_iff_forall_mem.1 ht o (Array.mem_of_getElem? ho)
  rw [e] at this
  simp at this
theorem Step.value {p : Plan} {i : Nat} {o : Oper} {a : Act} {w w' : World} {v : Value} (hi : i ∉ p.cs) (hg : Region.wanted o (yielded ops a.tmps) = true) (hr : (execOp a.eval o).run P w = .ok (.value v) w') (hv : p.F i v w') (hb : Below w.heap.size w w') :
 (Region.wanted o (yielded ops a.tmps) = true ∧ o.wp P a w (fun a' w' => ∃ v, a' = a.put o.dst v ∧ p.F i v w' ∧ Leaves p i w w') Q) ∨ (Region.wanted o (yielded ops a.tmps) = false ∧ p.F i undef w ∧ Leaves p i w w) := by
 refine .inl ⟨hg, ?_⟩
 unfold Oper.wp
 rw [hr]
 exact ⟨v, rfl, hv, .inl ⟨hi, hb⟩⟩
theorem Step.call {p : Plan} {i : Nat} {o : Oper} {a : Act} {w : World} {f : FuncId} {args : Array Value} (hi : i ∉ p.cs) (hg : Region.wanted o (yielded ops a.tmps) = true) (hr : (execOp a.eval o).run P w = .ok (.enter f args) w)
 (hc : Calls P f args w fun e w' => ∃ v, e = .returned v ∧ p.F i v w' ∧ Below w.heap.size w w') :
 (Region.wanted o (yielded ops a.tmps) = true ∧ o.wp P a w (fun a' w' => ∃ v, a' = a.put o.dst v ∧ p.F i v w' ∧ Leaves p i w w') Q) ∨ (Region.wanted o (yielded ops a.tmps) = false ∧ p.F i undef w ∧ Leaves p i w w) := by
 refine .inl ⟨hg, ?_⟩
 unfold Oper.wp
 rw [hr]
 refine Calls.mono hc ?_
 rintro e w' ⟨v, rfl, hv, hb⟩
 exact ⟨v, rfl, hv, .inl ⟨hi, hb⟩⟩
theorem Step.write {p : Plan} {i : Nat} {o : Oper} {a : Act} {w : World} {f : FuncId} {args : Array Value} (j : Nat) (hj : p.cs[j]? = some i) (hg : Region.wanted o (yielded ops a.tmps) = true) (hr : (execOp a.eval o).run P w = .ok (.enter f args) w)
 (hc : Calls P f args w fun e w' => ∃ v, e = .returned v ∧ p.F i v w' ∧ p.A w w' ∧ p.G (j + 1) w') :
 (Region.wanted o (yielded ops a.tmps) = true ∧ o.wp P a w (fun a' w' => ∃ v, a' = a.put o.dst v ∧ p.F i v w' ∧ Leaves p i w w') Q) ∨ (Region.wanted o (yielded ops a.tmps) = false ∧ p.F i undef w ∧ Leaves p i w w) := by
 refine .inl ⟨hg, ?_⟩
 unfold Oper.wp
 rw [hr]
 refine Calls.mono hc ?_
 rintro e w' ⟨v, rfl, hv, hb, hG⟩
 exact ⟨v, rfl, hv, .inr ⟨j, hj, hb, hG⟩⟩
theorem wanted_free {o : Oper} {a : Act} (hg : o.guard = none) : Region.wanted o (yielded ops a.tmps) = true := by simp [Region.wanted, hg]
end Line
end Go.Proofs.YtljbpelogjmciaaGreatDoor
set_option linter.unusedVariables false
set_option linter.unusedSimpArgs false
namespace Go.Proofs.YtljbpelogjmciaaGreatDoor
open Go.RowKit
open Loose
namespace Late
variable {P : Program} {ops : Array Oper} {Q : Exit → Act → World → Prop}
def Steps (P : Program) (ops : Array Oper) (Q : Exit → Act → World → Prop) (F : Nat → Value → World → Prop) (a0 : Act) (w0 : World) : Nat → List Oper → Prop
 | _, [] => True
 | k, o :: l => Step P ops Q F a0 w0 k o ∧ Steps P ops Q F a0 w0 (k + 1) l
theorem Steps.at {F : Nat → Value → World → Prop} {a0 : Act} {w0 : World} : ∀ {l : List Oper} {k i : Nat} {o : Oper}, Steps P ops Q F a0 w0 k l → l[i]? = some o → Step P ops Q F a0 w0 (k + i) o
 | [], _, _, _, _, h => by simp at h
 | x :: l, k, 0, o, hs, h => by
  simp only [List.getElem?_cons_zero, Option.some.injEq] at h
  subst h
  exact hs.1
 | x :: l, k, i + 1, o, hs, h => by
  have := Steps.at hs.2 (show l[i]? = some o by simpa using h)
  rwa [Nat.add_assoc, Nat.add_comm 1 i] at this
end Late
end Go.Proofs.YtljbpelogjmciaaGreatDoor
namespace Go.Proofs.YtljbpelogjmciaaGreatDoor
open Go.RowKit
namespace Straight
open Loose
variable {P : Program} {ops : Array Oper} {Q : Exit → Act → World → Prop}
def Steps (P : Program) (ops : Array Oper) (Q : Exit → Act → World → Prop) (F : Nat → Value → World → Prop) (a0 : Act) (w0 : World) : Nat → List Oper → Prop
 | _, [] => True
 | k, o :: l => Step P ops Q F a0 w0 k o ∧ Steps P ops Q F a0 w0 (k + 1) l
theorem Steps.at {F : Nat → Value → World → Prop} {a0 : Act} {w0 : World} : ∀ {l : List Oper} {k i : Nat} {o : Oper}, Steps P ops Q F a0 w0 k l → l[i]? = some o → Step P ops Q F a0 w0 (k + i) o
 | [], _, _, _, _, h => by simp at h
 | x :: l, k, 0, o, hs, h => by
  simp only [List.getElem?_cons_zero, Option.some.injEq] at h
  subst h
  exact hs.1
 | x :: l, k, i + 1, o, hs, h => by
  have := Steps.at hs.2 (show l[i]? = some o by simpa using h)
  rwa [Nat.add_assoc, Nat.add_comm 1 i] at this
end Straight
end Go.Proofs.YtljbpelogjmciaaGreatDoor
namespace Go.Proofs.YtljbpelogjmciaaGreatDoor
open Go.RowKit
open Loose
namespace Tail
variable {P : Program} {Q : Exit → Act → World → Prop}
theorem wpAny_done {ops : Array Oper} (fuel : Nat) (listed : Array Bool) (a : Act) (w : World) (hall : ∀ i, i < ops.size → listed.getD i true = true) (hq : Q .normal a w) : wpAny P .any ops Q fuel listed a w := by
 have hr : Region.ready .any ops listed = [] := by
  rw [List.eq_nil_iff_forall_not_mem]
  intro i hi
  obtain ⟨h1, o, ho, _⟩ := mem_ready.1 hi
  rw [hall i (Array.getElem?_eq_some_iff.1 ho).1] at h1
  cases h1
 cases fuel with
 | zero => exact ⟨hr, hq⟩
 | succ fuel =>
  refine ⟨fun _ => hq, fun i hi => ?_⟩
  rw [hr] at hi
  cases hi
theorem wp_region_tail {id : Nat} {l : List Oper} {z : Oper} {a0 : Act} {w0 : World} (hm : P.follows .mixedOrders = true) (hok : okB l.toArray a0.tmps.size = true) (hzd : z.dst = none) (hzg : z.guard = none)
 (hza : (List.range l.length).all (fun i => z.after.any fun e => e.on == i && Region.binds .any e) = true) (F : Nat → Value → World → Prop)
 (hF : ∀ i v w w', F i v w → Below w.heap.size w w' → F i v w') (hzb : z.after.all (fun e => !Region.binds .any e || decide (e.on < l.length)) = true) (hstep : ∀ (i : Nat) (o : Oper), l[i]? = some o → Step P (l ++ [z]).toArray Q F a0 w0 i o)
 (hend : ∀ a w, Framed (l ++ [z]).toArray a0 w0 a w → (∀ (i : Nat) (o : Oper) (d : Tmp), l[i]? = some o → o.dst = some d → F i (a.tmps.getD d undef) w) → z.wp P a w (fun a' w' => Q .normal a' w') Q) : (Code.region id (l ++ [z]).toArray true).wp P Q a0 w0 := by
 obtain ⟨ops, hops⟩ : ∃ ops, (l ++ [z]).toArray = ops := ⟨_, rfl⟩
 rw [hops] at hstep hend ⊢
 have hsize : ops.size = l.length + 1 := by rw [← hops]; simp
 have hat : ∀ (i : Nat), i < l.length → ops[i]? = l[i]? := by intro i hi; rw [← hops]; simp [List.getElem?_append_left hi]
 have hlast : ops[l.length]? = some z := by rw [← hops]; simp
 have hcase : ∀ (i : Nat) (o : Oper), ops[i]? = some o → (i < l.length ∧ l[i]? = some o) ∨ (i = l.length ∧ o = z) := by
  intro i o ho
  have hlt := (Array.getElem?_eq_some_iff.1 ho).1
  rcases Nat.lt_or_ge i l.length with h | h
  · exact .inl ⟨h, by rw [← hat i h]; exact ho⟩
  · obtain rfl : i = l.length := by omega
    exact .inr ⟨rfl, Option.some.inj (ho.symm.trans hlast)⟩
 have okl : ∀ (i : Nat) (o : Oper), l[i]? = some o → l.toArray[i]? = some o := by intro i o h; simpa using h
 have main : ∀ (fuel : Nat) (listed : Array Bool) (a : Act) (w : World), listed.size = ops.size → listed.getD l.length true = false → ((List.range ops.size).filter fun j => !listed.getD j true).length ≤ fuel → Framed ops a0 w0 a w →
  (∀ (i : Nat) (o : Oper) (d : Tmp), l[i]? = some o → listed.getD i true = true → o.dst = some d → F i (a.tmps.getD d undef) w) → wpAny P .any ops Q fuel listed a w := by
  intro fuel
  induction fuel with
  | zero =>
   intro listed a w hsz hzl hl hfr hd
   exfalso
   have : l.length ∈ (List.range ops.size).filter fun j => !listed.getD j true := List.mem_filter.2 ⟨List.mem_range.2 (by omega), by rw [hzl]; rfl⟩
   have h0 := List.eq_nil_of_length_eq_zero (Nat.le_zero.1 hl)
   rw [h0] at this
   cases this
  | succ fuel ih =>
   intro listed a w hsz hzl hl hfr hd
   refine ⟨fun hr => ?_, fun i hi => ?_⟩
   · exfalso
     have hall : ∀ i, i < l.length → listed.getD i true = true := by
      intro i
      induction i using Nat.strongRecOn with
      | _ i hi =>
       intro hlt
       cases hc : listed.getD i true with
       | true => rfl
       | false =>
        have hol : l[i]? = some l[i] := List.getElem?_eq_getElem hlt
        have ho : ops[i]? = some l[i] := (hat i hlt).trans hol
        have : i ∈ Region.ready .any ops listed := mem_ready.2 ⟨hc, _, ho, fun e he hb => by
         have hlt' := (ok_spec hok (okl i _ hol)).2.1 e he hb
         have h1 := hi e.on hlt' (by omega)
         rw [Array.getD_eq_getD_getElem?] at h1 ⊢
         have : e.on < listed.size := by omega
         simp [this] at h1 ⊢
         exact h1⟩
        rw [hr] at this
        cases this
     have : l.length ∈ Region.ready .any ops listed := mem_ready.2 ⟨hzl, _, hlast, fun e he hb => by
      by_cases hlt : e.on < l.length
      · have h1 := hall e.on hlt
        rw [Array.getD_eq_getD_getElem?] at h1 ⊢
        have : e.on < listed.size := by omega
        simp [this] at h1 ⊢
        exact h1
      · have h2 := Array.all_eq_true_iff_forall_mem.1 hzb e he
        rw [hb] at h2
        exact absurd (by simpa using h2) hlt⟩
     rw [hr] at this
     cases this
   · obtain ⟨hun, o, ho, hdep⟩ := mem_ready.1 hi
     have hlt : i < ops.size := (Array.getElem?_eq_some_iff.1 ho).1
     have hsz' : (listed.setIfInBounds i true).size = ops.size := by simpa using hsz
     have hl' : ((List.range ops.size).filter fun j => !(listed.setIfInBounds i true).getD j true).length ≤ fuel := by
      have := left_lt (n := ops.size) hlt hun
      omega
     have hlisted : ∀ e ∈ o.after, Region.binds .any e = true → e.on < ops.size → listed.getD e.on true = true := by
      intro e he hb hs0
      have h1 := hdep e he hb
      have hs : e.on < listed.size := by omega
      rw [Array.getD_eq_getD_getElem?] at h1 ⊢
      simp [hs] at h1 ⊢
      exact h1
     rcases hcase i o ho with ⟨hil, hol⟩ | ⟨rfl, rfl⟩
     · obtain ⟨⟨d, hdst, hdn⟩, hback, _⟩ := ok_spec hok (okl i o hol)
       have hzl' : (listed.setIfInBounds i true).getD l.length true = false := by rw [getD_set_ne true (by omega)]; exact hzl
       have next : ∀ v w', F i v w' → Below w.heap.size w w' → wpAny P .any ops Q fuel (listed.setIfInBounds i true) (a.put o.dst v) w' := by
        intro v w' hv hb
        refine ih _ _ _ hsz' hzl' hl' ⟨?_, ?_, hfr.below.trans (hb.mono hfr.below.size), fun t ht => ?_⟩ fun j oj dj hoj hlj hdj => ?_
        · rw [hdst]; simpa [Act.put] using hfr.size
        · rw [hdst]; exact hfr.defers
        · rw [hdst, put_other (fun e => ht i o ho (by rw [hdst, e]))]
          exact hfr.free t ht
        · by_cases hji : j = i
          · subst hji
            obtain rfl : oj = o := Option.some.inj (hoj.symm.trans hol); obtain rfl : dj = d := Option.some.inj (hdj.symm.trans hdst); rw [hdst, put_same (by rw [hfr.size]; exact hdn)]
            exact hv
          · have hne := ok_unlike hok (okl i o hol) (okl j oj hoj) hji
            rw [hdst, hdj] at hne
            rw [hdst, put_other (fun e => hne (by rw [e]))]
            rw [getD_set_ne true (Ne.symm hji)] at hlj
            exact hF j _ _ _ (hd j oj dj hoj hlj hdj) hb
       have hdeps : ∀ e ∈ o.after, Region.binds .any e = true → ∀ oj dj, ops[e.on]? = some oj → oj.dst = some dj → F e.on (a.tmps.getD dj undef) w := by
        intro e he hb oj dj hoj hdj
        have h0 := hback e he hb
        refine hd e.on oj dj ?_ (hlisted e he hb (by omega)) hdj
        rw [← hat e.on (by omega)]; exact hoj
       unfold wpOp
       simp only [ho]
       rcases hstep i o hol a w hfr hdeps with ⟨hw, hwp⟩ | ⟨hw, hu⟩
       · rw [if_pos hw]
         refine .inl (Oper.wp_mono ?_ hwp)
         rintro a' w' ⟨v, rfl, hv, hb⟩
         exact next v w' hv hb
       · rw [if_neg (by rw [hw]; simp)]
         exact next undef w hu (Below.refl _ _)
     · have hall : ∀ j, j < l.length → listed.getD j true = true := by
        intro j hj
        have h1 := List.all_eq_true.1 hza j (List.mem_range.2 hj)
        rw [Array.any_eq_true] at h1
        obtain ⟨x, hx, h1⟩ := h1
        rw [Bool.and_eq_true, beq_iff_eq] at h1
        have := hlisted _ (Array.getElem_mem hx) h1.2 (by rw [h1.1]; omega)
        rw [h1.1] at this
        exact this
       unfold wpOp
       simp only [hlast]; rw [if_pos (by simp [Region.wanted, hzg])]
       refine .inl (Oper.wp_mono ?_ (hend a w hfr fun j oj dj hoj hdj => hd j oj dj hoj (hall j (List.getElem?_eq_some_iff.1 hoj).1) hdj))
       intro a' w' hq
       refine wpAny_done _ _ _ _ (fun j hj => ?_) hq
       by_cases hjl : j = l.length
       · subst hjl
         rw [Array.getD_eq_getD_getElem?]
         simp [show l.length < listed.size by omega]
       · rw [getD_set_ne true (Ne.symm hjl)]
         exact hall j (by omega)
 refine wp_region_any hm (main _ _ _ _ (by simp) ?_ ?_ ⟨rfl, rfl, ⟨rfl, rfl, rfl, Nat.le_refl _, fun _ _ => rfl⟩, fun _ _ => rfl⟩ ?_)
 · rw [Array.getD_eq_getD_getElem?]
   simp [hsize]
 · refine Nat.le_trans (List.length_filter_le _ _) ?_
   simp
 · intro i o d ho hl _
   have hlt : i < l.length := (List.getElem?_eq_some_iff.1 ho).1
   rw [Array.getD_eq_getD_getElem?] at hl
   simp [show i < ops.size by omega] at hl
def noOper : Oper := { dst := none, op := .move (.const undef), type := 0, pos := "", after := #[], guard := none }
theorem wp_region_walk {id : Nat} {L : List Oper} {a0 : Act} {w0 : World} (hm : P.follows .mixedOrders = true) (hne : L.isEmpty = false) (hok : okB L.dropLast.toArray a0.tmps.size = true)
 (hz : ((L.getLastD noOper).dst.isNone && (L.getLastD noOper).guard.isNone && (List.range L.dropLast.length).all (fun i => (L.getLastD noOper).after.any fun e => e.on == i && Region.binds .any e) && (L.getLastD noOper).after.all (fun e => !Region.binds .any e || decide (e.on < L.dropLast.length))) = true)
 (F : Nat → Value → World → Prop) (hF : ∀ i v w w', F i v w → Below w.heap.size w w' → F i v w')
 (hsteps : Loose.Steps P L.toArray Q F a0 w0 0 L.dropLast)
 (hend : Loose.Ends (fun _ a w => (L.getLastD noOper).wp P a w (fun a' w' => Q .normal a' w') Q) F w0 0 L.dropLast a0 (fun _ => True)) : (Code.region id L.toArray true).wp P Q a0 w0 := by
 have hL : L = L.dropLast ++ [L.getLastD noOper] := by
  cases L with
  | nil => cases hne
  | cons x l =>
   have h1 := List.dropLast_concat_getLast (l := x :: l) (by simp)
   rw [List.getLast_eq_getLastD] at h1
   rw [List.getLastD_cons]
   exact h1.symm
 obtain ⟨l, hl⟩ : ∃ l, L.dropLast = l := ⟨_, rfl⟩
 obtain ⟨z, hzz⟩ : ∃ z, L.getLastD noOper = z := ⟨_, rfl⟩
 rw [hl, hzz] at hL hz hend
 rw [hl] at hok hsteps
 subst hL
 clear hl hzz
 simp only [Bool.and_eq_true] at hz
 obtain ⟨⟨⟨h1, h2⟩, h3⟩, h4⟩ := hz
 refine wp_region_tail hm hok (by simpa using h1) (by simpa using h2) h3 F hF h4 (fun i o ho => ?_) (fun a w hfr hall => ?_)
 · have := hsteps.at (i := i) (o := o) (by simpa using ho)
   rwa [Nat.zero_add] at this
 · refine ends_sound (Q := fun _ a w => z.wp P a w (fun a' w' => Q .normal a' w') Q) hfr.below hend trivial (fun i o d ho hd => ?_) (fun o ho => ?_) hfr.size.symm hfr.defers.symm fun t ht => ?_
   · rw [Nat.zero_add]
     exact hall i o d (by simpa using ho) hd
   · obtain ⟨i, hi, rfl⟩ := List.getElem_of_mem ho
     obtain ⟨⟨d, hd, hdn⟩, _⟩ := ok_spec hok (i := i) (o := l[i]) (by simp [hi])
     exact ⟨d, hd, by rw [hfr.size]; exact hdn⟩
   · refine (hfr.free t fun i o ho => ?_).symm
     have hm2 := List.mem_of_getElem? (show (l ++ [z])[i]? = some o by simpa using ho)
     rcases List.mem_append.1 hm2 with h | h
     · exact ht o h
     · simp only [List.mem_singleton] at h
       subst h
       have : o.dst = none := by simpa using h1
       rw [this]
       exact fun e => by cases e
end Tail
end Go.Proofs.YtljbpelogjmciaaGreatDoor
