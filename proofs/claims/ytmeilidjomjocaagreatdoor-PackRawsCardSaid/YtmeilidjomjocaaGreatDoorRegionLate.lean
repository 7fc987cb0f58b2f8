/-
  A region that draws its order, as RegionLoose: a slot that is written late (by operations that wait for this one) reads as ahead of the region. No condition.
-/
import Derived.Test.YtmeilidjomjocaaGreatDoorRegionLoose
set_option linter.unusedVariables false
set_option linter.unusedSimpArgs false
namespace Go.Proofs.YtmeilidjomjocaaGreatDoor
open Go.RowKit
open Loose
namespace Late
variable {P : Program} {ops : Array Oper} {Q : Exit → Act → World → Prop}

/-- each operation that writes slot t waits for number i -/
def lateB (ops : Array Oper) (i t : Nat) : Bool := ops.all fun oj => oj.dst != some t || oj.after.any fun e => e.on == i && Region.binds .any e
theorem getD_set_mono {l : Array Bool} {k : Nat} (i : Nat) (h : l.getD k true = true) : (l.setIfInBounds i true).getD k true = true := by
  by_cases hk : i = k
  · subst hk
    rw [Array.getD_eq_getD_getElem?]
    by_cases hs : i < l.size
    · simp [hs]
    · simp [hs]
  · rw [getD_set_ne true hk]; exact h
theorem getD_set_self {l : Array Bool} {i n : Nat} (hi : i < n) (hs : n ≤ l.size) : (l.setIfInBounds i true).getD i true = true := by
  rw [Array.getD_eq_getD_getElem?]
  simp [show i < l.size by omega]
/-- the operation number i is met -/
def Step (P : Program) (ops : Array Oper) (Q : Exit → Act → World → Prop) (F : Nat → Value → World → Prop) (a0 : Act) (w0 : World) (i : Nat) (o : Oper) : Prop :=
  ∀ a w, Framed ops a0 w0 a w → (∀ e ∈ o.after, Region.binds .any e = true → ∀ oj d, ops[e.on]? = some oj → oj.dst = some d → F e.on (a.tmps.getD d undef) w) → (∀ t, lateB ops i t = true → a.tmps.getD t undef = a0.tmps.getD t undef) →
    (Region.wanted o (yielded ops a.tmps) = true ∧ o.wp P a w (fun a' w' => ∃ v, a' = a.put o.dst v ∧ F i v w' ∧ Below w.heap.size w w') Q) ∨ (Region.wanted o (yielded ops a.tmps) = false ∧ F i undef w)

theorem wp_region_late {id : Nat} {a0 : Act} {w0 : World} (hm : P.follows .mixedOrders = true) (hok : okB ops a0.tmps.size = true) (F : Nat → Value → World → Prop)
    (hF : ∀ i v w w', F i v w → Below w.heap.size w w' → F i v w') (hstep : ∀ i o, ops[i]? = some o → Step P ops Q F a0 w0 i o)
    (hend : ∀ a w, Framed ops a0 w0 a w → (∀ i o d, ops[i]? = some o → o.dst = some d → F i (a.tmps.getD d undef) w) → Q .normal a w) : (Code.region id ops true).wp P Q a0 w0 := by
  have main : ∀ (fuel : Nat) (listed : Array Bool) (a : Act) (w : World), listed.size = ops.size → ((List.range ops.size).filter fun j => !listed.getD j true).length ≤ fuel → Framed ops a0 w0 a w →
      (∀ i o d, ops[i]? = some o → listed.getD i true = true → o.dst = some d → F i (a.tmps.getD d undef) w) →
      (∀ j oj d, ops[j]? = some oj → listed.getD j true = false → oj.dst = some d → a.tmps.getD d undef = a0.tmps.getD d undef) →
      (∀ j oj, ops[j]? = some oj → listed.getD j true = true → ∀ e ∈ oj.after, Region.binds .any e = true → listed.getD e.on true = true) → wpAny P .any ops Q fuel listed a w := by
    intro fuel
    induction fuel with
    | zero =>
      intro listed a w hsz hl hfr hd hnw hcl
      have hall : ∀ i, i < ops.size → listed.getD i true = true := by
        intro i hi
        cases hc : listed.getD i true with
        | true => rfl
        | false =>
          have : i ∈ (List.range ops.size).filter fun j => !listed.getD j true := List.mem_filter.2 ⟨List.mem_range.2 hi, by rw [hc]; rfl⟩
          have h0 := List.eq_nil_of_length_eq_zero (Nat.le_zero.1 hl)
          rw [h0] at this
          cases this
      refine ⟨?_, hend a w hfr fun i o d ho hdst => hd i o d ho (hall i (Array.getElem?_eq_some_iff.1 ho).1) hdst⟩
      rw [List.eq_nil_iff_forall_not_mem]
      intro i hi
      obtain ⟨h1, o, ho, _⟩ := mem_ready.1 hi
      rw [hall i (Array.getElem?_eq_some_iff.1 ho).1] at h1
      cases h1
    | succ fuel ih =>
      intro listed a w hsz hl hfr hd hnw hcl
      refine ⟨fun hr => ?_, fun i hi => ?_⟩
      · have hall : ∀ i, i < ops.size → listed.getD i true = true := by
          intro i
          induction i using Nat.strongRecOn with
          | _ i hi =>
            intro hlt
            cases hc : listed.getD i true with
            | true => rfl
            | false =>
              have ho : ops[i]? = some ops[i] := Array.getElem?_eq_getElem hlt
              have : i ∈ Region.ready .any ops listed := mem_ready.2 ⟨hc, _, ho, fun e he hb => by
                have hlt' := (ok_spec hok ho).2.1 e he hb
                have h1 := hi e.on hlt' (by omega)
                rw [Array.getD_eq_getD_getElem?] at h1 ⊢
                have : e.on < listed.size := by omega
                simp [this] at h1 ⊢
                exact h1⟩
              rw [hr] at this
              cases this
        exact hend a w hfr fun i o d ho hdst => hd i o d ho (hall i (Array.getElem?_eq_some_iff.1 ho).1) hdst
      · obtain ⟨hun, o, ho, hdep⟩ := mem_ready.1 hi
        have hlt : i < ops.size := (Array.getElem?_eq_some_iff.1 ho).1
        obtain ⟨⟨d, hdst, hdn⟩, hback, _⟩ := ok_spec hok ho
        have hsz' : (listed.setIfInBounds i true).size = ops.size := by simpa using hsz
        have hl' : ((List.range ops.size).filter fun j => !(listed.setIfInBounds i true).getD j true).length ≤ fuel := by
          have := left_lt (n := ops.size) hlt hun
          omega
        have hlisted : ∀ e ∈ o.after, Region.binds .any e = true → listed.getD e.on true = true := by
          intro e he hb
          have h1 := hdep e he hb
          have hs : e.on < listed.size := by have := hback e he hb; omega
          rw [Array.getD_eq_getD_getElem?] at h1 ⊢
          simp [hs] at h1 ⊢
          exact h1
        have hlate : ∀ t, lateB ops i t = true → a.tmps.getD t undef = a0.tmps.getD t undef := by
          intro t ht
          by_cases hex : ∃ (j : Nat) (oj : Oper), ops[j]? = some oj ∧ oj.dst = some t
          · obtain ⟨j, oj, hoj, hdj⟩ := hex
            have h1 := Array.all_eq_true_iff_forall_mem.1 ht oj (Array.mem_of_getElem? hoj)
            rw [hdj] at h1
            simp only [bne_self_eq_false, Bool.false_or] at h1
            rw [Array.any_eq_true] at h1
            obtain ⟨x, hx, h1⟩ := h1
            rw [Bool.and_eq_true, beq_iff_eq] at h1
            refine hnw j oj t hoj ?_ hdj
            cases hc : listed.getD j true with
            | false => rfl
            | true =>
              have := hcl j oj hoj hc oj.after[x] (Array.getElem_mem hx) h1.2
              rw [h1.1, hun] at this
              cases this
          · exact hfr.free t fun j oj hoj e => hex ⟨j, oj, hoj, e⟩
        -- whatever the operation leaves
        have next : ∀ v w', F i v w' → Below w.heap.size w w' → wpAny P .any ops Q fuel (listed.setIfInBounds i true) (a.put o.dst v) w' := by
          intro v w' hv hb
          refine ih _ _ _ hsz' hl' ⟨?_, ?_, hfr.below.trans (hb.mono hfr.below.size), fun t ht => ?_⟩ (fun j oj dj hoj hlj hdj => ?_) (fun j oj dj hoj hlj hdj => ?_) (fun j oj hoj hlj e he hbd => ?_)
          · rw [hdst]; simpa [Act.put] using hfr.size
          · rw [hdst]; exact hfr.defers
          · rw [hdst, put_other (fun e => ht i o ho (by rw [hdst, e]))]
            exact hfr.free t ht
          · by_cases hji : j = i
            · subst hji
              obtain rfl : oj = o := Option.some.inj (hoj.symm.trans ho)
              obtain rfl : dj = d := Option.some.inj (hdj.symm.trans hdst)
              rw [hdst, put_same (by rw [hfr.size]; exact hdn)]
              exact hv
            · have hne := ok_unlike hok ho hoj hji
              rw [hdst, hdj] at hne
              rw [hdst, put_other (fun e => hne (by rw [e]))]
              rw [getD_set_ne true (Ne.symm hji)] at hlj
              exact hF j _ _ _ (hd j oj dj hoj hlj hdj) hb
          · have hji : j ≠ i := fun e => by
              subst e
              rw [getD_set_self hlt (by omega)] at hlj
              cases hlj
            have hne := ok_unlike hok ho hoj hji
            rw [hdst, hdj] at hne
            rw [hdst, put_other (fun e => hne (by rw [e]))]
            rw [getD_set_ne true (Ne.symm hji)] at hlj
            exact hnw j oj dj hoj hlj hdj
          · refine getD_set_mono i ?_
            by_cases hji : j = i
            · subst hji
              obtain rfl : oj = o := Option.some.inj (hoj.symm.trans ho)
              exact hlisted e he hbd
            · rw [getD_set_ne true (Ne.symm hji)] at hlj
              exact hcl j oj hoj hlj e he hbd
        have hdeps : ∀ e ∈ o.after, Region.binds .any e = true → ∀ oj dj, ops[e.on]? = some oj → oj.dst = some dj → F e.on (a.tmps.getD dj undef) w := by
          intro e he hb oj dj hoj hdj
          have h1 := hdep e he hb
          have hs : e.on < listed.size := by have := hback e he hb; omega
          refine hd e.on oj dj hoj ?_ hdj
          rw [Array.getD_eq_getD_getElem?] at h1 ⊢
          simp [hs] at h1 ⊢
          exact h1
        unfold wpOp
        simp only [ho]
        rcases hstep i o ho a w hfr hdeps hlate with ⟨hw, hwp⟩ | ⟨hw, hu⟩
        · rw [if_pos hw]
          refine .inl (Oper.wp_mono ?_ hwp)
          rintro a' w' ⟨v, rfl, hv, hb⟩
          exact next v w' hv hb
        · rw [if_neg (by rw [hw]; simp)]
          exact next undef w hu (Below.refl _ _)
  refine wp_region_any hm (main _ _ _ _ (by simp) ?_ ⟨rfl, rfl, ⟨rfl, rfl, rfl, Nat.le_refl _, fun _ _ => rfl⟩, fun _ _ => rfl⟩ ?_ (fun _ _ _ _ _ _ => rfl) ?_)
  · refine Nat.le_trans (List.length_filter_le _ _) ?_
    simp
  · intro i o d ho hl _
    have hlt : i < ops.size := (Array.getElem?_eq_some_iff.1 ho).1
    rw [Array.getD_eq_getD_getElem?] at hl
    simp [hlt] at hl
  · intro j oj ho hl e _ _
    have hlt : j < ops.size := (Array.getElem?_eq_some_iff.1 ho).1
    rw [Array.getD_eq_getD_getElem?] at hl
    simp [hlt] at hl

/-- the steps, one behind the other -/
def Steps (P : Program) (ops : Array Oper) (Q : Exit → Act → World → Prop) (F : Nat → Value → World → Prop) (a0 : Act) (w0 : World) : Nat → List Oper → Prop
  | _, [] => True
  | k, o :: l => Step P ops Q F a0 w0 k o ∧ Steps P ops Q F a0 w0 (k + 1) l

theorem Steps.at {F : Nat → Value → World → Prop} {a0 : Act} {w0 : World} : ∀ {l : List Oper} {k i : Nat} {o : Oper}, Steps P ops Q F a0 w0 k l → l[i]? = some o → Step P ops Q F a0 w0 (k + i) o
  | [], _, _, _, _, h => by simp at h
  | x :: l, k, 0, o, hs, h => by
    simp only [List.getElem?_cons_zero, Option.some.injEq] at h
    subst h
    exact hs.1
  | x :: l, k, i + 1, o, hs, h => by
    have := Steps.at hs.2 (show l[i]? = some o by simpa using h)
    rwa [Nat.add_assoc, Nat.add_comm 1 i] at this

/-- THE LAW, for a region whose operations are written out -/
theorem wp_region_walk {id : Nat} {l : List Oper} {a0 : Act} {w0 : World} (hm : P.follows .mixedOrders = true) (hok : okB l.toArray a0.tmps.size = true) (F : Nat → Value → World → Prop)
    (hF : ∀ i v w w', F i v w → Below w.heap.size w w' → F i v w') (hsteps : Steps P l.toArray Q F a0 w0 0 l) (hend : Loose.Ends Q F w0 0 l a0 (fun _ => True)) : (Code.region id l.toArray true).wp P Q a0 w0 := by
  refine wp_region_late hm hok F hF (fun i o ho => ?_) fun a w hfr hall => ?_
  · have := hsteps.at (i := i) (o := o) (by simpa using ho)
    rwa [Nat.zero_add] at this
  · refine ends_sound hfr.below hend trivial (fun i o d ho hd => ?_) (fun o ho => ?_) hfr.size.symm hfr.defers.symm fun t ht => ?_
    · rw [Nat.zero_add]
      exact hall i o d (by simpa using ho) hd
    · obtain ⟨i, hi, rfl⟩ := List.getElem_of_mem ho
      obtain ⟨d, h1, h2⟩ := (ok_spec hok (i := i) (o := l[i]) (by simp [hi])).1
      exact ⟨d, h1, by rw [hfr.size]; exact h2⟩
    · exact (hfr.free t fun i o ho => ht o (by
        have := List.mem_of_getElem? (show l[i]? = some o by simpa using ho)
        exact this)).symm
end Late
end Go.Proofs.YtmeilidjomjocaaGreatDoor
