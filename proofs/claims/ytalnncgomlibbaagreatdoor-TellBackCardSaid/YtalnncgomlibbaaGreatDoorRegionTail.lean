/-
 A region that draws its order, as RegionLoose, whose last operation writes no slot and waits for all others (a store of what was made): the others leave what was there as it was; the last one is met once, behind them all. No condition.
-/
import Derived.Test.YtalnncgomlibbaaGreatDoorRegionAll
set_option linter.unusedVariables false
set_option linter.unusedSimpArgs false
namespace Go.Proofs.YtalnncgomlibbaaGreatDoor
open Go.RowKit
open Loose
namespace Tail
variable {P : Program} {Q : Exit → Act → World → Prop}

theorem wpAny_done {ops : Array Oper} (fuel : Nat) (listed : Array Bool) (a : Act) (w : World) (hall : ∀ i, i < ops.size → listed.getD i true = true) (hq : Q .normal a w) : wpAny P .any ops Q fuel listed a w := by
 have hr : Region.ready .any ops listed = [] := by
  rw [List.eq_nil_iff_forall_not_mem]
  intro i hi
  obtain ⟨h1, o, ho, _⟩ := mem_ready.1 hi
  rw [hall i (Array.getElem?_eq_some_iff.1 ho).1] at h1
  cases h1
 cases fuel with
 | zero => exact ⟨hr, hq⟩
 | succ fuel =>
  refine ⟨fun _ => hq, fun i hi => ?_⟩
  rw [hr] at hi
  cases hi

theorem wp_region_tail {id : Nat} {l : List Oper} {z : Oper} {a0 : Act} {w0 : World} (hm : P.follows .mixedOrders = true) (hok : okB l.toArray a0.tmps.size = true) (hzd : z.dst = none) (hzg : z.guard = none)
 (hza : (List.range l.length).all (fun i => z.after.any fun e => e.on == i && Region.binds .any e) = true) (F : Nat → Value → World → Prop)
 (hF : ∀ i v w w', F i v w → Below w.heap.size w w' → F i v w') (hzb : z.after.all (fun e => !Region.binds .any e || decide (e.on < l.length)) = true) (hstep : ∀ (i : Nat) (o : Oper), l[i]? = some o → Step P (l ++ [z]).toArray Q F a0 w0 i o)
 (hend : ∀ a w, Framed (l ++ [z]).toArray a0 w0 a w → (∀ (i : Nat) (o : Oper) (d : Tmp), l[i]? = some o → o.dst = some d → F i (a.tmps.getD d undef) w) → z.wp P a w (fun a' w' => Q .normal a' w') Q) : (Code.region id (l ++ [z]).toArray true).wp P Q a0 w0 := by
 obtain ⟨ops, hops⟩ : ∃ ops, (l ++ [z]).toArray = ops := ⟨_, rfl⟩
 rw [hops] at hstep hend ⊢
 have hsize : ops.size = l.length + 1 := by rw [← hops]; simp
 have hat : ∀ (i : Nat), i < l.length → ops[i]? = l[i]? := by intro i hi; rw [← hops]; simp [List.getElem?_append_left hi]
 have hlast : ops[l.length]? = some z := by rw [← hops]; simp
 have hcase : ∀ (i : Nat) (o : Oper), ops[i]? = some o → (i < l.length ∧ l[i]? = some o) ∨ (i = l.length ∧ o = z) := by
  intro i o ho
  have hlt := (Array.getElem?_eq_some_iff.1 ho).1
  rcases Nat.lt_or_ge i l.length with h | h
  · exact .inl ⟨h, by rw [← hat i h]; exact ho⟩
  · obtain rfl : i = l.length := by omega
    exact .inr ⟨rfl, Option.some.inj (ho.symm.trans hlast)⟩
 have okl : ∀ (i : Nat) (o : Oper), l[i]? = some o → l.toArray[i]? = some o := by intro i o h; simpa using h
 have main : ∀ (fuel : Nat) (listed : Array Bool) (a : Act) (w : World), listed.size = ops.size → listed.getD l.length true = false → ((List.range ops.size).filter fun j => !listed.getD j true).length ≤ fuel → Framed ops a0 w0 a w →
  (∀ (i : Nat) (o : Oper) (d : Tmp), l[i]? = some o → listed.getD i true = true → o.dst = some d → F i (a.tmps.getD d undef) w) → wpAny P .any ops Q fuel listed a w := by
  intro fuel
  induction fuel with
  | zero =>
   intro listed a w hsz hzl hl hfr hd
   exfalso
   have : l.length ∈ (List.range ops.size).filter fun j => !listed.getD j true := List.mem_filter.2 ⟨List.mem_range.2 (by omega), by rw [hzl]; rfl⟩
   have h0 := List.eq_nil_of_length_eq_zero (Nat.le_zero.1 hl)
   rw [h0] at this
   cases this
  | succ fuel ih =>
   intro listed a w hsz hzl hl hfr hd
   refine ⟨fun hr => ?_, fun i hi => ?_⟩
   · exfalso
     have hall : ∀ i, i < l.length → listed.getD i true = true := by
      intro i
      induction i using Nat.strongRecOn with
      | _ i hi =>
       intro hlt
       cases hc : listed.getD i true with
       | true => rfl
       | false =>
        have hol : l[i]? = some l[i] := List.getElem?_eq_getElem hlt
        have ho : ops[i]? = some l[i] := (hat i hlt).trans hol
        have : i ∈ Region.ready .any ops listed := mem_ready.2 ⟨hc, _, ho, fun e he hb => by
         have hlt' := (ok_spec hok (okl i _ hol)).2.1 e he hb
         have h1 := hi e.on hlt' (by omega)
         rw [Array.getD_eq_getD_getElem?] at h1 ⊢
         have : e.on < listed.size := by omega
         simp [this] at h1 ⊢
         exact h1⟩
        rw [hr] at this
        cases this
     have : l.length ∈ Region.ready .any ops listed := mem_ready.2 ⟨hzl, _, hlast, fun e he hb => by
      by_cases hlt : e.on < l.length
      · have h1 := hall e.on hlt
        rw [Array.getD_eq_getD_getElem?] at h1 ⊢
        have : e.on < listed.size := by omega
        simp [this] at h1 ⊢
        exact h1
      · have h2 := Array.all_eq_true_iff_forall_mem.1 hzb e he
        rw [hb] at h2
        exact absurd (by simpa using h2) hlt⟩
     rw [hr] at this
     cases this
   · obtain ⟨hun, o, ho, hdep⟩ := mem_ready.1 hi
     have hlt : i < ops.size := (Array.getElem?_eq_some_iff.1 ho).1
     have hsz' : (listed.setIfInBounds i true).size = ops.size := by simpa using hsz
     have hl' : ((List.range ops.size).filter fun j => !(listed.setIfInBounds i true).getD j true).length ≤ fuel := by
      have := left_lt (n := ops.size) hlt hun
      omega
     have hlisted : ∀ e ∈ o.after, Region.binds .any e = true → e.on < ops.size → listed.getD e.on true = true := by
      intro e he hb hs0
      have h1 := hdep e he hb
      have hs : e.on < listed.size := by omega
      rw [Array.getD_eq_getD_getElem?] at h1 ⊢
      simp [hs] at h1 ⊢
      exact h1
     rcases hcase i o ho with ⟨hil, hol⟩ | ⟨rfl, rfl⟩
     · obtain ⟨⟨d, hdst, hdn⟩, hback, _⟩ := ok_spec hok (okl i o hol)
       have hzl' : (listed.setIfInBounds i true).getD l.length true = false := by rw [getD_set_ne true (by omega)]; exact hzl
       have next : ∀ v w', F i v w' → Below w.heap.size w w' → wpAny P .any ops Q fuel (listed.setIfInBounds i true) (a.put o.dst v) w' := by
        intro v w' hv hb
        refine ih _ _ _ hsz' hzl' hl' ⟨?_, ?_, hfr.below.trans (hb.mono hfr.below.size), fun t ht => ?_⟩ fun j oj dj hoj hlj hdj => ?_
        · rw [hdst]; simpa [Act.put] using hfr.size
        · rw [hdst]; exact hfr.defers
        · rw [hdst, put_other (fun e => ht i o ho (by rw [hdst, e]))]
          exact hfr.free t ht
        · by_cases hji : j = i
          · subst hji
            obtain rfl : oj = o := Option.some.inj (hoj.symm.trans hol)
            obtain rfl : dj = d := Option.some.inj (hdj.symm.trans hdst)
            rw [hdst, put_same (by rw [hfr.size]; exact hdn)]
            exact hv
          · have hne := ok_unlike hok (okl i o hol) (okl j oj hoj) hji
            rw [hdst, hdj] at hne
            rw [hdst, put_other (fun e => hne (by rw [e]))]
            rw [getD_set_ne true (Ne.symm hji)] at hlj
            exact hF j _ _ _ (hd j oj dj hoj hlj hdj) hb
       have hdeps : ∀ e ∈ o.after, Region.binds .any e = true → ∀ oj dj, ops[e.on]? = some oj → oj.dst = some dj → F e.on (a.tmps.getD dj undef) w := by
        intro e he hb oj dj hoj hdj
        have h0 := hback e he hb
        refine hd e.on oj dj ?_ (hlisted e he hb (by omega)) hdj
        rw [← hat e.on (by omega)]; exact hoj
       unfold wpOp
       simp only [ho]
       rcases hstep i o hol a w hfr hdeps with ⟨hw, hwp⟩ | ⟨hw, hu⟩
       · rw [if_pos hw]
         refine .inl (Oper.wp_mono ?_ hwp)
         rintro a' w' ⟨v, rfl, hv, hb⟩
         exact next v w' hv hb
       · rw [if_neg (by rw [hw]; simp)]
         exact next undef w hu (Below.refl _ _)
     · have hall : ∀ j, j < l.length → listed.getD j true = true := by
        intro j hj
        have h1 := List.all_eq_true.1 hza j (List.mem_range.2 hj)
        rw [Array.any_eq_true] at h1
        obtain ⟨x, hx, h1⟩ := h1
        rw [Bool.and_eq_true, beq_iff_eq] at h1
        have := hlisted _ (Array.getElem_mem hx) h1.2 (by rw [h1.1]; omega)
        rw [h1.1] at this
        exact this
       unfold wpOp
       simp only [hlast]
       rw [if_pos (by simp [Region.wanted, hzg])]
       refine .inl (Oper.wp_mono ?_ (hend a w hfr fun j oj dj hoj hdj => hd j oj dj hoj (hall j (List.getElem?_eq_some_iff.1 hoj).1) hdj))
       intro a' w' hq
       refine wpAny_done _ _ _ _ (fun j hj => ?_) hq
       by_cases hjl : j = l.length
       · subst hjl
         rw [Array.getD_eq_getD_getElem?]
         simp [show l.length < listed.size by omega]
       · rw [getD_set_ne true (Ne.symm hjl)]
         exact hall j (by omega)
 refine wp_region_any hm (main _ _ _ _ (by simp) ?_ ?_ ⟨rfl, rfl, ⟨rfl, rfl, rfl, Nat.le_refl _, fun _ _ => rfl⟩, fun _ _ => rfl⟩ ?_)
 · rw [Array.getD_eq_getD_getElem?]
   simp [hsize]
 · refine Nat.le_trans (List.length_filter_le _ _) ?_
   simp
 · intro i o d ho hl _
   have hlt : i < l.length := (List.getElem?_eq_some_iff.1 ho).1
   rw [Array.getD_eq_getD_getElem?] at hl
   simp [show i < ops.size by omega] at hl

def noOper : Oper := { dst := none, op := .move (.const undef), type := 0, pos := "", after := #[], guard := none }
theorem wp_region_walk {id : Nat} {L : List Oper} {a0 : Act} {w0 : World} (hm : P.follows .mixedOrders = true) (hne : L.isEmpty = false) (hok : okB L.dropLast.toArray a0.tmps.size = true)
 (hz : ((L.getLastD noOper).dst.isNone && (L.getLastD noOper).guard.isNone && (List.range L.dropLast.length).all (fun i => (L.getLastD noOper).after.any fun e => e.on == i && Region.binds .any e) && (L.getLastD noOper).after.all (fun e => !Region.binds .any e || decide (e.on < L.dropLast.length))) = true)
 (F : Nat → Value → World → Prop) (hF : ∀ i v w w', F i v w → Below w.heap.size w w' → F i v w')
 (hsteps : Loose.Steps P L.toArray Q F a0 w0 0 L.dropLast)
 (hend : Loose.Ends (fun _ a w => (L.getLastD noOper).wp P a w (fun a' w' => Q .normal a' w') Q) F w0 0 L.dropLast a0 (fun _ => True)) : (Code.region id L.toArray true).wp P Q a0 w0 := by
 have hL : L = L.dropLast ++ [L.getLastD noOper] := by
  cases L with
  | nil => cases hne
  | cons x l =>
   have h1 := List.dropLast_concat_getLast (l := x :: l) (by simp)
   rw [List.getLast_eq_getLastD] at h1
   rw [List.getLastD_cons]
   exact h1.symm
 obtain ⟨l, hl⟩ : ∃ l, L.dropLast = l := ⟨_, rfl⟩
 obtain ⟨z, hzz⟩ : ∃ z, L.getLastD noOper = z := ⟨_, rfl⟩
 rw [hl, hzz] at hL hz hend
 rw [hl] at hok hsteps
 subst hL
 clear hl hzz
 simp only [Bool.and_eq_true] at hz
 obtain ⟨⟨⟨h1, h2⟩, h3⟩, h4⟩ := hz
 refine wp_region_tail hm hok (by simpa using h1) (by simpa using h2) h3 F hF h4 (fun i o ho => ?_) (fun a w hfr hall => ?_)
 · have := hsteps.at (i := i) (o := o) (by simpa using ho)
   rwa [Nat.zero_add] at this
 · refine ends_sound (Q := fun _ a w => z.wp P a w (fun a' w' => Q .normal a' w') Q) hfr.below hend trivial (fun i o d ho hd => ?_) (fun o ho => ?_) hfr.size.symm hfr.defers.symm fun t ht => ?_
   · rw [Nat.zero_add]
     exact hall i o d (by simpa using ho) hd
   · obtain ⟨i, hi, rfl⟩ := List.getElem_of_mem ho
     obtain ⟨⟨d, hd, hdn⟩, _⟩ := ok_spec hok (i := i) (o := l[i]) (by simp [hi])
     exact ⟨d, hd, by rw [hfr.size]; exact hdn⟩
   · refine (hfr.free t fun i o ho => ?_).symm
     have hm2 := List.mem_of_getElem? (show (l ++ [z])[i]? = some o by simpa using ho)
     rcases List.mem_append.1 hm2 with h | h
     · exact ht o h
     · simp only [List.mem_singleton] at h
       subst h
       have : o.dst = none := by simpa using h1
       rw [this]
       exact fun e => by cases e
end Tail
end Go.Proofs.YtalnncgomlibbaaGreatDoor
