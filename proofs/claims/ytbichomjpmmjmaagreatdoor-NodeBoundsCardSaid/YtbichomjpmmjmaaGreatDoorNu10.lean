/-
  A region that draws its order, in which some operations, one behind the other, write (calls that turn what was there), while all others leave what was there as it was: what each operation leaves in its slot is told by a fact that stays true through the region; what the writing ones turn is told by a state that each of them brings on by one.
-/
import Derived.Test.YtbichomjpmmjmaaGreatDoorNu2
import Derived.Test.YtbichomjpmmjmaaGreatDoorNu9
import Derived.Test.YtbichomjpmmjmaaGreatDoorNu0
import Derived.Test.YtbichomjpmmjmaaGreatDoorChecked
import Derived.Great.BuildSlice
import Derived.WalkKit
import Derived.ProofKit
import Derived.Deep.QuietTactic
import Derived.BigQuiet
import Derived.Laws.StructEq
import Derived.KernelRfl
namespace Go.Proofs.YtbichomjpmmjmaaGreatDoor
open Go.RowKit
namespace Line
open Loose
variable {P : Program} {ops : Array Oper} {Q : Exit → Act → World → Prop}
/-- what the world may become: A; the writing operations: cs; the state behind j of them: G j; what operation i leaves in its slot: F i -/
structure Plan where
  A : World → World → Prop
  refl : ∀ w, A w w
  trans : ∀ {a b c}, A a b → A b c → A a c
  below : ∀ {w w'}, Below w.heap.size w w' → A w w'
  cs : List Nat
  G : Nat → World → Prop
  F : Nat → Value → World → Prop
  keepG : ∀ j w w', G j w → Below w.heap.size w w' → G j w'
  keepF : ∀ i v w w', F i v w → A w w' → F i v w'
/-- each writing operation waits for the one ahead of it -/
def lineB (ops : Array Oper) : List Nat → Bool
  | [] => true
  | [_] => true
  | c :: d :: l => decide (c < d) && (ops[d]?).any (fun o => o.after.any fun e => e.on == c && Region.binds .any e) && lineB ops (d :: l)
theorem line_next : ∀ {cs : List Nat} {k : Nat} {c d : Nat} {o : Oper}, lineB ops cs = true → cs[k]? = some c → cs[k + 1]? = some d → ops[d]? = some o → c < d ∧ ∃ e ∈ o.after, e.on = c ∧ Region.binds .any e = true
  | [], _, _, _, _, _, h, _, _ => by simp at h
  | [_], 0, _, _, _, _, _, h, _ => by simp at h
  | [_], _ + 1, _, _, _, _, h, _, _ => by simp at h
  | x :: y :: l, 0, c, d, o, h, h1, h2, ho => by
    simp only [List.getElem?_cons_zero, Option.some.injEq, List.getElem?_cons_succ] at h1 h2
    subst h1 h2
    simp only [lineB, ho, Option.any_some, Bool.and_eq_true, decide_eq_true_eq] at h
    obtain ⟨⟨hl, h3⟩, _⟩ := h
    rw [Array.any_eq_true] at h3
    obtain ⟨i, hi, h3⟩ := h3
    rw [Bool.and_eq_true, beq_iff_eq] at h3
    exact ⟨hl, _, Array.getElem_mem hi, h3.1, h3.2⟩
  | x :: y :: l, k + 1, c, d, o, h, h1, h2, ho => by
    simp only [lineB, Bool.and_eq_true] at h
    exact line_next (cs := y :: l) (k := k) h.2 (by simpa using h1) (by simpa using h2) ho
theorem line_lt : ∀ {cs : List Nat} {k m : Nat} {c d : Nat}, lineB ops cs = true → cs[k]? = some c → cs[m]? = some d → k < m → c < d
  | [], _, _, _, _, _, h, _, _ => by simp at h
  | x :: l, k, 0, _, _, _, _, _, h => by omega
  | [_], _, m + 1, _, _, _, _, h, _ => by simp at h
  | x :: y :: l, 0, m + 1, c, d, h, h1, h2, _ => by
    simp only [List.getElem?_cons_zero, Option.some.injEq] at h1
    subst h1
    simp only [lineB, Bool.and_eq_true, decide_eq_true_eq] at h
    rcases m with _ | m
    · simp only [List.getElem?_cons_succ, List.getElem?_cons_zero, Option.some.injEq] at h2
      rw [← h2]; exact h.1.1
    · have := line_lt (cs := y :: l) (k := 0) (m := m + 1) (c := y) (d := d) h.2 rfl (by simpa using h2) (by omega)
      have := h.1.1
      omega
  | x :: y :: l, k + 1, m + 1, c, d, h, h1, h2, hk => by
    simp only [lineB, Bool.and_eq_true] at h
    exact line_lt (cs := y :: l) (k := k) (m := m) h.2 (by simpa using h1) (by simpa using h2) (by omega)
/-- the frame behind some of the operations -/
structure Framed (p : Plan) (ops : Array Oper) (a0 : Act) (w0 : World) (a : Act) (w : World) : Prop where
  size : a.tmps.size = a0.tmps.size
  defers : a.defers = a0.defers
  kept : p.A w0 w
  free : ∀ t, (∀ (i : Nat) (o : Oper), ops[i]? = some o → o.dst ≠ some t) → a.tmps.getD t undef = a0.tmps.getD t undef
/-- what operation i may do to the world -/
def Leaves (p : Plan) (i : Nat) (w w' : World) : Prop := (i ∉ p.cs ∧ Below w.heap.size w w') ∨ ∃ j, p.cs[j]? = some i ∧ p.A w w' ∧ p.G (j + 1) w'
/-- the operation number i is met -/
def Step (p : Plan) (P : Program) (ops : Array Oper) (Q : Exit → Act → World → Prop) (a0 : Act) (w0 : World) (i : Nat) (o : Oper) : Prop :=
  ∀ a w, Framed p ops a0 w0 a w → (∀ e ∈ o.after, Region.binds .any e = true → ∀ oj d, ops[e.on]? = some oj → oj.dst = some d → p.F e.on (a.tmps.getD d undef) w) → (∀ j, p.cs[j]? = some i → p.G j w) →
    (Region.wanted o (yielded ops a.tmps) = true ∧ o.wp P a w (fun a' w' => ∃ v, a' = a.put o.dst v ∧ p.F i v w' ∧ Leaves p i w w') Q) ∨ (Region.wanted o (yielded ops a.tmps) = false ∧ p.F i undef w ∧ Leaves p i w w)
theorem wp_region_line {id : Nat} {a0 : Act} {w0 : World} (hm : P.follows .mixedOrders = true) (hok : okB ops a0.tmps.size = true) (p : Plan) (hline : lineB ops p.cs = true) (h0 : p.G 0 w0)
    (hstep : ∀ i o, ops[i]? = some o → Step p P ops Q a0 w0 i o) (hcs : ∀ i ∈ p.cs, i < ops.size)
    (hend : ∀ a w, Framed p ops a0 w0 a w → (∀ i o d, ops[i]? = some o → o.dst = some d → p.F i (a.tmps.getD d undef) w) → p.G p.cs.length w → Q .normal a w) : (Code.region id ops true).wp P Q a0 w0 := by
  have main : ∀ (fuel : Nat) (listed : Array Bool) (a : Act) (w : World), listed.size = ops.size → ((List.range ops.size).filter fun j => !listed.getD j true).length ≤ fuel → Framed p ops a0 w0 a w →
      (∃ j, j ≤ p.cs.length ∧ p.G j w ∧ (∀ k c, k < j → p.cs[k]? = some c → listed.getD c true = true) ∧ (∀ k c, j ≤ k → p.cs[k]? = some c → listed.getD c true = false)) →
      (∀ i o d, ops[i]? = some o → listed.getD i true = true → o.dst = some d → p.F i (a.tmps.getD d undef) w) → wpAny P .any ops Q fuel listed a w := by
    have last : ∀ (listed : Array Bool) (a : Act) (w : World), (∀ i, i < ops.size → listed.getD i true = true) → Framed p ops a0 w0 a w →
        (∃ j, j ≤ p.cs.length ∧ p.G j w ∧ (∀ k c, k < j → p.cs[k]? = some c → listed.getD c true = true) ∧ (∀ k c, j ≤ k → p.cs[k]? = some c → listed.getD c true = false)) →
        (∀ i o d, ops[i]? = some o → listed.getD i true = true → o.dst = some d → p.F i (a.tmps.getD d undef) w) → Q .normal a w := by
      rintro listed a w hall hfr ⟨j, hj, hG, _, hun⟩ hd
      refine hend a w hfr (fun i o d ho hdst => hd i o d ho (hall i (Array.getElem?_eq_some_iff.1 ho).1) hdst) ?_
      rcases Nat.lt_or_ge j p.cs.length with hl | hl
      · have h1 := hun j _ (Nat.le_refl _) (List.getElem?_eq_getElem hl)
        rw [hall _ (hcs _ (List.getElem_mem hl))] at h1
        cases h1
      · obtain rfl : j = p.cs.length := by omega
        exact hG
    intro fuel
    induction fuel with
    | zero =>
      intro listed a w hsz hl hfr hJ hd
      have hall : ∀ i, i < ops.size → listed.getD i true = true := by
        intro i hi
        cases hc : listed.getD i true with
        | true => rfl
        | false =>
          have : i ∈ (List.range ops.size).filter fun j => !listed.getD j true := List.mem_filter.2 ⟨List.mem_range.2 hi, by rw [hc]; rfl⟩
          have h0 := List.eq_nil_of_length_eq_zero (Nat.le_zero.1 hl)
          rw [h0] at this
          cases this
      refine ⟨?_, last listed a w hall hfr hJ hd⟩
      rw [List.eq_nil_iff_forall_not_mem]
      intro i hi
      obtain ⟨h1, o, ho, _⟩ := mem_ready.1 hi
      rw [hall i (Array.getElem?_eq_some_iff.1 ho).1] at h1
      cases h1
    | succ fuel ih =>
      intro listed a w hsz hl hfr hJ hd
      refine ⟨fun hr => ?_, fun i hi => ?_⟩
      · have hall : ∀ i, i < ops.size → listed.getD i true = true := by
          intro i
          induction i using Nat.strongRecOn with
          | _ i hi =>
            intro hlt
            cases hc : listed.getD i true with
            | true => rfl
            | false =>
              have ho : ops[i]? = some ops[i] := Array.getElem?_eq_getElem hlt
              have : i ∈ Region.ready .any ops listed := mem_ready.2 ⟨hc, _, ho, fun e he hb => by
                have hlt' := (ok_spec hok ho).2.1 e he hb
                have h1 := hi e.on hlt' (by omega)
                rw [Array.getD_eq_getD_getElem?] at h1 ⊢
                have : e.on < listed.size := by omega
                simp [this] at h1 ⊢
                exact h1⟩
              rw [hr] at this
              cases this
        exact last listed a w hall hfr hJ hd
      · obtain ⟨hun, o, ho, hdep⟩ := mem_ready.1 hi
        have hlt : i < ops.size := (Array.getElem?_eq_some_iff.1 ho).1
        obtain ⟨⟨d, hdst, hdn⟩, hback, _⟩ := ok_spec hok ho
        have hsz' : (listed.setIfInBounds i true).size = ops.size := by simpa using hsz
        have hl' : ((List.range ops.size).filter fun j => !(listed.setIfInBounds i true).getD j true).length ≤ fuel := by
          have := left_lt (n := ops.size) hlt hun
          omega
        have hset : (listed.setIfInBounds i true).getD i true = true := by
          have : i < listed.size := by omega
          simp [Array.getD_eq_getD_getElem?, this]
        have hdl : ∀ e ∈ o.after, Region.binds .any e = true → listed.getD e.on true = true := by
          intro e he hb
          have h1 := hdep e he hb
          have hs : e.on < listed.size := by have := hback e he hb; omega
          rw [Array.getD_eq_getD_getElem?] at h1 ⊢
          simp [hs] at h1 ⊢
          exact h1
        obtain ⟨j, hj, hG, hdone, hleft⟩ := hJ
        -- a writing operation that is ready is the next one
        have hnext : ∀ m, p.cs[m]? = some i → m = j := by
          intro m hm
          rcases Nat.lt_trichotomy m j with h | h | h
          · have := hdone m i h hm
            rw [hun] at this; cases this
          · exact h
          · exfalso
            obtain ⟨n, rfl⟩ : ∃ n, m = n + 1 := ⟨m - 1, by omega⟩
            have hn : n < p.cs.length := by have := (List.getElem?_eq_some_iff.1 hm).1; omega
            obtain ⟨_, e, he, hon, hbd⟩ := line_next hline (List.getElem?_eq_getElem hn) hm ho
            have h1 := hdl e he hbd
            rw [hon, hleft n _ (by omega) (List.getElem?_eq_getElem hn)] at h1
            cases h1
        -- whatever the operation leaves
        have next : ∀ v w', p.F i v w' → Leaves p i w w' → wpAny P .any ops Q fuel (listed.setIfInBounds i true) (a.put o.dst v) w' := by
          intro v w' hv hlv
          have hA : p.A w w' := by
            rcases hlv with ⟨_, h⟩ | ⟨_, _, h, _⟩
            · exact p.below h
            · exact h
          refine ih _ _ _ hsz' hl' ⟨?_, ?_, p.trans hfr.kept hA, fun t ht => ?_⟩ ?_ fun k oj dj hoj hlj hdj => ?_
          · rw [hdst]; simpa [Act.put] using hfr.size
          · rw [hdst]; exact hfr.defers
          · rw [hdst, put_other (fun e => ht i o ho (by rw [hdst, e]))]
            exact hfr.free t ht
          · rcases hlv with ⟨hni, hb⟩ | ⟨m, hmi, _, hG'⟩
            · refine ⟨j, hj, p.keepG _ _ _ hG hb, fun k c hk hc => ?_, fun k c hk hc => ?_⟩
              · have hci : c ≠ i := fun e => hni (e ▸ List.mem_of_getElem? hc)
                rw [getD_set_ne true (Ne.symm hci)]
                exact hdone k c hk hc
              · have hci : c ≠ i := fun e => hni (e ▸ List.mem_of_getElem? hc)
                rw [getD_set_ne true (Ne.symm hci)]
                exact hleft k c hk hc
            · obtain rfl := hnext m hmi
              have hml := (List.getElem?_eq_some_iff.1 hmi).1
              refine ⟨m + 1, hml, hG', fun k c hk hc => ?_, fun k c hk hc => ?_⟩
              · by_cases hkm : k = m
                · subst hkm
                  obtain rfl : c = i := Option.some.inj (hc.symm.trans hmi)
                  exact hset
                · have hci : c ≠ i := by have := line_lt hline hc hmi (by omega); omega
                  rw [getD_set_ne true (Ne.symm hci)]
                  exact hdone k c (by omega) hc
              · have hci : c ≠ i := by have := line_lt hline hmi hc (by omega); omega
                rw [getD_set_ne true (Ne.symm hci)]
                exact hleft k c (by omega) hc
          · by_cases hji : k = i
            · subst hji
              obtain rfl : oj = o := Option.some.inj (hoj.symm.trans ho)
              obtain rfl : dj = d := Option.some.inj (hdj.symm.trans hdst)
              rw [hdst, put_same (by rw [hfr.size]; exact hdn)]
              exact hv
            · have hne := ok_unlike hok ho hoj hji
              rw [hdst, hdj] at hne
              rw [hdst, put_other (fun e => hne (by rw [e]))]
              rw [getD_set_ne true (Ne.symm hji)] at hlj
              exact p.keepF k _ _ _ (hd k oj dj hoj hlj hdj) hA
        have hdeps : ∀ e ∈ o.after, Region.binds .any e = true → ∀ oj dj, ops[e.on]? = some oj → oj.dst = some dj → p.F e.on (a.tmps.getD dj undef) w :=
          fun e he hb oj dj hoj hdj => hd e.on oj dj hoj (hdl e he hb) hdj
        unfold wpOp
        simp only [ho]
        rcases hstep i o ho a w hfr hdeps (fun m hm => by rw [hnext m hm]; exact hG) with ⟨hw, hwp⟩ | ⟨hw, hu, hlv⟩
        · rw [if_pos hw]
          refine .inl (Oper.wp_mono ?_ hwp)
          rintro a' w' ⟨v, rfl, hv, hb⟩
          exact next v w' hv hb
        · rw [if_neg (by rw [hw]; simp)]
          exact next undef w hu hlv
  refine wp_region_any hm (main _ _ _ _ (by simp) ?_ ⟨rfl, rfl, p.below ⟨rfl, rfl, rfl, Nat.le_refl _, fun _ _ => rfl⟩, fun _ _ => rfl⟩ ⟨0, Nat.zero_le _, p.keepG _ w0 _ h0 ⟨rfl, rfl, rfl, Nat.le_refl _, fun _ _ => rfl⟩, fun k c hk _ => by omega, fun k c _ hc => ?_⟩ ?_)
  · refine Nat.le_trans (List.length_filter_le _ _) ?_
    simp
  · have := hcs c (List.mem_of_getElem? hc)
    rw [Array.getD_eq_getD_getElem?]
    simp [this]
  · intro i o d ho hl _
    have hlt : i < ops.size := (Array.getElem?_eq_some_iff.1 ho).1
    rw [Array.getD_eq_getD_getElem?] at hl
    simp [hlt] at hl
/-- the steps, one behind the other -/
def Steps (p : Plan) (P : Program) (ops : Array Oper) (Q : Exit → Act → World → Prop) (a0 : Act) (w0 : World) : Nat → List Oper → Prop
  | _, [] => True
  | k, o :: l => Step p P ops Q a0 w0 k o ∧ Steps p P ops Q a0 w0 (k + 1) l
theorem Steps.at {p : Plan} {a0 : Act} {w0 : World} : ∀ {l : List Oper} {k i : Nat} {o : Oper}, Steps p P ops Q a0 w0 k l → l[i]? = some o → Step p P ops Q a0 w0 (k + i) o
  | [], _, _, _, _, h => by simp at h
  | x :: l, k, 0, o, hs, h => by
    simp only [List.getElem?_cons_zero, Option.some.injEq] at h
    subst h
    exact hs.1
  | x :: l, k, i + 1, o, hs, h => by
    have := Steps.at hs.2 (show l[i]? = some o by simpa using h)
    rwa [Nat.add_assoc, Nat.add_comm 1 i] at this
/-- behind the region: whatever the slots hold, by the facts on it -/
def Ends (p : Plan) (Q : Exit → Act → World → Prop) (w0 : World) : Nat → List Oper → Act → (World → Prop) → Prop
  | _, [], a, C => ∀ w, p.A w0 w → C w → p.G p.cs.length w → Q .normal a w
  | k, o :: l, a, C => ∀ v, Ends p Q w0 (k + 1) l (a.put o.dst v) (fun w => C w ∧ p.F k v w)
theorem ends_sound {p : Plan} {w0 : World} {a : Act} {w : World} (hb : p.A w0 w) (hG : p.G p.cs.length w) : ∀ {l : List Oper} {k : Nat} {b : Act} {C : World → Prop}, Ends p Q w0 k l b C → C w →
    (∀ i o d, l[i]? = some o → o.dst = some d → p.F (k + i) (a.tmps.getD d undef) w) → (∀ o ∈ l, ∃ d, o.dst = some d ∧ d < a.tmps.size) → b.tmps.size = a.tmps.size → b.defers = a.defers →
    (∀ t, (∀ o ∈ l, o.dst ≠ some t) → b.tmps.getD t undef = a.tmps.getD t undef) → Q .normal a w
  | [], k, b, C, he, hC, _, _, hs, hd, ht => by
    obtain rfl : b = a := act_ext hs hd fun t => ht t (fun o ho => by cases ho)
    exact he w hb hC hG
  | o :: l, k, b, C, he, hC, hF, hr, hs, hd, ht => by
    obtain ⟨d, hdst, hdn⟩ := hr o (by simp)
    have h0 : p.F k (a.tmps.getD d undef) w := hF 0 o d rfl hdst
    refine ends_sound hb hG (he (a.tmps.getD d undef)) ⟨hC, h0⟩ (fun i o' d' ho' hd' => ?_) (fun o' ho' => hr o' (by simp [ho'])) ?_ ?_ fun t hnt => ?_
    · have := hF (i + 1) o' d' (by simpa using ho') hd'
      rwa [show k + (i + 1) = k + 1 + i from by omega] at this
    · rw [hdst]; simpa [Act.put] using hs
    · rw [hdst]; exact hd
    · by_cases e : d = t
      · subst e
        rw [hdst, put_same (by rw [hs]; exact hdn)]
      · rw [hdst, put_other e]
        exact ht t fun o' ho' => by
          rcases List.mem_cons.1 ho' with rfl | h
          · rw [hdst]; exact fun h => e (Option.some.inj h)
          · exact hnt o' h
/-- THE LAW, for a region whose operations are written out -/
theorem wp_region_walk {id : Nat} {l : List Oper} {a0 : Act} {w0 : World} (hm : P.follows .mixedOrders = true) (hok : okB l.toArray a0.tmps.size = true) (p : Plan) (hline : lineB l.toArray p.cs = true) (hcs : p.cs.all (fun i => decide (i < l.length)) = true) (h0 : p.G 0 w0)
    (hsteps : Steps p P l.toArray Q a0 w0 0 l) (hend : Ends p Q w0 0 l a0 (fun _ => True)) : (Code.region id l.toArray true).wp P Q a0 w0 := by
  refine wp_region_line hm hok p hline h0 (fun i o ho => ?_) (fun i hi => by simpa using List.all_eq_true.1 hcs i hi) fun a w hfr hall hG => ?_
  · have := hsteps.at (i := i) (o := o) (by simpa using ho)
    rwa [Nat.zero_add] at this
  · refine ends_sound hfr.kept hG hend trivial (fun i o d ho hd => ?_) (fun o ho => ?_) hfr.size.symm hfr.defers.symm fun t ht => ?_
    · rw [Nat.zero_add]
      exact hall i o d (by simpa using ho) hd
    · obtain ⟨i, hi, rfl⟩ := List.getElem_of_mem ho
      obtain ⟨d, h1, h2⟩ := (ok_spec hok (i := i) (o := l[i]) (by simp [hi])).1
      exact ⟨d, h1, by rw [hfr.size]; exact h2⟩
    · exact (hfr.free t fun i o ho => ht o (by
        have := List.mem_of_getElem? (show l[i]? = some o by simpa using ho)
        exact this)).symm
theorem Framed.slot {p : Plan} {a0 a : Act} {w0 w : World} (h : Framed p ops a0 w0 a w) (t : Nat) (ht : freeB ops t = true) : a.tmps.getD t undef = a0.tmps.getD t undef :=
  h.free t fun i o ho e => by
    have := Array.all_eq_true_iff_forall_mem.1 ht o (Array.mem_of_getElem? ho)
    rw [e] at this
    simp at this
/-- an operation that is no call and only computes, reads or makes memory -/
theorem Step.value {p : Plan} {i : Nat} {o : Oper} {a : Act} {w w' : World} {v : Value} (hi : i ∉ p.cs) (hg : Region.wanted o (yielded ops a.tmps) = true) (hr : (execOp a.eval o).run P w = .ok (.value v) w') (hv : p.F i v w') (hb : Below w.heap.size w w') :
    (Region.wanted o (yielded ops a.tmps) = true ∧ o.wp P a w (fun a' w' => ∃ v, a' = a.put o.dst v ∧ p.F i v w' ∧ Leaves p i w w') Q) ∨ (Region.wanted o (yielded ops a.tmps) = false ∧ p.F i undef w ∧ Leaves p i w w) := by
  refine .inl ⟨hg, ?_⟩
  unfold Oper.wp
  rw [hr]
  exact ⟨v, rfl, hv, .inl ⟨hi, hb⟩⟩
/-- a call that leaves what was there, by its contract -/
theorem Step.call {p : Plan} {i : Nat} {o : Oper} {a : Act} {w : World} {f : FuncId} {args : Array Value} (hi : i ∉ p.cs) (hg : Region.wanted o (yielded ops a.tmps) = true) (hr : (execOp a.eval o).run P w = .ok (.enter f args) w)
    (hc : Calls P f args w fun e w' => ∃ v, e = .returned v ∧ p.F i v w' ∧ Below w.heap.size w w') :
    (Region.wanted o (yielded ops a.tmps) = true ∧ o.wp P a w (fun a' w' => ∃ v, a' = a.put o.dst v ∧ p.F i v w' ∧ Leaves p i w w') Q) ∨ (Region.wanted o (yielded ops a.tmps) = false ∧ p.F i undef w ∧ Leaves p i w w) := by
  refine .inl ⟨hg, ?_⟩
  unfold Oper.wp
  rw [hr]
  refine Calls.mono hc ?_
  rintro e w' ⟨v, rfl, hv, hb⟩
  exact ⟨v, rfl, hv, .inl ⟨hi, hb⟩⟩
/-- a call that brings the state on, by its contract -/
theorem Step.write {p : Plan} {i : Nat} {o : Oper} {a : Act} {w : World} {f : FuncId} {args : Array Value} (j : Nat) (hj : p.cs[j]? = some i) (hg : Region.wanted o (yielded ops a.tmps) = true) (hr : (execOp a.eval o).run P w = .ok (.enter f args) w)
    (hc : Calls P f args w fun e w' => ∃ v, e = .returned v ∧ p.F i v w' ∧ p.A w w' ∧ p.G (j + 1) w') :
    (Region.wanted o (yielded ops a.tmps) = true ∧ o.wp P a w (fun a' w' => ∃ v, a' = a.put o.dst v ∧ p.F i v w' ∧ Leaves p i w w') Q) ∨ (Region.wanted o (yielded ops a.tmps) = false ∧ p.F i undef w ∧ Leaves p i w w) := by
  refine .inl ⟨hg, ?_⟩
  unfold Oper.wp
  rw [hr]
  refine Calls.mono hc ?_
  rintro e w' ⟨v, rfl, hv, hb, hG⟩
  exact ⟨v, rfl, hv, .inr ⟨j, hj, hb, hG⟩⟩
theorem wanted_free {o : Oper} {a : Act} (hg : o.guard = none) : Region.wanted o (yielded ops a.tmps) = true := by simp [Region.wanted, hg]
end Line
end Go.Proofs.YtbichomjpmmjmaaGreatDoor

/-
  Facts that stay true through a region: a text in a list of its own, what an error says, a list of errors; a list of errors built, and the first of them. No condition.
-/
namespace Go.Proofs.YtbichomjpmmjmaaGreatDoor
open Go.ChangeShapes Go.WideShapes Go.ChangeAt Go.RowKit Go.Lib
open Sd Lists
namespace SpecOwn
theorem put_lit (l : List Value) (ds : List Deferred) (d : Nat) (v : Value) : (Act.mk l.toArray ds).put (some d) v = Act.mk (l.set d v).toArray ds := by
  simp [Act.put]
/-- a list of one text, in a block of K -/
def TextK (K : World → Nat → Prop) (s : ByteArray) (v : Value) (w : World) : Prop := ∃ g, v = .slice (some ⟨g, 0, none⟩) 1 1 ∧ K w g ∧ w.cell? ⟨g, 0, none⟩ = some (.string s)
/-- an error that says y, its steps in blocks of K -/
def SaysK (K : World → Nat → Prop) (y : Say) (v : Value) (w : World) : Prop := Says (K w) w v y
def AllSays (D : Nat → Prop) (w : World) : List Value → List Say → Prop
  | [], [] => True
  | E :: Es, y :: ys => Says D w E y ∧ AllSays D w Es ys
  | _, _ => False
/-- a list of errors, in a block of K -/
def RowK (K : World → Nat → Prop) (ys : List Say) (v : Value) (w : World) : Prop := ∃ g Es, v = .slice (some ⟨g, 0, none⟩) ys.length ys.length ∧ g < w.heap.size ∧ K w g ∧ AllSays (K w) w Es ys ∧ ∀ (k : Nat) (E : Value), Es[k]? = some E → w.cell? ⟨g, k, none⟩ = some E
theorem AllSays.keep {D D' : Nat → Prop} {w w' : World} (hd : ∀ b, D b → b < w.heap.size → D' b ∧ w'.heap[b]? = w.heap[b]?) : ∀ {Es : List Value} {ys : List Say}, AllSays D w Es ys → AllSays D' w' Es ys
  | [], [], _ => trivial
  | _ :: _, _ :: _, h => ⟨h.1.keep hd, AllSays.keep hd h.2⟩
  | [], _ :: _, h => h.elim
  | _ :: _, [], h => h.elim
theorem AllSays.length {D : Nat → Prop} {w : World} : ∀ {Es : List Value} {ys : List Say}, AllSays D w Es ys → Es.length = ys.length
  | [], [], _ => rfl
  | _ :: _, _ :: _, h => by rw [List.length_cons, List.length_cons, AllSays.length h.2]
  | [], _ :: _, h => h.elim
  | _ :: _, [], h => h.elim
theorem AllSays.at {D : Nat → Prop} {w : World} : ∀ {Es : List Value} {ys : List Say}, AllSays D w Es ys → ∀ (k : Nat) (E : Value) (y : Say), Es[k]? = some E → ys[k]? = some y → Says D w E y
  | [], [], _, _, _, _, h, _ => by simp at h
  | E :: Es, y :: ys, h, 0, _, _, h1, h2 => by
    simp at h1 h2
    subst h1 h2
    exact h.1
  | E :: Es, y :: ys, h, k + 1, _, _, h1, h2 => AllSays.at h.2 k _ _ (by simpa using h1) (by simpa using h2)
  | [], _ :: _, h, _, _, _, _, _ => h.elim
  | _ :: _, [], h, _, _, _, _, _ => h.elim
theorem TextK.keep {K : World → Nat → Prop} {s : ByteArray} {v : Value} {w w' : World} (h : TextK K s v w) (hd : ∀ b, K w b → b < w.heap.size → K w' b ∧ w'.heap[b]? = w.heap[b]?) : TextK K s v w' := by
  obtain ⟨g, h1, h2, h3⟩ := h
  obtain ⟨h4, h5⟩ := hd g h2 (Err.lt_of_cell h3)
  exact ⟨g, h1, h4, (World.cell?_of_block (w := w) (a := ⟨g, 0, none⟩) h5).trans h3⟩
theorem SaysK.keep {K : World → Nat → Prop} {y : Say} {v : Value} {w w' : World} (h : SaysK K y v w) (hd : ∀ b, K w b → b < w.heap.size → K w' b ∧ w'.heap[b]? = w.heap[b]?) : SaysK K y v w' := Says.keep h hd
theorem RowK.keep {K : World → Nat → Prop} {ys : List Say} {v : Value} {w w' : World} (h : RowK K ys v w) (hd : ∀ b, K w b → b < w.heap.size → K w' b ∧ w'.heap[b]? = w.heap[b]?) : RowK K ys v w' := by
  obtain ⟨g, Es, h1, hl, h2, h3, h4⟩ := h
  obtain ⟨h5, h6⟩ := hd g h2 hl
  refine ⟨g, Es, h1, ?_, h5, h3.keep hd, fun k E hk => (World.cell?_of_block (w := w) (a := ⟨g, k, none⟩) h6).trans (h4 k E hk)⟩
  rw [Array.getElem?_eq_getElem hl] at h6
  exact (Array.getElem?_eq_some_iff.1 h6).1
theorem cells_form {E : Value} (h : E = .nilIface ∨ ∃ u x, E = .iface u x) : E.cells = #[E] := by
  rcases h with rfl | ⟨u, x, rfl⟩ <;> rfl
theorem info_error : (Tryz.prog.info? 83).map (fun i => (i.zero, i.size, i.bytes)) = some (some .nilIface, 1, 16) := by kernel_rfl
theorem build_errs (n : Nat) (parts : Array (Nat × Value)) (cells : Array Value) (w : World) (hn : 0 < n) (hn2 : n ≤ 1000) (h : Instr.fill (fun i => some (i * 1, 1)) ((Array.range (n * 1)).map (Value.nilIface.cells[· % Value.nilIface.cells.size]!)) parts.toList = some cells) :
    (Instr.buildSlice 143 n parts).run Tryz.prog w = .ok (.slice (some ⟨w.heap.size, 0, none⟩) n n) (w.alloc (.cells cells 83)) := by
  obtain ⟨ie, hie, hz, hs, _⟩ := info_parts info_error
  exact run_buildSlice w _ _ n parts cells ie .nilIface Tryz.underlying143 hie hz (by rw [hs]; omega) (by rw [hs]; omega) (by rw [hs]; exact h)
theorem build2 (E0 E1 : Value) (w : World) (h0 : E0.cells = #[E0]) (h1 : E1.cells = #[E1]) :
    (Instr.buildSlice 143 2 #[(0, E0), (1, E1)]).run Tryz.prog w = .ok (.slice (some ⟨w.heap.size, 0, none⟩) 2 2) (w.alloc (.cells #[E0, E1] 83)) :=
  build_errs 2 _ _ w (by decide) (by decide) (by
    rw [show (Array.range (2 * 1)).map (Value.nilIface.cells[· % Value.nilIface.cells.size]!) = #[.nilIface, .nilIface] from by kernel_rfl]
    simp [Instr.fill, h0, h1])
theorem build3 (E0 E1 E2 : Value) (w : World) (h0 : E0.cells = #[E0]) (h1 : E1.cells = #[E1]) (h2 : E2.cells = #[E2]) :
    (Instr.buildSlice 143 3 #[(0, E0), (1, E1), (2, E2)]).run Tryz.prog w = .ok (.slice (some ⟨w.heap.size, 0, none⟩) 3 3) (w.alloc (.cells #[E0, E1, E2] 83)) :=
  build_errs 3 _ _ w (by decide) (by decide) (by
    rw [show (Array.range (3 * 1)).map (Value.nilIface.cells[· % Value.nilIface.cells.size]!) = #[.nilIface, .nilIface, .nilIface] from by kernel_rfl]
    simp [Instr.fill, h0, h1, h2])
theorem build6 (E0 E1 E2 E3 E4 E5 : Value) (w : World) (h0 : E0.cells = #[E0]) (h1 : E1.cells = #[E1]) (h2 : E2.cells = #[E2]) (h3 : E3.cells = #[E3]) (h4 : E4.cells = #[E4]) (h5 : E5.cells = #[E5]) :
    (Instr.buildSlice 143 6 #[(0, E0), (1, E1), (2, E2), (3, E3), (4, E4), (5, E5)]).run Tryz.prog w = .ok (.slice (some ⟨w.heap.size, 0, none⟩) 6 6) (w.alloc (.cells #[E0, E1, E2, E3, E4, E5] 83)) :=
  build_errs 6 _ _ w (by decide) (by decide) (by
    rw [show (Array.range (6 * 1)).map (Value.nilIface.cells[· % Value.nilIface.cells.size]!) = #[.nilIface, .nilIface, .nilIface, .nilIface, .nilIface, .nilIface] from by kernel_rfl]
    simp [Instr.fill, h0, h1, h2, h3, h4, h5])
theorem build7 (E0 E1 E2 E3 E4 E5 E6 : Value) (w : World) (h0 : E0.cells = #[E0]) (h1 : E1.cells = #[E1]) (h2 : E2.cells = #[E2]) (h3 : E3.cells = #[E3]) (h4 : E4.cells = #[E4]) (h5 : E5.cells = #[E5]) (h6 : E6.cells = #[E6]) :
    (Instr.buildSlice 143 7 #[(0, E0), (1, E1), (2, E2), (3, E3), (4, E4), (5, E5), (6, E6)]).run Tryz.prog w = .ok (.slice (some ⟨w.heap.size, 0, none⟩) 7 7) (w.alloc (.cells #[E0, E1, E2, E3, E4, E5, E6] 83)) :=
  build_errs 7 _ _ w (by decide) (by decide) (by
    rw [show (Array.range (7 * 1)).map (Value.nilIface.cells[· % Value.nilIface.cells.size]!) = #[.nilIface, .nilIface, .nilIface, .nilIface, .nilIface, .nilIface, .nilIface] from by kernel_rfl]
    simp [Instr.fill, h0, h1, h2, h3, h4, h5, h6])
theorem row_made {K : World → Nat → Prop} {w : World} (Es : List Value) (ys : List Say) (n : Nat) (hn : ys.length = n) (hK : K (w.alloc (.cells Es.toArray 83)) w.heap.size)
    (hd : ∀ b, K w b → b < w.heap.size → K (w.alloc (.cells Es.toArray 83)) b ∧ (w.alloc (.cells Es.toArray 83)).heap[b]? = w.heap[b]?) (h : AllSays (K w) w Es ys) : RowK K ys (.slice (some ⟨w.heap.size, 0, none⟩) n n) (w.alloc (.cells Es.toArray 83)) := by
  subst hn
  refine ⟨w.heap.size, Es, rfl, by simp, hK, h.keep hd, fun k E hk => ?_⟩
  simp only [World.cell?, heap_alloc_new]
  simpa using hk
theorem row_first {K : World → Nat → Prop} {w : World} {ys : List Say} {v : Value} (h : RowK K ys v w) (hn : ys.length ≤ 1000) :
    Calls Tryz.prog 73 #[v] w fun e w' => ∃ E, e = .returned E ∧ SaysK K (firstV ys) E w' ∧ Below w.heap.size w w' := by
  obtain ⟨g, Es, rfl, _, _, h1, h2⟩ := h
  have hl := h1.length
  rw [← hl]
  refine (Err.first_any Es (some ⟨g, 0, none⟩) Es.length w ?_ ?_ (by omega)).mono ?_
  · intro k E hk
    have hlt := (List.getElem?_eq_some_iff.1 hk).1
    exact (h1.at k E ys[k] hk (List.getElem?_eq_getElem (by omega))).form
  · intro k E hk
    refine ⟨_, rfl, ?_⟩
    rw [Addr.add_lit, Nat.zero_add]
    exact h2 k E hk
  · rintro e w' ⟨rfl, rfl⟩
    exact ⟨_, rfl, first_says hl h1.at, Below.refl _ _⟩
theorem text_made {K : World → Nat → Prop} {w : World} (s : ByteArray) (hK : K (w.alloc (.cells #[.string s] 9)) w.heap.size) : TextK K s (.slice (some ⟨w.heap.size, 0, none⟩) 1 1) (w.alloc (.cells #[.string s] 9)) :=
  ⟨w.heap.size, rfl, hK, by simp⟩
/-- from block B on -/
def KB (B : Nat) (_ : World) (b : Nat) : Prop := B ≤ b
theorem kb_keep {B : Nat} {w w' : World} (hb : Below w.heap.size w w') : ∀ b, KB B w b → b < w.heap.size → KB B w' b ∧ w'.heap[b]? = w.heap[b]? := fun b h hl => ⟨h, hb.block b hl⟩
theorem kb_tells {B : Nat} {y : Say} {w w' : World} {E : Value} (hB : B ≤ w.heap.size) (h : Says (fun b => w.heap.size ≤ b) w' E y) : SaysK (KB B) y E w' := Says.keep h fun _ hb _ => ⟨Nat.le_trans hB hb, rfl⟩
/-- off what is taken -/
def KO (g : Nat) (w : World) (b : Nat) : Prop := Ok g w ∧ Off g w b
theorem ko_keep {g : Nat} {w w' : World} (hA : Av g w w') : ∀ b, KO g w b → b < w.heap.size → KO g w' b ∧ w'.heap[b]? = w.heap[b]? := fun b h _ =>
  ⟨⟨(hA.ok h.1).1, ((hA.ok h.1).2 b h.2).1⟩, ((hA.ok h.1).2 b h.2).2⟩
theorem ko_new {g : Nat} {w w' : World} (hok : Ok g w) (hb : Below w.heap.size w w') {b : Nat} (h1 : w.heap.size ≤ b) (h2 : b < w'.heap.size) : KO g w' b := ⟨((Av.of_any hb).ok hok).1, hok.fresh hb h1 h2⟩
theorem ko_tells {g : Nat} {y : Say} {w w' : World} {E : Value} (hok : Ok g w) (hb : Below w.heap.size w w') (h : Says (fun b => w.heap.size ≤ b) w' E y) : SaysK (KO g) y E w' := Says.keep h fun _ h1 h2 => ⟨ko_new hok hb h1 h2, rfl⟩
end SpecOwn
end Go.Proofs.YtbichomjpmmjmaaGreatDoor

/-
  The contracts of the laws' own helpers SameInts, SameLabels, SameContainers, SameSpec: are lists of numbers, of labels, of containers, are specs the same? No condition.
-/
namespace Go.Proofs.YtbichomjpmmjmaaGreatDoor
open Go.ChangeShapes Go.WideShapes Go.ChangeAt Go.RowKit Go.Lib
open Sd Lists
namespace Book
end Book
end Go.Proofs.YtbichomjpmmjmaaGreatDoor

/-
  The contracts of slices.Equal on numbers, of spec's alikeButImage and alike: whether numbers, whether containers are the same. All that was there is left as it was. No condition.
-/
namespace Go.Proofs.YtbichomjpmmjmaaGreatDoor
open Go.ChangeShapes Go.WideShapes Go.ChangeAt Go.RowKit Go.Lib
open Sd Lists Book
namespace SpecOwn
end SpecOwn
end Go.Proofs.YtbichomjpmmjmaaGreatDoor
