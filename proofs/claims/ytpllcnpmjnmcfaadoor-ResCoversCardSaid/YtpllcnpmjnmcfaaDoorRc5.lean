/-
  A region that draws its order, by a condition on what is done already; and 'return x, y' of two structs that lie in boxes: both loaded, both stored, in whatever order. No condition.
-/
import Derived.Orders
import Derived.Below
import Derived.WalkKit
import Derived.Deep.MidRow
set_option linter.unusedVariables false
set_option linter.unusedSimpArgs false
namespace Go.Proofs.YtpllcnpmjnmcfaaDoor
open Go.RowKit
namespace Back
variable {P : Program} {Q : Exit → Act → World → Prop}
theorem mem_ready {md : Region.Mode} {ops : Array Oper} {listed : Array Bool} {i : Nat} : i ∈ Region.ready md ops listed ↔ listed.getD i true = false ∧ ∃ o, ops[i]? = some o ∧ ∀ e ∈ o.after, Region.binds md e = true → listed.getD e.on false = true := by
  unfold Region.ready
  rw [List.mem_filter, List.mem_range, Bool.and_eq_true]
  constructor
  · rintro ⟨h1, h2, h3⟩
    have ho : ops[i]? = some ops[i] := Array.getElem?_eq_getElem h1
    rw [ho] at h3
    refine ⟨by simpa using h2, _, ho, fun e he hb => ?_⟩
    have h4 := Array.all_eq_true_iff_forall_mem.1 (show (ops[i]).after.all (fun e => !Region.binds md e || listed.getD e.on false) = true from h3) e he
    rw [hb] at h4
    simpa using h4
  · rintro ⟨h1, o, ho, h2⟩
    refine ⟨(Array.getElem?_eq_some_iff.1 ho).1, by simpa using h1, ?_⟩
    rw [ho]
    show o.after.all _ = true
    refine Array.all_eq_true_iff_forall_mem.2 fun e he => ?_
    cases hb : Region.binds md e with
    | false => rfl
    | true => simpa using h2 e he hb
theorem wp_region {id : Nat} {ops : Array Oper} {a0 : Act} {w0 : World} (hm : P.follows .mixedOrders = true) (hback : ∀ i o, ops[i]? = some o → ∀ e ∈ o.after, Region.binds .any e = true → e.on < i)
    (I : (Nat → Bool) → Act → World → Prop) (h0 : I (fun _ => false) a0 w0.drew)
    (hstep : ∀ (s : Nat → Bool) i o a w, ops[i]? = some o → s i = false → (∀ e ∈ o.after, Region.binds .any e = true → s e.on = true) → I s a w → o.guard = none ∧ o.wp P a w (fun a' w' => I (fun j => s j || j == i) a' w') Q)
    (hend : ∀ s a w, (∀ i, i < ops.size → s i = true) → I s a w → Q .normal a w) : (Code.region id ops true).wp P Q a0 w0 := by
  have main : ∀ (fuel : Nat) (listed : Array Bool) (s : Nat → Bool) (a : Act) (w : World), listed.size = ops.size → (∀ i, i < ops.size → listed.getD i true = s i ∧ listed.getD i false = s i) → ((List.range ops.size).filter fun j => !s j).length ≤ fuel → I s a w → wpAny P .any ops Q fuel listed a w := by
    intro fuel
    induction fuel with
    | zero =>
      intro listed s a w hz hl hf hi
      have hall : ∀ i, i < ops.size → s i = true := fun i h => by
        cases hs : s i with
        | true => rfl
        | false =>
          have : i ∈ (List.range ops.size).filter fun j => !s j := List.mem_filter.2 ⟨List.mem_range.2 h, by rw [hs]; rfl⟩
          rw [List.eq_nil_of_length_eq_zero (Nat.le_zero.1 hf)] at this
          cases this
      refine ⟨List.eq_nil_iff_forall_not_mem.2 fun i h => ?_, hend s a w hall hi⟩
      obtain ⟨h1, o, ho, _⟩ := mem_ready.1 h
      have hlt := (Array.getElem?_eq_some_iff.1 ho).1
      rw [(hl i hlt).1, hall i hlt] at h1
      cases h1
    | succ fuel ih =>
      intro listed s a w hz hl hf hi
      refine ⟨fun hr => hend s a w (fun i => ?_) hi, fun i h => ?_⟩
      · induction i using Nat.strongRecOn with
        | _ i hin =>
          intro hlt
          cases hs : s i with
          | true => rfl
          | false =>
            have : i ∈ Region.ready .any ops listed := mem_ready.2 ⟨by rw [(hl i hlt).1]; exact hs, _, Array.getElem?_eq_getElem hlt, fun e he hb => by
              have h1 := hback i _ (Array.getElem?_eq_getElem hlt) e he hb
              rw [(hl e.on (by omega)).2]
              exact hin e.on h1 (by omega)⟩
            rw [hr] at this
            cases this
      · obtain ⟨h1, o, ho, hd⟩ := mem_ready.1 h
        have hlt := (Array.getElem?_eq_some_iff.1 ho).1
        rw [(hl i hlt).1] at h1
        obtain ⟨hg, hw⟩ := hstep s i o a w ho h1 (fun e he hb => by have h2 := hback i o ho e he hb; rw [← (hl e.on (by omega)).2]; exact hd e he hb) hi
        unfold wpOp
        simp only [ho]
        rw [if_pos (by simp [Region.wanted, hg])]
        refine .inl (Oper.wp_mono (fun a' w' hi' => ih _ (fun j => s j || j == i) a' w' (by simpa using hz) (fun j hj => ?_) ?_ hi') hw)
        · have h3 := hl j hj
          simp only [Array.getD_eq_getD_getElem?] at h3 ⊢
          by_cases e : i = j
          · subst e; simp [show i < listed.size by omega]
          · rw [Array.getElem?_setIfInBounds_ne e, h3.1, h3.2]
            simp [Ne.symm e]
        · have e : ((List.range ops.size).filter fun j => !(s j || j == i)) = ((List.range ops.size).filter fun j => !s j).filter fun j => !(j == i) := by
            rw [List.filter_filter]
            refine List.filter_congr fun j _ => ?_
            cases s j <;> simp
          have hm : i ∈ (List.range ops.size).filter fun j => !s j := List.mem_filter.2 ⟨List.mem_range.2 hlt, by rw [h1]; rfl⟩
          have : (((List.range ops.size).filter fun j => !s j).filter fun j => !(j == i)).length < ((List.range ops.size).filter fun j => !s j).length := by
            exact List.length_filter_lt_length_iff_exists.2 ⟨i, hm, by simp⟩
          rw [e]; omega
  exact wp_region_any hm (main _ _ (fun _ => false) a0 _ (by simp) (fun i h => by simp [Array.getD_eq_getD_getElem?, h]) (Nat.le_trans (List.length_filter_le _ _) (by simp)) h0)
theorem st {b0 : Nat} {vs : List Value} {A : Array Value} {t : TypeId} {w : World} (h : w.heap[b0]? = some (.cells A t (0, 0))) (hs : A.size = vs.length) : (w.setCells b0 0 vs).heap[b0]? = some (.cells vs.toArray t (0, 0)) := by
  have g : ∀ (vs : List Value) (o : Nat) (w : World) (A : Array Value), w.heap[b0]? = some (.cells A t (0, 0)) → A.size = o + vs.length → (w.setCells b0 o vs).heap[b0]? = some (.cells (A.toList.take o ++ vs).toArray t (0, 0)) := by
    intro vs
    induction vs with
    | nil => intro o w A h hs; rw [World.setCells, h, List.append_nil, List.take_of_length_le (by simpa using Nat.le_of_eq hs)]
    | cons v r ih =>
      intro o w A h hs
      rw [World.setCells, ih (o + 1) _ _ (heap_setCell_same w b0 o _ _ v h) (by simp at hs ⊢; omega)]
      congr 3
      rw [Array.toList_setIfInBounds, List.take_add_one, List.getElem?_set_self (by simp at hs ⊢; omega), List.take_set_of_le (Nat.le_refl o)]
      simp
  simpa using g vs 0 w A h (by omega)
theorem far (b0 : Nat) : ∀ (vs : List Value) (o : Nat) (w : World), (w.setCells b0 o vs).os = w.os ∧ (w.setCells b0 o vs).tape = w.tape ∧ (w.setCells b0 o vs).output = w.output ∧ (w.setCells b0 o vs).heap.size = w.heap.size ∧ ∀ i, i ≠ b0 → (w.setCells b0 o vs).heap[i]? = w.heap[i]? := by
  intro vs
  induction vs with
  | nil => intro o w; exact ⟨rfl, rfl, rfl, rfl, fun _ _ => rfl⟩
  | cons v r ih =>
    intro o w
    obtain ⟨h1, h2, h3, h4, h5⟩ := ih (o + 1) (w.setCell ⟨b0, o, none⟩ v)
    exact ⟨h1, h2, h3, h4.trans (by simp), fun i hi => (h5 i hi).trans (Below.heap_setCell w ⟨b0, o, none⟩ v i hi)⟩
theorem th {b0 : Nat} {A : Array Value} {t : TypeId} {w : World} {n : Nat} (h : w.heap[b0]? = some (.cells A t (0, 0))) (hs : A.size = n) : w.there b0 0 n := fun j hj => by
  have : j < A.size := by omega
  simp [World.cell?, World.frozen?, h, this]
theorem five {α : Type} (l : List α) (h : l.length = 5) : ∃ a b c d e, l = [a, b, c, d, e] := by
  match l, h with
  | [a, b, c, d, e], _ => exact ⟨a, b, c, d, e, rfl⟩
theorem four {α : Type} (l : List α) (h : l.length = 4) : ∃ a b c d, l = [a, b, c, d] := by
  match l, h with
  | [a, b, c, d], _ => exact ⟨a, b, c, d, rfl⟩
/-- 'return x, y': operations 0 and 1 load, 2 and 3 store what they loaded -/
theorem wp_two {id : Nat} {l : List Oper} {a0 : Act} {w0 : World} {T U : TypeId} {s0 s1 s2 s3 d0 d1 : Tmp} {b x p z : Nat} {xs ys : List Value} {xt yt : TypeDesc} {X Y X0 Y0 : Array Value} (hm : P.follows .mixedOrders = true)
    (hl : l.map (fun o => (o.op, o.dst, o.guard)) = [(.load T (.tmp s0), some d0, none), (.load U (.tmp s1), some d1, none), (.store T (.tmp s2) (.tmp d0), none, none), (.store U (.tmp s3) (.tmp d1), none, none)])
    (hb : ((List.range 4).all fun i => (l[i]?).all fun o => o.after.all fun e => !Region.binds .any e || decide (e.on < i)) = true)
    (hd : ((l[2]?).any fun o => o.after.any fun e => e.on == 0 && Region.binds .any e) = true) (he : ((l[3]?).any fun o => o.after.any fun e => e.on == 1 && Region.binds .any e) = true)
    (hz : (decide (d0 < a0.tmps.size) && decide (d1 < a0.tmps.size) && d0 != d1 && [s0, s1, s2, s3].all (fun s => s != d0 && s != d1)) = true)
    (e0 : a0.tmps.getD s0 undef = .pointer (some ⟨b, 0, none⟩)) (e1 : a0.tmps.getD s1 undef = .pointer (some ⟨x, 0, none⟩)) (e2 : a0.tmps.getD s2 undef = .pointer (some ⟨p, 0, none⟩)) (e3 : a0.tmps.getD s3 undef = .pointer (some ⟨z, 0, none⟩))
    (hx : w0.heap[b]? = some (.cells X T (0, 0))) (hy : w0.heap[x]? = some (.cells Y U (0, 0))) (hp : w0.heap[p]? = some (.cells X0 T (0, 0))) (hq : w0.heap[z]? = some (.cells Y0 U (0, 0)))
    (hX : X = xs.toArray) (hY : Y = ys.toArray) (hX0 : X0.size = xs.length) (hY0 : Y0.size = ys.length)
    (hu : P.underlying T = some xt) (hv : P.underlying U = some yt) (hxt : xt.isRow = true) (hyt : yt.isRow = true) (hi : (P.info? T).map (·.size) = some xs.length) (hj : (P.info? U).map (·.size) = some ys.length) (o1 : xs.toArray.all (·.oneCell') = true) (o2 : ys.toArray.all (·.oneCell') = true)
    (hne : p ≠ b ∧ p ≠ x ∧ p ≠ z ∧ z ≠ b ∧ z ≠ x)
    (hend : ∀ a w, (∀ s, s ≠ d0 → s ≠ d1 → a.tmps.getD s undef = a0.tmps.getD s undef) → a.defers = a0.defers → w.os = w0.os → w.tape = w0.tape → w.output = w0.output → w.heap.size = w0.heap.size → (∀ i, i ≠ p → i ≠ z → w.heap[i]? = w0.heap[i]?) → (∃ X', w.heap[p]? = some (.cells X' T (0, 0)) ∧ X' = xs.toArray) → (∃ Y', w.heap[z]? = some (.cells Y' U (0, 0)) ∧ Y' = ys.toArray) → Q .normal a w) :
    (Code.region id l.toArray true).wp P Q a0 w0 := by
  obtain ⟨q0, q1, q2, q3, rfl⟩ := four l (by have h := congrArg List.length hl; simpa using h)
  simp only [List.map_cons, List.map_nil, List.cons.injEq, Prod.mk.injEq, and_true] at hl
  obtain ⟨⟨a1, a2, a3⟩, ⟨b1, b2, b3⟩, ⟨c1, c2, c3⟩, f1, f2, f3⟩ := hl
  simp only [Bool.and_eq_true, decide_eq_true_eq, bne_iff_ne, ne_eq, List.all_cons, List.all_nil, and_true] at hz
  obtain ⟨⟨⟨z0, z1⟩, z2⟩, ⟨n00, n01⟩, ⟨n10, n11⟩, ⟨n20, n21⟩, n30, n31⟩ := hz
  obtain ⟨m1, m2, m3, m4, m5⟩ := hne
  have hw {o : Oper} {k : Nat} {s : Nat → Bool} (h : ((some o : Option Oper).any fun o => o.after.any fun e => e.on == k && Region.binds .any e) = true) (hs : ∀ e ∈ o.after, Region.binds .any e = true → s e.on = true) : s k = true := by
    obtain ⟨j, hj, h1⟩ := Array.any_eq_true.1 (show o.after.any _ = true from h)
    rw [Bool.and_eq_true, beq_iff_eq] at h1
    rw [← h1.1]
    exact hs _ (Array.getElem_mem hj) h1.2
  have rg {b0 : Nat} {t : TypeId} {w : World} {vs : List Value} {A : Array Value} (h : w.heap[b0]? = some (.cells A t (0, 0))) (hA : A = vs.toArray) : w.rangeAt b0 0 vs := fun j v hv => by
    subst hA; simp [World.cell?, h, hv]
  refine wp_region hm (fun i o ho e he hbd => ?_) (fun s a w => a.tmps.size = a0.tmps.size ∧ (∀ t, t ≠ d0 → t ≠ d1 → a.tmps.getD t undef = a0.tmps.getD t undef) ∧ a.defers = a0.defers ∧ (s 0 = true → a.tmps.getD d0 undef = .agg xs.toArray) ∧ (s 1 = true → a.tmps.getD d1 undef = .agg ys.toArray)
    ∧ (w.os = w0.os ∧ w.tape = w0.tape ∧ w.output = w0.output ∧ w.heap.size = w0.heap.size) ∧ (∀ i, i ≠ p → i ≠ z → w.heap[i]? = w0.heap[i]?) ∧ (∃ X', w.heap[p]? = some (.cells X' T (0, 0)) ∧ X'.size = xs.length ∧ (s 2 = true → X' = xs.toArray)) ∧ (∃ Y', w.heap[z]? = some (.cells Y' U (0, 0)) ∧ Y'.size = ys.length ∧ (s 3 = true → Y' = ys.toArray))) ?_ ?_ ?_
  · have hlt := (Array.getElem?_eq_some_iff.1 ho).1
    have h1 := List.all_eq_true.1 hb i (List.mem_range.2 (by simpa using hlt))
    rw [show ([q0, q1, q2, q3] : List Oper)[i]? = some o by simpa using ho] at h1
    have h2 := Array.all_eq_true_iff_forall_mem.1 (show o.after.all _ = true from h1) e he
    rw [hbd] at h2
    simpa using h2
  · exact ⟨rfl, fun _ _ _ => rfl, rfl, fun h => Bool.noConfusion h, fun h => Bool.noConfusion h, ⟨rfl, rfl, rfl, rfl⟩, fun _ _ _ => rfl, ⟨_, hp, hX0, fun h => Bool.noConfusion h⟩, ⟨_, hq, hY0, fun h => Bool.noConfusion h⟩⟩
  · rintro s i o a w ho hs hdep ⟨i1, i2, i3, i4, i5, ⟨g1, g2, g3, g4⟩, i6, ⟨X', i7, i8, i9⟩, Y', j1, j2, j3⟩
    have hlt := (Array.getElem?_eq_some_iff.1 ho).1
    have hgo : ∀ {t : Tmp} {d : Tmp} {v : Value}, t ≠ d → (a.put (some d) v).tmps.getD t undef = a.tmps.getD t undef := fun h => by
      simp [Act.put, Array.getD_eq_getD_getElem?, Array.getElem?_setIfInBounds_ne (Ne.symm h)]
    match i, hlt with
    | 0, _ =>
      obtain rfl : q0 = o := by simpa using ho
      refine ⟨a3, wp_load_mid T (.tmp s0) a1 b 0 (by show a.tmps.getD s0 undef = _; rw [i2 _ n00 n01, e0]) xs xt (rg ((i6 b (Ne.symm m1) (Ne.symm m4)).trans hx) hX) hu hxt hi ?_⟩
      rw [a2]
      refine ⟨by simp [Act.put, i1], fun t h1 h2 => (hgo h1).trans (i2 t h1 h2), i3, fun _ => ?_, fun h => (hgo (Ne.symm z2)).trans (i5 (by simpa using h)), ⟨g1, g2, g3, g4⟩, i6, ⟨X', i7, i8, fun h => i9 (by simpa using h)⟩, ⟨Y', j1, j2, fun h => j3 (by simpa using h)⟩⟩
      simp [Act.put, Array.getD_eq_getD_getElem?, show d0 < a.tmps.size from i1 ▸ z0]
    | 1, _ =>
      obtain rfl : q1 = o := by simpa using ho
      refine ⟨b3, wp_load_mid U (.tmp s1) b1 x 0 (by show a.tmps.getD s1 undef = _; rw [i2 _ n10 n11, e1]) ys yt (rg ((i6 x (Ne.symm m2) (Ne.symm m5)).trans hy) hY) hv hyt hj ?_⟩
      rw [b2]
      refine ⟨by simp [Act.put, i1], fun t h1 h2 => (hgo h2).trans (i2 t h1 h2), i3, fun h => (hgo z2).trans (i4 (by simpa using h)), fun _ => ?_, ⟨g1, g2, g3, g4⟩, i6, ⟨X', i7, i8, fun h => i9 (by simpa using h)⟩, ⟨Y', j1, j2, fun h => j3 (by simpa using h)⟩⟩
      simp [Act.put, Array.getD_eq_getD_getElem?, show d1 < a.tmps.size from i1 ▸ z1]
    | 2, _ =>
      obtain rfl : q2 = o := by simpa using ho
      have h0 := hw hd hdep
      obtain ⟨k1, k2, k3, k4, k5⟩ := far p xs 0 w
      refine ⟨c3, wp_store_mid T (.tmp s2) (.tmp d0) c1 p 0 xs.toArray (by show a.tmps.getD s2 undef = _; rw [i2 _ n20 n21, e2]) (i4 h0) (th i7 (by simpa using i8)) (by simpa using hi) o1 ?_⟩
      rw [c2]
      refine ⟨i1, i2, i3, fun _ => i4 h0, fun h => i5 (by simpa using h), ⟨k1.trans g1, k2.trans g2, k3.trans g3, k4.trans g4⟩, fun i h1 h2 => (k5 i h1).trans (i6 i h1 h2), ⟨_, by simpa using st i7 i8, by simp, fun _ => rfl⟩, ⟨Y', (k5 z (Ne.symm m3)).trans j1, j2, fun h => j3 (by simpa using h)⟩⟩
    | 3, _ =>
      obtain rfl : q3 = o := by simpa using ho
      have h0 := hw he hdep
      obtain ⟨k1, k2, k3, k4, k5⟩ := far z ys 0 w
      refine ⟨f3, wp_store_mid U (.tmp s3) (.tmp d1) f1 z 0 ys.toArray (by show a.tmps.getD s3 undef = _; rw [i2 _ n30 n31, e3]) (i5 h0) (th j1 (by simpa using j2)) (by simpa using hj) o2 ?_⟩
      rw [f2]
      refine ⟨i1, i2, i3, fun h => i4 (by simpa using h), fun _ => i5 h0, ⟨k1.trans g1, k2.trans g2, k3.trans g3, k4.trans g4⟩, fun i h1 h2 => (k5 i h2).trans (i6 i h1 h2), ⟨X', (k5 p m3).trans i7, i8, fun h => i9 (by simpa using h)⟩, ⟨_, by simpa using st j1 j2, by simp, fun _ => rfl⟩⟩
    | n + 4, h => exact absurd h (by simp)
  · rintro s a w hall ⟨i1, i2, i3, i4, i5, ⟨g1, g2, g3, g4⟩, i6, ⟨X', i7, i8, i9⟩, Y', j1, j2, j3⟩
    exact hend a w i2 i3 g1 g2 g3 g4 i6 ⟨X', i7, i9 (hall 2 (by simp))⟩ ⟨Y', j1, j3 (hall 3 (by simp))⟩
/-- 'return T{}, r.C': a zero built, a cell's address, the cell loaded; the zero stored, the cell's value handed over -/
theorem wp_zero {id : Nat} {l : List Oper} {a0 : Act} {w0 : World} {T : TypeId} {s2 s3 s5 d0 d1 d2 : Tmp} {b k z : Nat} {c : Value} {zs : List Value} {Y0 : Array Value} (hm : P.follows .mixedOrders = true)
    (hl : l.map (fun o => (o.dst, o.guard)) = [(some d0, none), (some d1, none), (some d2, none), (none, none), (some s3, none)])
    (hb : ((List.range 5).all fun i => (l[i]?).all fun o => o.after.all fun e => !Region.binds .any e || decide (e.on < i)) = true)
    (ha : ((l[2]?).any fun o => o.after.any fun e => e.on == 1 && Region.binds .any e) = true) (hd : ((l[3]?).any fun o => o.after.any fun e => e.on == 0 && Region.binds .any e) = true) (he : ((l[4]?).any fun o => o.after.any fun e => e.on == 2 && Region.binds .any e) = true)
    (hz : (decide (d0 < a0.tmps.size) && decide (d1 < a0.tmps.size) && decide (d2 < a0.tmps.size) && decide (s3 < a0.tmps.size) && d0 != d1 && d0 != d2 && d0 != s3 && d1 != d2 && d1 != s3 && d2 != s3 && [s2, s5].all (fun s => s != d0 && s != d1 && s != d2 && s != s3)) = true)
    (e2 : a0.tmps.getD s2 undef = .pointer (some ⟨z, 0, none⟩)) (e5 : a0.tmps.getD s5 undef = .pointer (some ⟨b, 0, none⟩))
    (x0 : ∀ o, l[0]? = some o → ∀ (a : Act) w, (execOp a.eval o).run P w = .ok (.value (.agg zs.toArray)) w) (x1 : ∀ o, l[1]? = some o → ∀ (a : Act) w, a.tmps.getD s5 undef = .pointer (some ⟨b, 0, none⟩) → (execOp a.eval o).run P w = .ok (.value (.pointer (some ⟨b, k, none⟩))) w)
    (x2 : ∀ o, l[2]? = some o → ∀ (a : Act) w, a.tmps.getD d1 undef = .pointer (some ⟨b, k, none⟩) → w.cell? ⟨b, k, none⟩ = some c → (execOp a.eval o).run P w = .ok (.value c) w)
    (x3 : ∀ o, l[3]? = some o → o.op = .store T (.tmp s2) (.tmp d0)) (x4 : ∀ o, l[4]? = some o → ∀ (a : Act) w, a.tmps.getD d2 undef = c → (execOp a.eval o).run P w = .ok (.value c) w)
    (hc : w0.cell? ⟨b, k, none⟩ = some c) (hq : w0.heap[z]? = some (.cells Y0 T (0, 0))) (hY0 : Y0.size = zs.length) (hi : (P.info? T).map (·.size) = some zs.length) (o1 : zs.toArray.all (·.oneCell') = true) (hne : z ≠ b)
    (hend : ∀ a w, a.tmps.getD s2 undef = .pointer (some ⟨z, 0, none⟩) → a.tmps.getD s3 undef = c → a.defers = a0.defers → w.os = w0.os → w.tape = w0.tape → w.output = w0.output → w.heap.size = w0.heap.size → (∀ i, i ≠ z → w.heap[i]? = w0.heap[i]?) → (∃ Y', w.heap[z]? = some (.cells Y' T (0, 0)) ∧ Y' = zs.toArray) → Q .normal a w) :
    (Code.region id l.toArray true).wp P Q a0 w0 := by
  obtain ⟨q0, q1, q2, q3, q4, rfl⟩ : ∃ a b c d e, l = [a, b, c, d, e] := five l (by have h := congrArg List.length hl; simpa using h)
  simp only [List.map_cons, List.map_nil, List.cons.injEq, Prod.mk.injEq, and_true] at hl
  obtain ⟨⟨a2, a3⟩, ⟨b2, b3⟩, ⟨c2, c3⟩, ⟨f2, f3⟩, g2, g3⟩ := hl
  simp only [Bool.and_eq_true, decide_eq_true_eq, bne_iff_ne, ne_eq, List.all_cons, List.all_nil, and_true] at hz
  obtain ⟨⟨⟨⟨⟨⟨⟨⟨⟨⟨z0, z1⟩, z2⟩, z3⟩, n01⟩, n02⟩, n03⟩, n12⟩, n13⟩, n23⟩, ⟨⟨⟨m20, m21⟩, m22⟩, m23⟩, ⟨⟨m50, m51⟩, m52⟩, m53⟩ := hz
  have hw {o : Oper} {k : Nat} {s : Nat → Bool} (h : ((some o : Option Oper).any fun o => o.after.any fun e => e.on == k && Region.binds .any e) = true) (hs : ∀ e ∈ o.after, Region.binds .any e = true → s e.on = true) : s k = true := by
    obtain ⟨j, hj, h1⟩ := Array.any_eq_true.1 (show o.after.any _ = true from h)
    rw [Bool.and_eq_true, beq_iff_eq] at h1
    rw [← h1.1]
    exact hs _ (Array.getElem_mem hj) h1.2
  have val {o : Oper} {a : Act} {w : World} {v : Value} {K : Act → World → Prop} (h : (execOp a.eval o).run P w = .ok (.value v) w) (hk : K (a.put o.dst v) w) : o.wp P a w K Q := by
    unfold Oper.wp; rw [h]; exact hk
  refine wp_region hm (fun i o ho e he' hbd => ?_) (fun s a w => a.tmps.size = a0.tmps.size ∧ (∀ t, t ≠ d0 → t ≠ d1 → t ≠ d2 → t ≠ s3 → a.tmps.getD t undef = a0.tmps.getD t undef) ∧ a.defers = a0.defers ∧ (s 0 = true → a.tmps.getD d0 undef = .agg zs.toArray) ∧ (s 1 = true → a.tmps.getD d1 undef = .pointer (some ⟨b, k, none⟩)) ∧ (s 2 = true → a.tmps.getD d2 undef = c) ∧ (s 4 = true → a.tmps.getD s3 undef = c)
    ∧ (w.os = w0.os ∧ w.tape = w0.tape ∧ w.output = w0.output ∧ w.heap.size = w0.heap.size) ∧ (∀ i, i ≠ z → w.heap[i]? = w0.heap[i]?) ∧ (∃ Y', w.heap[z]? = some (.cells Y' T (0, 0)) ∧ Y'.size = zs.length ∧ (s 3 = true → Y' = zs.toArray))) ?_ ?_ ?_
  · have hlt := (Array.getElem?_eq_some_iff.1 ho).1
    have h1 := List.all_eq_true.1 hb i (List.mem_range.2 (by simpa using hlt))
    rw [show ([q0, q1, q2, q3, q4] : List Oper)[i]? = some o by simpa using ho] at h1
    have h2 := Array.all_eq_true_iff_forall_mem.1 (show o.after.all _ = true from h1) e he'
    rw [hbd] at h2
    simpa using h2
  · exact ⟨rfl, fun _ _ _ _ _ => rfl, rfl, fun h => Bool.noConfusion h, fun h => Bool.noConfusion h, fun h => Bool.noConfusion h, fun h => Bool.noConfusion h, ⟨rfl, rfl, rfl, rfl⟩, fun _ _ => rfl, ⟨_, hq, hY0, fun h => Bool.noConfusion h⟩⟩
  · rintro s i o a w ho hs hdep ⟨i1, i2, i3, i4, i5, i6, i7, ⟨y1, y2, y3, y4⟩, i8, Y', j1, j2, j3⟩
    have hlt := (Array.getElem?_eq_some_iff.1 ho).1
    have hgo : ∀ {t : Tmp} {d : Tmp} {v : Value}, t ≠ d → (a.put (some d) v).tmps.getD t undef = a.tmps.getD t undef := fun h => by
      simp [Act.put, Array.getD_eq_getD_getElem?, Array.getElem?_setIfInBounds_ne (Ne.symm h)]
    have hat : ∀ {d : Tmp} {v : Value}, d < a0.tmps.size → (a.put (some d) v).tmps.getD d undef = v := fun h => by
      simp [Act.put, Array.getD_eq_getD_getElem?, show _ < a.tmps.size from i1 ▸ h]
    match i, hlt with
    | 0, _ =>
      obtain rfl : q0 = o := by simpa using ho
      refine ⟨a3, val (x0 _ rfl a w) ?_⟩
      rw [a2]
      exact ⟨by simp [Act.put, i1], fun t h1 h2 h3 h4 => (hgo h1).trans (i2 t h1 h2 h3 h4), i3, fun _ => hat z0, fun h => (hgo (Ne.symm n01)).trans (i5 (by simpa using h)), fun h => (hgo (Ne.symm n02)).trans (i6 (by simpa using h)), fun h => (hgo (Ne.symm n03)).trans (i7 (by simpa using h)), ⟨y1, y2, y3, y4⟩, i8, ⟨Y', j1, j2, fun h => j3 (by simpa using h)⟩⟩
    | 1, _ =>
      obtain rfl : q1 = o := by simpa using ho
      refine ⟨b3, val (x1 _ rfl a w (by rw [i2 _ m50 m51 m52 m53, e5])) ?_⟩
      rw [b2]
      exact ⟨by simp [Act.put, i1], fun t h1 h2 h3 h4 => (hgo h2).trans (i2 t h1 h2 h3 h4), i3, fun h => (hgo n01).trans (i4 (by simpa using h)), fun _ => hat z1, fun h => (hgo (Ne.symm n12)).trans (i6 (by simpa using h)), fun h => (hgo (Ne.symm n13)).trans (i7 (by simpa using h)), ⟨y1, y2, y3, y4⟩, i8, ⟨Y', j1, j2, fun h => j3 (by simpa using h)⟩⟩
    | 2, _ =>
      obtain rfl : q2 = o := by simpa using ho
      refine ⟨c3, val (x2 _ rfl a w (i5 (hw ha hdep)) (by rw [← hc]; unfold World.cell?; rw [i8 b (Ne.symm hne)])) ?_⟩
      rw [c2]
      exact ⟨by simp [Act.put, i1], fun t h1 h2 h3 h4 => (hgo h3).trans (i2 t h1 h2 h3 h4), i3, fun h => (hgo n02).trans (i4 (by simpa using h)), fun h => (hgo n12).trans (i5 (by simpa using h)), fun _ => hat z2, fun h => (hgo (Ne.symm n23)).trans (i7 (by simpa using h)), ⟨y1, y2, y3, y4⟩, i8, ⟨Y', j1, j2, fun h => j3 (by simpa using h)⟩⟩
    | 3, _ =>
      obtain rfl : q3 = o := by simpa using ho
      have h0 := hw hd hdep
      obtain ⟨k1, k2, k3, k4, k5⟩ := far z zs 0 w
      refine ⟨f3, wp_store_mid T (.tmp s2) (.tmp d0) (x3 _ rfl) z 0 zs.toArray (by show a.tmps.getD s2 undef = _; rw [i2 _ m20 m21 m22 m23, e2]) (i4 h0) (th j1 (by simpa using j2)) (by simpa using hi) o1 ?_⟩
      rw [f2]
      exact ⟨i1, i2, i3, fun _ => i4 h0, fun h => i5 (by simpa using h), fun h => i6 (by simpa using h), fun h => i7 (by simpa using h), ⟨k1.trans y1, k2.trans y2, k3.trans y3, k4.trans y4⟩, fun i h => (k5 i h).trans (i8 i h), ⟨_, by simpa using st j1 j2, by simp, fun _ => rfl⟩⟩
    | 4, _ =>
      obtain rfl : q4 = o := by simpa using ho
      refine ⟨g3, val (x4 _ rfl a w (i6 (hw he hdep))) ?_⟩
      rw [g2]
      exact ⟨by simp [Act.put, i1], fun t h1 h2 h3 h4 => (hgo h4).trans (i2 t h1 h2 h3 h4), i3, fun h => (hgo n03).trans (i4 (by simpa using h)), fun h => (hgo n13).trans (i5 (by simpa using h)), fun h => (hgo n23).trans (i6 (by simpa using h)), fun _ => hat z3, ⟨y1, y2, y3, y4⟩, i8, ⟨Y', j1, j2, fun h => j3 (by simpa using h)⟩⟩
    | n + 5, h => exact absurd h (by simp)
  · rintro s a w hall ⟨i1, i2, i3, i4, i5, i6, i7, ⟨y1, y2, y3, y4⟩, i8, Y', j1, j2, j3⟩
    exact hend a w ((i2 _ m20 m21 m22 m23).trans e2) (i7 (hall 4 (by simp))) i3 y1 y2 y3 y4 i8 ⟨Y', j1, j3 (hall 3 (by simp))⟩
end Back
end Go.Proofs.YtpllcnpmjnmcfaaDoor

/-
  A region that draws its order, whose operations leave the memory that was there as it was (they read, compute, make memory, call what makes memory): what each operation leaves in its slot is told by a fact that stays true while memory only grows; each operation is met once, by the facts of those that it waits for, and the facts of all hold behind the region, whatever the order. Conditions: each operation writes a slot of its own, and waits for earlier ones alone.
-/
namespace Go.Proofs.YtpllcnpmjnmcfaaDoor
open Go.RowKit
namespace Loose
variable {P : Program} {ops : Array Oper} {Q : Exit → Act → World → Prop}

/-- each operation writes a slot of its own, within the frame, and waits for earlier ones alone -/
def okB (ops : Array Oper) (n : Nat) : Bool :=
  (List.range ops.size).all fun i => (ops[i]?).all fun o =>
    (o.dst.any fun d => decide (d < n)) && o.after.all (fun e => !Region.binds .any e || decide (e.on < i)) && (List.range i).all fun j => (ops[j]?).all fun oj => oj.dst != o.dst
theorem ok_spec {n i : Nat} {o : Oper} (h : okB ops n = true) (ho : ops[i]? = some o) :
    (∃ d, o.dst = some d ∧ d < n) ∧ (∀ e ∈ o.after, Region.binds .any e = true → e.on < i) ∧ ∀ j oj, j < i → ops[j]? = some oj → oj.dst ≠ o.dst := by
  have hlt : i < ops.size := (Array.getElem?_eq_some_iff.1 ho).1
  have h1 := List.all_eq_true.1 h i (List.mem_range.2 hlt)
  rw [ho] at h1
  simp only [Option.all_some, Bool.and_eq_true] at h1
  obtain ⟨⟨ha, hb⟩, hc⟩ := h1
  refine ⟨?_, fun e he hbd => ?_, fun j oj hj hoj => ?_⟩
  · cases hd : o.dst with
    | none => rw [hd] at ha; cases ha
    | some d => rw [hd] at ha; exact ⟨d, rfl, by simpa using ha⟩
  · have := Array.all_eq_true_iff_forall_mem.1 hb e he
    rw [hbd] at this
    simpa using this
  · have := List.all_eq_true.1 hc j (List.mem_range.2 hj)
    rw [hoj] at this
    simpa using this
theorem ok_unlike {n i j : Nat} {o oj : Oper} (h : okB ops n = true) (ho : ops[i]? = some o) (hoj : ops[j]? = some oj) (hne : j ≠ i) : oj.dst ≠ o.dst := by
  rcases Nat.lt_or_gt_of_ne hne with hl | hl
  · exact (ok_spec h ho).2.2 j oj hl hoj
  · exact fun e => (ok_spec h hoj).2.2 i o hl ho e.symm
/-- the frame behind some of the operations -/
structure Framed (ops : Array Oper) (a0 : Act) (w0 : World) (a : Act) (w : World) : Prop where
  size : a.tmps.size = a0.tmps.size
  defers : a.defers = a0.defers
  below : Below w0.heap.size w0 w
  free : ∀ t, (∀ (i : Nat) (o : Oper), ops[i]? = some o → o.dst ≠ some t) → a.tmps.getD t undef = a0.tmps.getD t undef
/-- the operation number i is met -/
def Step (P : Program) (ops : Array Oper) (Q : Exit → Act → World → Prop) (F : Nat → Value → World → Prop) (a0 : Act) (w0 : World) (i : Nat) (o : Oper) : Prop :=
  ∀ a w, Framed ops a0 w0 a w → (∀ e ∈ o.after, Region.binds .any e = true → ∀ oj d, ops[e.on]? = some oj → oj.dst = some d → F e.on (a.tmps.getD d undef) w) →
    (Region.wanted o (yielded ops a.tmps) = true ∧ o.wp P a w (fun a' w' => ∃ v, a' = a.put o.dst v ∧ F i v w' ∧ Below w.heap.size w w') Q) ∨ (Region.wanted o (yielded ops a.tmps) = false ∧ F i undef w)
theorem put_same {a : Act} {d : Nat} {v : Value} (h : d < a.tmps.size) : (a.put (some d) v).tmps.getD d undef = v := by
  simp [Act.put, Array.getD, h]
theorem put_other {a : Act} {d t : Nat} {v : Value} (h : d ≠ t) : (a.put (some d) v).tmps.getD t undef = a.tmps.getD t undef := by
  simp [Act.put, Array.getD_eq_getD_getElem?, Array.getElem?_setIfInBounds_ne h]
theorem left_lt {n : Nat} {listed : Array Bool} {i : Nat} (hi : i < n) (h : listed.getD i true = false) :
    ((List.range n).filter fun j => !(listed.setIfInBounds i true).getD j true).length < ((List.range n).filter fun j => !listed.getD j true).length := by
  have e : ((List.range n).filter fun j => !(listed.setIfInBounds i true).getD j true) = ((List.range n).filter fun j => !listed.getD j true).filter fun j => !(listed.setIfInBounds i true).getD j true := by
    rw [List.filter_filter]
    congr 1
    funext j
    by_cases hj : i = j
    · subst hj
      have hs : i < listed.size := by
        rcases Nat.lt_or_ge i listed.size with hl | hl
        · exact hl
        · rw [Array.getD_eq_getD_getElem?, Array.getElem?_eq_none hl] at h; cases h
      simp [Array.getD_eq_getD_getElem?, hs]
    · rw [getD_set_ne true hj]; simp
  rw [e, List.length_filter_lt_length_iff_exists]
  refine ⟨i, List.mem_filter.2 ⟨List.mem_range.2 hi, by rw [h]; rfl⟩, ?_⟩
  have hs : i < listed.size := by
    rcases Nat.lt_or_ge i listed.size with hl | hl
    · exact hl
    · rw [Array.getD_eq_getD_getElem?, Array.getElem?_eq_none hl] at h; cases h
  simp [Array.getD_eq_getD_getElem?, hs]
theorem wp_region_loose {id : Nat} {a0 : Act} {w0 : World} (hm : P.follows .mixedOrders = true) (hok : okB ops a0.tmps.size = true) (F : Nat → Value → World → Prop)
    (hF : ∀ i v w w', F i v w → Below w.heap.size w w' → F i v w') (hstep : ∀ i o, ops[i]? = some o → Step P ops Q F a0 w0 i o)
    (hend : ∀ a w, Framed ops a0 w0 a w → (∀ i o d, ops[i]? = some o → o.dst = some d → F i (a.tmps.getD d undef) w) → Q .normal a w) : (Code.region id ops true).wp P Q a0 w0 := by
  have main : ∀ (fuel : Nat) (listed : Array Bool) (a : Act) (w : World), listed.size = ops.size → ((List.range ops.size).filter fun j => !listed.getD j true).length ≤ fuel → Framed ops a0 w0 a w →
      (∀ i o d, ops[i]? = some o → listed.getD i true = true → o.dst = some d → F i (a.tmps.getD d undef) w) → wpAny P .any ops Q fuel listed a w := by
    intro fuel
    induction fuel with
    | zero =>
      intro listed a w hsz hl hfr hd
      have hall : ∀ i, i < ops.size → listed.getD i true = true := by
        intro i hi
        cases hc : listed.getD i true with
        | true => rfl
        | false =>
          have : i ∈ (List.range ops.size).filter fun j => !listed.getD j true := List.mem_filter.2 ⟨List.mem_range.2 hi, by rw [hc]; rfl⟩
          have h0 := List.eq_nil_of_length_eq_zero (Nat.le_zero.1 hl)
          rw [h0] at this
          cases this
      refine ⟨?_, hend a w hfr fun i o d ho hdst => hd i o d ho (hall i (Array.getElem?_eq_some_iff.1 ho).1) hdst⟩
      rw [List.eq_nil_iff_forall_not_mem]
      intro i hi
      obtain ⟨h1, o, ho, _⟩ := mem_ready.1 hi
      rw [hall i (Array.getElem?_eq_some_iff.1 ho).1] at h1
      cases h1
    | succ fuel ih =>
      intro listed a w hsz hl hfr hd
      refine ⟨fun hr => ?_, fun i hi => ?_⟩
      · have hall : ∀ i, i < ops.size → listed.getD i true = true := by
          intro i
          induction i using Nat.strongRecOn with
          | _ i hi =>
            intro hlt
            cases hc : listed.getD i true with
            | true => rfl
            | false =>
              have ho : ops[i]? = some ops[i] := Array.getElem?_eq_getElem hlt
              have : i ∈ Region.ready .any ops listed := mem_ready.2 ⟨hc, _, ho, fun e he hb => by
                have hlt' := (ok_spec hok ho).2.1 e he hb
                have h1 := hi e.on hlt' (by omega)
                rw [Array.getD_eq_getD_getElem?] at h1 ⊢
                have : e.on < listed.size := by omega
                simp [this] at h1 ⊢
                exact h1⟩
              rw [hr] at this
              cases this
        exact hend a w hfr fun i o d ho hdst => hd i o d ho (hall i (Array.getElem?_eq_some_iff.1 ho).1) hdst
      · obtain ⟨hun, o, ho, hdep⟩ := mem_ready.1 hi
        have hlt : i < ops.size := (Array.getElem?_eq_some_iff.1 ho).1
        obtain ⟨⟨d, hdst, hdn⟩, hback, _⟩ := ok_spec hok ho
        have hsz' : (listed.setIfInBounds i true).size = ops.size := by simpa using hsz
        have hl' : ((List.range ops.size).filter fun j => !(listed.setIfInBounds i true).getD j true).length ≤ fuel := by
          have := left_lt (n := ops.size) hlt hun
          omega
        -- whatever the operation leaves
        have next : ∀ v w', F i v w' → Below w.heap.size w w' → wpAny P .any ops Q fuel (listed.setIfInBounds i true) (a.put o.dst v) w' := by
          intro v w' hv hb
          refine ih _ _ _ hsz' hl' ⟨?_, ?_, hfr.below.trans (hb.mono hfr.below.size), fun t ht => ?_⟩ fun j oj dj hoj hlj hdj => ?_
          · rw [hdst]; simpa [Act.put] using hfr.size
          · rw [hdst]; exact hfr.defers
          · rw [hdst, put_other (fun e => ht i o ho (by rw [hdst, e]))]
            exact hfr.free t ht
          · by_cases hji : j = i
            · subst hji
              obtain rfl : oj = o := Option.some.inj (hoj.symm.trans ho)
              obtain rfl : dj = d := Option.some.inj (hdj.symm.trans hdst)
              rw [hdst, put_same (by rw [hfr.size]; exact hdn)]
              exact hv
            · have hne := ok_unlike hok ho hoj hji
              rw [hdst, hdj] at hne
              rw [hdst, put_other (fun e => hne (by rw [e]))]
              rw [getD_set_ne true (Ne.symm hji)] at hlj
              exact hF j _ _ _ (hd j oj dj hoj hlj hdj) hb
        have hdeps : ∀ e ∈ o.after, Region.binds .any e = true → ∀ oj dj, ops[e.on]? = some oj → oj.dst = some dj → F e.on (a.tmps.getD dj undef) w := by
          intro e he hb oj dj hoj hdj
          have h1 := hdep e he hb
          have hs : e.on < listed.size := by have := hback e he hb; omega
          refine hd e.on oj dj hoj ?_ hdj
          rw [Array.getD_eq_getD_getElem?] at h1 ⊢
          simp [hs] at h1 ⊢
          exact h1
        unfold wpOp
        simp only [ho]
        rcases hstep i o ho a w hfr hdeps with ⟨hw, hwp⟩ | ⟨hw, hu⟩
        · rw [if_pos hw]
          refine .inl (Oper.wp_mono ?_ hwp)
          rintro a' w' ⟨v, rfl, hv, hb⟩
          exact next v w' hv hb
        · rw [if_neg (by rw [hw]; simp)]
          exact next undef w hu (Below.refl _ _)
  refine wp_region_any hm (main _ _ _ _ (by simp) ?_ ⟨rfl, rfl, ⟨rfl, rfl, rfl, Nat.le_refl _, fun _ _ => rfl⟩, fun _ _ => rfl⟩ ?_)
  · refine Nat.le_trans (List.length_filter_le _ _) ?_
    simp
  · intro i o d ho hl _
    have hlt : i < ops.size := (Array.getElem?_eq_some_iff.1 ho).1
    rw [Array.getD_eq_getD_getElem?] at hl
    simp [hlt] at hl
/-- the steps, one behind the other -/
def Steps (P : Program) (ops : Array Oper) (Q : Exit → Act → World → Prop) (F : Nat → Value → World → Prop) (a0 : Act) (w0 : World) : Nat → List Oper → Prop
  | _, [] => True
  | k, o :: l => Step P ops Q F a0 w0 k o ∧ Steps P ops Q F a0 w0 (k + 1) l
theorem Steps.at {F : Nat → Value → World → Prop} {a0 : Act} {w0 : World} : ∀ {l : List Oper} {k i : Nat} {o : Oper}, Steps P ops Q F a0 w0 k l → l[i]? = some o → Step P ops Q F a0 w0 (k + i) o
  | [], _, _, _, _, h => by simp at h
  | x :: l, k, 0, o, hs, h => by
    simp only [List.getElem?_cons_zero, Option.some.injEq] at h
    subst h
    exact hs.1
  | x :: l, k, i + 1, o, hs, h => by
    have := Steps.at hs.2 (show l[i]? = some o by simpa using h)
    rwa [Nat.add_assoc, Nat.add_comm 1 i] at this
/-- behind the region: whatever the slots hold, by the facts on it -/
def Ends (Q : Exit → Act → World → Prop) (F : Nat → Value → World → Prop) (w0 : World) : Nat → List Oper → Act → (World → Prop) → Prop
  | _, [], a, C => ∀ w, Below w0.heap.size w0 w → C w → Q .normal a w
  | k, o :: l, a, C => ∀ v, Ends Q F w0 (k + 1) l (a.put o.dst v) (fun w => C w ∧ F k v w)
theorem act_ext {a b : Act} (hs : a.tmps.size = b.tmps.size) (hd : a.defers = b.defers) (h : ∀ t, a.tmps.getD t undef = b.tmps.getD t undef) : a = b := by
  obtain ⟨ta, da⟩ := a
  obtain ⟨tb, db⟩ := b
  simp only at hs hd h
  subst hd
  congr 1
  apply Array.ext hs
  intro i h1 h2
  have := h i
  simpa [Array.getD, h1, h2] using this
theorem ends_sound {F : Nat → Value → World → Prop} {w0 : World} {a : Act} {w : World} (hb : Below w0.heap.size w0 w) : ∀ {l : List Oper} {k : Nat} {b : Act} {C : World → Prop}, Ends Q F w0 k l b C → C w →
    (∀ i o d, l[i]? = some o → o.dst = some d → F (k + i) (a.tmps.getD d undef) w) → (∀ o ∈ l, ∃ d, o.dst = some d ∧ d < a.tmps.size) → b.tmps.size = a.tmps.size → b.defers = a.defers →
    (∀ t, (∀ o ∈ l, o.dst ≠ some t) → b.tmps.getD t undef = a.tmps.getD t undef) → Q .normal a w
  | [], k, b, C, he, hC, _, _, hs, hd, ht => by
    obtain rfl : b = a := act_ext hs hd fun t => ht t (fun o ho => by cases ho)
    exact he w hb hC
  | o :: l, k, b, C, he, hC, hF, hr, hs, hd, ht => by
    obtain ⟨d, hdst, hdn⟩ := hr o (by simp)
    have h0 : F k (a.tmps.getD d undef) w := hF 0 o d rfl hdst
    refine ends_sound hb (he (a.tmps.getD d undef)) ⟨hC, h0⟩ (fun i o' d' ho' hd' => ?_) (fun o' ho' => hr o' (by simp [ho'])) ?_ ?_ fun t hnt => ?_
    · have := hF (i + 1) o' d' (by simpa using ho') hd'
      rwa [show k + (i + 1) = k + 1 + i from by omega] at this
    · rw [hdst]; simpa [Act.put] using hs
    · rw [hdst]; exact hd
    · by_cases e : d = t
      · subst e
        rw [hdst, put_same (by rw [hs]; exact hdn)]
      · rw [hdst, put_other e]
        exact ht t fun o' ho' => by
          rcases List.mem_cons.1 ho' with rfl | h
          · rw [hdst]; exact fun h => e (Option.some.inj h)
          · exact hnt o' h
/-- THE LAW, for a region whose operations are written out -/
theorem wp_region_walk {id : Nat} {l : List Oper} {a0 : Act} {w0 : World} (hm : P.follows .mixedOrders = true) (hok : okB l.toArray a0.tmps.size = true) (F : Nat → Value → World → Prop)
    (hF : ∀ i v w w', F i v w → Below w.heap.size w w' → F i v w') (hsteps : Steps P l.toArray Q F a0 w0 0 l) (hend : Ends Q F w0 0 l a0 (fun _ => True)) : (Code.region id l.toArray true).wp P Q a0 w0 := by
  refine wp_region_loose hm hok F hF (fun i o ho => ?_) fun a w hfr hall => ?_
  · have := hsteps.at (i := i) (o := o) (by simpa using ho)
    rwa [Nat.zero_add] at this
  · refine ends_sound hfr.below hend trivial (fun i o d ho hd => ?_) (fun o ho => ?_) hfr.size.symm hfr.defers.symm fun t ht => ?_
    · rw [Nat.zero_add]
      exact hall i o d (by simpa using ho) hd
    · obtain ⟨i, hi, rfl⟩ := List.getElem_of_mem ho
      obtain ⟨d, h1, h2⟩ := (ok_spec hok (i := i) (o := l[i]) (by simp [hi])).1
      exact ⟨d, h1, by rw [hfr.size]; exact h2⟩
    · exact (hfr.free t fun i o ho => ht o (by
        have := List.mem_of_getElem? (show l[i]? = some o by simpa using ho)
        exact this)).symm
/-- a slot that no operation of the region writes -/
def freeB (ops : Array Oper) (t : Nat) : Bool := ops.all fun o => o.dst != some t
theorem Framed.slot {a0 a : Act} {w0 w : World} (h : Framed ops a0 w0 a w) (t : Nat) (ht : freeB ops t = true) : a.tmps.getD t undef = a0.tmps.getD t undef :=
  h.free t fun i o ho e => by
    have := Array.all_eq_true_iff_forall_mem.1 ht o (Array.mem_of_getElem? ho)
    rw [e] at this
    simp at this
/-- an operation that is no call and only computes, reads or makes memory -/
theorem Step.value {F : Nat → Value → World → Prop} {i : Nat} {o : Oper} {a : Act} {w w' : World} {v : Value} (hg : o.guard = none) (hr : (execOp a.eval o).run P w = .ok (.value v) w') (hv : F i v w') (hb : Below w.heap.size w w') :
    (Region.wanted o (yielded ops a.tmps) = true ∧ o.wp P a w (fun a' w' => ∃ v, a' = a.put o.dst v ∧ F i v w' ∧ Below w.heap.size w w') Q) ∨ (Region.wanted o (yielded ops a.tmps) = false ∧ F i undef w) := by
  refine .inl ⟨by simp [Region.wanted, hg], ?_⟩
  unfold Oper.wp
  rw [hr]
  exact ⟨v, rfl, hv, hb⟩
/-- a call, by its contract -/
theorem Step.call {F : Nat → Value → World → Prop} {i : Nat} {o : Oper} {a : Act} {w : World} {f : FuncId} {args : Array Value} (hg : o.guard = none) (hr : (execOp a.eval o).run P w = .ok (.enter f args) w)
    (hc : Calls P f args w fun e w' => ∃ v, e = .returned v ∧ F i v w' ∧ Below w.heap.size w w') :
    (Region.wanted o (yielded ops a.tmps) = true ∧ o.wp P a w (fun a' w' => ∃ v, a' = a.put o.dst v ∧ F i v w' ∧ Below w.heap.size w w') Q) ∨ (Region.wanted o (yielded ops a.tmps) = false ∧ F i undef w) := by
  refine .inl ⟨by simp [Region.wanted, hg], ?_⟩
  unfold Oper.wp
  rw [hr]
  refine Calls.mono hc ?_
  rintro e w' ⟨v, rfl, hv, hb⟩
  exact ⟨v, rfl, hv, hb⟩
/-- the operation waits for number j, which writes slot d -/
def depB (ops : Array Oper) (o : Oper) (j d : Nat) : Bool := o.after.any (fun e => e.on == j && Region.binds .any e) && (ops[j]?).any fun oj => oj.dst == some d
theorem dep_of {F : Nat → Value → World → Prop} {o : Oper} {a : Act} {w : World} (hdep : ∀ e ∈ o.after, Region.binds .any e = true → ∀ oj d, ops[e.on]? = some oj → oj.dst = some d → F e.on (a.tmps.getD d undef) w)
    (j d : Nat) (h : depB ops o j d = true) : F j (a.tmps.getD d undef) w := by
  unfold depB at h
  rw [Bool.and_eq_true] at h
  obtain ⟨h1, h2⟩ := h
  rw [Array.any_eq_true] at h1
  obtain ⟨i, hi, h1⟩ := h1
  rw [Bool.and_eq_true, beq_iff_eq] at h1
  obtain ⟨rfl, hb⟩ := h1
  cases hj : ops[o.after[i].on]? with
  | none => rw [hj] at h2; cases h2
  | some oj =>
    rw [hj] at h2
    simp only [Option.any_some, beq_iff_eq] at h2
    exact hdep _ (Array.getElem_mem hi) hb oj d hj h2
/-- a guard whose slot says yes -/
theorem wanted_of {o : Oper} {a : Act} {j d : Nat} {b : Bool} (hg : o.guard = some (j, b)) (hj : (ops[j]?).bind (·.dst) = some d) (hv : a.tmps.getD d undef = .bool b) : Region.wanted o (yielded ops a.tmps) = true := by
  have hs : a.tmps[d]? = some (.bool b) := by
    rw [Array.getD_eq_getD_getElem?] at hv
    cases h : a.tmps[d]? with
    | none => rw [h] at hv; simp [undef] at hv
    | some x => rw [h] at hv; simp at hv; rw [hv]
  unfold Region.wanted
  rw [hg]
  simp [yielded, hj, hs]
theorem Step.valueG {F : Nat → Value → World → Prop} {i : Nat} {o : Oper} {a : Act} {w w' : World} {v : Value} (hg : Region.wanted o (yielded ops a.tmps) = true) (hr : (execOp a.eval o).run P w = .ok (.value v) w') (hv : F i v w') (hb : Below w.heap.size w w') :
    (Region.wanted o (yielded ops a.tmps) = true ∧ o.wp P a w (fun a' w' => ∃ v, a' = a.put o.dst v ∧ F i v w' ∧ Below w.heap.size w w') Q) ∨ (Region.wanted o (yielded ops a.tmps) = false ∧ F i undef w) := by
  refine .inl ⟨hg, ?_⟩
  unfold Oper.wp
  rw [hr]
  exact ⟨v, rfl, hv, hb⟩
theorem Step.callG {F : Nat → Value → World → Prop} {i : Nat} {o : Oper} {a : Act} {w : World} {f : FuncId} {args : Array Value} (hg : Region.wanted o (yielded ops a.tmps) = true) (hr : (execOp a.eval o).run P w = .ok (.enter f args) w)
    (hc : Calls P f args w fun e w' => ∃ v, e = .returned v ∧ F i v w' ∧ Below w.heap.size w w') :
    (Region.wanted o (yielded ops a.tmps) = true ∧ o.wp P a w (fun a' w' => ∃ v, a' = a.put o.dst v ∧ F i v w' ∧ Below w.heap.size w w') Q) ∨ (Region.wanted o (yielded ops a.tmps) = false ∧ F i undef w) := by
  refine .inl ⟨hg, ?_⟩
  unfold Oper.wp
  rw [hr]
  refine Calls.mono hc ?_
  rintro e w' ⟨v, rfl, hv, hb⟩
  exact ⟨v, rfl, hv, hb⟩
end Loose
end Go.Proofs.YtpllcnpmjnmcfaaDoor
