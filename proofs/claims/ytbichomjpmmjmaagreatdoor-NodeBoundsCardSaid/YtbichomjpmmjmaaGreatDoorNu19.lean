/-
  A region that draws its order, of any kind: what is true of what is done, of the values that stand in the slots and of the world is one condition (J); a slot that one operation alone writes reads as ahead of the region until it is done (hlt). Guards may stand. Condition: slots of their own (chk).
-/
import Derived.Test.YtbichomjpmmjmaaGreatDoorNu3
import Derived.Test.YtbichomjpmmjmaaGreatDoorNu16
import Derived.Test.YtbichomjpmmjmaaGreatDoorNu18
import Derived.Test.YtbichomjpmmjmaaGreatDoorNu9
set_option linter.unusedVariables false
set_option linter.unusedSimpArgs false
namespace Go.Proofs.YtbichomjpmmjmaaGreatDoor
open Go.RowKit
namespace Vll
open Bxs
variable {P : Program} {Q : Exit → Act → World → Prop}
def postB (l : List Oper) (o : Oper) (j d : Nat) : Bool := (o.after.any fun e => e.on == j && Region.binds .any e) && ((l[j]?).bind (·.dst) == some d)
def onlyB (l : List Oper) (t : Tmp) (n : Nat) : Bool := (List.range l.length).all fun i => i == n || !((l[i]?).bind (·.dst) == some t)
theorem only_of {l : List Oper} {t : Tmp} {n : Nat} (h : onlyB l t n = true) {i : Nat} {o : Oper} (ho : l[i]? = some o) (hn : i ≠ n) : o.dst ≠ some t := fun e => by
  have := List.all_eq_true.1 h i (List.mem_range.2 (List.getElem?_eq_some_iff.1 ho).1)
  rw [ho] at this
  simp [e, hn] at this
/-- operation i is met -/
def Step (J : (Nat → Bool) → (Nat → Value) → World → Prop) (P : Program) (l : List Oper) (Q : Exit → Act → World → Prop) (a0 : Act) (i : Nat) (o : Oper) : Prop :=
  ∀ s a w V, s i = false → (∀ j, dep l i j = true → s j = true) → (∀ t, Loose.freeB l.toArray t = true → a.tmps.getD t undef = a0.tmps.getD t undef) → (∀ t n, onlyB l t n = true → s n = false → a.tmps.getD t undef = a0.tmps.getD t undef) → (∀ j d, postB l o j d = true → a.tmps.getD d undef = V j) → J s V w →
    (Region.wanted o (yielded l.toArray a.tmps) = true ∧ o.wp P a w (fun a' w' => ∃ v, a' = a.put o.dst v ∧ J (fun j => s j || j == i) (fun j => if j = i then v else V j) w') Q) ∨ (Region.wanted o (yielded l.toArray a.tmps) = false ∧ J (fun j => s j || j == i) (fun j => if j = i then undef else V j) w)
def Steps (J : (Nat → Bool) → (Nat → Value) → World → Prop) (P : Program) (l : List Oper) (Q : Exit → Act → World → Prop) (a0 : Act) : Nat → List Oper → Prop
  | _, [] => True
  | k, o :: r => Step J P l Q a0 k o ∧ Steps J P l Q a0 (k + 1) r
theorem Steps.at {J : (Nat → Bool) → (Nat → Value) → World → Prop} {l : List Oper} {a0 : Act} : ∀ {r : List Oper} {k i : Nat} {o : Oper}, Steps J P l Q a0 k r → r[i]? = some o → Step J P l Q a0 (k + i) o
  | [], _, _, _, _, h => by simp at h
  | x :: r, k, 0, o, hs, h => by
    simp only [List.getElem?_cons_zero, Option.some.injEq] at h
    subst h
    exact hs.1
  | x :: r, k, i + 1, o, hs, h => by
    have := Steps.at hs.2 (show r[i]? = some o by simpa using h)
    rwa [Nat.add_assoc, Nat.add_comm 1 i] at this
theorem wp_region {id : Nat} {l : List Oper} {a0 : Act} {w0 : World} (hm : P.follows .mixedOrders = true) (J : (Nat → Bool) → (Nat → Value) → World → Prop) (hok : Slt.chk l a0.tmps.size = true) (V0 : Nat → Value) (h0 : J (fun _ => false) V0 w0.drew) (hsteps : Steps J P l Q a0 0 l)
    (hend : ∀ (s : Nat → Bool) (V : Nat → Value) w, (∀ i, i < l.length → s i = true) → J s V w → Q .normal (puts V 0 l a0) w) :
    (Code.region id l.toArray true).wp P Q a0 w0 := by
  have each : ∀ (i : Nat) o, l[i]? = some o → (∀ e ∈ o.after, Region.binds .any e = true → e.on < i) ∧ ∀ d, o.dst = some d → d < a0.tmps.size ∧ ∀ (j : Nat) oj, j < i → l[j]? = some oj → oj.dst ≠ some d := fun i o ho => by
    have := List.all_eq_true.1 hok i (List.mem_range.2 (List.getElem?_eq_some_iff.1 ho).1)
    rw [Bool.and_eq_true] at this
    refine ⟨fun e he hb => by simpa using deps_of this.2 ho e he hb, fun d hd => ?_⟩
    have h1 := this.1
    unfold Slt.dstO at h1
    rw [ho] at h1
    simp only [Option.all_some, hd, Bool.and_eq_true, decide_eq_true_eq] at h1
    refine ⟨h1.1, fun j oj hj hoj => ?_⟩
    have h2 := List.all_eq_true.1 h1.2 j (List.mem_range.2 hj)
    rw [hoj] at h2
    simpa using h2
  have unlike : ∀ {i j : Nat} {o oj : Oper} {d : Tmp}, l[i]? = some o → l[j]? = some oj → j ≠ i → o.dst = some d → oj.dst ≠ some d := by
    intro i j o oj d ho hoj hne hd hd'
    rcases Nat.lt_or_gt_of_ne hne with hl | hl
    · exact ((each i o ho).2 d hd).2 j oj hl hoj hd'
    · exact ((each j oj hoj).2 d hd').2 i o hl ho hd
  have free_of : ∀ {t : Tmp}, Loose.freeB l.toArray t = true → ∀ (i : Nat) (o : Oper), l[i]? = some o → o.dst ≠ some t := fun {t} ht i o ho e => by
    have := Array.all_eq_true_iff_forall_mem.1 ht o (by simpa using List.mem_of_getElem? ho)
    rw [e] at this
    simp at this
  refine Back.wp_region_g hm (fun i o ho e he hb => (each i o (by simpa using ho)).1 e he hb) (fun s a w => a.tmps.size = a0.tmps.size ∧ a.defers = a0.defers ∧ (∀ t, (∀ (i : Nat) (o : Oper), l[i]? = some o → s i = true → o.dst ≠ some t) → a.tmps.getD t undef = a0.tmps.getD t undef) ∧
    ∃ V : Nat → Value, (∀ (i : Nat) o d, l[i]? = some o → s i = true → o.dst = some d → a.tmps.getD d undef = V i) ∧ J s V w) ⟨rfl, rfl, fun _ _ => rfl, V0, fun _ _ _ _ h => Bool.noConfusion h, h0⟩ ?_ ?_
  · rintro s i o a w ho hs hdep ⟨i1, i2, i3, V, i4, i5⟩
    have ho' : l[i]? = some o := by simpa using ho
    have hst := hsteps.at ho'
    rw [Nat.zero_add] at hst
    have other : ∀ (v : Value) (t : Tmp), o.dst ≠ some t → (a.put o.dst v).tmps.getD t undef = a.tmps.getD t undef := fun v t ht => by
      cases h : o.dst with
      | none => rfl
      | some d => exact Loose.put_other (fun e => ht (by rw [h, e]))
    have next : ∀ (v : Value) w', J (fun j => s j || j == i) (fun j => if j = i then v else V j) w' → (a.put o.dst v).tmps.size = a0.tmps.size ∧ (a.put o.dst v).defers = a0.defers ∧ (∀ t, (∀ (j : Nat) (o : Oper), l[j]? = some o → (s j || j == i) = true → o.dst ≠ some t) → (a.put o.dst v).tmps.getD t undef = a0.tmps.getD t undef) ∧
        ∃ V : Nat → Value, (∀ (j : Nat) oj d, l[j]? = some oj → (s j || j == i) = true → oj.dst = some d → (a.put o.dst v).tmps.getD d undef = V j) ∧ J (fun j => s j || j == i) V w' := by
      intro v w' hJ
      refine ⟨by cases h : o.dst <;> simpa [Act.put] using i1, by cases h : o.dst <;> exact i2, fun t ht => (other v t (ht i o ho' (by simp))).trans (i3 t fun j oj hj hsj => ht j oj hj (by simp [hsj])), _, fun j oj d hoj hsj hd => ?_, hJ⟩
      by_cases hji : j = i
      · subst hji
        obtain rfl : o = oj := by rw [ho'] at hoj; exact Option.some.inj hoj
        rw [hd, Loose.put_same (by rw [i1]; exact ((each j o ho').2 d hd).1), if_pos rfl]
      · rw [other v d (fun e => unlike ho' hoj hji e hd), if_neg hji]
        exact i4 j oj d hoj (by simpa [hji] using hsj) hd
    rcases hst s a w V hs (fun j hj => by obtain ⟨e, he, h1, h2⟩ := dep_some hj ho'; rw [← h1]; exact hdep e he h2) (fun t ht => i3 t fun i o ho _ => free_of ht i o ho) (fun t n hb hn => i3 t fun i o ho hsi => only_of hb ho fun e => by rw [e, hn] at hsi; cases hsi) (fun j d h => by
        unfold postB at h
        rw [Bool.and_eq_true, beq_iff_eq] at h
        obtain ⟨q, hq, h3⟩ := Array.any_eq_true.1 h.1
        rw [Bool.and_eq_true, beq_iff_eq] at h3
        obtain ⟨oj, h4, h5⟩ := Option.bind_eq_some_iff.1 h.2
        exact i4 j oj d h4 (by rw [← h3.1]; exact hdep _ (Array.getElem_mem hq) h3.2) h5) i5 with ⟨hw, hwp⟩ | ⟨hw, hJ⟩
    · refine .inl ⟨hw, Oper.wp_mono ?_ hwp⟩
      rintro a' w' ⟨v, rfl, hJ⟩
      exact next v w' hJ
    · exact .inr ⟨hw, next _ _ hJ⟩
  · rintro s a w hall ⟨i1, i2, i3, V, i4, i5⟩
    have hall' : ∀ i, i < l.length → s i = true := fun i hi => hall i (by simpa using hi)
    have ha : puts V 0 l a0 = a := puts_of (fun i o d ho hd => by rw [Nat.zero_add]; exact i4 i o d ho (hall' i (List.getElem?_eq_some_iff.1 ho).1) hd) (fun o ho d hd => by
      obtain ⟨i, hi, rfl⟩ := List.getElem_of_mem ho
      rw [i1]; exact ((each i _ (List.getElem?_eq_getElem hi)).2 d hd).1) i1.symm i2.symm (fun t ht => (i3 t (fun i o ho _ => ht o (List.mem_of_getElem? ho))).symm)
    rw [← ha]
    exact hend s V w hall' i5
end Vll
end Go.Proofs.YtbichomjpmmjmaaGreatDoor

/-
  The walk of the law NodeBounds: it returns true, and leaves all that was there as it was. Conditions: the acts can be read; the listed variables hold what the program's text lays (SLaid).
-/
set_option linter.unusedVariables false
set_option linter.unusedSimpArgs false
namespace Go.Proofs.YtbichomjpmmjmaaGreatDoor
open Go.ChangeShapes Go.WideShapes Go.ChangeAt Go.RowKit Go.Lib
open NumMath
namespace NodeBoundsWalk
open Re Nd Sd SpecOwn Nn
theorem adm_zero {has : Rx} {l : Pods} {u : Int} {q : Nd.Ask} (h : admC has l u q = 0) : isIn u l = false := by
  unfold admC at h
  split at h
  · exact absurd h (by decide)
  split at h
  · exact absurd h (by decide)
  rename_i h2
  simpa using h2
theorem told_without (th : List Na) (u : Int) : told (withoutA th u) = without (told th) u := by
  unfold told withoutA without
  rw [List.filter_map]
  rfl
theorem without_le (th : List Na) (u : Int) : (withoutA th u).length ≤ th.length := List.length_filter_le _ _
/-- the node and what was admitted, at the head of a round: w the world at the law's start, w1 the one ahead of the node -/
structure Gv (B : Nat) (w w1 v : World) (g : Nat) (hs : Rx) (l : Pods) (A : Option Addr) (c : Nat) (th : List Na) (k : Nat) : Prop where
  nn : Nn B v g hs l
  bel : Below B w1 v
  row : Row9 v 0 (.slice A th.length c) th
  tr : There l (told th)
  nl : l.length ≤ k
  nt : th.length ≤ k
  ok : ∀ x ∈ th, Book.Light x.S ∧ x.S.In w x.LA x.lc x.IA x.ic x.MA x.mc
section
variable {B : Nat} {w w1 v u : World} {g : Nat} {hs : Rx} {l : Pods} {A : Option Addr} {c : Nat} {th : List Na} {k : Nat}
theorem Gv.below (h : Gv B w w1 v g hs l A c th k) (hb : Below v.heap.size v u) (hB : B ≤ v.heap.size) : Gv B w w1 u g hs l A c th k :=
  ⟨h.nn.below hb, h.bel.trans (hb.mono hB), Pt.owns_below h.row hb, h.tr, h.nl, h.nt, h.ok⟩
/-- behind a call of the node's -/
theorem Gv.kn (h : Gv B w w1 v g hs l A c th k) {l2 : Pods} (hn : Nn B u g hs l2) (hk : Kn B v u) (hB : B ≤ v.heap.size) (ht : There l2 (told th)) (hl : l2.length ≤ k + 1) : Gv B w w1 u g hs l2 A c th (k + 1) :=
  ⟨hn, h.bel.trans (hk.below hB (Nat.le_refl _)), owns_kn h.row hk (by decide) (by decide) (by decide), ht, hl, by have := h.nt; omega, h.ok⟩
theorem Gv.more (h : Gv B w w1 v g hs l A c th k) : Gv B w w1 v g hs l A c th (k + 1) := ⟨h.nn, h.bel, h.row, h.tr, by have := h.nl; omega, by have := h.nt; omega, h.ok⟩
theorem Gv.bound (h : Gv B w w1 v g hs l A c th k) (hk : k ≤ 31) (hw : Below w.heap.size w v) : Calls Tryz.prog 25 #[.pointer (some ⟨g, 0, none⟩), .slice A th.length c] v fun e w' => e = .returned (.bool true) ∧ Below v.heap.size v w' :=
  bounded_any th v h.nn (by have := h.nl; omega) h.row (by have := h.nt; omega) (fun x hx => (h.ok x hx).1) (fun x hx => ((h.ok x hx).2).below hw) h.tr
end
def apF (ts : List Na) (wz : Nat) (p0 p1 p2 p4 : Value) (x : Na) (j : Nat) (s : Nat → Bool) (V : Nat → Value) (u : World) : Prop := match j with
  | 0 => V 0 = p0
  | 1 => V 1 = p1
  | 2 => V 2 = p2
  | 3 => ∃ (A3 : Option Addr) (c3 : Nat), V 3 = .slice A3 ts.length c3 ∧ (s 6 = false → Row9 u wz (.slice A3 ts.length c3) ts)
  | 4 => V 4 = p4
  | 5 => ∃ (q : Nat), V 5 = .slice (some ⟨q, 0, none⟩) 1 1 ∧ (s 6 = false → u.heap[q]? = some (.cells x.vals.toArray 37 (0, 0)))
  | 6 => ∃ (A6 : Option Addr) (c6 : Nat), V 6 = .slice A6 (ts.length + 1) c6 ∧ u.ownsRow wz 37 9 (.slice A6 (ts.length + 1) c6) (ts.length + 1) (flat9 ts ++ x.vals)
  | 7 => V 7 = V 6
  | _ => True
theorem apF_loc (ts : List Na) (wz : Nat) (p0 p1 p2 p4 : Value) (x : Na) : Jx.Loc (apF ts wz p0 p1 p2 p4 x) [(2, 1), (3, 0), (3, 2), (5, 4), (6, 3), (6, 5), (7, 6)] := fun j s V V' u hk h => match j, hk, h with
  | 0, hk, h => by
    show V' 0 = p0
    rw [hk 0 (.inl rfl)]
    exact h
  | 1, hk, h => by
    show V' 1 = p1
    rw [hk 1 (.inl rfl)]
    exact h
  | 2, hk, h => by
    show V' 2 = p2
    rw [hk 2 (.inl rfl)]
    exact h
  | 3, hk, h => by
    show ∃ (A3 : Option Addr) (c3 : Nat), V' 3 = .slice A3 ts.length c3 ∧ (s 6 = false → Row9 u wz (.slice A3 ts.length c3) ts)
    rw [hk 3 (.inl rfl)]
    exact h
  | 4, hk, h => by
    show V' 4 = p4
    rw [hk 4 (.inl rfl)]
    exact h
  | 5, hk, h => by
    show ∃ (q : Nat), V' 5 = .slice (some ⟨q, 0, none⟩) 1 1 ∧ (s 6 = false → u.heap[q]? = some (.cells x.vals.toArray 37 (0, 0)))
    rw [hk 5 (.inl rfl)]
    exact h
  | 6, hk, h => by
    show ∃ (A6 : Option Addr) (c6 : Nat), V' 6 = .slice A6 (ts.length + 1) c6 ∧ u.ownsRow wz 37 9 (.slice A6 (ts.length + 1) c6) (ts.length + 1) (flat9 ts ++ x.vals)
    rw [hk 6 (.inl rfl)]
    exact h
  | 7, hk, h => by
    show V' 7 = V' 6
    rw [hk 7 (.inl rfl), hk 6 (.inr (by simp))]
    exact h
  | n + 8, _, _ => trivial
theorem apF_mono (ts : List Na) (wz : Nat) (p0 p1 p2 p4 : Value) (x : Na) : Jx.Mono (apF ts wz p0 p1 p2 p4 x) := fun j s i V u u' hb h => match j, h with
  | 0, h => h
  | 1, h => h
  | 2, h => h
  | 3, h => by
    have hsk : ∀ k, (s k || k == i) = false → s k = false := fun k h => by cases hk : s k with
      | false => rfl
      | true => rw [hk] at h; cases h
    obtain ⟨A3, c3, h1, h2⟩ := h
    exact ⟨A3, c3, h1, fun hs => Pt.owns_below (h2 (hsk 6 hs)) hb⟩
  | 4, h => h
  | 5, h => by
    have hsk : ∀ k, (s k || k == i) = false → s k = false := fun k h => by cases hk : s k with
      | false => rfl
      | true => rw [hk] at h; cases h
    obtain ⟨q, h1, h2⟩ := h
    exact ⟨q, h1, fun hs => (hb.block _ (lt_of_block (h2 (hsk 6 hs)))).trans (h2 (hsk 6 hs))⟩
  | 6, h => by
    have hsk : ∀ k, (s k || k == i) = false → s k = false := fun k h => by cases hk : s k with
      | false => rfl
      | true => rw [hk] at h; cases h
    obtain ⟨A6, c6, h1, h2⟩ := h
    exact ⟨A6, c6, h1, Pt.owns_below h2 hb⟩
  | 7, h => h
  | n + 8, _ => trivial
theorem apF_free {ts : List Na} {wz : Nat} {p0 p1 p2 p4 : Value} {x : Na} {u u' : World} {s : Nat → Bool} {V : Nat → Value} : ∀ {j : Nat}, j ≠ 6 → apF ts wz p0 p1 p2 p4 x j s V u → apF ts wz p0 p1 p2 p4 x j (fun k => s k || k == 6) V u'
  | 0, _, h => h
  | 1, _, h => h
  | 2, _, h => h
  | 3, _, h => by obtain ⟨A3, c3, h1, _⟩ := h; exact ⟨A3, c3, h1, fun h => by simp at h⟩
  | 4, _, h => h
  | 5, _, h => by obtain ⟨q, h1, _⟩ := h; exact ⟨q, h1, fun h => by simp at h⟩
  | 6, _, h => absurd rfl ‹6 ≠ 6›
  | 7, _, h => h
  | n + 8, _, _ => trivial
set_option maxRecDepth 100000 in
set_option maxHeartbeats 16000000 in
theorem walk (x0 : Rx) (h0 : x0.Ok) (A1 : Option Addr) (c1 : Nat) (L : List Na) (w : World) (hSL : SLaid w) (hA : NActs w A1 L) (hn : L.length ≤ 9223372036854775807) :
    Calls Tryz.prog 4 #[.agg (R3 x0).toArray, .slice A1 L.length c1] w fun e w' => e = .returned (.bool true) ∧ Below w.heap.size w w' := by
  have HSL := Lib.hid hSL
  have HA := Lib.hid hA
  have hn' : (L.length : Int) ≤ 9223372036854775807 := by omega
  obtain ⟨w0, hw0⟩ : ∃ v, w.alloc (.cells (R3 x0).toArray 23) = v := ⟨_, rfl⟩
  have R0 := Lib.hid (show w0.heap[w.heap.size]? = some (.cells (R3 x0).toArray 23 (0, 0)) by rw [← hw0]; exact heap_alloc_new w _)
  have B0 := Lib.hid (show Below w.heap.size w w0 by rw [← hw0]; exact (Below.refl _ _).alloc (Nat.le_refl _) _)
  clear hSL hA hn
  go_enter Tryz.func4, Tryz.ntmps4
  go_wp2_with fail
  clear hw0
  refine (works_any w0 (HSL.out.below B0.out)).mono ?_
  rintro e w1 ⟨rfl, hb1⟩
  have B1 := Lib.hid (B0.out.trans (hb1.mono B0.out.size))
  have R1 := Lib.hid ((hb1.block _ (lt_of_block R0.out)).trans R0.out)
  have RR := Lib.hid (range_box R1.out)
  clear hb1 R0 B0
  go_wp2_with (first | (refine wpList_load_mid rfl 23 _ rfl _ _ rfl _ _ RR.out Tryz.underlying23 rfl (by kernel_rfl) ?_))
  have CN := new_any x0 h0 w1
  obtain ⟨hs, hhs⟩ : ∃ hs, maxR x0 z3 = hs := ⟨_, rfl⟩
  obtain ⟨B, hB⟩ : ∃ B, w1.heap.size = B := ⟨_, rfl⟩
  have WB := Lib.hid (show w.heap.size ≤ B by rw [← hB]; exact B1.out.size)
  rw [hhs] at CN
  refine (show Calls Tryz.prog 6 #[.agg (R3 x0).toArray] w1 _ from CN).mono ?_
  rintro e w2 ⟨g, rfl, hN, hb2⟩
  rw [hB] at hN
  have GV0 := Lib.hid (show Gv B w w1 w2 g hs [] none 0 [] 0 from ⟨hN, by rw [← hB]; exact hb2, World.ownsRow_nil _ _ _ _, There.nil _, Nat.le_refl _, Nat.le_refl _, fun _ h => by cases h⟩)
  have BS0 := Lib.hid (show B ≤ w2.heap.size by rw [← hB]; exact hb2.size)
  clear hN CN hhs hB hb2 R1 RR
  go_wp2_with fail
  go_loopw [6, 7] (fun v i wr => ∃ (k : Nat) (l : Pods) (A : Option Addr) (c : Nat) (th : List Na), k ≤ L.length ∧ k ≤ 30 ∧ v = .slice A th.length c ∧ i = .int .i64 k ∧ Hid (Gv B w w1 wr g hs l A c th k) ∧ Hid (B ≤ wr.heap.size)) (fun _ i _ => 30 - (RowKit.intOf i).toNat)
  case atStart => exact ⟨0, [], none, 0, [], Nat.zero_le _, by omega, rfl, rfl, GV0.out, BS0.out⟩
  case round =>
    clear GV0 BS0
    obtain ⟨k, l, A, c, th, hk, hk30, rfl, rfl, GV, BS⟩ := hrel
    have HWU : ∀ u, Below B wr u → Below w.heap.size w u := fun u hu => B1.out.trans ((GV.out.bel.trans hu).mono WB.out)
    by_cases hkl : k < L.length ∧ k < 30
    · obtain ⟨hkl, hk3⟩ := hkl
      have hkb : (k : Int) < 30 := by omega
      obtain ⟨x, hxk⟩ : ∃ x, L[k]? = some x := ⟨_, List.getElem?_eq_getElem (by omega)⟩
      obtain ⟨r, o, rfl, hra, hrg⟩ := HA.out.cells k x hxk
      have HXO := Lib.hid (HA.out.ok x (List.mem_of_getElem? hxk))
      have RGA := Lib.hid (show ∀ u, Below w.heap.size w u → u.rangeAt r (o + k * 9) x.vals from fun u hu j v hv => (World.cell?_of_block (hu.block r hra)).trans (hrg j v hv))
      have RGS := Lib.hid (show ∀ u, Below w.heap.size w u → u.rangeAt r (o + k * 9 + 2) [.string x.S.name, .slice x.LA x.S.labels.length x.lc, .slice x.IA x.S.init.length x.ic, .slice x.MA x.S.main.length x.mc, .int .i64 x.S.restart, .int .i64 x.S.grace, .int .i64 x.S.prio] from fun u hu => Na.spec_at (RGA.out u hu))
      have eat : (⟨r, o, none⟩ : Addr).add (k * 9) = ⟨r, o + k * 9, none⟩ := by unfold Addr.add; split <;> simp_all
      have hk0 : (0 : Int) ≤ (k : Int) := by omega
      have hka : (k : Int) < (L.length : Int) := by omega
      clear hxk hra hrg
      have RX := Lib.hid (RGA.out wr (HWU wr (Below.refl _ _)))
      obtain ⟨b8, hb8⟩ : ∃ b, wr.heap.size = b := ⟨_, rfl⟩
      have HB8 := Lib.hid hb8
      obtain ⟨w3, hw3⟩ : ∃ v, wr.alloc (.cells #[.int .i64 0, .int .i64 0, .string ⟨#[]⟩, .slice none 0 0, .slice none 0 0, .slice none 0 0, .int .i64 0, .int .i64 0, .int .i64 0] 37) = v := ⟨_, rfl⟩
      have Z3 : w3.heap[wr.heap.size]? = some (.cells #[.int .i64 0, .int .i64 0, .string ⟨#[]⟩, .slice none 0 0, .slice none 0 0, .slice none 0 0, .int .i64 0, .int .i64 0, .int .i64 0] 37 (0, 0)) := by rw [← hw3]; exact heap_alloc_new wr _
      have hb3 : Below wr.heap.size wr w3 := by rw [← hw3]; exact (Below.refl _ _).alloc (Nat.le_refl _) _
      obtain ⟨w4, hw4⟩ : ∃ v, w3.setCells b8 0 x.vals = v := ⟨_, rfl⟩
      rw [hb8] at Z3
      have TH4 := Lib.hid (show w3.there b8 0 9 from Back.th Z3 rfl)
      have ONE4 := Lib.hid (show (x.vals : List Value).toArray.all (·.oneCell') = true from all_oneCell_toArray (vals_one x))
      have HV4 := Lib.hid hw4
      have X4 := Lib.hid (show w4.heap[b8]? = some (.cells x.vals.toArray 37 (0, 0)) by rw [← hw4]; exact Back.st Z3 rfl)
      have hb4 : Below wr.heap.size wr w4 := by rw [← hw4]; exact bel_set hb3 (by rw [hb8]; exact Nat.le_refl _)
      have GV4 := Lib.hid (GV.out.below hb4 BS.out)
      have BS4 := Lib.hid (Nat.le_trans BS.out hb4.size)
      have HWU4 : ∀ u, Below B w4 u → Below w.heap.size w u := fun u hu => B1.out.trans ((GV4.out.bel.trans hu).mono WB.out)
      have RSP := Lib.hid (act_range2 X4.out)
      have CLX := Book.light_any x.S x.LA x.lc x.IA x.ic x.MA x.mc w4 (HXO.out.1.below (HWU4 w4 (Below.refl _ _)))
      clear hw4 hb3 hb4 Z3 GV BS HWU
      cases hl : Book.LightB x.S with
      | false =>
        rw [hl] at CLX
        go_wp2_with (first | (refine wpList_load_mid rfl 37 _ rfl _ _ rfl _ _ RX.out Tryz.underlying37 rfl (by kernel_rfl) ?_) | (refine wpList_store_at rfl 37 _ _ rfl _ _ _ rfl rfl TH4.out (by kernel_rfl) ONE4.out HV4.out ?_) | (refine wpList_load_mid rfl 35 _ rfl _ _ rfl _ _ RSP.out Tryz.underlying35 rfl (by kernel_rfl) ?_) | (go_at_call 8; refine CLX.mono ?_; clear CLX; rintro e wl ⟨rfl, hbl⟩; have BE := Lib.hid (HWU4 wl (hbl.mono BS4.out)); clear hbl))
        go_ret
        exact ⟨rfl, BE.out⟩
      | true =>
        have HLX := Lib.hid (Book.LightB_iff.1 hl)
        rw [hl] at CLX
        go_wp2_with (first | (refine wpList_load_mid rfl 37 _ rfl _ _ rfl _ _ RX.out Tryz.underlying37 rfl (by kernel_rfl) ?_) | (refine wpList_store_at rfl 37 _ _ rfl _ _ _ rfl rfl TH4.out (by kernel_rfl) ONE4.out HV4.out ?_) | (refine wpList_load_mid rfl 35 _ rfl _ _ rfl _ _ RSP.out Tryz.underlying35 rfl (by kernel_rfl) ?_))
        refine CLX.mono ?_
        clear CLX
        rintro e w5 ⟨rfl, hbl⟩
        have GV5 := Lib.hid (GV4.out.below hbl BS4.out)
        have BS5 := Lib.hid (Nat.le_trans BS4.out hbl.size)
        have X5 := Lib.hid ((hbl.block _ (lt_of_block X4.out)).trans X4.out)
        have HWU : ∀ u, Below B w5 u → Below w.heap.size w u := fun u hu => B1.out.trans ((GV5.out.bel.trans hu).mono WB.out)
        have RS5 := Lib.hid (act_range2 X5.out)
        have k0 : w5.cell? ⟨b8, 0, none⟩ = some (.int .i64 x.kind) := Pt.box_cell X5.out 0 rfl
        have k1 : w5.cell? ⟨b8, 1, none⟩ = some (.int .i64 x.uid) := Pt.box_cell X5.out 1 rfl
        clear hbl GV4 BS4 X4 HWU4 RSP hl hw3 TH4 ONE4 HV4 RX RGA RGS eat hk0 hka hb8
        by_cases hkd : x.kind = 0
        · have hkk : (x.kind == 0) = true := by simp [hkd]
          clear hkd
          have CA := admit_any x.uid x.S x.LA x.lc x.IA x.ic x.MA x.mc HXO.out.2.2.2 HLX.out w5 GV5.out.nn (HSL.out.below (HWU w5 (Below.refl _ _))) (fun v hv => HXO.out.1.below (HWU v (hv.below BS5.out (Nat.le_refl _))))
          obtain ⟨F, hF⟩ : ∃ F, admC hs l x.uid (askS x.S) = F := ⟨_, rfl⟩
          obtain ⟨l2, hl2⟩ : ∃ l2, admL hs l x.uid (askS x.S) = l2 := ⟨_, rfl⟩
          have HL2 := Lib.hid hl2
          have HF := Lib.hid hF
          rw [hF, hl2] at CA
          have CA := Lib.hid CA
          clear hF hl2
          go_wp2_with (first | (refine wpList_load_mid rfl 35 _ rfl _ _ rfl _ _ RS5.out Tryz.underlying35 rfl (by kernel_rfl) ?_))
          refine CA.out.mono ?_
          rintro e w6 ⟨rfl, hn6, hk6⟩
          have N6 := Lib.hid hn6
          have X6 := Lib.hid ((hk6.block _ (lt_of_block X5.out) (.inr (not_n X5.out (by decide) (by decide) (by decide)))).trans X5.out)
          have K6 := Lib.hid hk6
          have BS6 := Lib.hid (Nat.le_trans BS5.out hk6.size)
          clear hn6 hk6 CA RS5 k0 k1
          by_cases hF0 : F = 0
          · have HI := Lib.hid (adm_zero (HF.out.trans hF0))
            have HIN := Lib.hid (show l2 = insP ⟨x.uid, (askS x.S).ask, (askS x.S).ports⟩ l from HL2.out.symm.trans (adm_come (HF.out.trans hF0)))
            obtain ⟨ts, hts⟩ : ∃ ts, withoutA th x.uid = ts := ⟨_, rfl⟩
            have HTS := Lib.hid hts
            have ROWX := Lib.hid (owns_kn GV5.out.row K6.out (by decide) (by decide) (by decide))
            have NTX := Lib.hid (show th.length ≤ 1000 by have := GV5.out.nt; omega)
            have HTL := Lib.hid (show ts.length ≤ 1000 by rw [← hts]; have := without_le th x.uid; have := GV5.out.nt; omega)
            subst hF0
            clear hts
            go_upto_region 17 with fail
            refine Vll.wp_region (by kernel_rfl) (Jx.GJ (apF ts w6.heap.size (.slice A th.length c) (.pointer (some ⟨b8, 1, none⟩)) (.int .i64 x.uid) (.agg x.vals.toArray) x) [(2, 1), (3, 0), (3, 2), (5, 4), (6, 3), (6, 5), (7, 6)] (fun s u => Below w6.heap.size w6 u)) (by kernel_rfl) (fun _ => undef) (Jx.GJ.start (Below.drew (Below.refl _ _)) _) ?_ ?_
            · refine ⟨?_, ?_, ?_, ?_, ?_, ?_, ?_, ?_, trivial⟩
              · intro s_ a_ u V hs0 hd hfr hlt hpo hJ
                have hW := hJ.w
                have f6 : a_.tmps.getD 6 undef = .slice A th.length c := hlt 6 7 (by kernel_rfl) (hJ.back 7 (by simp) (hJ.back 6 (by simp) (hJ.back 3 (by simp) hs0)))
                refine .inl ⟨rfl, ?_⟩
                unfold Oper.wp
                rw [show (execOp a_.eval _).run Tryz.prog u = .ok (.value (.slice A th.length c)) u from by simp [go_sem, Act.eval, f6]]
                exact ⟨_, rfl, hJ.step 0 hs0 rfl (apF_loc ts w6.heap.size (.slice A th.length c) (.pointer (some ⟨b8, 1, none⟩)) (.int .i64 x.uid) (.agg x.vals.toArray) x) (fun j _ h => apF_mono ts w6.heap.size (.slice A th.length c) (.pointer (some ⟨b8, 1, none⟩)) (.int .i64 x.uid) (.agg x.vals.toArray) x j _ _ _ _ _ (Below.refl _ _) h) (hW) (rfl)⟩
              · intro s_ a_ u V hs0 hd hfr hlt hpo hJ
                have hW := hJ.w
                have f8 : a_.tmps.getD 8 undef = .pointer (some ⟨b8, 0, none⟩) := hfr 8 (by kernel_rfl)
                refine .inl ⟨rfl, ?_⟩
                unfold Oper.wp
                rw [show (execOp a_.eval _).run Tryz.prog u = .ok (.value (.pointer (some ⟨b8, 1, none⟩))) u from by simp [go_sem, Act.eval, f8]]
                exact ⟨_, rfl, hJ.step 1 hs0 rfl (apF_loc ts w6.heap.size (.slice A th.length c) (.pointer (some ⟨b8, 1, none⟩)) (.int .i64 x.uid) (.agg x.vals.toArray) x) (fun j _ h => apF_mono ts w6.heap.size (.slice A th.length c) (.pointer (some ⟨b8, 1, none⟩)) (.int .i64 x.uid) (.agg x.vals.toArray) x j _ _ _ _ _ (Below.refl _ _) h) (hW) (rfl)⟩
              · intro s_ a_ u V hs0 hd hfr hlt hpo hJ
                have hW := hJ.w
                have e1 : a_.tmps.getD 49 undef = .pointer (some ⟨b8, 1, none⟩) := (hpo 1 49 (by kernel_rfl)).trans (show V 1 = .pointer (some ⟨b8, 1, none⟩) from hJ.f 1 (hd 1 (by kernel_rfl)))
                refine .inl ⟨rfl, ?_⟩
                have cx0 := (show u.cell? ⟨b8, 1, none⟩ = some (.int .i64 x.uid) from (World.cell?_of_block (hW.block _ (lt_of_block X6.out))).trans (Pt.box_cell X6.out 1 rfl))
                unfold Oper.wp
                rw [show (execOp a_.eval _).run Tryz.prog u = .ok (.value (.int .i64 x.uid)) u from by simp [go_sem, Act.eval, e1, cx0]]
                exact ⟨_, rfl, hJ.step 2 hs0 (by show (s_ 1 && true) = true; rw [hd 1 (by kernel_rfl)]; rfl) (apF_loc ts w6.heap.size (.slice A th.length c) (.pointer (some ⟨b8, 1, none⟩)) (.int .i64 x.uid) (.agg x.vals.toArray) x) (fun j _ h => apF_mono ts w6.heap.size (.slice A th.length c) (.pointer (some ⟨b8, 1, none⟩)) (.int .i64 x.uid) (.agg x.vals.toArray) x j _ _ _ _ _ (Below.refl _ _) h) (hW) (rfl)⟩
              · intro s_ a_ u V hs0 hd hfr hlt hpo hJ
                have hW := hJ.w
                have e0 : a_.tmps.getD 48 undef = .slice A th.length c := (hpo 0 48 (by kernel_rfl)).trans (show V 0 = .slice A th.length c from hJ.f 0 (hd 0 (by kernel_rfl)))
                have e2 : a_.tmps.getD 50 undef = .int .i64 x.uid := (hpo 2 50 (by kernel_rfl)).trans (show V 2 = .int .i64 x.uid from hJ.f 2 (hd 2 (by kernel_rfl)))
                refine .inl ⟨rfl, ?_⟩
                unfold Oper.wp
                rw [show (execOp a_.eval _).run Tryz.prog u = .ok (.enter 22 #[.slice A th.length c, .int .i64 x.uid]) u from by simp [go_sem, Act.eval, e0, e2]]
                refine Calls.mono (without_any th x.uid u (Pt.owns_below ROWX.out hW) (by have := NTX.out; omega)) ?_
                rintro e u2 ⟨A3, c3, rfl, hrow, hb⟩
                rw [HTS.out] at hrow ⊢
                exact ⟨_, rfl, hJ.step 3 hs0 (by show (s_ 0 && (s_ 2 && true)) = true; rw [hd 0 (by kernel_rfl), hd 2 (by kernel_rfl)]; rfl) (apF_loc ts w6.heap.size (.slice A th.length c) (.pointer (some ⟨b8, 1, none⟩)) (.int .i64 x.uid) (.agg x.vals.toArray) x) (fun j _ h => apF_mono ts w6.heap.size (.slice A th.length c) (.pointer (some ⟨b8, 1, none⟩)) (.int .i64 x.uid) (.agg x.vals.toArray) x j _ _ _ _ _ hb h) (hW.trans (hb.mono hW.size)) (⟨A3, c3, rfl, fun _ => Pt.owns_base hrow hW.size⟩)⟩
              · intro s_ a_ u V hs0 hd hfr hlt hpo hJ
                have hW := hJ.w
                have f8 : a_.tmps.getD 8 undef = .pointer (some ⟨b8, 0, none⟩) := hfr 8 (by kernel_rfl)
                refine .inl ⟨rfl, ?_⟩
                exact wp_load_mid 37 (.tmp 8) rfl (b8) (0) f8 x.vals _ (range_box ((hW.block _ (lt_of_block X6.out)).trans X6.out)) Tryz.underlying37 rfl (by kernel_rfl) ⟨_, rfl, hJ.step 4 hs0 rfl (apF_loc ts w6.heap.size (.slice A th.length c) (.pointer (some ⟨b8, 1, none⟩)) (.int .i64 x.uid) (.agg x.vals.toArray) x) (fun j _ h => apF_mono ts w6.heap.size (.slice A th.length c) (.pointer (some ⟨b8, 1, none⟩)) (.int .i64 x.uid) (.agg x.vals.toArray) x j _ _ _ _ _ (Below.refl _ _) h) (hW) (rfl)⟩
              · intro s_ a_ u V hs0 hd hfr hlt hpo hJ
                have hW := hJ.w
                have e4 : a_.tmps.getD 52 undef = .agg x.vals.toArray := (hpo 4 52 (by kernel_rfl)).trans (show V 4 = .agg x.vals.toArray from hJ.f 4 (hd 4 (by kernel_rfl)))
                refine .inl ⟨rfl, ?_⟩
                unfold Oper.wp
                have hrun := run_build_act x u
                rw [show (execOp a_.eval _).run Tryz.prog u = .ok (.value (.slice (some ⟨u.heap.size, 0, none⟩) 1 1)) (u.alloc (.cells x.vals.toArray 37 (0, 0))) from by
                  rw [Array.getD_eq_getD_getElem?] at e4
                  simp [execOp, Act.eval, e4, hrun, Result.andThen]]
                have hb : Below u.heap.size u (u.alloc (.cells x.vals.toArray 37 (0, 0))) := (Below.refl _ _).alloc (Nat.le_refl _) _
                exact ⟨_, rfl, hJ.step 5 hs0 (by show (s_ 4 && true) = true; rw [hd 4 (by kernel_rfl)]; rfl) (apF_loc ts w6.heap.size (.slice A th.length c) (.pointer (some ⟨b8, 1, none⟩)) (.int .i64 x.uid) (.agg x.vals.toArray) x) (fun j _ h => apF_mono ts w6.heap.size (.slice A th.length c) (.pointer (some ⟨b8, 1, none⟩)) (.int .i64 x.uid) (.agg x.vals.toArray) x j _ _ _ _ _ hb h) (hW.trans (hb.mono hW.size)) (⟨u.heap.size, rfl, fun _ => heap_alloc_new u _⟩)⟩
              · intro s_ a_ u V hs0 hd hfr hlt hpo hJ
                have hW := hJ.w
                have x3 := (show ∃ (A3 : Option Addr) (c3 : Nat), V 3 = .slice A3 ts.length c3 ∧ (s_ 6 = false → Row9 u w6.heap.size (.slice A3 ts.length c3) ts) from hJ.f 3 (hd 3 (by kernel_rfl)))
                have y3 : a_.tmps.getD 51 undef = V 3 := hpo 3 51 (by kernel_rfl)
                have x5 := (show ∃ (q : Nat), V 5 = .slice (some ⟨q, 0, none⟩) 1 1 ∧ (s_ 6 = false → u.heap[q]? = some (.cells x.vals.toArray 37 (0, 0))) from hJ.f 5 (hd 5 (by kernel_rfl)))
                have y5 : a_.tmps.getD 53 undef = V 5 := hpo 5 53 (by kernel_rfl)
                obtain ⟨A3, c3, hV3, hr3⟩ := x3
                obtain ⟨q, hV5, hq5⟩ := x5
                have hrow := hr3 hs0
                have hq := hq5 hs0
                rw [hV3] at y3
                rw [hV5] at y5
                obtain ⟨i0, hi, hz0, hz1, hz2⟩ := info_act
                have htl := HTL.out
                refine .inl ⟨rfl, ?_⟩
                refine wp_append_own u (.tmp 51) (.tmp 53) 24 rfl w6.heap.size 37 i0 (.agg #[.int .i64 0, .int .i64 0, .string ⟨#[]⟩, .slice none 0 0, .slice none 0 0, .slice none 0 0, .int .i64 0, .int .i64 0, .int .i64 0]) 9 128 Tryz.underlying24 hi hz0 hz1 hz2 rfl (by decide) (.slice A3 ts.length c3) ts.length (flat9 ts) y3 hrow ⟨q, 0, none⟩ 1 1 x.vals y5 rfl (fun j v hv => by rw [at_one]; exact Pt.box_cell hq j (by simpa using hv)) (vals_one x) (by unfold maxLen; omega) (by omega) hW.size (fun v' w' h1 h2 _ => ?_)
                obtain ⟨A6, c6, rfl⟩ := Pt.own_form h1
                exact ⟨_, rfl, hJ.step 6 hs0 (by show (s_ 3 && (s_ 5 && true)) = true; rw [hd 3 (by kernel_rfl), hd 5 (by kernel_rfl)]; rfl) (apF_loc ts w6.heap.size (.slice A th.length c) (.pointer (some ⟨b8, 1, none⟩)) (.int .i64 x.uid) (.agg x.vals.toArray) x) (fun j hj h => apF_free (fun e => by subst e; rw [hs0] at hj; cases hj) h) (hW.grown h2 hW.size (fun b hb => (hrow.lt b hb).1)) (⟨A6, c6, rfl, h1⟩)⟩
              · intro s_ a_ u V hs0 hd hfr hlt hpo hJ
                have hW := hJ.w
                have x6 := (show ∃ (A6 : Option Addr) (c6 : Nat), V 6 = .slice A6 (ts.length + 1) c6 ∧ u.ownsRow w6.heap.size 37 9 (.slice A6 (ts.length + 1) c6) (ts.length + 1) (flat9 ts ++ x.vals) from hJ.f 6 (hd 6 (by kernel_rfl)))
                have y6 : a_.tmps.getD 54 undef = V 6 := hpo 6 54 (by kernel_rfl)
                obtain ⟨A6, c6, hV, _⟩ := x6
                refine .inl ⟨rfl, ?_⟩
                unfold Oper.wp
                rw [show (execOp a_.eval _).run Tryz.prog u = .ok (.value (V 6)) u from by rw [hV] at y6; rw [hV]; simp [go_sem, Act.eval, y6]]
                exact ⟨V 6, rfl, hJ.step 7 hs0 (by show (s_ 6 && true) = true; rw [hd 6 (by kernel_rfl)]; rfl) (apF_loc ts w6.heap.size (.slice A th.length c) (.pointer (some ⟨b8, 1, none⟩)) (.int .i64 x.uid) (.agg x.vals.toArray) x) (fun j _ h => apF_mono ts w6.heap.size (.slice A th.length c) (.pointer (some ⟨b8, 1, none⟩)) (.int .i64 x.uid) (.agg x.vals.toArray) x j _ _ _ _ _ (Below.refl _ _) h) (hW) (rfl)⟩
            · intro s_ V w7 hall hJ
              obtain ⟨A6, c6, h6, hr6⟩ := (show ∃ (A6 : Option Addr) (c6 : Nat), V 6 = .slice A6 (ts.length + 1) c6 ∧ w7.ownsRow w6.heap.size 37 9 (.slice A6 (ts.length + 1) c6) (ts.length + 1) (flat9 ts ++ x.vals) from hJ.f 6 (hall 6 (by decide)))
              have h7 : V 7 = V 6 := hJ.f 7 (hall 7 (by decide))
              have hb7 : Below w6.heap.size w6 w7 := hJ.w
              have hlen : (ts ++ [x]).length = ts.length + 1 := by simp
              have GV7 := Lib.hid (show Gv B w w1 w7 g hs l2 A6 c6 (ts ++ [x]) (k + 1) from by
                refine ⟨N6.out.below hb7, (GV5.out.bel.trans (K6.out.below BS5.out (Nat.le_refl _))).trans (hb7.mono BS6.out), ?_, ?_, ?_, ?_, ?_⟩
                · unfold Row9
                  rw [hlen, flat9_cat, show flat9 [x] = x.vals by simp [flat9]]
                  exact Pt.owns_base hr6 (Nat.zero_le _)
                · rw [HIN.out, show told (ts ++ [x]) = without (told th) x.uid ++ [(x.uid, (askS x.S).ports)] by rw [← told_without, HTS.out]; simp [told]]
                  exact There.ins GV5.out.tr HI.out _ _
                · rw [HIN.out, ins_length]; have := GV5.out.nl; omega
                · rw [hlen, ← HTS.out]; have := without_le th x.uid; have := GV5.out.nt; omega
                · intro y hy
                  rcases List.mem_append.1 hy with hy | hy
                  · rw [← HTS.out] at hy
                    exact GV5.out.ok y (List.mem_filter.1 hy).1
                  · simp only [List.mem_cons, List.not_mem_nil, or_false] at hy
                    subst hy
                    exact ⟨HLX.out, HXO.out.1⟩)
              have BS7 := Lib.hid (Nat.le_trans BS6.out hb7.size)
              rw [h6] at h7
              clear hall hJ hr6 hb7 h6
              simp only [Bxs.puts, Nat.reduceAdd, put_none, Re.put_lit, List.set_cons_succ, List.set_cons_zero]
              rw [h7]
              clear h7
              have CB := GV7.out.bound (by omega) (B1.out.trans (GV7.out.bel.mono WB.out))
              rw [hlen] at CB
              go_wp2_with fail
              refine CB.mono ?_
              clear CB
              rintro e w9 ⟨rfl, hb9⟩
              have GV9 := Lib.hid (GV7.out.below hb9 BS7.out)
              have BS9 := Lib.hid (Nat.le_trans BS7.out hb9.size)
              clear hb9
              go_wp2
              go_roundw
              case rel => exact ⟨k + 1, _, _, _, _, by omega, by omega, by rw [hlen], by go_num, GV9.out, BS9.out⟩
              case measure => simp [RowKit.intOf]; omega
          · have hF1 : (F == 0) = false := by simpa using hF0
            have GV6 := Lib.hid (show Gv B w w1 w6 g hs l A c th (k + 1) from GV5.out.kn (by rw [show l = l2 from (adm_stay (by rw [HF.out]; exact hF0)).symm.trans HL2.out]; exact N6.out) K6.out BS5.out GV5.out.tr (by have := GV5.out.nl; omega))
            clear hF0
            have CB := GV6.out.bound (by omega) (B1.out.trans (GV6.out.bel.mono WB.out))
            go_wp2_with fail
            refine CB.mono ?_
            clear CB
            rintro e w9 ⟨rfl, hb9⟩
            have GV9 := Lib.hid (GV6.out.below hb9 BS6.out)
            have BS9 := Lib.hid (Nat.le_trans BS6.out hb9.size)
            clear hb9
            go_wp2
            go_roundw
            case rel => exact ⟨k + 1, _, _, _, _, by omega, by omega, rfl, by go_num, GV9.out, BS9.out⟩
            case measure => simp [RowKit.intOf]; omega
        · have hkk : (x.kind == 0) = false := by simpa using hkd
          by_cases hk1 : x.kind = 1
          · have hkk1 : (x.kind == 1) = true := by simp [hk1]
            have CA := release_any x.uid w5 GV5.out.nn
            obtain ⟨F, hF⟩ : ∃ F, relC l x.uid = F := ⟨_, rfl⟩
            rw [hF] at CA
            have CA := Lib.hid CA
            clear hkd hk1 hF
            go_wp2_with fail
            refine CA.out.mono ?_
            rintro e w6 ⟨rfl, hn6, hk6⟩
            have GV6 := Lib.hid (show Gv B w w1 w6 g hs (cut x.uid l) A c th (k + 1) from GV5.out.kn hn6 hk6 BS5.out (GV5.out.tr.cut x.uid) (by have := cut_le x.uid l; have := GV5.out.nl; omega))
            have BS6 := Lib.hid (Nat.le_trans BS5.out hk6.size)
            clear hn6 hk6 CA k0 k1
            have CB := GV6.out.bound (by omega) (B1.out.trans (GV6.out.bel.mono WB.out))
            go_wp2_with fail
            refine CB.mono ?_
            clear CB
            rintro e w9 ⟨rfl, hb9⟩
            have GV9 := Lib.hid (GV6.out.below hb9 BS6.out)
            have BS9 := Lib.hid (Nat.le_trans BS6.out hb9.size)
            clear hb9
            go_wp2
            go_roundw
            case rel => exact ⟨k + 1, _, _, _, _, by omega, by omega, rfl, by go_num, GV9.out, BS9.out⟩
            case measure => simp [RowKit.intOf]; omega
          · have hkk1 : (x.kind == 1) = false := by simpa using hk1
            have CA := fits_any x.S x.LA x.lc x.IA x.ic x.MA x.mc HLX.out w5 GV5.out.nn (HSL.out.below (HWU w5 (Below.refl _ _))) (HXO.out.1.below (HWU w5 (Below.refl _ _)))
            obtain ⟨F, hF⟩ : ∃ F, fitC hs l (askS x.S) = F := ⟨_, rfl⟩
            rw [hF] at CA
            have CA := Lib.hid CA
            clear hkd hk1 hF
            go_wp2_with (first | (refine wpList_load_mid rfl 35 _ rfl _ _ rfl _ _ RS5.out Tryz.underlying35 rfl (by kernel_rfl) ?_))
            refine CA.out.mono ?_
            rintro e w6 ⟨rfl, hb6⟩
            have GV6 := Lib.hid ((GV5.out.below hb6 BS5.out).more)
            have BS6 := Lib.hid (Nat.le_trans BS5.out hb6.size)
            clear hb6 CA k0 k1
            have CB := GV6.out.bound (by omega) (B1.out.trans (GV6.out.bel.mono WB.out))
            go_wp2_with fail
            refine CB.mono ?_
            clear CB
            rintro e w9 ⟨rfl, hb9⟩
            have GV9 := Lib.hid (GV6.out.below hb9 BS6.out)
            have BS9 := Lib.hid (Nat.le_trans BS6.out hb9.size)
            clear hb9
            go_wp2
            go_roundw
            case rel => exact ⟨k + 1, _, _, _, _, by omega, by omega, rfl, by go_num, GV9.out, BS9.out⟩
            case measure => simp [RowKit.intOf]; omega
    · have HK := Lib.hid hkl
      have BE := Lib.hid (HWU wr (Below.refl _ _))
      clear hkl
      rcases (show ¬ (k : Int) < (L.length : Int) ∨ ((k : Int) < (L.length : Int) ∧ ¬ (k : Int) < 30) by have := HK.out; omega) with hka | ⟨hka, hkb⟩
      all_goals
        go_wp2
        go_ret
        exact ⟨rfl, BE.out⟩
end NodeBoundsWalk
end Go.Proofs.YtbichomjpmmjmaaGreatDoor
