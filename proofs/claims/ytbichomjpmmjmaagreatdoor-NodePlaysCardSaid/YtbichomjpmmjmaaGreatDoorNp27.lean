/-
  The walk of the law NodePlays: it returns true, and leaves all that was there as it was. Conditions: the acts can be read; the listed variables hold what the program's text lays (SLaid).
-/
import Derived.Test.YtbichomjpmmjmaaGreatDoorNp25
import Derived.Test.YtbichomjpmmjmaaGreatDoorNp26
import Derived.Test.YtbichomjpmmjmaaGreatDoorNp14
import Derived.Test.YtbichomjpmmjmaaGreatDoorNp6
set_option linter.unusedVariables false
set_option linter.unusedSimpArgs false
namespace Go.Proofs.YtbichomjpmmjmaaGreatDoor
open Go.ChangeShapes Go.WideShapes Go.ChangeAt Go.RowKit Go.Lib
open NumMath
namespace NodePlaysWalk
open Re Nd Sd SpecOwn Nn
theorem eqIn_self (a : Rx) (w : World) : (Op.equalIn 10000 23 (.agg #[.int .i64 a.c, .int .i64 a.m, .int .i64 a.p]) (.agg #[.int .i64 a.c, .int .i64 a.m, .int .i64 a.p])).run Tryz.prog w = .ok true w := by rw [eqIn_res, eqR_self]
theorem eqIn_zero (w : World) : (Op.equalIn 10000 23 (.agg #[.int .i64 0, .int .i64 0, .int .i64 0]) (.agg #[.int .i64 0, .int .i64 0, .int .i64 0])).run Tryz.prog w = .ok true w := eqIn_self z3 w
def doF (hs : Rx) (l2 : Pods) (wz : Nat) (p0 p1 p2 p3 p4 p5 : Value) (j : Nat) (s : Nat → Bool) (V : Nat → Value) (u : World) : Prop := match j with
  | 0 => V 0 = p0
  | 1 => V 1 = p1
  | 2 => V 2 = p2
  | 3 => V 3 = p3
  | 4 => V 4 = p4
  | 5 => V 5 = p5
  | 6 => ∃ (A2 : Option Addr) (c2 : Nat) (ds2 : List Pd), V 6 = .tuple #[.agg ([.int .i64 hs.c, .int .i64 hs.m, .int .i64 hs.p, .slice A2 ds2.length c2] : List Value).toArray, .bool true] ∧ pods ds2 = l2 ∧ Nl u 0 A2 c2 ds2
  | 7 => V 7 = V 6
  | 8 => V 8 = Jx.tupAt (V 7) 0
  | 9 => V 9 = Jx.tupAt (V 7) 1
  | 10 => ∃ (q : Nat) (X : Array Value), V 10 = .pointer (some ⟨q, 0, none⟩) ∧ wz ≤ q ∧ u.heap[q]? = some (.cells X 29 (0, 0)) ∧ X.size = 4
  | 11 => ∃ (q : Nat) (A2 : Option Addr) (c2 n2 : Nat), V 10 = .pointer (some ⟨q, 0, none⟩) ∧ V 8 = .agg ([.int .i64 hs.c, .int .i64 hs.m, .int .i64 hs.p, .slice A2 n2 c2] : List Value).toArray ∧ u.heap[q]? = some (.cells ([.int .i64 hs.c, .int .i64 hs.m, .int .i64 hs.p, .slice A2 n2 c2] : List Value).toArray 29 (0, 0))
  | 12 => V 12 = V 9
  | _ => True
theorem doF_loc (hs : Rx) (l2 : Pods) (wz : Nat) (p0 p1 p2 p3 p4 p5 : Value) : Jx.Loc (doF hs l2 wz p0 p1 p2 p3 p4 p5) [(4, 2), (4, 3), (5, 4), (6, 0), (6, 1), (6, 5), (7, 6), (8, 7), (9, 7), (11, 10), (11, 8), (12, 9)] := fun j s V V' u hk h => match j, hk, h with
  | 0, hk, h => by
    show V' 0 = p0
    rw [hk 0 (.inl rfl)]
    exact h
  | 1, hk, h => by
    show V' 1 = p1
    rw [hk 1 (.inl rfl)]
    exact h
  | 2, hk, h => by
    show V' 2 = p2
    rw [hk 2 (.inl rfl)]
    exact h
  | 3, hk, h => by
    show V' 3 = p3
    rw [hk 3 (.inl rfl)]
    exact h
  | 4, hk, h => by
    show V' 4 = p4
    rw [hk 4 (.inl rfl)]
    exact h
  | 5, hk, h => by
    show V' 5 = p5
    rw [hk 5 (.inl rfl)]
    exact h
  | 6, hk, h => by
    show ∃ (A2 : Option Addr) (c2 : Nat) (ds2 : List Pd), V' 6 = .tuple #[.agg ([.int .i64 hs.c, .int .i64 hs.m, .int .i64 hs.p, .slice A2 ds2.length c2] : List Value).toArray, .bool true] ∧ pods ds2 = l2 ∧ Nl u 0 A2 c2 ds2
    rw [hk 6 (.inl rfl)]
    exact h
  | 7, hk, h => by
    show V' 7 = V' 6
    rw [hk 7 (.inl rfl), hk 6 (.inr (by simp))]
    exact h
  | 8, hk, h => by
    show V' 8 = Jx.tupAt (V' 7) 0
    rw [hk 8 (.inl rfl), hk 7 (.inr (by simp))]
    exact h
  | 9, hk, h => by
    show V' 9 = Jx.tupAt (V' 7) 1
    rw [hk 9 (.inl rfl), hk 7 (.inr (by simp))]
    exact h
  | 10, hk, h => by
    show ∃ (q : Nat) (X : Array Value), V' 10 = .pointer (some ⟨q, 0, none⟩) ∧ wz ≤ q ∧ u.heap[q]? = some (.cells X 29 (0, 0)) ∧ X.size = 4
    rw [hk 10 (.inl rfl)]
    exact h
  | 11, hk, h => by
    show ∃ (q : Nat) (A2 : Option Addr) (c2 n2 : Nat), V' 10 = .pointer (some ⟨q, 0, none⟩) ∧ V' 8 = .agg ([.int .i64 hs.c, .int .i64 hs.m, .int .i64 hs.p, .slice A2 n2 c2] : List Value).toArray ∧ u.heap[q]? = some (.cells ([.int .i64 hs.c, .int .i64 hs.m, .int .i64 hs.p, .slice A2 n2 c2] : List Value).toArray 29 (0, 0))
    rw [hk 10 (.inr (by simp)), hk 8 (.inr (by simp))]
    exact h
  | 12, hk, h => by
    show V' 12 = V' 9
    rw [hk 12 (.inl rfl), hk 9 (.inr (by simp))]
    exact h
  | n + 13, _, _ => trivial
theorem doF_mono (hs : Rx) (l2 : Pods) (wz : Nat) (p0 p1 p2 p3 p4 p5 : Value) : Jx.Mono (doF hs l2 wz p0 p1 p2 p3 p4 p5) := fun j s i V u u' hb h => match j, h with
  | 0, h => h
  | 1, h => h
  | 2, h => h
  | 3, h => h
  | 4, h => h
  | 5, h => h
  | 6, h => by
    have hsk : ∀ k, (s k || k == i) = false → s k = false := fun k h => by cases hk : s k with
      | false => rfl
      | true => rw [hk] at h; cases h
    obtain ⟨A2, c2, ds2, h1, h2, h3⟩ := h
    exact ⟨A2, c2, ds2, h1, h2, h3.below hb⟩
  | 7, h => h
  | 8, h => h
  | 9, h => h
  | 10, h => by
    have hsk : ∀ k, (s k || k == i) = false → s k = false := fun k h => by cases hk : s k with
      | false => rfl
      | true => rw [hk] at h; cases h
    obtain ⟨q, X, h1, h2, h3, h4⟩ := h
    exact ⟨q, X, h1, h2, (hb.block _ (lt_of_block h3)).trans h3, h4⟩
  | 11, h => by
    have hsk : ∀ k, (s k || k == i) = false → s k = false := fun k h => by cases hk : s k with
      | false => rfl
      | true => rw [hk] at h; cases h
    obtain ⟨q, A2, c2, n2, h1, h2, h3⟩ := h
    exact ⟨q, A2, c2, n2, h1, h2, (hb.block _ (lt_of_block h3)).trans h3⟩
  | 12, h => h
  | n + 13, _ => trivial
theorem doF_kn {hs : Rx} {l2 : Pods} {wz : Nat} {p0 p1 p2 p3 p4 p5 : Value} {B : Nat} {u u' : World} (hk : Kn B u u') {s s' : Nat → Bool} {V : Nat → Value} : ∀ {j : Nat}, doF hs l2 wz p0 p1 p2 p3 p4 p5 j s V u → doF hs l2 wz p0 p1 p2 p3 p4 p5 j s' V u'
  | 0, h => h
  | 1, h => h
  | 2, h => h
  | 3, h => h
  | 4, h => h
  | 5, h => h
  | 6, h => by obtain ⟨A2, c2, ds2, h1, h2, h3⟩ := h; exact ⟨A2, c2, ds2, h1, h2, nl_kn h3 hk⟩
  | 7, h => h
  | 8, h => h
  | 9, h => h
  | 10, h => by obtain ⟨q, X, h1, h2, h3, h4⟩ := h; exact ⟨q, X, h1, h2, (hk.block _ (lt_of_block h3) (.inr (not_n h3 (by decide) (by decide) (by decide)))).trans h3, h4⟩
  | 11, h => by obtain ⟨q, A2, c2, n2, h1, h2, h3⟩ := h; exact ⟨q, A2, c2, n2, h1, h2, (hk.block _ (lt_of_block h3) (.inr (not_n h3 (by decide) (by decide) (by decide)))).trans h3⟩
  | 12, h => h
  | n + 13, _ => trivial
theorem doF_set {hs : Rx} {l2 : Pods} {wz : Nat} {p0 p1 p2 p3 p4 p5 : Value} {u : World} {q : Nat} {X : Array Value} (hX : u.heap[q]? = some (.cells X 29 (0, 0))) (hXs : X.size = 4) {d : List Value} (hd : d.length = 4) {s s' : Nat → Bool} {V : Nat → Value} : ∀ {j : Nat}, j ≠ 11 → doF hs l2 wz p0 p1 p2 p3 p4 p5 j s V u → doF hs l2 wz p0 p1 p2 p3 p4 p5 j s' V (u.setCells q 0 d)
  | 0, _, h => h
  | 1, _, h => h
  | 2, _, h => h
  | 3, _, h => h
  | 4, _, h => h
  | 5, _, h => h
  | 6, _, h => by obtain ⟨A2, c2, ds2, h1, h2, h3⟩ := h; exact ⟨A2, c2, ds2, h1, h2, nl_set h3 hX (by decide) (by decide) _ _⟩
  | 7, _, h => h
  | 8, _, h => h
  | 9, _, h => h
  | 10, _, h => by
    obtain ⟨q', X', h1, h2, h3, h4⟩ := h
    by_cases e : q' = q
    · subst e; exact ⟨q', _, h1, h2, Back.st hX (by rw [hXs, hd]), by simp [hd]⟩
    · exact ⟨q', X', h1, h2, ((Back.far q d 0 u).2.2.2.2 _ e).trans h3, h4⟩
  | 11, _, h => absurd rfl ‹11 ≠ 11›
  | 12, _, h => h
  | n + 13, _, _ => trivial
/-- both at the head of a round: w the world at the law's start -/
structure Iv (B : Nat) (w v : World) (g bq : Nat) (hs : Rx) (l : Pods) (A : Option Addr) (c : Nat) (ds : List Pd) (k : Nat) : Prop where
  q : v.heap[bq]? = some (.cells ([.int .i64 hs.c, .int .i64 hs.m, .int .i64 hs.p, .slice A ds.length c] : List Value).toArray 29 (0, 0))
  nn : Nn B v g hs l
  d : Nl v 0 A c ds
  e : pods ds = l
  n : ds.length ≤ k
  bel : Below B w v
theorem dw_set {B : Nat} {wr u : World} {g bq : Nat} {hs : Rx} {l l2 : Pods} {s : Nat → Bool} {C : Array Value} {q : Nat} {X : Array Value} {d : List Value}
    (hW : Below B wr u ∧ (s 6 = false → Below wr.heap.size wr u) ∧ u.heap[bq]? = some (.cells C 29 (0, 0)) ∧ Nn B u g hs (if s 6 = true then l2 else l)) (hX : u.heap[q]? = some (.cells X 29 (0, 0))) (hq : wr.heap.size ≤ q) (hbq : bq < wr.heap.size) (hB : B ≤ wr.heap.size) (h6 : s 6 = true) :
    Below B wr (u.setCells q 0 d) ∧ ((s 6 || 6 == 11) = false → Below wr.heap.size wr (u.setCells q 0 d)) ∧ (u.setCells q 0 d).heap[bq]? = some (.cells C 29 (0, 0)) ∧ Nn B (u.setCells q 0 d) g hs (if (s 6 || 6 == 11) = true then l2 else l) := by
  have f := Back.far q d 0 u
  refine ⟨⟨f.1.trans hW.1.os, f.2.1.trans hW.1.tape, f.2.2.1.trans hW.1.output, by rw [f.2.2.2.1]; exact hW.1.size, fun k hk => (f.2.2.2.2 k (by omega)).trans (hW.1.block k hk)⟩, fun h => ?_, (f.2.2.2.2 bq (by omega)).trans hW.2.2.1, ?_⟩
  · rw [h6] at h; cases h
  · have := (hW.2.2.2.set hX (by decide) (by decide) (by decide) 0 d)
    rw [h6] at this ⊢
    exact this
section
variable {B : Nat} {w v u : World} {g bq : Nat} {hs : Rx} {l : Pods} {A : Option Addr} {c : Nat} {ds : List Pd} {k : Nat}
theorem Iv.below (h : Iv B w v g bq hs l A c ds k) (hb : Below v.heap.size v u) (hB : B ≤ v.heap.size) : Iv B w u g bq hs l A c ds k :=
  ⟨(hb.block _ (lt_of_block h.q)).trans h.q, h.nn.below hb, h.d.below hb, h.e, h.n, h.bel.trans (hb.mono hB)⟩
theorem Iv.has3 (h : Iv B w v g bq hs l A c ds k) : v.rangeAt bq 0 (R3 hs) := fun j x hx => by
  refine Pt.box_cell h.q (0 + j) ?_
  match j, hx with
  | 0, hx => exact hx
  | 1, hx => exact hx
  | 2, hx => exact hx
  | j + 3, hx => simp at hx
theorem Iv.len (h : Iv B w v g bq hs l A c ds k) : l.length = ds.length := by rw [← h.e, List.length_map]
end
set_option maxRecDepth 100000 in
set_option maxHeartbeats 16000000 in
theorem walk (x0 : Rx) (h0 : x0.Ok) (A1 : Option Addr) (c1 : Nat) (L : List Na) (ask : Int) (w : World) (hSL : SLaid w) (hA : NActs w A1 L) (hn : L.length ≤ 9223372036854775807) :
    Calls Tryz.prog 3 #[.agg (R3 x0).toArray, .slice A1 L.length c1, .int .i64 ask] w fun e w' => e = .returned (.bool true) ∧ Below w.heap.size w w' := by
  have HSL := Lib.hid hSL
  have HA := Lib.hid hA
  have hn' : (L.length : Int) ≤ 9223372036854775807 := by omega
  obtain ⟨w0, hw0⟩ : ∃ v, w.alloc (.cells (R3 x0).toArray 23) = v := ⟨_, rfl⟩
  have R0 := Lib.hid (show w0.heap[w.heap.size]? = some (.cells (R3 x0).toArray 23 (0, 0)) by rw [← hw0]; exact heap_alloc_new w _)
  have B0 := Lib.hid (show Below w.heap.size w w0 by rw [← hw0]; exact (Below.refl _ _).alloc (Nat.le_refl _) _)
  have RR := Lib.hid (range_box R0.out)
  clear hSL hA hn
  go_enter Tryz.func3, Tryz.ntmps3
  go_wp2_with (first | (refine wpList_load_mid rfl 23 _ rfl _ _ rfl _ _ RR.out Tryz.underlying23 rfl (by kernel_rfl) ?_))
  clear hw0 RR
  have CN := new_any x0 h0 w0
  have CR := fun (v : World) => refnew_any x0 v
  obtain ⟨hs, hhs⟩ : ∃ hs, maxR x0 z3 = hs := ⟨_, rfl⟩
  obtain ⟨B, hB⟩ : ∃ B, w0.heap.size = B := ⟨_, rfl⟩
  have WB := Lib.hid (show w.heap.size ≤ B by rw [← hB]; exact B0.out.size)
  have HB := Lib.hid hB
  rw [hhs] at CN CR
  have CR := Lib.hid CR
  refine (show Calls Tryz.prog 6 #[.agg (R3 x0).toArray] w0 _ from CN).mono ?_
  rintro e w1 ⟨g, rfl, hN, hb1⟩
  rw [hB] at hN
  have N1 := Lib.hid hN
  have B1 := Lib.hid (B0.out.trans (hb1.mono B0.out.size))
  have R1 := Lib.hid ((hb1.block _ (lt_of_block R0.out)).trans R0.out)
  have RR := Lib.hid (range_box R1.out)
  have S1 := Lib.hid (show B ≤ w1.heap.size by rw [← hB]; exact hb1.size)
  have BW1 := Lib.hid hb1
  clear hN CN hhs hB
  go_wp2_with (first | (refine wpList_load_mid rfl 23 _ rfl _ _ rfl _ _ RR.out Tryz.underlying23 rfl (by kernel_rfl) ?_))
  refine (CR.out w1).mono ?_
  rintro e w2 ⟨rfl, hb2⟩
  have N2 := Lib.hid (N1.out.below hb2)
  have B2 := Lib.hid (B1.out.trans (hb2.mono B1.out.size))
  have S2 := Lib.hid (Nat.le_trans S1.out hb2.size)
  obtain ⟨w3, hw3⟩ : ∃ v, w2.alloc (.cells #[.int .i64 0, .int .i64 0, .int .i64 0, .slice none 0 0] 29) = v := ⟨_, rfl⟩
  have hb3 : Below w2.heap.size w2 w3 := by rw [← hw3]; exact (Below.refl _ _).alloc (Nat.le_refl _) _
  have Z3 : w3.heap[w2.heap.size]? = some (.cells #[.int .i64 0, .int .i64 0, .int .i64 0, .slice none 0 0] 29 (0, 0)) := by rw [← hw3]; exact heap_alloc_new w2 _
  obtain ⟨w4, hw4⟩ : ∃ v, w3.setCells w2.heap.size 0 ([.int .i64 hs.c, .int .i64 hs.m, .int .i64 hs.p, .slice none 0 0]) = v := ⟨_, rfl⟩
  have THq := Lib.hid (show w3.there w2.heap.size 0 4 from Back.th Z3 rfl)
  have ONEq := Lib.hid (show ([.int .i64 hs.c, .int .i64 hs.m, .int .i64 hs.p, .slice none 0 0] : List Value).toArray.all (·.oneCell') = true by simp [Value.oneCell'])
  have HVq := Lib.hid hw4
  have hb4 : Below w2.heap.size w2 w4 := by rw [← hw4]; exact bel_set hb3 (Nat.le_refl _)
  have hq4 : w4.heap[w2.heap.size]? = some (.cells ([.int .i64 hs.c, .int .i64 hs.m, .int .i64 hs.p, .slice none 0 0] : List Value).toArray 29 (0, 0)) := by rw [← hw4]; exact Back.st Z3 rfl
  obtain ⟨bq, hbq⟩ : ∃ b, w2.heap.size = b := ⟨_, rfl⟩
  have HBQ := Lib.hid hbq
  have IV0 := Lib.hid (show Iv B w0 w4 g bq hs [] none 0 [] 0 from ⟨by rw [← hbq]; exact hq4, N2.out.below hb4, Nl.nil _ _, rfl, Nat.le_refl _, by
    rw [← HB.out]
    exact (BW1.out.trans (hb2.mono BW1.out.size)).trans (hb4.mono (by rw [HB.out]; exact S2.out))⟩)
  have BS0 := Lib.hid (show B ≤ w4.heap.size from Nat.le_trans S2.out hb4.size)
  have BQ0 := Lib.hid (show bq < w4.heap.size by rw [← hbq]; exact lt_of_block hq4)
  have BQB := Lib.hid (show B ≤ bq by rw [← hbq]; exact S2.out)
  clear hb1 hb2 hb3 hb4 hq4 Z3 hw4 CR RR R0 R1 N1 N2 B1 B2 S1 S2 BW1 hbq
  go_wp2_with (first | (refine wpList_store_at rfl 29 _ _ rfl _ _ _ rfl rfl THq.out (by kernel_rfl) ONEq.out HVq.out ?_))
  clear hw3 THq ONEq HVq
  simp only [HBQ.out]
  go_loopw [9] (fun i wr => ∃ (k : Nat) (l : Pods) (A : Option Addr) (c : Nat) (ds : List Pd), k ≤ L.length ∧ k ≤ 30 ∧ i = .int .i64 k ∧ Hid (Iv B w0 wr g bq hs l A c ds k) ∧ Hid (B ≤ wr.heap.size) ∧ Hid (bq < wr.heap.size)) (fun i _ => 30 - (RowKit.intOf i).toNat)
  case atStart => exact ⟨0, [], none, 0, [], Nat.zero_le _, by omega, rfl, IV0.out, BS0.out, BQ0.out⟩
  case round =>
    clear IV0 BS0 BQ0
    obtain ⟨k, l, A, c, ds, hk, hk30, rfl, IV, BS, BQ⟩ := hrel
    have HWU : ∀ u, Below B wr u → Below w.heap.size w u := fun u hu => B0.out.trans ((IV.out.bel.trans hu).mono WB.out)
    by_cases hkl : k < L.length ∧ k < 30
    · obtain ⟨hkl, hk3⟩ := hkl
      have hkb : (k : Int) < 30 := by omega
      have HK3 := Lib.hid hk3
      obtain ⟨x, hxk⟩ : ∃ x, L[k]? = some x := ⟨_, List.getElem?_eq_getElem (by omega)⟩
      obtain ⟨r, o, rfl, hra, hrg⟩ := HA.out.cells k x hxk
      have HXO := Lib.hid (HA.out.ok x (List.mem_of_getElem? hxk))
      have RGA := Lib.hid (show ∀ u, Below w.heap.size w u → u.rangeAt r (o + k * 9) x.vals from fun u hu j v hv => (World.cell?_of_block (hu.block r hra)).trans (hrg j v hv))
      have RGS := Lib.hid (show ∀ u, Below w.heap.size w u → u.rangeAt r (o + k * 9 + 2) [.string x.S.name, .slice x.LA x.S.labels.length x.lc, .slice x.IA x.S.init.length x.ic, .slice x.MA x.S.main.length x.mc, .int .i64 x.S.restart, .int .i64 x.S.grace, .int .i64 x.S.prio] from fun u hu => Na.spec_at (RGA.out u hu))
      have eat : (⟨r, o, none⟩ : Addr).add (k * 9) = ⟨r, o + k * 9, none⟩ := by unfold Addr.add; split <;> simp_all
      have hk0 : (0 : Int) ≤ (k : Int) := by omega
      have hka : (k : Int) < (L.length : Int) := by omega
      clear hxk hra hrg
      have RS := Lib.hid (RGS.out wr (HWU wr (Below.refl _ _)))
      have HS := Lib.hid (HXO.out.1.below (HWU wr (Below.refl _ _)))
      go_wp2_with (first | (refine wpList_load_mid rfl 35 _ rfl _ _ rfl _ _ RS.out Tryz.underlying35 rfl (by kernel_rfl) ?_))
      refine (Book.light_any x.S x.LA x.lc x.IA x.ic x.MA x.mc wr HS.out).mono ?_
      rintro e wl ⟨rfl, hbl⟩
      have IVl := Lib.hid (IV.out.below hbl BS.out)
      have BSl := Lib.hid (Nat.le_trans BS.out hbl.size)
      have BQl := Lib.hid (Nat.lt_of_lt_of_le BQ.out hbl.size)
      have HWUl : ∀ u, Below B wl u → Below w.heap.size w u := fun u hu => B0.out.trans ((IVl.out.bel.trans hu).mono WB.out)
      clear hbl IV BS BQ HWU RS HS
      cases hl : Book.LightB x.S with
      | false =>
        clear hl
        go_wp2_with fail
        refine (works_any wl (HSL.out.below (HWUl wl (Below.refl _ _)))).mono ?_
        rintro e wk ⟨rfl, hbk⟩
        have BE := Lib.hid (HWUl wk (hbk.mono BSl.out))
        clear hbk
        go_wp2
        go_ret
        exact ⟨rfl, BE.out⟩
      | true =>
        have HLX := Lib.hid (Book.LightB_iff.1 hl)
        clear hl
        obtain ⟨l2, hl2⟩ : ∃ l2, stepL hs l x = l2 := ⟨_, rfl⟩
        have HST := Lib.hid hl2
        have HLEN := Lib.hid (show l2.length ≤ k + 1 by rw [← hl2]; have := step_len hs l x; have := IVl.out.len; have := IVl.out.n; omega)
        clear hl2
        go_upto_region 10 with fail
        refine Vls.wp_region (by kernel_rfl) (Jx.GJ (doF hs l2 wl.heap.size (.pointer (some ⟨g, 0, none⟩)) (.agg ([.int .i64 hs.c, .int .i64 hs.m, .int .i64 hs.p, .slice A ds.length c] : List Value).toArray) (.slice (some ⟨r, o, none⟩) L.length c1) (.int .i64 k) (.pointer (some ⟨r, o + k * 9, none⟩)) (.agg x.vals.toArray)) [(4, 2), (4, 3), (5, 4), (6, 0), (6, 1), (6, 5), (7, 6), (8, 7), (9, 7), (11, 10), (11, 8), (12, 9)] (fun s u => Below B wl u ∧ (s 6 = false → Below wl.heap.size wl u) ∧ u.heap[bq]? = some (.cells ([.int .i64 hs.c, .int .i64 hs.m, .int .i64 hs.p, .slice A ds.length c] : List Value).toArray 29 (0, 0)) ∧ Nn B u g hs (if s 6 = true then l2 else l))) (by kernel_rfl) (fun _ => undef) (Jx.GJ.start (⟨Below.drew (Below.refl _ _), fun _ => Below.drew (Below.refl _ _), IVl.out.q, by rw [if_neg (by decide)]; exact IVl.out.nn.below (Below.drew (Below.refl _ _))⟩) _) ?_ ?_
        · refine ⟨?_, ?_, ?_, ?_, ?_, ?_, ?_, ?_, ?_, ?_, ?_, ?_, ?_, trivial⟩
          · intro s_ a_ u V hs0 hd hfr hpo hJ
            have hW := hJ.w
            have f7 : a_.tmps.getD 7 undef = .pointer (some ⟨g, 0, none⟩) := hfr 7 (by kernel_rfl)
            refine .inl ⟨rfl, ?_⟩
            unfold Oper.wp
            rw [show (execOp a_.eval _).run Tryz.prog u = .ok (.value (.pointer (some ⟨g, 0, none⟩))) u from by simp [go_sem, Act.eval, f7]]
            exact ⟨_, rfl, hJ.step 0 hs0 rfl (doF_loc hs l2 wl.heap.size (.pointer (some ⟨g, 0, none⟩)) (.agg ([.int .i64 hs.c, .int .i64 hs.m, .int .i64 hs.p, .slice A ds.length c] : List Value).toArray) (.slice (some ⟨r, o, none⟩) L.length c1) (.int .i64 k) (.pointer (some ⟨r, o + k * 9, none⟩)) (.agg x.vals.toArray)) (fun j _ h => doF_mono hs l2 wl.heap.size (.pointer (some ⟨g, 0, none⟩)) (.agg ([.int .i64 hs.c, .int .i64 hs.m, .int .i64 hs.p, .slice A ds.length c] : List Value).toArray) (.slice (some ⟨r, o, none⟩) L.length c1) (.int .i64 k) (.pointer (some ⟨r, o + k * 9, none⟩)) (.agg x.vals.toArray) j _ _ _ _ _ (Below.refl _ _) h) (by simpa using hW) (rfl)⟩
          · intro s_ a_ u V hs0 hd hfr hpo hJ
            have hW := hJ.w
            have f8 : a_.tmps.getD 8 undef = .pointer (some ⟨bq, 0, none⟩) := hfr 8 (by kernel_rfl)
            refine .inl ⟨rfl, ?_⟩
            exact wp_load_mid 29 (.tmp 8) rfl (bq) (0) f8 [.int .i64 hs.c, .int .i64 hs.m, .int .i64 hs.p, .slice A ds.length c] _ (range_box hW.2.2.1) Tryz.underlying29 rfl (by kernel_rfl) ⟨_, rfl, hJ.step 1 hs0 rfl (doF_loc hs l2 wl.heap.size (.pointer (some ⟨g, 0, none⟩)) (.agg ([.int .i64 hs.c, .int .i64 hs.m, .int .i64 hs.p, .slice A ds.length c] : List Value).toArray) (.slice (some ⟨r, o, none⟩) L.length c1) (.int .i64 k) (.pointer (some ⟨r, o + k * 9, none⟩)) (.agg x.vals.toArray)) (fun j _ h => doF_mono hs l2 wl.heap.size (.pointer (some ⟨g, 0, none⟩)) (.agg ([.int .i64 hs.c, .int .i64 hs.m, .int .i64 hs.p, .slice A ds.length c] : List Value).toArray) (.slice (some ⟨r, o, none⟩) L.length c1) (.int .i64 k) (.pointer (some ⟨r, o + k * 9, none⟩)) (.agg x.vals.toArray) j _ _ _ _ _ (Below.refl _ _) h) (by simpa using hW) (rfl)⟩
          · intro s_ a_ u V hs0 hd hfr hpo hJ
            have hW := hJ.w
            have f1 : a_.tmps.getD 1 undef = .slice (some ⟨r, o, none⟩) L.length c1 := hfr 1 (by kernel_rfl)
            refine .inl ⟨rfl, ?_⟩
            unfold Oper.wp
            rw [show (execOp a_.eval _).run Tryz.prog u = .ok (.value (.slice (some ⟨r, o, none⟩) L.length c1)) u from by simp [go_sem, Act.eval, f1]]
            exact ⟨_, rfl, hJ.step 2 hs0 rfl (doF_loc hs l2 wl.heap.size (.pointer (some ⟨g, 0, none⟩)) (.agg ([.int .i64 hs.c, .int .i64 hs.m, .int .i64 hs.p, .slice A ds.length c] : List Value).toArray) (.slice (some ⟨r, o, none⟩) L.length c1) (.int .i64 k) (.pointer (some ⟨r, o + k * 9, none⟩)) (.agg x.vals.toArray)) (fun j _ h => doF_mono hs l2 wl.heap.size (.pointer (some ⟨g, 0, none⟩)) (.agg ([.int .i64 hs.c, .int .i64 hs.m, .int .i64 hs.p, .slice A ds.length c] : List Value).toArray) (.slice (some ⟨r, o, none⟩) L.length c1) (.int .i64 k) (.pointer (some ⟨r, o + k * 9, none⟩)) (.agg x.vals.toArray) j _ _ _ _ _ (Below.refl _ _) h) (by simpa using hW) (rfl)⟩
          · intro s_ a_ u V hs0 hd hfr hpo hJ
            have hW := hJ.w
            have f9 : a_.tmps.getD 9 undef = .int .i64 k := hfr 9 (by kernel_rfl)
            refine .inl ⟨rfl, ?_⟩
            unfold Oper.wp
            rw [show (execOp a_.eval _).run Tryz.prog u = .ok (.value (.int .i64 k)) u from by simp [go_sem, Act.eval, f9]]
            exact ⟨_, rfl, hJ.step 3 hs0 rfl (doF_loc hs l2 wl.heap.size (.pointer (some ⟨g, 0, none⟩)) (.agg ([.int .i64 hs.c, .int .i64 hs.m, .int .i64 hs.p, .slice A ds.length c] : List Value).toArray) (.slice (some ⟨r, o, none⟩) L.length c1) (.int .i64 k) (.pointer (some ⟨r, o + k * 9, none⟩)) (.agg x.vals.toArray)) (fun j _ h => doF_mono hs l2 wl.heap.size (.pointer (some ⟨g, 0, none⟩)) (.agg ([.int .i64 hs.c, .int .i64 hs.m, .int .i64 hs.p, .slice A ds.length c] : List Value).toArray) (.slice (some ⟨r, o, none⟩) L.length c1) (.int .i64 k) (.pointer (some ⟨r, o + k * 9, none⟩)) (.agg x.vals.toArray) j _ _ _ _ _ (Below.refl _ _) h) (by simpa using hW) (rfl)⟩
          · intro s_ a_ u V hs0 hd hfr hpo hJ
            have hW := hJ.w
            have e2 : a_.tmps.getD 44 undef = .slice (some ⟨r, o, none⟩) L.length c1 := (hpo 2 44 (by kernel_rfl)).trans (show V 2 = .slice (some ⟨r, o, none⟩) L.length c1 from hJ.f 2 (hd 2 (by kernel_rfl)))
            have e3 : a_.tmps.getD 45 undef = .int .i64 k := (hpo 3 45 (by kernel_rfl)).trans (show V 3 = .int .i64 k from hJ.f 3 (hd 3 (by kernel_rfl)))
            refine .inl ⟨rfl, ?_⟩
            unfold Oper.wp
            rw [show (execOp a_.eval _).run Tryz.prog u = .ok (.value (.pointer (some ⟨r, o + k * 9, none⟩))) u from by simp [go_sem, Act.eval, e2, e3, hk0, hka, eat]]
            exact ⟨_, rfl, hJ.step 4 hs0 (by show (s_ 2 && (s_ 3 && true)) = true; rw [hd 2 (by kernel_rfl), hd 3 (by kernel_rfl)]; rfl) (doF_loc hs l2 wl.heap.size (.pointer (some ⟨g, 0, none⟩)) (.agg ([.int .i64 hs.c, .int .i64 hs.m, .int .i64 hs.p, .slice A ds.length c] : List Value).toArray) (.slice (some ⟨r, o, none⟩) L.length c1) (.int .i64 k) (.pointer (some ⟨r, o + k * 9, none⟩)) (.agg x.vals.toArray)) (fun j _ h => doF_mono hs l2 wl.heap.size (.pointer (some ⟨g, 0, none⟩)) (.agg ([.int .i64 hs.c, .int .i64 hs.m, .int .i64 hs.p, .slice A ds.length c] : List Value).toArray) (.slice (some ⟨r, o, none⟩) L.length c1) (.int .i64 k) (.pointer (some ⟨r, o + k * 9, none⟩)) (.agg x.vals.toArray) j _ _ _ _ _ (Below.refl _ _) h) (by simpa using hW) (rfl)⟩
          · intro s_ a_ u V hs0 hd hfr hpo hJ
            have hW := hJ.w
            have e4 : a_.tmps.getD 46 undef = .pointer (some ⟨r, o + k * 9, none⟩) := (hpo 4 46 (by kernel_rfl)).trans (show V 4 = .pointer (some ⟨r, o + k * 9, none⟩) from hJ.f 4 (hd 4 (by kernel_rfl)))
            refine .inl ⟨rfl, ?_⟩
            exact wp_load_mid 37 (.tmp 46) rfl (r) ((o + k * 9)) e4 x.vals _ (RGA.out u (HWUl u hW.1)) Tryz.underlying37 rfl (by kernel_rfl) ⟨_, rfl, hJ.step 5 hs0 (by show (s_ 4 && true) = true; rw [hd 4 (by kernel_rfl)]; rfl) (doF_loc hs l2 wl.heap.size (.pointer (some ⟨g, 0, none⟩)) (.agg ([.int .i64 hs.c, .int .i64 hs.m, .int .i64 hs.p, .slice A ds.length c] : List Value).toArray) (.slice (some ⟨r, o, none⟩) L.length c1) (.int .i64 k) (.pointer (some ⟨r, o + k * 9, none⟩)) (.agg x.vals.toArray)) (fun j _ h => doF_mono hs l2 wl.heap.size (.pointer (some ⟨g, 0, none⟩)) (.agg ([.int .i64 hs.c, .int .i64 hs.m, .int .i64 hs.p, .slice A ds.length c] : List Value).toArray) (.slice (some ⟨r, o, none⟩) L.length c1) (.int .i64 k) (.pointer (some ⟨r, o + k * 9, none⟩)) (.agg x.vals.toArray) j _ _ _ _ _ (Below.refl _ _) h) (by simpa using hW) (rfl)⟩
          · intro s_ a_ u V hs0 hd hfr hpo hJ
            have hW := hJ.w
            have e0 : a_.tmps.getD 42 undef = .pointer (some ⟨g, 0, none⟩) := (hpo 0 42 (by kernel_rfl)).trans (show V 0 = .pointer (some ⟨g, 0, none⟩) from hJ.f 0 (hd 0 (by kernel_rfl)))
            have e1 : a_.tmps.getD 43 undef = .agg ([.int .i64 hs.c, .int .i64 hs.m, .int .i64 hs.p, .slice A ds.length c] : List Value).toArray := (hpo 1 43 (by kernel_rfl)).trans (show V 1 = .agg ([.int .i64 hs.c, .int .i64 hs.m, .int .i64 hs.p, .slice A ds.length c] : List Value).toArray from hJ.f 1 (hd 1 (by kernel_rfl)))
            have e5 : a_.tmps.getD 47 undef = .agg x.vals.toArray := (hpo 5 47 (by kernel_rfl)).trans (show V 5 = .agg x.vals.toArray from hJ.f 5 (hd 5 (by kernel_rfl)))
            have hb0 := hW.2.1 hs0
            have hN : Nn B u g hs l := by have := hW.2.2.2; rw [if_neg (by rw [hs0]; decide)] at this; exact this
            refine .inl ⟨rfl, ?_⟩
            unfold Oper.wp
            rw [show (execOp a_.eval _).run Tryz.prog u = .ok (.enter 10 #[.pointer (some ⟨g, 0, none⟩), .agg ([.int .i64 hs.c, .int .i64 hs.m, .int .i64 hs.p, .slice A ds.length c] : List Value).toArray, .agg x.vals.toArray]) u from by simp [go_sem, Act.eval, e0, e1, e5]]
            refine Calls.mono (does_any ds x u hN (IVl.out.d.below hb0) IVl.out.e (by have := IVl.out.n; omega) HXO.out.2.2.2 HLX.out (fun v hv => HSL.out.below ((HWUl u hW.1).trans (hv.below (HWUl u hW.1).size WB.out))) (fun v hv => HXO.out.1.below ((HWUl u hW.1).trans (hv.below (HWUl u hW.1).size WB.out)))) ?_
            rintro e u2 ⟨A2, c2, ds2, rfl, he2, hd2, hn2, hk2⟩
            exact ⟨_, rfl, hJ.step 6 hs0 (by show (s_ 0 && (s_ 1 && (s_ 5 && true))) = true; rw [hd 0 (by kernel_rfl), hd 1 (by kernel_rfl), hd 5 (by kernel_rfl)]; rfl) (doF_loc hs l2 wl.heap.size (.pointer (some ⟨g, 0, none⟩)) (.agg ([.int .i64 hs.c, .int .i64 hs.m, .int .i64 hs.p, .slice A ds.length c] : List Value).toArray) (.slice (some ⟨r, o, none⟩) L.length c1) (.int .i64 k) (.pointer (some ⟨r, o + k * 9, none⟩)) (.agg x.vals.toArray)) (fun j _ h => doF_kn hk2 h) (⟨hW.1.trans (hk2.below (Nat.le_trans BSl.out hW.1.size) (Nat.le_refl _)), fun h => by simp at h, (hk2.block _ (lt_of_block hW.2.2.1) (.inr (not_n hW.2.2.1 (by decide) (by decide) (by decide)))).trans hW.2.2.1, by rw [if_pos (by simp), ← HST.out]; exact hn2⟩) (⟨A2, c2, ds2, rfl, he2.trans HST.out, hd2⟩)⟩
          · intro s_ a_ u V hs0 hd hfr hpo hJ
            have hW := hJ.w
            have x6 := (show ∃ (A2 : Option Addr) (c2 : Nat) (ds2 : List Pd), V 6 = .tuple #[.agg ([.int .i64 hs.c, .int .i64 hs.m, .int .i64 hs.p, .slice A2 ds2.length c2] : List Value).toArray, .bool true] ∧ pods ds2 = l2 ∧ Nl u 0 A2 c2 ds2 from hJ.f 6 (hd 6 (by kernel_rfl)))
            have y6 : a_.tmps.getD 48 undef = V 6 := hpo 6 48 (by kernel_rfl)
            obtain ⟨A2, c2, ds2, hV, _, _⟩ := x6
            refine .inl ⟨rfl, ?_⟩
            unfold Oper.wp
            rw [show (execOp a_.eval _).run Tryz.prog u = .ok (.value (V 6)) u from by rw [hV] at y6; rw [hV]; simp [go_sem, Act.eval, y6]]
            exact ⟨V 6, rfl, hJ.step 7 hs0 (by show (s_ 6 && true) = true; rw [hd 6 (by kernel_rfl)]; rfl) (doF_loc hs l2 wl.heap.size (.pointer (some ⟨g, 0, none⟩)) (.agg ([.int .i64 hs.c, .int .i64 hs.m, .int .i64 hs.p, .slice A ds.length c] : List Value).toArray) (.slice (some ⟨r, o, none⟩) L.length c1) (.int .i64 k) (.pointer (some ⟨r, o + k * 9, none⟩)) (.agg x.vals.toArray)) (fun j _ h => doF_mono hs l2 wl.heap.size (.pointer (some ⟨g, 0, none⟩)) (.agg ([.int .i64 hs.c, .int .i64 hs.m, .int .i64 hs.p, .slice A ds.length c] : List Value).toArray) (.slice (some ⟨r, o, none⟩) L.length c1) (.int .i64 k) (.pointer (some ⟨r, o + k * 9, none⟩)) (.agg x.vals.toArray) j _ _ _ _ _ (Below.refl _ _) h) (by simpa using hW) (rfl)⟩
          · intro s_ a_ u V hs0 hd hfr hpo hJ
            have hW := hJ.w
            have x7 := (show V 7 = V 6 from hJ.f 7 (hd 7 (by kernel_rfl)))
            have y7 : a_.tmps.getD 41 undef = V 7 := hpo 7 41 (by kernel_rfl)
            obtain ⟨A2, c2, ds2, hV, _, _⟩ := (show ∃ (A2 : Option Addr) (c2 : Nat) (ds2 : List Pd), V 6 = .tuple #[.agg ([.int .i64 hs.c, .int .i64 hs.m, .int .i64 hs.p, .slice A2 ds2.length c2] : List Value).toArray, .bool true] ∧ pods ds2 = l2 ∧ Nl u 0 A2 c2 ds2 from hJ.f 6 (hJ.cl (7, 6) (by simp) (hd 7 (by kernel_rfl))))
            refine .inl ⟨rfl, ?_⟩
            unfold Oper.wp
            rw [show (execOp a_.eval _).run Tryz.prog u = .ok (.value (Jx.tupAt (V 7) 0)) u from by rw [x7, hV] at y7; rw [x7, hV]; simp [go_sem, Act.eval, y7, Jx.tupAt]]
            exact ⟨_, rfl, hJ.step 8 hs0 (by show (s_ 7 && true) = true; rw [hd 7 (by kernel_rfl)]; rfl) (doF_loc hs l2 wl.heap.size (.pointer (some ⟨g, 0, none⟩)) (.agg ([.int .i64 hs.c, .int .i64 hs.m, .int .i64 hs.p, .slice A ds.length c] : List Value).toArray) (.slice (some ⟨r, o, none⟩) L.length c1) (.int .i64 k) (.pointer (some ⟨r, o + k * 9, none⟩)) (.agg x.vals.toArray)) (fun j _ h => doF_mono hs l2 wl.heap.size (.pointer (some ⟨g, 0, none⟩)) (.agg ([.int .i64 hs.c, .int .i64 hs.m, .int .i64 hs.p, .slice A ds.length c] : List Value).toArray) (.slice (some ⟨r, o, none⟩) L.length c1) (.int .i64 k) (.pointer (some ⟨r, o + k * 9, none⟩)) (.agg x.vals.toArray) j _ _ _ _ _ (Below.refl _ _) h) (by simpa using hW) (rfl)⟩
          · intro s_ a_ u V hs0 hd hfr hpo hJ
            have hW := hJ.w
            have x7 := (show V 7 = V 6 from hJ.f 7 (hd 7 (by kernel_rfl)))
            have y7 : a_.tmps.getD 41 undef = V 7 := hpo 7 41 (by kernel_rfl)
            obtain ⟨A2, c2, ds2, hV, _, _⟩ := (show ∃ (A2 : Option Addr) (c2 : Nat) (ds2 : List Pd), V 6 = .tuple #[.agg ([.int .i64 hs.c, .int .i64 hs.m, .int .i64 hs.p, .slice A2 ds2.length c2] : List Value).toArray, .bool true] ∧ pods ds2 = l2 ∧ Nl u 0 A2 c2 ds2 from hJ.f 6 (hJ.cl (7, 6) (by simp) (hd 7 (by kernel_rfl))))
            refine .inl ⟨rfl, ?_⟩
            unfold Oper.wp
            rw [show (execOp a_.eval _).run Tryz.prog u = .ok (.value (Jx.tupAt (V 7) 1)) u from by rw [x7, hV] at y7; rw [x7, hV]; simp [go_sem, Act.eval, y7, Jx.tupAt]]
            exact ⟨_, rfl, hJ.step 9 hs0 (by show (s_ 7 && true) = true; rw [hd 7 (by kernel_rfl)]; rfl) (doF_loc hs l2 wl.heap.size (.pointer (some ⟨g, 0, none⟩)) (.agg ([.int .i64 hs.c, .int .i64 hs.m, .int .i64 hs.p, .slice A ds.length c] : List Value).toArray) (.slice (some ⟨r, o, none⟩) L.length c1) (.int .i64 k) (.pointer (some ⟨r, o + k * 9, none⟩)) (.agg x.vals.toArray)) (fun j _ h => doF_mono hs l2 wl.heap.size (.pointer (some ⟨g, 0, none⟩)) (.agg ([.int .i64 hs.c, .int .i64 hs.m, .int .i64 hs.p, .slice A ds.length c] : List Value).toArray) (.slice (some ⟨r, o, none⟩) L.length c1) (.int .i64 k) (.pointer (some ⟨r, o + k * 9, none⟩)) (.agg x.vals.toArray) j _ _ _ _ _ (Below.refl _ _) h) (by simpa using hW) (rfl)⟩
          · intro s_ a_ u V hs0 hd hfr hpo hJ
            have hW := hJ.w
            refine .inl ⟨rfl, ?_⟩
            unfold Oper.wp
            rw [show (execOp a_.eval _).run Tryz.prog u = .ok (.value (.pointer (some ⟨u.heap.size, 0, none⟩))) (u.alloc (.cells #[.int .i64 0, .int .i64 0, .int .i64 0, .slice none 0 0] 29 (0, 0))) from by simp [go_sem, Act.eval]]
            have hb : Below u.heap.size u (u.alloc (.cells #[.int .i64 0, .int .i64 0, .int .i64 0, .slice none 0 0] 29 (0, 0))) := (Below.refl _ _).alloc (Nat.le_refl _) _
            exact ⟨_, rfl, hJ.step 10 hs0 rfl (doF_loc hs l2 wl.heap.size (.pointer (some ⟨g, 0, none⟩)) (.agg ([.int .i64 hs.c, .int .i64 hs.m, .int .i64 hs.p, .slice A ds.length c] : List Value).toArray) (.slice (some ⟨r, o, none⟩) L.length c1) (.int .i64 k) (.pointer (some ⟨r, o + k * 9, none⟩)) (.agg x.vals.toArray)) (fun j _ h => doF_mono hs l2 wl.heap.size (.pointer (some ⟨g, 0, none⟩)) (.agg ([.int .i64 hs.c, .int .i64 hs.m, .int .i64 hs.p, .slice A ds.length c] : List Value).toArray) (.slice (some ⟨r, o, none⟩) L.length c1) (.int .i64 k) (.pointer (some ⟨r, o + k * 9, none⟩)) (.agg x.vals.toArray) j _ _ _ _ _ hb h) (⟨hW.1.trans (hb.mono (Nat.le_trans BSl.out hW.1.size)), fun h => (hW.2.1 (by simpa using h)).trans (hb.mono hW.1.size), (hb.block _ (lt_of_block hW.2.2.1)).trans hW.2.2.1, by have := hW.2.2.2.below hb; simpa using this⟩) (⟨u.heap.size, _, rfl, hW.1.size, heap_alloc_new u _, rfl⟩)⟩
          · intro s_ a_ u V hs0 hd hfr hpo hJ
            have hW := hJ.w
            have x10 := (show ∃ (q : Nat) (X : Array Value), V 10 = .pointer (some ⟨q, 0, none⟩) ∧ wl.heap.size ≤ q ∧ u.heap[q]? = some (.cells X 29 (0, 0)) ∧ X.size = 4 from hJ.f 10 (hd 10 (by kernel_rfl)))
            have y10 : a_.tmps.getD 10 undef = V 10 := hpo 10 10 (by kernel_rfl)
            have x8 := (show V 8 = Jx.tupAt (V 7) 0 from hJ.f 8 (hd 8 (by kernel_rfl)))
            have y8 : a_.tmps.getD 49 undef = V 8 := hpo 8 49 (by kernel_rfl)
            obtain ⟨q, X, hq, hqz, hX, hXs⟩ := x10
            obtain ⟨A2, c2, ds2, hV, _, _⟩ := (show ∃ (A2 : Option Addr) (c2 : Nat) (ds2 : List Pd), V 6 = .tuple #[.agg ([.int .i64 hs.c, .int .i64 hs.m, .int .i64 hs.p, .slice A2 ds2.length c2] : List Value).toArray, .bool true] ∧ pods ds2 = l2 ∧ Nl u 0 A2 c2 ds2 from hJ.f 6 (hJ.cl (7, 6) (by simp) (hJ.cl (8, 7) (by simp) (hd 8 (by kernel_rfl)))))
            have x7 := (show V 7 = V 6 from hJ.f 7 (hJ.cl (8, 7) (by simp) (hd 8 (by kernel_rfl))))
            have hV8 : V 8 = .agg ([.int .i64 hs.c, .int .i64 hs.m, .int .i64 hs.p, .slice A2 ds2.length c2] : List Value).toArray := by rw [x8, x7, hV]; rfl
            rw [hq] at y10
            rw [hV8] at y8
            refine .inl ⟨rfl, ?_⟩
            have hn11 : s_ 11 = false := hs0
            exact wp_store_mid 29 (.tmp 10) (.tmp 49) rfl q 0 ([.int .i64 hs.c, .int .i64 hs.m, .int .i64 hs.p, .slice A2 ds2.length c2] : List Value).toArray y10 y8 (Back.th hX hXs) (by kernel_rfl) (by simp [Value.oneCell']) ⟨undef, rfl, hJ.step 11 hs0 (by show (s_ 10 && (s_ 8 && true)) = true; rw [hd 10 (by kernel_rfl), hd 8 (by kernel_rfl)]; rfl) (doF_loc hs l2 wl.heap.size (.pointer (some ⟨g, 0, none⟩)) (.agg ([.int .i64 hs.c, .int .i64 hs.m, .int .i64 hs.p, .slice A ds.length c] : List Value).toArray) (.slice (some ⟨r, o, none⟩) L.length c1) (.int .i64 k) (.pointer (some ⟨r, o + k * 9, none⟩)) (.agg x.vals.toArray)) (fun j hj h => doF_set hX hXs rfl (fun e => by subst e; rw [hn11] at hj; cases hj) h) (dw_set hW hX hqz BQl.out BSl.out (hJ.cl (7, 6) (by simp) (hJ.cl (8, 7) (by simp) (hd 8 (by kernel_rfl))))) (⟨q, A2, c2, ds2.length, hq, hV8, Back.st hX hXs⟩)⟩
          · intro s_ a_ u V hs0 hd hfr hpo hJ
            have hW := hJ.w
            have x9 := (show V 9 = Jx.tupAt (V 7) 1 from hJ.f 9 (hd 9 (by kernel_rfl)))
            have y9 : a_.tmps.getD 50 undef = V 9 := hpo 9 50 (by kernel_rfl)
            obtain ⟨A2, c2, ds2, hV, _, _⟩ := (show ∃ (A2 : Option Addr) (c2 : Nat) (ds2 : List Pd), V 6 = .tuple #[.agg ([.int .i64 hs.c, .int .i64 hs.m, .int .i64 hs.p, .slice A2 ds2.length c2] : List Value).toArray, .bool true] ∧ pods ds2 = l2 ∧ Nl u 0 A2 c2 ds2 from hJ.f 6 (hJ.cl (7, 6) (by simp) (hJ.cl (9, 7) (by simp) (hd 9 (by kernel_rfl)))))
            have x7 := (show V 7 = V 6 from hJ.f 7 (hJ.cl (9, 7) (by simp) (hd 9 (by kernel_rfl))))
            have hV9 : V 9 = .bool true := by rw [x9, x7, hV]; rfl
            refine .inl ⟨rfl, ?_⟩
            unfold Oper.wp
            rw [show (execOp a_.eval _).run Tryz.prog u = .ok (.value (V 9)) u from by rw [hV9] at y9; rw [hV9]; simp [go_sem, Act.eval, y9]]
            exact ⟨V 9, rfl, hJ.step 12 hs0 (by show (s_ 9 && true) = true; rw [hd 9 (by kernel_rfl)]; rfl) (doF_loc hs l2 wl.heap.size (.pointer (some ⟨g, 0, none⟩)) (.agg ([.int .i64 hs.c, .int .i64 hs.m, .int .i64 hs.p, .slice A ds.length c] : List Value).toArray) (.slice (some ⟨r, o, none⟩) L.length c1) (.int .i64 k) (.pointer (some ⟨r, o + k * 9, none⟩)) (.agg x.vals.toArray)) (fun j _ h => doF_mono hs l2 wl.heap.size (.pointer (some ⟨g, 0, none⟩)) (.agg ([.int .i64 hs.c, .int .i64 hs.m, .int .i64 hs.p, .slice A ds.length c] : List Value).toArray) (.slice (some ⟨r, o, none⟩) L.length c1) (.int .i64 k) (.pointer (some ⟨r, o + k * 9, none⟩)) (.agg x.vals.toArray) j _ _ _ _ _ (Below.refl _ _) h) (by simpa using hW) (rfl)⟩
        · intro s_ V w5 hall hJ
          obtain ⟨A2, c2, ds2, h6, he2, hd2⟩ := (show ∃ (A2 : Option Addr) (c2 : Nat) (ds2 : List Pd), V 6 = .tuple #[.agg ([.int .i64 hs.c, .int .i64 hs.m, .int .i64 hs.p, .slice A2 ds2.length c2] : List Value).toArray, .bool true] ∧ pods ds2 = l2 ∧ Nl w5 0 A2 c2 ds2 from hJ.f 6 (hall 6 (by decide)))
          obtain ⟨q, A3, c3, n3, h10, h8, hq⟩ := (show ∃ (q : Nat) (A2 : Option Addr) (c2 n2 : Nat), V 10 = .pointer (some ⟨q, 0, none⟩) ∧ V 8 = .agg ([.int .i64 hs.c, .int .i64 hs.m, .int .i64 hs.p, .slice A2 n2 c2] : List Value).toArray ∧ w5.heap[q]? = some (.cells ([.int .i64 hs.c, .int .i64 hs.m, .int .i64 hs.p, .slice A2 n2 c2] : List Value).toArray 29 (0, 0)) from hJ.f 11 (hall 11 (by decide)))
          obtain ⟨q', X, h10', hqz, _, _⟩ := (show ∃ (q : Nat) (X : Array Value), V 10 = .pointer (some ⟨q, 0, none⟩) ∧ wl.heap.size ≤ q ∧ w5.heap[q]? = some (.cells X 29 (0, 0)) ∧ X.size = 4 from hJ.f 10 (hall 10 (by decide)))
          have h7 : V 7 = V 6 := hJ.f 7 (hall 7 (by decide))
          have h8' : V 8 = Jx.tupAt (V 7) 0 := hJ.f 8 (hall 8 (by decide))
          have h9 : V 9 = Jx.tupAt (V 7) 1 := hJ.f 9 (hall 9 (by decide))
          have h12 : V 12 = V 9 := hJ.f 12 (hall 12 (by decide))
          have e12 : V 12 = .bool true := by rw [h12, h9, h7, h6]; rfl
          have hq2 : w5.heap[q]? = some (.cells ([.int .i64 hs.c, .int .i64 hs.m, .int .i64 hs.p, .slice A2 ds2.length c2] : List Value).toArray 29 (0, 0)) := by
            have e8 : Value.agg ([.int .i64 hs.c, .int .i64 hs.m, .int .i64 hs.p, .slice A2 ds2.length c2] : List Value).toArray = .agg ([.int .i64 hs.c, .int .i64 hs.m, .int .i64 hs.p, .slice A3 n3 c3] : List Value).toArray := by rw [← h8, h8', h7, h6]; rfl
            injection e8 with e8
            rw [e8]; exact hq
          obtain ⟨hW1, _, hW3, hW4⟩ := hJ.w
          rw [if_pos (hall 6 (by decide))] at hW4
          have RQ := Lib.hid (range_box hq2)
          obtain ⟨w6, hw6⟩ : ∃ v, w5.setCells bq 0 [.int .i64 hs.c, .int .i64 hs.m, .int .i64 hs.p, .slice A2 ds2.length c2] = v := ⟨_, rfl⟩
          have TH6 := Lib.hid (show w5.there bq 0 4 from Back.th hW3 rfl)
          have ONE6 := Lib.hid (show ([.int .i64 hs.c, .int .i64 hs.m, .int .i64 hs.p, .slice A2 ds2.length c2] : List Value).toArray.all (·.oneCell') = true by simp [Value.oneCell'])
          have HV6 := Lib.hid hw6
          have IV6 := Lib.hid (show Iv B w0 w6 g bq hs l2 A2 c2 ds2 (k + 1) from by
            rw [← hw6]
            refine ⟨Back.st hW3 rfl, hW4.set hW3 (by decide) (by decide) (by decide) _ _, nl_set hd2 hW3 (by decide) (by decide) _ _, he2, ?_, ?_⟩
            · have := HLEN.out; rw [← he2, List.length_map] at this; exact this
            · have hb5 := IVl.out.bel.trans hW1
              rw [← HB.out] at hb5 ⊢
              exact bel_set hb5 (by rw [HB.out]; exact BQB.out))
          have BS6 := Lib.hid (show B ≤ w6.heap.size by rw [← hw6, (Back.far bq [.int .i64 hs.c, .int .i64 hs.m, .int .i64 hs.p, .slice A2 ds2.length c2] 0 w5).2.2.2.1]; exact Nat.le_trans BSl.out hW1.size)
          have BQ6 := Lib.hid (show bq < w6.heap.size from lt_of_block IV6.out.q)
          clear hall hJ h10' hqz h7 h8' h9 h12 h8 hq hq2 hW1 hW3 hW4 h6 he2 hd2 hw6 IVl BSl BQl HWUl HXO RGA RGS HLX HST HLEN eat hk0 hka
          simp only [Bxs.puts, Nat.reduceAdd, put_none, Re.put_lit, List.set_cons_succ, List.set_cons_zero]
          rw [h10, e12]
          clear h10 e12
          go_upto_region 12 with (first | (refine wpList_load_mid rfl 29 _ rfl _ _ rfl _ _ RQ.out Tryz.underlying29 rfl (by kernel_rfl) ?_) | (refine wpList_store_at rfl 29 _ _ rfl _ _ _ rfl rfl TH6.out (by kernel_rfl) ONE6.out HV6.out ?_))
          clear RQ TH6 ONE6 HV6
          obtain ⟨us, hus⟩ : ∃ us, usedR l2 = us := ⟨_, rfl⟩
          obtain ⟨lf, hlf⟩ : ∃ lf, (subR hs us).1 = lf := ⟨_, rfl⟩
          obtain ⟨ow, how⟩ : ∃ ow, ownR l2 ask = ow := ⟨_, rfl⟩
          have CRU := Lib.hid (show ∀ u, Below w6.heap.size w6 u → Calls Tryz.prog 12 #[.agg ([.int .i64 hs.c, .int .i64 hs.m, .int .i64 hs.p, .slice A2 ds2.length c2] : List Value).toArray] u (Told1 us u) from fun u hu => by rw [← hus, ← IV6.out.e]; exact refused_any hs u (IV6.out.d.below hu))
          have CRS := Lib.hid (show ∀ u, Calls Tryz.prog 11 #[.agg (R3 hs).toArray, .agg (R3 us).toArray] u (Told3 (lf, true) u) from fun u => by
            have := refsub_any hs us IV6.out.nn.ok.has_ok (by rw [← hus]; exact IV6.out.nn.ok.used_ok) u
            rw [show subR hs us = (lf, true) from Prod.ext hlf (by rw [← hus, IV6.out.nn.ok.left])] at this
            exact this)
          have CU := Lib.hid (show ∀ u, Below w6.heap.size w6 u → Calls Tryz.prog 13 #[.pointer (some ⟨g, 0, none⟩)] u (Told1 us u) from fun u hu => by rw [← hus]; exact used_any u (IV6.out.nn.below hu))
          have CL := Lib.hid (show ∀ u, Below w6.heap.size w6 u → Calls Tryz.prog 14 #[.pointer (some ⟨g, 0, none⟩)] u (Told1 lf u) from fun u hu => by rw [← hlf, ← hus]; exact left_any u (IV6.out.nn.below hu))
          have CH := Lib.hid (show ∀ u, Below w6.heap.size w6 u → Calls Tryz.prog 15 #[.pointer (some ⟨g, 0, none⟩)] u (Told1 hs u) from fun u hu => has_any u (IV6.out.nn.below hu))
          have CO := Lib.hid (show ∀ u, Below w6.heap.size w6 u → Calls Tryz.prog 16 #[.pointer (some ⟨g, 0, none⟩), .int .i64 ask] u (fun e w' => e = .returned (.int .i64 ow) ∧ Below u.heap.size u w') from fun u hu => by rw [← how]; exact owner_any ask u (IV6.out.nn.below hu))
          have CRO := Lib.hid (show ∀ u, Below w6.heap.size w6 u → Calls Tryz.prog 17 #[.agg ([.int .i64 hs.c, .int .i64 hs.m, .int .i64 hs.p, .slice A2 ds2.length c2] : List Value).toArray, .int .i64 ask] u (fun e w' => e = .returned (.int .i64 ow) ∧ Below u.heap.size u w') from fun u hu => by rw [← how, ← IV6.out.e]; exact refowner_any hs ask u (IV6.out.d.below hu))
          have CSM := Lib.hid (show ∀ u, Below w6.heap.size w6 u → Calls Tryz.prog 18 #[.pointer (some ⟨g, 0, none⟩), .agg ([.int .i64 hs.c, .int .i64 hs.m, .int .i64 hs.p, .slice A2 ds2.length c2] : List Value).toArray] u (fun e w' => e = .returned (.bool true) ∧ Below u.heap.size u w') from fun u hu => same_any ds2 u (IV6.out.nn.below hu) (IV6.out.d.below hu) IV6.out.e (by have := IV6.out.n; have := HK3.out; omega))
          clear hus hlf how
          refine Vls.wp_region (by kernel_rfl) (Jx.JN w6 8 9 3 (R3 lf) 23 [.pointer (some ⟨bq, 0, none⟩), .agg (R3 hs).toArray, .agg ([.int .i64 hs.c, .int .i64 hs.m, .int .i64 hs.p, .slice A2 ds2.length c2] : List Value).toArray, .agg (R3 us).toArray, .tuple #[.agg (R3 lf).toArray, .bool true], .tuple #[.agg (R3 lf).toArray, .bool true], .agg (R3 lf).toArray, .bool true, undef, undef, .bool true]) (by kernel_rfl) (fun _ => undef) (Jx.JN.start _) ?_ ?_
          · refine ⟨?_, ?_, ?_, ?_, ?_, ?_, ?_, ?_, ?_, ?_, ?_, trivial⟩
            · intro s_ a_ u V hs0 hd hfr hpo hJ
              have f8 : a_.tmps.getD 8 undef = .pointer (some ⟨bq, 0, none⟩) := hfr 8 (by kernel_rfl)
              refine .inl ⟨rfl, ?_⟩
              unfold Oper.wp
              rw [show (execOp a_.eval _).run Tryz.prog u = .ok (.value (.pointer (some ⟨bq, 0, none⟩))) u from by simp [go_sem, Act.eval, f8]]
              exact ⟨_, rfl, hJ.step 0 (by decide) (by decide) (Below.refl _ _) rfl⟩
            · intro s_ a_ u V hs0 hd hfr hpo hJ
              have e0 : a_.tmps.getD 53 undef = .pointer (some ⟨bq, 0, none⟩) := (hpo 0 53 (by kernel_rfl)).trans (hJ.get 0 (by decide) (by decide) (hd 0 (by kernel_rfl)) rfl)
              refine .inl ⟨rfl, ?_⟩
              exact wp_load_mid 23 (.tmp 53) rfl (bq) (0) e0 (R3 hs) _ ((IV6.out.below hJ.bel BS6.out).has3) Tryz.underlying23 rfl (by kernel_rfl) ⟨_, rfl, hJ.step 1 (by decide) (by decide) (Below.refl _ _) rfl⟩
            · intro s_ a_ u V hs0 hd hfr hpo hJ
              have f8 : a_.tmps.getD 8 undef = .pointer (some ⟨bq, 0, none⟩) := hfr 8 (by kernel_rfl)
              refine .inl ⟨rfl, ?_⟩
              exact wp_load_mid 29 (.tmp 8) rfl (bq) (0) f8 [.int .i64 hs.c, .int .i64 hs.m, .int .i64 hs.p, .slice A2 ds2.length c2] _ (range_box (IV6.out.below hJ.bel BS6.out).q) Tryz.underlying29 rfl (by kernel_rfl) ⟨_, rfl, hJ.step 2 (by decide) (by decide) (Below.refl _ _) rfl⟩
            · intro s_ a_ u V hs0 hd hfr hpo hJ
              have e2 : a_.tmps.getD 55 undef = .agg ([.int .i64 hs.c, .int .i64 hs.m, .int .i64 hs.p, .slice A2 ds2.length c2] : List Value).toArray := (hpo 2 55 (by kernel_rfl)).trans (hJ.get 2 (by decide) (by decide) (hd 2 (by kernel_rfl)) rfl)
              refine .inl ⟨rfl, ?_⟩
              unfold Oper.wp
              rw [show (execOp a_.eval _).run Tryz.prog u = .ok (.enter 12 #[.agg ([.int .i64 hs.c, .int .i64 hs.m, .int .i64 hs.p, .slice A2 ds2.length c2] : List Value).toArray]) u from by simp [go_sem, Act.eval, e2]]
              refine Calls.mono (CRU.out u hJ.bel) ?_
              rintro e u2 ⟨rfl, hb⟩
              exact ⟨_, rfl, hJ.step 3 (by decide) (by decide) hb rfl⟩
            · intro s_ a_ u V hs0 hd hfr hpo hJ
              have e1 : a_.tmps.getD 54 undef = .agg (R3 hs).toArray := (hpo 1 54 (by kernel_rfl)).trans (hJ.get 1 (by decide) (by decide) (hd 1 (by kernel_rfl)) rfl)
              have e3 : a_.tmps.getD 56 undef = .agg (R3 us).toArray := (hpo 3 56 (by kernel_rfl)).trans (hJ.get 3 (by decide) (by decide) (hd 3 (by kernel_rfl)) rfl)
              refine .inl ⟨rfl, ?_⟩
              unfold Oper.wp
              rw [show (execOp a_.eval _).run Tryz.prog u = .ok (.enter 11 #[.agg (R3 hs).toArray, .agg (R3 us).toArray]) u from by simp [go_sem, Act.eval, e1, e3]]
              refine Calls.mono (CRS.out u) ?_
              rintro e u2 ⟨rfl, hb⟩
              exact ⟨_, rfl, hJ.step 4 (by decide) (by decide) hb rfl⟩
            · intro s_ a_ u V hs0 hd hfr hpo hJ
              have e4 : a_.tmps.getD 57 undef = .tuple #[.agg (R3 lf).toArray, .bool true] := (hpo 4 57 (by kernel_rfl)).trans (hJ.get 4 (by decide) (by decide) (hd 4 (by kernel_rfl)) rfl)
              refine .inl ⟨rfl, ?_⟩
              unfold Oper.wp
              rw [show (execOp a_.eval _).run Tryz.prog u = .ok (.value (.tuple #[.agg (R3 lf).toArray, .bool true])) u from by simp [go_sem, Act.eval, e4]]
              exact ⟨_, rfl, hJ.step 5 (by decide) (by decide) (Below.refl _ _) rfl⟩
            · intro s_ a_ u V hs0 hd hfr hpo hJ
              have e5 : a_.tmps.getD 52 undef = .tuple #[.agg (R3 lf).toArray, .bool true] := (hpo 5 52 (by kernel_rfl)).trans (hJ.get 5 (by decide) (by decide) (hd 5 (by kernel_rfl)) rfl)
              refine .inl ⟨rfl, ?_⟩
              unfold Oper.wp
              rw [show (execOp a_.eval _).run Tryz.prog u = .ok (.value (.agg (R3 lf).toArray)) u from by simp [go_sem, Act.eval, e5]]
              exact ⟨_, rfl, hJ.step 6 (by decide) (by decide) (Below.refl _ _) rfl⟩
            · intro s_ a_ u V hs0 hd hfr hpo hJ
              have e5 : a_.tmps.getD 52 undef = .tuple #[.agg (R3 lf).toArray, .bool true] := (hpo 5 52 (by kernel_rfl)).trans (hJ.get 5 (by decide) (by decide) (hd 5 (by kernel_rfl)) rfl)
              refine .inl ⟨rfl, ?_⟩
              unfold Oper.wp
              rw [show (execOp a_.eval _).run Tryz.prog u = .ok (.value (.bool true)) u from by simp [go_sem, Act.eval, e5]]
              exact ⟨_, rfl, hJ.step 7 (by decide) (by decide) (Below.refl _ _) rfl⟩
            · intro s_ a_ u V hs0 hd hfr hpo hJ
              refine .inl ⟨rfl, ?_⟩
              unfold Oper.wp
              rw [show (execOp a_.eval _).run Tryz.prog u = .ok (.value (.pointer (some ⟨u.heap.size, 0, none⟩))) (u.alloc (.cells #[.int .i64 0, .int .i64 0, .int .i64 0] 23 (0, 0))) from by simp [go_sem, Act.eval]]
              exact ⟨_, rfl, hJ.al (by decide) hs0 _ rfl⟩
            · intro s_ a_ u V hs0 hd hfr hpo hJ
              have e6 : a_.tmps.getD 58 undef = .agg (R3 lf).toArray := (hpo 6 58 (by kernel_rfl)).trans (hJ.get 6 (by decide) (by decide) (hd 6 (by kernel_rfl)) rfl)
              have h_ : s_ 8 = true := hd 8 (by kernel_rfl)
              obtain ⟨qq, X, hq, hqv, hX, hXs, _⟩ := hJ.bx h_
              have e_ : a_.tmps.getD 12 undef = .pointer (some ⟨qq, 0, none⟩) := (hpo 8 12 (by kernel_rfl)).trans hq
              refine .inl ⟨rfl, ?_⟩
              exact wp_store_mid 23 (.tmp 12) (.tmp 58) rfl qq 0 (R3 lf).toArray e_ e6 (Back.th hX hXs) (by kernel_rfl) (by simp [Value.oneCell']) ⟨undef, rfl, hJ.st (by decide) rfl h_ hq _⟩
            · intro s_ a_ u V hs0 hd hfr hpo hJ
              have e7 : a_.tmps.getD 59 undef = .bool true := (hpo 7 59 (by kernel_rfl)).trans (hJ.get 7 (by decide) (by decide) (hd 7 (by kernel_rfl)) rfl)
              refine .inl ⟨rfl, ?_⟩
              unfold Oper.wp
              rw [show (execOp a_.eval _).run Tryz.prog u = .ok (.value (.bool true)) u from by simp [go_sem, Act.eval, e7]]
              exact ⟨_, rfl, hJ.step 10 (by decide) (by decide) (Below.refl _ _) rfl⟩
          · intro s_ V w7 hall hJ
            obtain ⟨gg, X, e8, hgv, hX, hXs, hXe⟩ := hJ.bx (hall 8 (by decide))
            rw [hXe (hall 9 (by decide))] at hX
            have QX := Lib.hid hX
            have BL7 := Lib.hid hJ.bel
            have HX7 := Lib.hid (lt_of_block hX)
            have e10 : V 10 = .bool true := hJ.get 10 (by decide) (by decide) (hall 10 (by decide)) rfl
            clear hall hJ hX hXs hXe hgv CRS
            simp only [Bxs.puts, Nat.reduceAdd, put_none, Re.put_lit, List.set_cons_succ, List.set_cons_zero]
            rw [e8, e10]
            clear e8 e10
            go_upto_region 13 with fail
            refine Vls.wp_region (by kernel_rfl) (Jx.JX (fun u => Below w7.heap.size w7 u) (fun u => Below w7.heap.size w7 u) 100 101 (fun _ _ => True) [(1, 0), (2, 1), (3, 2), (4, 3), (4, 2), (5, 2), (6, 5), (6, 2), (7, 4), (7, 6), (7, 2), (8, 2), (8, 7), (9, 8), (10, 9), (11, 10), (11, 9), (12, 9), (13, 11), (13, 12), (13, 9), (14, 9), (14, 13), (15, 14), (16, 15), (17, 16), (17, 15), (18, 15), (19, 18), (19, 15), (20, 17), (20, 19), (20, 15), (21, 15), (21, 20), (22, 21), (23, 22), (24, 22), (25, 23), (25, 24), (25, 22), (26, 22), (27, 22), (28, 26), (28, 27), (28, 22), (29, 25), (29, 28), (29, 22), (30, 22), (30, 29), (31, 30), (32, 31), (33, 31), (34, 32), (34, 33), (34, 31), (35, 34), (35, 31), (36, 31), (36, 35)] [.bool true, .bool false, .bool false, .pointer (some ⟨g, 0, none⟩), .agg (R3 us).toArray, .agg ([.int .i64 hs.c, .int .i64 hs.m, .int .i64 hs.p, .slice A2 ds2.length c2] : List Value).toArray, .agg (R3 us).toArray, .bool false, .bool false, .bool false, .pointer (some ⟨g, 0, none⟩), .agg (R3 lf).toArray, .agg (R3 lf).toArray, .bool false, .bool false, .bool false, .pointer (some ⟨g, 0, none⟩), .agg (R3 hs).toArray, .pointer (some ⟨bq, 0, none⟩), .agg (R3 hs).toArray, .bool false, .bool false, .bool false, .pointer (some ⟨g, 0, none⟩), .int .i64 ask, .int .i64 ow, .agg ([.int .i64 hs.c, .int .i64 hs.m, .int .i64 hs.p, .slice A2 ds2.length c2] : List Value).toArray, .int .i64 ask, .int .i64 ow, .bool false, .bool false, .bool false, .pointer (some ⟨g, 0, none⟩), .agg ([.int .i64 hs.c, .int .i64 hs.m, .int .i64 hs.p, .slice A2 ds2.length c2] : List Value).toArray, .bool true, .bool false, .bool false]) (by kernel_rfl) (fun _ => undef) (Jx.JX.start (P := fun u => Below w7.heap.size w7 u) (Below.drew (Below.refl _ _)) _) ?_ ?_
            · refine ⟨?_, ?_, ?_, ?_, ?_, ?_, ?_, ?_, ?_, ?_, ?_, ?_, ?_, ?_, ?_, ?_, ?_, ?_, ?_, ?_, ?_, ?_, ?_, ?_, ?_, ?_, ?_, ?_, ?_, ?_, ?_, ?_, ?_, ?_, ?_, ?_, ?_, trivial⟩
              · intro s_ a_ u V hs0 hd hfr hpo hJ
                have f11 : a_.tmps.getD 11 undef = .bool true := hfr 11 (by kernel_rfl)
                refine .inl ⟨rfl, ?_⟩
                unfold Oper.wp
                rw [show (execOp a_.eval _).run Tryz.prog u = .ok (.value (.bool true)) u from by simp [go_sem, Act.eval, f11]]
                exact ⟨_, rfl, hJ.stay 0 (by decide) (by decide) rfl rfl⟩
              · intro s_ a_ u V hs0 hd hfr hpo hJ
                have e0 : a_.tmps.getD 60 undef = .bool true := (hpo 0 60 (by kernel_rfl)).trans (hJ.get 0 (by decide) (by decide) (hd 0 (by kernel_rfl)) rfl)
                refine .inl ⟨rfl, ?_⟩
                unfold Oper.wp
                rw [show (execOp a_.eval _).run Tryz.prog u = .ok (.value (.bool false)) u from by simp [go_sem, Act.eval, e0]]
                exact ⟨_, rfl, hJ.stay 1 (by decide) (by decide) (by show (s_ 0 && true) = true; rw [hd 0 (by kernel_rfl)]; rfl) rfl⟩
              · intro s_ a_ u V hs0 hd hfr hpo hJ
                have e1 : a_.tmps.getD 61 undef = .bool false := (hpo 1 61 (by kernel_rfl)).trans (hJ.get 1 (by decide) (by decide) (hd 1 (by kernel_rfl)) rfl)
                refine .inl ⟨rfl, ?_⟩
                unfold Oper.wp
                rw [show (execOp a_.eval _).run Tryz.prog u = .ok (.value (.bool false)) u from by simp [go_sem, Act.eval, e1]]
                exact ⟨_, rfl, hJ.stay 2 (by decide) (by decide) (by show (s_ 1 && true) = true; rw [hd 1 (by kernel_rfl)]; rfl) rfl⟩
              · intro s_ a_ u V hs0 hd hfr hpo hJ
                have f7 : a_.tmps.getD 7 undef = .pointer (some ⟨g, 0, none⟩) := hfr 7 (by kernel_rfl)
                have e2 : a_.tmps.getD 62 undef = .bool false := (hpo 2 62 (by kernel_rfl)).trans (hJ.get 2 (by decide) (by decide) (hd 2 (by kernel_rfl)) rfl)
                refine .inl ⟨Jx.wanted_of rfl rfl e2, ?_⟩
                unfold Oper.wp
                rw [show (execOp a_.eval _).run Tryz.prog u = .ok (.value (.pointer (some ⟨g, 0, none⟩))) u from by simp [go_sem, Act.eval, f7, e2]]
                exact ⟨_, rfl, hJ.stay 3 (by decide) (by decide) (by show (s_ 2 && true) = true; rw [hd 2 (by kernel_rfl)]; rfl) rfl⟩
              · intro s_ a_ u V hs0 hd hfr hpo hJ
                have e3 : a_.tmps.getD 63 undef = .pointer (some ⟨g, 0, none⟩) := (hpo 3 63 (by kernel_rfl)).trans (hJ.get 3 (by decide) (by decide) (hd 3 (by kernel_rfl)) rfl)
                have e2 : a_.tmps.getD 62 undef = .bool false := (hpo 2 62 (by kernel_rfl)).trans (hJ.get 2 (by decide) (by decide) (hd 2 (by kernel_rfl)) rfl)
                have hP := hJ.both
                refine .inl ⟨Jx.wanted_of rfl rfl e2, ?_⟩
                unfold Oper.wp
                rw [show (execOp a_.eval _).run Tryz.prog u = .ok (.enter 13 #[.pointer (some ⟨g, 0, none⟩)]) u from by simp [go_sem, Act.eval, e3, e2]]
                refine Calls.mono (CU.out u (BL7.out.trans (hP.mono BL7.out.size))) ?_
                rintro e u2 ⟨rfl, hb⟩
                exact ⟨_, rfl, hJ.step 4 (by decide) (by decide) (by show (s_ 3 && (s_ 2 && true)) = true; rw [hd 3 (by kernel_rfl), hd 2 (by kernel_rfl)]; rfl) (fun _ hP => hP.trans (hb.mono hP.size)) (fun _ hP => hP.trans (hb.mono hP.size)) (fun _ _ hR => hR) rfl⟩
              · intro s_ a_ u V hs0 hd hfr hpo hJ
                have f8 : a_.tmps.getD 8 undef = .pointer (some ⟨bq, 0, none⟩) := hfr 8 (by kernel_rfl)
                have e2 : a_.tmps.getD 62 undef = .bool false := (hpo 2 62 (by kernel_rfl)).trans (hJ.get 2 (by decide) (by decide) (hd 2 (by kernel_rfl)) rfl)
                have hP := hJ.both
                refine .inl ⟨Jx.wanted_of rfl rfl e2, ?_⟩
                exact wp_load_mid 29 (.tmp 8) rfl (bq) (0) f8 [.int .i64 hs.c, .int .i64 hs.m, .int .i64 hs.p, .slice A2 ds2.length c2] _ (range_box (IV6.out.below (BL7.out.trans (hP.mono BL7.out.size)) BS6.out).q) Tryz.underlying29 rfl (by kernel_rfl) ⟨_, rfl, hJ.stay 5 (by decide) (by decide) (by show (s_ 2 && true) = true; rw [hd 2 (by kernel_rfl)]; rfl) rfl⟩
              · intro s_ a_ u V hs0 hd hfr hpo hJ
                have e5 : a_.tmps.getD 65 undef = .agg ([.int .i64 hs.c, .int .i64 hs.m, .int .i64 hs.p, .slice A2 ds2.length c2] : List Value).toArray := (hpo 5 65 (by kernel_rfl)).trans (hJ.get 5 (by decide) (by decide) (hd 5 (by kernel_rfl)) rfl)
                have e2 : a_.tmps.getD 62 undef = .bool false := (hpo 2 62 (by kernel_rfl)).trans (hJ.get 2 (by decide) (by decide) (hd 2 (by kernel_rfl)) rfl)
                have hP := hJ.both
                refine .inl ⟨Jx.wanted_of rfl rfl e2, ?_⟩
                unfold Oper.wp
                rw [show (execOp a_.eval _).run Tryz.prog u = .ok (.enter 12 #[.agg ([.int .i64 hs.c, .int .i64 hs.m, .int .i64 hs.p, .slice A2 ds2.length c2] : List Value).toArray]) u from by simp [go_sem, Act.eval, e5, e2]]
                refine Calls.mono (CRU.out u (BL7.out.trans (hP.mono BL7.out.size))) ?_
                rintro e u2 ⟨rfl, hb⟩
                exact ⟨_, rfl, hJ.step 6 (by decide) (by decide) (by show (s_ 5 && (s_ 2 && true)) = true; rw [hd 5 (by kernel_rfl), hd 2 (by kernel_rfl)]; rfl) (fun _ hP => hP.trans (hb.mono hP.size)) (fun _ hP => hP.trans (hb.mono hP.size)) (fun _ _ hR => hR) rfl⟩
              · intro s_ a_ u V hs0 hd hfr hpo hJ
                have e4 : a_.tmps.getD 64 undef = .agg (R3 us).toArray := (hpo 4 64 (by kernel_rfl)).trans (hJ.get 4 (by decide) (by decide) (hd 4 (by kernel_rfl)) rfl)
                have e6 : a_.tmps.getD 66 undef = .agg (R3 us).toArray := (hpo 6 66 (by kernel_rfl)).trans (hJ.get 6 (by decide) (by decide) (hd 6 (by kernel_rfl)) rfl)
                have e2 : a_.tmps.getD 62 undef = .bool false := (hpo 2 62 (by kernel_rfl)).trans (hJ.get 2 (by decide) (by decide) (hd 2 (by kernel_rfl)) rfl)
                refine .inl ⟨Jx.wanted_of rfl rfl e2, ?_⟩
                unfold Oper.wp
                rw [show (execOp a_.eval _).run Tryz.prog u = .ok (.value (.bool false)) u from by simp [go_sem, Act.eval, e4, e6, e2, eqIn_self]]
                exact ⟨_, rfl, hJ.stay 7 (by decide) (by decide) (by show (s_ 4 && (s_ 6 && (s_ 2 && true))) = true; rw [hd 4 (by kernel_rfl), hd 6 (by kernel_rfl), hd 2 (by kernel_rfl)]; rfl) rfl⟩
              · intro s_ a_ u V hs0 hd hfr hpo hJ
                have e2 : a_.tmps.getD 62 undef = .bool false := (hpo 2 62 (by kernel_rfl)).trans (hJ.get 2 (by decide) (by decide) (hd 2 (by kernel_rfl)) rfl)
                have e7 : a_.tmps.getD 67 undef = .bool false := (hpo 7 67 (by kernel_rfl)).trans (hJ.get 7 (by decide) (by decide) (hd 7 (by kernel_rfl)) rfl)
                refine .inl ⟨rfl, ?_⟩
                unfold Oper.wp
                rw [show (execOp a_.eval _).run Tryz.prog u = .ok (.value (.bool false)) u from by simp [go_sem, Act.eval, e2, e7]]
                exact ⟨_, rfl, hJ.stay 8 (by decide) (by decide) (by show (s_ 2 && (s_ 7 && true)) = true; rw [hd 2 (by kernel_rfl), hd 7 (by kernel_rfl)]; rfl) rfl⟩
              · intro s_ a_ u V hs0 hd hfr hpo hJ
                have e8 : a_.tmps.getD 68 undef = .bool false := (hpo 8 68 (by kernel_rfl)).trans (hJ.get 8 (by decide) (by decide) (hd 8 (by kernel_rfl)) rfl)
                refine .inl ⟨rfl, ?_⟩
                unfold Oper.wp
                rw [show (execOp a_.eval _).run Tryz.prog u = .ok (.value (.bool false)) u from by simp [go_sem, Act.eval, e8]]
                exact ⟨_, rfl, hJ.stay 9 (by decide) (by decide) (by show (s_ 8 && true) = true; rw [hd 8 (by kernel_rfl)]; rfl) rfl⟩
              · intro s_ a_ u V hs0 hd hfr hpo hJ
                have f7 : a_.tmps.getD 7 undef = .pointer (some ⟨g, 0, none⟩) := hfr 7 (by kernel_rfl)
                have e9 : a_.tmps.getD 69 undef = .bool false := (hpo 9 69 (by kernel_rfl)).trans (hJ.get 9 (by decide) (by decide) (hd 9 (by kernel_rfl)) rfl)
                refine .inl ⟨Jx.wanted_of rfl rfl e9, ?_⟩
                unfold Oper.wp
                rw [show (execOp a_.eval _).run Tryz.prog u = .ok (.value (.pointer (some ⟨g, 0, none⟩))) u from by simp [go_sem, Act.eval, f7, e9]]
                exact ⟨_, rfl, hJ.stay 10 (by decide) (by decide) (by show (s_ 9 && true) = true; rw [hd 9 (by kernel_rfl)]; rfl) rfl⟩
              · intro s_ a_ u V hs0 hd hfr hpo hJ
                have e10 : a_.tmps.getD 70 undef = .pointer (some ⟨g, 0, none⟩) := (hpo 10 70 (by kernel_rfl)).trans (hJ.get 10 (by decide) (by decide) (hd 10 (by kernel_rfl)) rfl)
                have e9 : a_.tmps.getD 69 undef = .bool false := (hpo 9 69 (by kernel_rfl)).trans (hJ.get 9 (by decide) (by decide) (hd 9 (by kernel_rfl)) rfl)
                have hP := hJ.both
                refine .inl ⟨Jx.wanted_of rfl rfl e9, ?_⟩
                unfold Oper.wp
                rw [show (execOp a_.eval _).run Tryz.prog u = .ok (.enter 14 #[.pointer (some ⟨g, 0, none⟩)]) u from by simp [go_sem, Act.eval, e10, e9]]
                refine Calls.mono (CL.out u (BL7.out.trans (hP.mono BL7.out.size))) ?_
                rintro e u2 ⟨rfl, hb⟩
                exact ⟨_, rfl, hJ.step 11 (by decide) (by decide) (by show (s_ 10 && (s_ 9 && true)) = true; rw [hd 10 (by kernel_rfl), hd 9 (by kernel_rfl)]; rfl) (fun _ hP => hP.trans (hb.mono hP.size)) (fun _ hP => hP.trans (hb.mono hP.size)) (fun _ _ hR => hR) rfl⟩
              · intro s_ a_ u V hs0 hd hfr hpo hJ
                have f12 : a_.tmps.getD 12 undef = .pointer (some ⟨gg, 0, none⟩) := hfr 12 (by kernel_rfl)
                have e9 : a_.tmps.getD 69 undef = .bool false := (hpo 9 69 (by kernel_rfl)).trans (hJ.get 9 (by decide) (by decide) (hd 9 (by kernel_rfl)) rfl)
                have hP := hJ.both
                refine .inl ⟨Jx.wanted_of rfl rfl e9, ?_⟩
                exact wp_load_mid 23 (.tmp 12) rfl (gg) (0) f12 (R3 lf) _ (range_box ((hP.block _ HX7.out).trans QX.out)) Tryz.underlying23 rfl (by kernel_rfl) ⟨_, rfl, hJ.stay 12 (by decide) (by decide) (by show (s_ 9 && true) = true; rw [hd 9 (by kernel_rfl)]; rfl) rfl⟩
              · intro s_ a_ u V hs0 hd hfr hpo hJ
                have e11 : a_.tmps.getD 71 undef = .agg (R3 lf).toArray := (hpo 11 71 (by kernel_rfl)).trans (hJ.get 11 (by decide) (by decide) (hd 11 (by kernel_rfl)) rfl)
                have e12 : a_.tmps.getD 72 undef = .agg (R3 lf).toArray := (hpo 12 72 (by kernel_rfl)).trans (hJ.get 12 (by decide) (by decide) (hd 12 (by kernel_rfl)) rfl)
                have e9 : a_.tmps.getD 69 undef = .bool false := (hpo 9 69 (by kernel_rfl)).trans (hJ.get 9 (by decide) (by decide) (hd 9 (by kernel_rfl)) rfl)
                refine .inl ⟨Jx.wanted_of rfl rfl e9, ?_⟩
                unfold Oper.wp
                rw [show (execOp a_.eval _).run Tryz.prog u = .ok (.value (.bool false)) u from by simp [go_sem, Act.eval, e11, e12, e9, eqIn_self]]
                exact ⟨_, rfl, hJ.stay 13 (by decide) (by decide) (by show (s_ 11 && (s_ 12 && (s_ 9 && true))) = true; rw [hd 11 (by kernel_rfl), hd 12 (by kernel_rfl), hd 9 (by kernel_rfl)]; rfl) rfl⟩
              · intro s_ a_ u V hs0 hd hfr hpo hJ
                have e9 : a_.tmps.getD 69 undef = .bool false := (hpo 9 69 (by kernel_rfl)).trans (hJ.get 9 (by decide) (by decide) (hd 9 (by kernel_rfl)) rfl)
                have e13 : a_.tmps.getD 73 undef = .bool false := (hpo 13 73 (by kernel_rfl)).trans (hJ.get 13 (by decide) (by decide) (hd 13 (by kernel_rfl)) rfl)
                refine .inl ⟨rfl, ?_⟩
                unfold Oper.wp
                rw [show (execOp a_.eval _).run Tryz.prog u = .ok (.value (.bool false)) u from by simp [go_sem, Act.eval, e9, e13]]
                exact ⟨_, rfl, hJ.stay 14 (by decide) (by decide) (by show (s_ 9 && (s_ 13 && true)) = true; rw [hd 9 (by kernel_rfl), hd 13 (by kernel_rfl)]; rfl) rfl⟩
              · intro s_ a_ u V hs0 hd hfr hpo hJ
                have e14 : a_.tmps.getD 74 undef = .bool false := (hpo 14 74 (by kernel_rfl)).trans (hJ.get 14 (by decide) (by decide) (hd 14 (by kernel_rfl)) rfl)
                refine .inl ⟨rfl, ?_⟩
                unfold Oper.wp
                rw [show (execOp a_.eval _).run Tryz.prog u = .ok (.value (.bool false)) u from by simp [go_sem, Act.eval, e14]]
                exact ⟨_, rfl, hJ.stay 15 (by decide) (by decide) (by show (s_ 14 && true) = true; rw [hd 14 (by kernel_rfl)]; rfl) rfl⟩
              · intro s_ a_ u V hs0 hd hfr hpo hJ
                have f7 : a_.tmps.getD 7 undef = .pointer (some ⟨g, 0, none⟩) := hfr 7 (by kernel_rfl)
                have e15 : a_.tmps.getD 75 undef = .bool false := (hpo 15 75 (by kernel_rfl)).trans (hJ.get 15 (by decide) (by decide) (hd 15 (by kernel_rfl)) rfl)
                refine .inl ⟨Jx.wanted_of rfl rfl e15, ?_⟩
                unfold Oper.wp
                rw [show (execOp a_.eval _).run Tryz.prog u = .ok (.value (.pointer (some ⟨g, 0, none⟩))) u from by simp [go_sem, Act.eval, f7, e15]]
                exact ⟨_, rfl, hJ.stay 16 (by decide) (by decide) (by show (s_ 15 && true) = true; rw [hd 15 (by kernel_rfl)]; rfl) rfl⟩
              · intro s_ a_ u V hs0 hd hfr hpo hJ
                have e16 : a_.tmps.getD 76 undef = .pointer (some ⟨g, 0, none⟩) := (hpo 16 76 (by kernel_rfl)).trans (hJ.get 16 (by decide) (by decide) (hd 16 (by kernel_rfl)) rfl)
                have e15 : a_.tmps.getD 75 undef = .bool false := (hpo 15 75 (by kernel_rfl)).trans (hJ.get 15 (by decide) (by decide) (hd 15 (by kernel_rfl)) rfl)
                have hP := hJ.both
                refine .inl ⟨Jx.wanted_of rfl rfl e15, ?_⟩
                unfold Oper.wp
                rw [show (execOp a_.eval _).run Tryz.prog u = .ok (.enter 15 #[.pointer (some ⟨g, 0, none⟩)]) u from by simp [go_sem, Act.eval, e16, e15]]
                refine Calls.mono (CH.out u (BL7.out.trans (hP.mono BL7.out.size))) ?_
                rintro e u2 ⟨rfl, hb⟩
                exact ⟨_, rfl, hJ.step 17 (by decide) (by decide) (by show (s_ 16 && (s_ 15 && true)) = true; rw [hd 16 (by kernel_rfl), hd 15 (by kernel_rfl)]; rfl) (fun _ hP => hP.trans (hb.mono hP.size)) (fun _ hP => hP.trans (hb.mono hP.size)) (fun _ _ hR => hR) rfl⟩
              · intro s_ a_ u V hs0 hd hfr hpo hJ
                have f8 : a_.tmps.getD 8 undef = .pointer (some ⟨bq, 0, none⟩) := hfr 8 (by kernel_rfl)
                have e15 : a_.tmps.getD 75 undef = .bool false := (hpo 15 75 (by kernel_rfl)).trans (hJ.get 15 (by decide) (by decide) (hd 15 (by kernel_rfl)) rfl)
                refine .inl ⟨Jx.wanted_of rfl rfl e15, ?_⟩
                unfold Oper.wp
                rw [show (execOp a_.eval _).run Tryz.prog u = .ok (.value (.pointer (some ⟨bq, 0, none⟩))) u from by simp [go_sem, Act.eval, f8, e15]]
                exact ⟨_, rfl, hJ.stay 18 (by decide) (by decide) (by show (s_ 15 && true) = true; rw [hd 15 (by kernel_rfl)]; rfl) rfl⟩
              · intro s_ a_ u V hs0 hd hfr hpo hJ
                have e18 : a_.tmps.getD 78 undef = .pointer (some ⟨bq, 0, none⟩) := (hpo 18 78 (by kernel_rfl)).trans (hJ.get 18 (by decide) (by decide) (hd 18 (by kernel_rfl)) rfl)
                have e15 : a_.tmps.getD 75 undef = .bool false := (hpo 15 75 (by kernel_rfl)).trans (hJ.get 15 (by decide) (by decide) (hd 15 (by kernel_rfl)) rfl)
                have hP := hJ.both
                refine .inl ⟨Jx.wanted_of rfl rfl e15, ?_⟩
                exact wp_load_mid 23 (.tmp 78) rfl (bq) (0) e18 (R3 hs) _ ((IV6.out.below (BL7.out.trans (hP.mono BL7.out.size)) BS6.out).has3) Tryz.underlying23 rfl (by kernel_rfl) ⟨_, rfl, hJ.stay 19 (by decide) (by decide) (by show (s_ 18 && (s_ 15 && true)) = true; rw [hd 18 (by kernel_rfl), hd 15 (by kernel_rfl)]; rfl) rfl⟩
              · intro s_ a_ u V hs0 hd hfr hpo hJ
                have e17 : a_.tmps.getD 77 undef = .agg (R3 hs).toArray := (hpo 17 77 (by kernel_rfl)).trans (hJ.get 17 (by decide) (by decide) (hd 17 (by kernel_rfl)) rfl)
                have e19 : a_.tmps.getD 79 undef = .agg (R3 hs).toArray := (hpo 19 79 (by kernel_rfl)).trans (hJ.get 19 (by decide) (by decide) (hd 19 (by kernel_rfl)) rfl)
                have e15 : a_.tmps.getD 75 undef = .bool false := (hpo 15 75 (by kernel_rfl)).trans (hJ.get 15 (by decide) (by decide) (hd 15 (by kernel_rfl)) rfl)
                refine .inl ⟨Jx.wanted_of rfl rfl e15, ?_⟩
                unfold Oper.wp
                rw [show (execOp a_.eval _).run Tryz.prog u = .ok (.value (.bool false)) u from by simp [go_sem, Act.eval, e17, e19, e15, eqIn_self]]
                exact ⟨_, rfl, hJ.stay 20 (by decide) (by decide) (by show (s_ 17 && (s_ 19 && (s_ 15 && true))) = true; rw [hd 17 (by kernel_rfl), hd 19 (by kernel_rfl), hd 15 (by kernel_rfl)]; rfl) rfl⟩
              · intro s_ a_ u V hs0 hd hfr hpo hJ
                have e15 : a_.tmps.getD 75 undef = .bool false := (hpo 15 75 (by kernel_rfl)).trans (hJ.get 15 (by decide) (by decide) (hd 15 (by kernel_rfl)) rfl)
                have e20 : a_.tmps.getD 80 undef = .bool false := (hpo 20 80 (by kernel_rfl)).trans (hJ.get 20 (by decide) (by decide) (hd 20 (by kernel_rfl)) rfl)
                refine .inl ⟨rfl, ?_⟩
                unfold Oper.wp
                rw [show (execOp a_.eval _).run Tryz.prog u = .ok (.value (.bool false)) u from by simp [go_sem, Act.eval, e15, e20]]
                exact ⟨_, rfl, hJ.stay 21 (by decide) (by decide) (by show (s_ 15 && (s_ 20 && true)) = true; rw [hd 15 (by kernel_rfl), hd 20 (by kernel_rfl)]; rfl) rfl⟩
              · intro s_ a_ u V hs0 hd hfr hpo hJ
                have e21 : a_.tmps.getD 81 undef = .bool false := (hpo 21 81 (by kernel_rfl)).trans (hJ.get 21 (by decide) (by decide) (hd 21 (by kernel_rfl)) rfl)
                refine .inl ⟨rfl, ?_⟩
                unfold Oper.wp
                rw [show (execOp a_.eval _).run Tryz.prog u = .ok (.value (.bool false)) u from by simp [go_sem, Act.eval, e21]]
                exact ⟨_, rfl, hJ.stay 22 (by decide) (by decide) (by show (s_ 21 && true) = true; rw [hd 21 (by kernel_rfl)]; rfl) rfl⟩
              · intro s_ a_ u V hs0 hd hfr hpo hJ
                have f7 : a_.tmps.getD 7 undef = .pointer (some ⟨g, 0, none⟩) := hfr 7 (by kernel_rfl)
                have e22 : a_.tmps.getD 82 undef = .bool false := (hpo 22 82 (by kernel_rfl)).trans (hJ.get 22 (by decide) (by decide) (hd 22 (by kernel_rfl)) rfl)
                refine .inl ⟨Jx.wanted_of rfl rfl e22, ?_⟩
                unfold Oper.wp
                rw [show (execOp a_.eval _).run Tryz.prog u = .ok (.value (.pointer (some ⟨g, 0, none⟩))) u from by simp [go_sem, Act.eval, f7, e22]]
                exact ⟨_, rfl, hJ.stay 23 (by decide) (by decide) (by show (s_ 22 && true) = true; rw [hd 22 (by kernel_rfl)]; rfl) rfl⟩
              · intro s_ a_ u V hs0 hd hfr hpo hJ
                have f2 : a_.tmps.getD 2 undef = .int .i64 ask := hfr 2 (by kernel_rfl)
                have e22 : a_.tmps.getD 82 undef = .bool false := (hpo 22 82 (by kernel_rfl)).trans (hJ.get 22 (by decide) (by decide) (hd 22 (by kernel_rfl)) rfl)
                refine .inl ⟨Jx.wanted_of rfl rfl e22, ?_⟩
                unfold Oper.wp
                rw [show (execOp a_.eval _).run Tryz.prog u = .ok (.value (.int .i64 ask)) u from by simp [go_sem, Act.eval, f2, e22]]
                exact ⟨_, rfl, hJ.stay 24 (by decide) (by decide) (by show (s_ 22 && true) = true; rw [hd 22 (by kernel_rfl)]; rfl) rfl⟩
              · intro s_ a_ u V hs0 hd hfr hpo hJ
                have e23 : a_.tmps.getD 83 undef = .pointer (some ⟨g, 0, none⟩) := (hpo 23 83 (by kernel_rfl)).trans (hJ.get 23 (by decide) (by decide) (hd 23 (by kernel_rfl)) rfl)
                have e24 : a_.tmps.getD 84 undef = .int .i64 ask := (hpo 24 84 (by kernel_rfl)).trans (hJ.get 24 (by decide) (by decide) (hd 24 (by kernel_rfl)) rfl)
                have e22 : a_.tmps.getD 82 undef = .bool false := (hpo 22 82 (by kernel_rfl)).trans (hJ.get 22 (by decide) (by decide) (hd 22 (by kernel_rfl)) rfl)
                have hP := hJ.both
                refine .inl ⟨Jx.wanted_of rfl rfl e22, ?_⟩
                unfold Oper.wp
                rw [show (execOp a_.eval _).run Tryz.prog u = .ok (.enter 16 #[.pointer (some ⟨g, 0, none⟩), .int .i64 ask]) u from by simp [go_sem, Act.eval, e23, e24, e22]]
                refine Calls.mono (CO.out u (BL7.out.trans (hP.mono BL7.out.size))) ?_
                rintro e u2 ⟨rfl, hb⟩
                exact ⟨_, rfl, hJ.step 25 (by decide) (by decide) (by show (s_ 23 && (s_ 24 && (s_ 22 && true))) = true; rw [hd 23 (by kernel_rfl), hd 24 (by kernel_rfl), hd 22 (by kernel_rfl)]; rfl) (fun _ hP => hP.trans (hb.mono hP.size)) (fun _ hP => hP.trans (hb.mono hP.size)) (fun _ _ hR => hR) rfl⟩
              · intro s_ a_ u V hs0 hd hfr hpo hJ
                have f8 : a_.tmps.getD 8 undef = .pointer (some ⟨bq, 0, none⟩) := hfr 8 (by kernel_rfl)
                have e22 : a_.tmps.getD 82 undef = .bool false := (hpo 22 82 (by kernel_rfl)).trans (hJ.get 22 (by decide) (by decide) (hd 22 (by kernel_rfl)) rfl)
                have hP := hJ.both
                refine .inl ⟨Jx.wanted_of rfl rfl e22, ?_⟩
                exact wp_load_mid 29 (.tmp 8) rfl (bq) (0) f8 [.int .i64 hs.c, .int .i64 hs.m, .int .i64 hs.p, .slice A2 ds2.length c2] _ (range_box (IV6.out.below (BL7.out.trans (hP.mono BL7.out.size)) BS6.out).q) Tryz.underlying29 rfl (by kernel_rfl) ⟨_, rfl, hJ.stay 26 (by decide) (by decide) (by show (s_ 22 && true) = true; rw [hd 22 (by kernel_rfl)]; rfl) rfl⟩
              · intro s_ a_ u V hs0 hd hfr hpo hJ
                have f2 : a_.tmps.getD 2 undef = .int .i64 ask := hfr 2 (by kernel_rfl)
                have e22 : a_.tmps.getD 82 undef = .bool false := (hpo 22 82 (by kernel_rfl)).trans (hJ.get 22 (by decide) (by decide) (hd 22 (by kernel_rfl)) rfl)
                refine .inl ⟨Jx.wanted_of rfl rfl e22, ?_⟩
                unfold Oper.wp
                rw [show (execOp a_.eval _).run Tryz.prog u = .ok (.value (.int .i64 ask)) u from by simp [go_sem, Act.eval, f2, e22]]
                exact ⟨_, rfl, hJ.stay 27 (by decide) (by decide) (by show (s_ 22 && true) = true; rw [hd 22 (by kernel_rfl)]; rfl) rfl⟩
              · intro s_ a_ u V hs0 hd hfr hpo hJ
                have e26 : a_.tmps.getD 86 undef = .agg ([.int .i64 hs.c, .int .i64 hs.m, .int .i64 hs.p, .slice A2 ds2.length c2] : List Value).toArray := (hpo 26 86 (by kernel_rfl)).trans (hJ.get 26 (by decide) (by decide) (hd 26 (by kernel_rfl)) rfl)
                have e27 : a_.tmps.getD 87 undef = .int .i64 ask := (hpo 27 87 (by kernel_rfl)).trans (hJ.get 27 (by decide) (by decide) (hd 27 (by kernel_rfl)) rfl)
                have e22 : a_.tmps.getD 82 undef = .bool false := (hpo 22 82 (by kernel_rfl)).trans (hJ.get 22 (by decide) (by decide) (hd 22 (by kernel_rfl)) rfl)
                have hP := hJ.both
                refine .inl ⟨Jx.wanted_of rfl rfl e22, ?_⟩
                unfold Oper.wp
                rw [show (execOp a_.eval _).run Tryz.prog u = .ok (.enter 17 #[.agg ([.int .i64 hs.c, .int .i64 hs.m, .int .i64 hs.p, .slice A2 ds2.length c2] : List Value).toArray, .int .i64 ask]) u from by simp [go_sem, Act.eval, e26, e27, e22]]
                refine Calls.mono (CRO.out u (BL7.out.trans (hP.mono BL7.out.size))) ?_
                rintro e u2 ⟨rfl, hb⟩
                exact ⟨_, rfl, hJ.step 28 (by decide) (by decide) (by show (s_ 26 && (s_ 27 && (s_ 22 && true))) = true; rw [hd 26 (by kernel_rfl), hd 27 (by kernel_rfl), hd 22 (by kernel_rfl)]; rfl) (fun _ hP => hP.trans (hb.mono hP.size)) (fun _ hP => hP.trans (hb.mono hP.size)) (fun _ _ hR => hR) rfl⟩
              · intro s_ a_ u V hs0 hd hfr hpo hJ
                have e25 : a_.tmps.getD 85 undef = .int .i64 ow := (hpo 25 85 (by kernel_rfl)).trans (hJ.get 25 (by decide) (by decide) (hd 25 (by kernel_rfl)) rfl)
                have e28 : a_.tmps.getD 88 undef = .int .i64 ow := (hpo 28 88 (by kernel_rfl)).trans (hJ.get 28 (by decide) (by decide) (hd 28 (by kernel_rfl)) rfl)
                have e22 : a_.tmps.getD 82 undef = .bool false := (hpo 22 82 (by kernel_rfl)).trans (hJ.get 22 (by decide) (by decide) (hd 22 (by kernel_rfl)) rfl)
                refine .inl ⟨Jx.wanted_of rfl rfl e22, ?_⟩
                unfold Oper.wp
                rw [show (execOp a_.eval _).run Tryz.prog u = .ok (.value (.bool false)) u from by simp [go_sem, Act.eval, e25, e28, e22]]
                exact ⟨_, rfl, hJ.stay 29 (by decide) (by decide) (by show (s_ 25 && (s_ 28 && (s_ 22 && true))) = true; rw [hd 25 (by kernel_rfl), hd 28 (by kernel_rfl), hd 22 (by kernel_rfl)]; rfl) rfl⟩
              · intro s_ a_ u V hs0 hd hfr hpo hJ
                have e22 : a_.tmps.getD 82 undef = .bool false := (hpo 22 82 (by kernel_rfl)).trans (hJ.get 22 (by decide) (by decide) (hd 22 (by kernel_rfl)) rfl)
                have e29 : a_.tmps.getD 89 undef = .bool false := (hpo 29 89 (by kernel_rfl)).trans (hJ.get 29 (by decide) (by decide) (hd 29 (by kernel_rfl)) rfl)
                refine .inl ⟨rfl, ?_⟩
                unfold Oper.wp
                rw [show (execOp a_.eval _).run Tryz.prog u = .ok (.value (.bool false)) u from by simp [go_sem, Act.eval, e22, e29]]
                exact ⟨_, rfl, hJ.stay 30 (by decide) (by decide) (by show (s_ 22 && (s_ 29 && true)) = true; rw [hd 22 (by kernel_rfl), hd 29 (by kernel_rfl)]; rfl) rfl⟩
              · intro s_ a_ u V hs0 hd hfr hpo hJ
                have e30 : a_.tmps.getD 90 undef = .bool false := (hpo 30 90 (by kernel_rfl)).trans (hJ.get 30 (by decide) (by decide) (hd 30 (by kernel_rfl)) rfl)
                refine .inl ⟨rfl, ?_⟩
                unfold Oper.wp
                rw [show (execOp a_.eval _).run Tryz.prog u = .ok (.value (.bool false)) u from by simp [go_sem, Act.eval, e30]]
                exact ⟨_, rfl, hJ.stay 31 (by decide) (by decide) (by show (s_ 30 && true) = true; rw [hd 30 (by kernel_rfl)]; rfl) rfl⟩
              · intro s_ a_ u V hs0 hd hfr hpo hJ
                have f7 : a_.tmps.getD 7 undef = .pointer (some ⟨g, 0, none⟩) := hfr 7 (by kernel_rfl)
                have e31 : a_.tmps.getD 91 undef = .bool false := (hpo 31 91 (by kernel_rfl)).trans (hJ.get 31 (by decide) (by decide) (hd 31 (by kernel_rfl)) rfl)
                refine .inl ⟨Jx.wanted_of rfl rfl e31, ?_⟩
                unfold Oper.wp
                rw [show (execOp a_.eval _).run Tryz.prog u = .ok (.value (.pointer (some ⟨g, 0, none⟩))) u from by simp [go_sem, Act.eval, f7, e31]]
                exact ⟨_, rfl, hJ.stay 32 (by decide) (by decide) (by show (s_ 31 && true) = true; rw [hd 31 (by kernel_rfl)]; rfl) rfl⟩
              · intro s_ a_ u V hs0 hd hfr hpo hJ
                have f8 : a_.tmps.getD 8 undef = .pointer (some ⟨bq, 0, none⟩) := hfr 8 (by kernel_rfl)
                have e31 : a_.tmps.getD 91 undef = .bool false := (hpo 31 91 (by kernel_rfl)).trans (hJ.get 31 (by decide) (by decide) (hd 31 (by kernel_rfl)) rfl)
                have hP := hJ.both
                refine .inl ⟨Jx.wanted_of rfl rfl e31, ?_⟩
                exact wp_load_mid 29 (.tmp 8) rfl (bq) (0) f8 [.int .i64 hs.c, .int .i64 hs.m, .int .i64 hs.p, .slice A2 ds2.length c2] _ (range_box (IV6.out.below (BL7.out.trans (hP.mono BL7.out.size)) BS6.out).q) Tryz.underlying29 rfl (by kernel_rfl) ⟨_, rfl, hJ.stay 33 (by decide) (by decide) (by show (s_ 31 && true) = true; rw [hd 31 (by kernel_rfl)]; rfl) rfl⟩
              · intro s_ a_ u V hs0 hd hfr hpo hJ
                have e32 : a_.tmps.getD 92 undef = .pointer (some ⟨g, 0, none⟩) := (hpo 32 92 (by kernel_rfl)).trans (hJ.get 32 (by decide) (by decide) (hd 32 (by kernel_rfl)) rfl)
                have e33 : a_.tmps.getD 93 undef = .agg ([.int .i64 hs.c, .int .i64 hs.m, .int .i64 hs.p, .slice A2 ds2.length c2] : List Value).toArray := (hpo 33 93 (by kernel_rfl)).trans (hJ.get 33 (by decide) (by decide) (hd 33 (by kernel_rfl)) rfl)
                have e31 : a_.tmps.getD 91 undef = .bool false := (hpo 31 91 (by kernel_rfl)).trans (hJ.get 31 (by decide) (by decide) (hd 31 (by kernel_rfl)) rfl)
                have hP := hJ.both
                refine .inl ⟨Jx.wanted_of rfl rfl e31, ?_⟩
                unfold Oper.wp
                rw [show (execOp a_.eval _).run Tryz.prog u = .ok (.enter 18 #[.pointer (some ⟨g, 0, none⟩), .agg ([.int .i64 hs.c, .int .i64 hs.m, .int .i64 hs.p, .slice A2 ds2.length c2] : List Value).toArray]) u from by simp [go_sem, Act.eval, e32, e33, e31]]
                refine Calls.mono (CSM.out u (BL7.out.trans (hP.mono BL7.out.size))) ?_
                rintro e u2 ⟨rfl, hb⟩
                exact ⟨_, rfl, hJ.step 34 (by decide) (by decide) (by show (s_ 32 && (s_ 33 && (s_ 31 && true))) = true; rw [hd 32 (by kernel_rfl), hd 33 (by kernel_rfl), hd 31 (by kernel_rfl)]; rfl) (fun _ hP => hP.trans (hb.mono hP.size)) (fun _ hP => hP.trans (hb.mono hP.size)) (fun _ _ hR => hR) rfl⟩
              · intro s_ a_ u V hs0 hd hfr hpo hJ
                have e34 : a_.tmps.getD 94 undef = .bool true := (hpo 34 94 (by kernel_rfl)).trans (hJ.get 34 (by decide) (by decide) (hd 34 (by kernel_rfl)) rfl)
                have e31 : a_.tmps.getD 91 undef = .bool false := (hpo 31 91 (by kernel_rfl)).trans (hJ.get 31 (by decide) (by decide) (hd 31 (by kernel_rfl)) rfl)
                refine .inl ⟨Jx.wanted_of rfl rfl e31, ?_⟩
                unfold Oper.wp
                rw [show (execOp a_.eval _).run Tryz.prog u = .ok (.value (.bool false)) u from by simp [go_sem, Act.eval, e34, e31]]
                exact ⟨_, rfl, hJ.stay 35 (by decide) (by decide) (by show (s_ 34 && (s_ 31 && true)) = true; rw [hd 34 (by kernel_rfl), hd 31 (by kernel_rfl)]; rfl) rfl⟩
              · intro s_ a_ u V hs0 hd hfr hpo hJ
                have e31 : a_.tmps.getD 91 undef = .bool false := (hpo 31 91 (by kernel_rfl)).trans (hJ.get 31 (by decide) (by decide) (hd 31 (by kernel_rfl)) rfl)
                have e35 : a_.tmps.getD 95 undef = .bool false := (hpo 35 95 (by kernel_rfl)).trans (hJ.get 35 (by decide) (by decide) (hd 35 (by kernel_rfl)) rfl)
                refine .inl ⟨rfl, ?_⟩
                unfold Oper.wp
                rw [show (execOp a_.eval _).run Tryz.prog u = .ok (.value (.bool false)) u from by simp [go_sem, Act.eval, e31, e35]]
                exact ⟨_, rfl, hJ.stay 36 (by decide) (by decide) (by show (s_ 31 && (s_ 35 && true)) = true; rw [hd 31 (by kernel_rfl), hd 35 (by kernel_rfl)]; rfl) rfl⟩
            · intro s_ V w8 hall hJ
              have e36 : V 36 = .bool false := hJ.get 36 (by decide) (by decide) (hall 36 (by decide)) rfl
              have BL8 := Lib.hid (BL7.out.trans (hJ.both.mono BL7.out.size))
              clear hall hJ CU CRU CL CH CO CRO CSM QX BL7 HX7
              simp only [Bxs.puts, Nat.reduceAdd, put_none, Re.put_lit, List.set_cons_succ, List.set_cons_zero]
              rw [e36]
              clear e36
              have IV8 := Lib.hid (IV6.out.below BL8.out BS6.out)
              have BS8 := Lib.hid (Nat.le_trans BS6.out BL8.out.size)
              have BQ8 := Lib.hid (Nat.lt_of_lt_of_le BQ6.out BL8.out.size)
              have RQ8 := Lib.hid (range_box IV8.out.q)
              have CIX := Lib.hid (refindex_any hs ask w8 IV8.out.d)
              have COF := Lib.hid (fun (u : World) (hu : Below w8.heap.size w8 u) => of_any ask u (IV8.out.nn.below hu))
              rw [IV8.out.e] at CIX
              clear IV6 BS6 BQ6 BL8
              cases hin : isIn ask l2 with
              | true =>
                obtain ⟨y, hy1, hy2⟩ := idx_at hin
                obtain ⟨kk, hkk⟩ : ∃ kk, idx ask l2 = kk := ⟨_, rfl⟩
                rw [show idxI ask l2 = ((kk : Nat) : Int) by unfold idxI; rw [if_pos hin, hkk]] at CIX
                rw [hkk] at hy1
                obtain ⟨d, hd1, hd2⟩ : ∃ d, ds2[kk]? = some d ∧ d.x = y := by
                  have := hy1
                  rw [← IV8.out.e, List.getElem?_map] at this
                  obtain ⟨d, h1, h2⟩ := Option.map_eq_some_iff.1 this
                  exact ⟨d, h1, h2⟩
                obtain ⟨a, ha⟩ : ∃ a, ofU l2 ask = a := ⟨_, rfl⟩
                have HAY := Lib.hid (show d.x.ask = a by rw [← ha, ofU_in (by rw [hkk]; exact hy1), hd2])
                rw [hin, ha] at COF
                have HKL := Lib.hid (List.getElem?_eq_some_iff.1 hd1).1
                obtain ⟨r2, hA2, hr2, _, hask⟩ := row_ask IV8.out.d.row hd1
                subst hA2
                rw [HAY.out] at hask
                have HR2 := Lib.hid hr2
                have HASK := Lib.hid hask
                have hkl2 : (kk : Int) < (ds2.length : Int) := by have := HKL.out; omega
                have hk02 : (0 : Int) ≤ (kk : Int) := by omega
                have hkn2 : ¬ (kk : Int) < 0 := by omega
                have eat5 := at_five r2 kk
                clear hin hy1 hy2 hkk hd1 hd2 ha hr2 hask
                go_upto_region 17 with (first
                  | (refine wpList_load_mid rfl 29 _ rfl _ _ rfl _ _ RQ8.out Tryz.underlying29 rfl (by kernel_rfl) ?_)
                  | (go_at_call 19; refine CIX.out.mono ?_; rintro e w9 ⟨rfl, hb9⟩; have B9 := Lib.hid hb9; clear hb9)
                  | (go_at_call 20; refine (COF.out w9 B9.out).mono ?_; rintro e w10 ⟨rfl, hb10⟩; have B10 := Lib.hid (B9.out.trans (hb10.mono B9.out.size)); clear hb10; obtain ⟨w11, hw11⟩ : ∃ v, w10.alloc (.cells #[.int .i64 0, .int .i64 0, .int .i64 0] 23) = v := ⟨_, rfl⟩; have ZB := Lib.hid (show w11.heap[w10.heap.size]? = some (.cells #[.int .i64 0, .int .i64 0, .int .i64 0] 23 (0, 0)) by rw [← hw11]; exact heap_alloc_new _ _); have BU := Lib.hid (show Below w10.heap.size w10 w11 by rw [← hw11]; exact (Below.refl _ _).alloc (Nat.le_refl _) _); obtain ⟨w12, hw12⟩ : ∃ v, w11.setCells w10.heap.size 0 (R3 a) = v := ⟨_, rfl⟩; have THz := Lib.hid (show w11.there w10.heap.size 0 3 from Back.th ZB.out rfl); have ONEz := Lib.hid (show ((R3 a) : List Value).toArray.all (·.oneCell') = true by simp [Value.oneCell']); have HVz := Lib.hid hw12; have ZA := Lib.hid (show w12.heap[w10.heap.size]? = some (.cells ((R3 a) : List Value).toArray 23 (0, 0)) by rw [← hw12]; exact Back.st ZB.out rfl); have B12 := Lib.hid (B10.out.trans ((show Below w10.heap.size w10 w12 by rw [← hw12]; exact bel_set BU.out (Nat.le_refl _)).mono B10.out.size)); clear hw12)
                  | (refine wpList_store_at rfl 23 _ _ rfl _ _ _ rfl rfl THz.out (by kernel_rfl) ONEz.out HVz.out ?_))
                clear hw11 THz ONEz HVz ZB BU CIX COF RQ8
                refine Vls.wp_region (by kernel_rfl) (Jx.JX (fun u => Below w12.heap.size w12 u) (fun u => Below w12.heap.size w12 u) 100 101 (fun _ _ => True) [(2, 1), (3, 0), (3, 2), (4, 3), (5, 4), (6, 5), (6, 4), (7, 6), (7, 4), (8, 7), (9, 7), (10, 9), (10, 7), (11, 7), (12, 10), (12, 11), (12, 7), (13, 12), (13, 7), (14, 13), (14, 7), (15, 8), (15, 14), (15, 7), (16, 7), (16, 15), (16, 4), (17, 4), (17, 16), (18, 17), (19, 18), (20, 19), (20, 18), (21, 20), (21, 18), (22, 21), (23, 21), (24, 21), (25, 21), (25, 18), (26, 18), (26, 25)] [.bool true, .int .i64 kk, .bool true, .bool false, .bool false, .int .i64 kk, .bool true, .bool true, .agg (R3 a).toArray, .pointer (some ⟨bq, 3, none⟩), .slice (some ⟨r2, 0, none⟩) ds2.length c2, .int .i64 kk, .pointer (some ⟨r2, kk * 5, none⟩), .pointer (some ⟨r2, kk * 5 + 1, none⟩), .agg (R3 a).toArray, .bool false, .bool false, .bool false, .bool false, .int .i64 kk, .bool false, .bool false, undef, undef, undef, .bool false, .bool false]) (by kernel_rfl) (fun _ => undef) (Jx.JX.start (P := fun u => Below w12.heap.size w12 u) (Below.drew (Below.refl _ _)) _) ?_ ?_
                · refine ⟨?_, ?_, ?_, ?_, ?_, ?_, ?_, ?_, ?_, ?_, ?_, ?_, ?_, ?_, ?_, ?_, ?_, ?_, ?_, ?_, ?_, ?_, ?_, ?_, ?_, ?_, ?_, trivial⟩
                  · intro s_ a_ u V hs0 hd hfr hpo hJ
                    have f16 : a_.tmps.getD 16 undef = .bool true := hfr 16 (by kernel_rfl)
                    refine .inl ⟨rfl, ?_⟩
                    unfold Oper.wp
                    rw [show (execOp a_.eval _).run Tryz.prog u = .ok (.value (.bool true)) u from by simp [go_sem, Act.eval, f16]]
                    exact ⟨_, rfl, hJ.stay 0 (by decide) (by decide) rfl rfl⟩
                  · intro s_ a_ u V hs0 hd hfr hpo hJ
                    have f14 : a_.tmps.getD 14 undef = .int .i64 kk := hfr 14 (by kernel_rfl)
                    refine .inl ⟨rfl, ?_⟩
                    unfold Oper.wp
                    rw [show (execOp a_.eval _).run Tryz.prog u = .ok (.value (.int .i64 kk)) u from by simp [go_sem, Act.eval, f14]]
                    exact ⟨_, rfl, hJ.stay 1 (by decide) (by decide) rfl rfl⟩
                  · intro s_ a_ u V hs0 hd hfr hpo hJ
                    have e1 : a_.tmps.getD 107 undef = .int .i64 kk := (hpo 1 107 (by kernel_rfl)).trans (hJ.get 1 (by decide) (by decide) (hd 1 (by kernel_rfl)) rfl)
                    refine .inl ⟨rfl, ?_⟩
                    unfold Oper.wp
                    rw [show (execOp a_.eval _).run Tryz.prog u = .ok (.value (.bool true)) u from by simp [go_sem, Act.eval, e1, hk02]]
                    exact ⟨_, rfl, hJ.stay 2 (by decide) (by decide) (by show (s_ 1 && true) = true; rw [hd 1 (by kernel_rfl)]; rfl) rfl⟩
                  · intro s_ a_ u V hs0 hd hfr hpo hJ
                    have e0 : a_.tmps.getD 106 undef = .bool true := (hpo 0 106 (by kernel_rfl)).trans (hJ.get 0 (by decide) (by decide) (hd 0 (by kernel_rfl)) rfl)
                    have e2 : a_.tmps.getD 108 undef = .bool true := (hpo 2 108 (by kernel_rfl)).trans (hJ.get 2 (by decide) (by decide) (hd 2 (by kernel_rfl)) rfl)
                    refine .inl ⟨rfl, ?_⟩
                    unfold Oper.wp
                    rw [show (execOp a_.eval _).run Tryz.prog u = .ok (.value (.bool false)) u from by simp [go_sem, Act.eval, e0, e2]]
                    exact ⟨_, rfl, hJ.stay 3 (by decide) (by decide) (by show (s_ 0 && (s_ 2 && true)) = true; rw [hd 0 (by kernel_rfl), hd 2 (by kernel_rfl)]; rfl) rfl⟩
                  · intro s_ a_ u V hs0 hd hfr hpo hJ
                    have e3 : a_.tmps.getD 109 undef = .bool false := (hpo 3 109 (by kernel_rfl)).trans (hJ.get 3 (by decide) (by decide) (hd 3 (by kernel_rfl)) rfl)
                    refine .inl ⟨rfl, ?_⟩
                    unfold Oper.wp
                    rw [show (execOp a_.eval _).run Tryz.prog u = .ok (.value (.bool false)) u from by simp [go_sem, Act.eval, e3]]
                    exact ⟨_, rfl, hJ.stay 4 (by decide) (by decide) (by show (s_ 3 && true) = true; rw [hd 3 (by kernel_rfl)]; rfl) rfl⟩
                  · intro s_ a_ u V hs0 hd hfr hpo hJ
                    have f14 : a_.tmps.getD 14 undef = .int .i64 kk := hfr 14 (by kernel_rfl)
                    have e4 : a_.tmps.getD 110 undef = .bool false := (hpo 4 110 (by kernel_rfl)).trans (hJ.get 4 (by decide) (by decide) (hd 4 (by kernel_rfl)) rfl)
                    refine .inl ⟨Jx.wanted_of rfl rfl e4, ?_⟩
                    unfold Oper.wp
                    rw [show (execOp a_.eval _).run Tryz.prog u = .ok (.value (.int .i64 kk)) u from by simp [go_sem, Act.eval, f14, e4]]
                    exact ⟨_, rfl, hJ.stay 5 (by decide) (by decide) (by show (s_ 4 && true) = true; rw [hd 4 (by kernel_rfl)]; rfl) rfl⟩
                  · intro s_ a_ u V hs0 hd hfr hpo hJ
                    have e5 : a_.tmps.getD 111 undef = .int .i64 kk := (hpo 5 111 (by kernel_rfl)).trans (hJ.get 5 (by decide) (by decide) (hd 5 (by kernel_rfl)) rfl)
                    have e4 : a_.tmps.getD 110 undef = .bool false := (hpo 4 110 (by kernel_rfl)).trans (hJ.get 4 (by decide) (by decide) (hd 4 (by kernel_rfl)) rfl)
                    refine .inl ⟨Jx.wanted_of rfl rfl e4, ?_⟩
                    unfold Oper.wp
                    rw [show (execOp a_.eval _).run Tryz.prog u = .ok (.value (.bool true)) u from by simp [go_sem, Act.eval, e5, e4, hk02]]
                    exact ⟨_, rfl, hJ.stay 6 (by decide) (by decide) (by show (s_ 5 && (s_ 4 && true)) = true; rw [hd 5 (by kernel_rfl), hd 4 (by kernel_rfl)]; rfl) rfl⟩
                  · intro s_ a_ u V hs0 hd hfr hpo hJ
                    have e6 : a_.tmps.getD 112 undef = .bool true := (hpo 6 112 (by kernel_rfl)).trans (hJ.get 6 (by decide) (by decide) (hd 6 (by kernel_rfl)) rfl)
                    have e4 : a_.tmps.getD 110 undef = .bool false := (hpo 4 110 (by kernel_rfl)).trans (hJ.get 4 (by decide) (by decide) (hd 4 (by kernel_rfl)) rfl)
                    refine .inl ⟨Jx.wanted_of rfl rfl e4, ?_⟩
                    unfold Oper.wp
                    rw [show (execOp a_.eval _).run Tryz.prog u = .ok (.value (.bool true)) u from by simp [go_sem, Act.eval, e6, e4]]
                    exact ⟨_, rfl, hJ.stay 7 (by decide) (by decide) (by show (s_ 6 && (s_ 4 && true)) = true; rw [hd 6 (by kernel_rfl), hd 4 (by kernel_rfl)]; rfl) rfl⟩
                  · intro s_ a_ u V hs0 hd hfr hpo hJ
                    have f15 : a_.tmps.getD 15 undef = .pointer (some ⟨w10.heap.size, 0, none⟩) := hfr 15 (by kernel_rfl)
                    have e7 : a_.tmps.getD 113 undef = .bool true := (hpo 7 113 (by kernel_rfl)).trans (hJ.get 7 (by decide) (by decide) (hd 7 (by kernel_rfl)) rfl)
                    have hP := hJ.both
                    refine .inl ⟨Jx.wanted_of rfl rfl e7, ?_⟩
                    exact wp_load_mid 23 (.tmp 15) rfl (w10.heap.size) (0) f15 (R3 a) _ (range_box ((hP.block _ (lt_of_block ZA.out)).trans ZA.out)) Tryz.underlying23 rfl (by kernel_rfl) ⟨_, rfl, hJ.stay 8 (by decide) (by decide) (by show (s_ 7 && true) = true; rw [hd 7 (by kernel_rfl)]; rfl) rfl⟩
                  · intro s_ a_ u V hs0 hd hfr hpo hJ
                    have f8 : a_.tmps.getD 8 undef = .pointer (some ⟨bq, 0, none⟩) := hfr 8 (by kernel_rfl)
                    have e7 : a_.tmps.getD 113 undef = .bool true := (hpo 7 113 (by kernel_rfl)).trans (hJ.get 7 (by decide) (by decide) (hd 7 (by kernel_rfl)) rfl)
                    refine .inl ⟨Jx.wanted_of rfl rfl e7, ?_⟩
                    unfold Oper.wp
                    rw [show (execOp a_.eval _).run Tryz.prog u = .ok (.value (.pointer (some ⟨bq, 3, none⟩))) u from by simp [go_sem, Act.eval, f8, e7]]
                    exact ⟨_, rfl, hJ.stay 9 (by decide) (by decide) (by show (s_ 7 && true) = true; rw [hd 7 (by kernel_rfl)]; rfl) rfl⟩
                  · intro s_ a_ u V hs0 hd hfr hpo hJ
                    have e9 : a_.tmps.getD 115 undef = .pointer (some ⟨bq, 3, none⟩) := (hpo 9 115 (by kernel_rfl)).trans (hJ.get 9 (by decide) (by decide) (hd 9 (by kernel_rfl)) rfl)
                    have e7 : a_.tmps.getD 113 undef = .bool true := (hpo 7 113 (by kernel_rfl)).trans (hJ.get 7 (by decide) (by decide) (hd 7 (by kernel_rfl)) rfl)
                    have hP := hJ.both
                    refine .inl ⟨Jx.wanted_of rfl rfl e7, ?_⟩
                    have cx0 := Pt.box_cell (IV8.out.below (B12.out.trans (hP.mono B12.out.size)) BS8.out).q 3 rfl
                    unfold Oper.wp
                    rw [show (execOp a_.eval _).run Tryz.prog u = .ok (.value (.slice (some ⟨r2, 0, none⟩) ds2.length c2)) u from by simp [go_sem, Act.eval, e9, e7, cx0]]
                    exact ⟨_, rfl, hJ.stay 10 (by decide) (by decide) (by show (s_ 9 && (s_ 7 && true)) = true; rw [hd 9 (by kernel_rfl), hd 7 (by kernel_rfl)]; rfl) rfl⟩
                  · intro s_ a_ u V hs0 hd hfr hpo hJ
                    have f14 : a_.tmps.getD 14 undef = .int .i64 kk := hfr 14 (by kernel_rfl)
                    have e7 : a_.tmps.getD 113 undef = .bool true := (hpo 7 113 (by kernel_rfl)).trans (hJ.get 7 (by decide) (by decide) (hd 7 (by kernel_rfl)) rfl)
                    refine .inl ⟨Jx.wanted_of rfl rfl e7, ?_⟩
                    unfold Oper.wp
                    rw [show (execOp a_.eval _).run Tryz.prog u = .ok (.value (.int .i64 kk)) u from by simp [go_sem, Act.eval, f14, e7]]
                    exact ⟨_, rfl, hJ.stay 11 (by decide) (by decide) (by show (s_ 7 && true) = true; rw [hd 7 (by kernel_rfl)]; rfl) rfl⟩
                  · intro s_ a_ u V hs0 hd hfr hpo hJ
                    have e10 : a_.tmps.getD 116 undef = .slice (some ⟨r2, 0, none⟩) ds2.length c2 := (hpo 10 116 (by kernel_rfl)).trans (hJ.get 10 (by decide) (by decide) (hd 10 (by kernel_rfl)) rfl)
                    have e11 : a_.tmps.getD 117 undef = .int .i64 kk := (hpo 11 117 (by kernel_rfl)).trans (hJ.get 11 (by decide) (by decide) (hd 11 (by kernel_rfl)) rfl)
                    have e7 : a_.tmps.getD 113 undef = .bool true := (hpo 7 113 (by kernel_rfl)).trans (hJ.get 7 (by decide) (by decide) (hd 7 (by kernel_rfl)) rfl)
                    refine .inl ⟨Jx.wanted_of rfl rfl e7, ?_⟩
                    unfold Oper.wp
                    rw [show (execOp a_.eval _).run Tryz.prog u = .ok (.value (.pointer (some ⟨r2, kk * 5, none⟩))) u from by simp [go_sem, Act.eval, e10, e11, e7, hk02, hkl2, eat5]]
                    exact ⟨_, rfl, hJ.stay 12 (by decide) (by decide) (by show (s_ 10 && (s_ 11 && (s_ 7 && true))) = true; rw [hd 10 (by kernel_rfl), hd 11 (by kernel_rfl), hd 7 (by kernel_rfl)]; rfl) rfl⟩
                  · intro s_ a_ u V hs0 hd hfr hpo hJ
                    have e12 : a_.tmps.getD 118 undef = .pointer (some ⟨r2, kk * 5, none⟩) := (hpo 12 118 (by kernel_rfl)).trans (hJ.get 12 (by decide) (by decide) (hd 12 (by kernel_rfl)) rfl)
                    have e7 : a_.tmps.getD 113 undef = .bool true := (hpo 7 113 (by kernel_rfl)).trans (hJ.get 7 (by decide) (by decide) (hd 7 (by kernel_rfl)) rfl)
                    refine .inl ⟨Jx.wanted_of rfl rfl e7, ?_⟩
                    unfold Oper.wp
                    rw [show (execOp a_.eval _).run Tryz.prog u = .ok (.value (.pointer (some ⟨r2, kk * 5 + 1, none⟩))) u from by simp [go_sem, Act.eval, e12, e7]]
                    exact ⟨_, rfl, hJ.stay 13 (by decide) (by decide) (by show (s_ 12 && (s_ 7 && true)) = true; rw [hd 12 (by kernel_rfl), hd 7 (by kernel_rfl)]; rfl) rfl⟩
                  · intro s_ a_ u V hs0 hd hfr hpo hJ
                    have e13 : a_.tmps.getD 119 undef = .pointer (some ⟨r2, kk * 5 + 1, none⟩) := (hpo 13 119 (by kernel_rfl)).trans (hJ.get 13 (by decide) (by decide) (hd 13 (by kernel_rfl)) rfl)
                    have e7 : a_.tmps.getD 113 undef = .bool true := (hpo 7 113 (by kernel_rfl)).trans (hJ.get 7 (by decide) (by decide) (hd 7 (by kernel_rfl)) rfl)
                    have hP := hJ.both
                    refine .inl ⟨Jx.wanted_of rfl rfl e7, ?_⟩
                    exact wp_load_mid 23 (.tmp 119) rfl (r2) ((kk * 5 + 1)) e13 (R3 a) _ ((fun j v hv => (World.cell?_of_block ((B12.out.trans (hP.mono B12.out.size)).block r2 HR2.out)).trans (HASK.out j v hv))) Tryz.underlying23 rfl (by kernel_rfl) ⟨_, rfl, hJ.stay 14 (by decide) (by decide) (by show (s_ 13 && (s_ 7 && true)) = true; rw [hd 13 (by kernel_rfl), hd 7 (by kernel_rfl)]; rfl) rfl⟩
                  · intro s_ a_ u V hs0 hd hfr hpo hJ
                    have e8 : a_.tmps.getD 114 undef = .agg (R3 a).toArray := (hpo 8 114 (by kernel_rfl)).trans (hJ.get 8 (by decide) (by decide) (hd 8 (by kernel_rfl)) rfl)
                    have e14 : a_.tmps.getD 120 undef = .agg (R3 a).toArray := (hpo 14 120 (by kernel_rfl)).trans (hJ.get 14 (by decide) (by decide) (hd 14 (by kernel_rfl)) rfl)
                    have e7 : a_.tmps.getD 113 undef = .bool true := (hpo 7 113 (by kernel_rfl)).trans (hJ.get 7 (by decide) (by decide) (hd 7 (by kernel_rfl)) rfl)
                    refine .inl ⟨Jx.wanted_of rfl rfl e7, ?_⟩
                    unfold Oper.wp
                    rw [show (execOp a_.eval _).run Tryz.prog u = .ok (.value (.bool false)) u from by simp [go_sem, Act.eval, e8, e14, e7, eqIn_self]]
                    exact ⟨_, rfl, hJ.stay 15 (by decide) (by decide) (by show (s_ 8 && (s_ 14 && (s_ 7 && true))) = true; rw [hd 8 (by kernel_rfl), hd 14 (by kernel_rfl), hd 7 (by kernel_rfl)]; rfl) rfl⟩
                  · intro s_ a_ u V hs0 hd hfr hpo hJ
                    have e7 : a_.tmps.getD 113 undef = .bool true := (hpo 7 113 (by kernel_rfl)).trans (hJ.get 7 (by decide) (by decide) (hd 7 (by kernel_rfl)) rfl)
                    have e15 : a_.tmps.getD 121 undef = .bool false := (hpo 15 121 (by kernel_rfl)).trans (hJ.get 15 (by decide) (by decide) (hd 15 (by kernel_rfl)) rfl)
                    have e4 : a_.tmps.getD 110 undef = .bool false := (hpo 4 110 (by kernel_rfl)).trans (hJ.get 4 (by decide) (by decide) (hd 4 (by kernel_rfl)) rfl)
                    refine .inl ⟨Jx.wanted_of rfl rfl e4, ?_⟩
                    unfold Oper.wp
                    rw [show (execOp a_.eval _).run Tryz.prog u = .ok (.value (.bool false)) u from by simp [go_sem, Act.eval, e7, e15, e4]]
                    exact ⟨_, rfl, hJ.stay 16 (by decide) (by decide) (by show (s_ 7 && (s_ 15 && (s_ 4 && true))) = true; rw [hd 7 (by kernel_rfl), hd 15 (by kernel_rfl), hd 4 (by kernel_rfl)]; rfl) rfl⟩
                  · intro s_ a_ u V hs0 hd hfr hpo hJ
                    have e4 : a_.tmps.getD 110 undef = .bool false := (hpo 4 110 (by kernel_rfl)).trans (hJ.get 4 (by decide) (by decide) (hd 4 (by kernel_rfl)) rfl)
                    have e16 : a_.tmps.getD 122 undef = .bool false := (hpo 16 122 (by kernel_rfl)).trans (hJ.get 16 (by decide) (by decide) (hd 16 (by kernel_rfl)) rfl)
                    refine .inl ⟨rfl, ?_⟩
                    unfold Oper.wp
                    rw [show (execOp a_.eval _).run Tryz.prog u = .ok (.value (.bool false)) u from by simp [go_sem, Act.eval, e4, e16]]
                    exact ⟨_, rfl, hJ.stay 17 (by decide) (by decide) (by show (s_ 4 && (s_ 16 && true)) = true; rw [hd 4 (by kernel_rfl), hd 16 (by kernel_rfl)]; rfl) rfl⟩
                  · intro s_ a_ u V hs0 hd hfr hpo hJ
                    have e17 : a_.tmps.getD 123 undef = .bool false := (hpo 17 123 (by kernel_rfl)).trans (hJ.get 17 (by decide) (by decide) (hd 17 (by kernel_rfl)) rfl)
                    refine .inl ⟨rfl, ?_⟩
                    unfold Oper.wp
                    rw [show (execOp a_.eval _).run Tryz.prog u = .ok (.value (.bool false)) u from by simp [go_sem, Act.eval, e17]]
                    exact ⟨_, rfl, hJ.stay 18 (by decide) (by decide) (by show (s_ 17 && true) = true; rw [hd 17 (by kernel_rfl)]; rfl) rfl⟩
                  · intro s_ a_ u V hs0 hd hfr hpo hJ
                    have f14 : a_.tmps.getD 14 undef = .int .i64 kk := hfr 14 (by kernel_rfl)
                    have e18 : a_.tmps.getD 124 undef = .bool false := (hpo 18 124 (by kernel_rfl)).trans (hJ.get 18 (by decide) (by decide) (hd 18 (by kernel_rfl)) rfl)
                    refine .inl ⟨Jx.wanted_of rfl rfl e18, ?_⟩
                    unfold Oper.wp
                    rw [show (execOp a_.eval _).run Tryz.prog u = .ok (.value (.int .i64 kk)) u from by simp [go_sem, Act.eval, f14, e18]]
                    exact ⟨_, rfl, hJ.stay 19 (by decide) (by decide) (by show (s_ 18 && true) = true; rw [hd 18 (by kernel_rfl)]; rfl) rfl⟩
                  · intro s_ a_ u V hs0 hd hfr hpo hJ
                    have e19 : a_.tmps.getD 125 undef = .int .i64 kk := (hpo 19 125 (by kernel_rfl)).trans (hJ.get 19 (by decide) (by decide) (hd 19 (by kernel_rfl)) rfl)
                    have e18 : a_.tmps.getD 124 undef = .bool false := (hpo 18 124 (by kernel_rfl)).trans (hJ.get 18 (by decide) (by decide) (hd 18 (by kernel_rfl)) rfl)
                    refine .inl ⟨Jx.wanted_of rfl rfl e18, ?_⟩
                    unfold Oper.wp
                    rw [show (execOp a_.eval _).run Tryz.prog u = .ok (.value (.bool false)) u from by simp [go_sem, Act.eval, e19, e18, hkn2]]
                    exact ⟨_, rfl, hJ.stay 20 (by decide) (by decide) (by show (s_ 19 && (s_ 18 && true)) = true; rw [hd 19 (by kernel_rfl), hd 18 (by kernel_rfl)]; rfl) rfl⟩
                  · intro s_ a_ u V hs0 hd hfr hpo hJ
                    have e20 : a_.tmps.getD 126 undef = .bool false := (hpo 20 126 (by kernel_rfl)).trans (hJ.get 20 (by decide) (by decide) (hd 20 (by kernel_rfl)) rfl)
                    have e18 : a_.tmps.getD 124 undef = .bool false := (hpo 18 124 (by kernel_rfl)).trans (hJ.get 18 (by decide) (by decide) (hd 18 (by kernel_rfl)) rfl)
                    refine .inl ⟨Jx.wanted_of rfl rfl e18, ?_⟩
                    unfold Oper.wp
                    rw [show (execOp a_.eval _).run Tryz.prog u = .ok (.value (.bool false)) u from by simp [go_sem, Act.eval, e20, e18]]
                    exact ⟨_, rfl, hJ.stay 21 (by decide) (by decide) (by show (s_ 20 && (s_ 18 && true)) = true; rw [hd 20 (by kernel_rfl), hd 18 (by kernel_rfl)]; rfl) rfl⟩
                  · intro s_ a_ u V hs0 hd hfr hpo hJ
                    have gd : a_.tmps.getD 127 undef = .bool false := (hpo 21 127 (by kernel_rfl)).trans (hJ.get 21 (by decide) (by decide) (hd 21 (by kernel_rfl)) rfl)
                    exact .inr ⟨Jx.unwanted_of rfl rfl gd, hJ.stay 22 (by decide) (by decide) (by show (s_ 21 && true) = true; rw [hd 21 (by kernel_rfl)]; rfl) rfl⟩
                  · intro s_ a_ u V hs0 hd hfr hpo hJ
                    have gd : a_.tmps.getD 127 undef = .bool false := (hpo 21 127 (by kernel_rfl)).trans (hJ.get 21 (by decide) (by decide) (hd 21 (by kernel_rfl)) rfl)
                    exact .inr ⟨Jx.unwanted_of rfl rfl gd, hJ.stay 23 (by decide) (by decide) (by show (s_ 21 && true) = true; rw [hd 21 (by kernel_rfl)]; rfl) rfl⟩
                  · intro s_ a_ u V hs0 hd hfr hpo hJ
                    have gd : a_.tmps.getD 127 undef = .bool false := (hpo 21 127 (by kernel_rfl)).trans (hJ.get 21 (by decide) (by decide) (hd 21 (by kernel_rfl)) rfl)
                    exact .inr ⟨Jx.unwanted_of rfl rfl gd, hJ.stay 24 (by decide) (by decide) (by show (s_ 21 && true) = true; rw [hd 21 (by kernel_rfl)]; rfl) rfl⟩
                  · intro s_ a_ u V hs0 hd hfr hpo hJ
                    have e21 : a_.tmps.getD 127 undef = .bool false := (hpo 21 127 (by kernel_rfl)).trans (hJ.get 21 (by decide) (by decide) (hd 21 (by kernel_rfl)) rfl)
                    have e18 : a_.tmps.getD 124 undef = .bool false := (hpo 18 124 (by kernel_rfl)).trans (hJ.get 18 (by decide) (by decide) (hd 18 (by kernel_rfl)) rfl)
                    refine .inl ⟨Jx.wanted_of rfl rfl e18, ?_⟩
                    unfold Oper.wp
                    rw [show (execOp a_.eval _).run Tryz.prog u = .ok (.value (.bool false)) u from by simp [go_sem, Act.eval, e21, e18]]
                    exact ⟨_, rfl, hJ.stay 25 (by decide) (by decide) (by show (s_ 21 && (s_ 18 && true)) = true; rw [hd 21 (by kernel_rfl), hd 18 (by kernel_rfl)]; rfl) rfl⟩
                  · intro s_ a_ u V hs0 hd hfr hpo hJ
                    have e18 : a_.tmps.getD 124 undef = .bool false := (hpo 18 124 (by kernel_rfl)).trans (hJ.get 18 (by decide) (by decide) (hd 18 (by kernel_rfl)) rfl)
                    have e25 : a_.tmps.getD 131 undef = .bool false := (hpo 25 131 (by kernel_rfl)).trans (hJ.get 25 (by decide) (by decide) (hd 25 (by kernel_rfl)) rfl)
                    refine .inl ⟨rfl, ?_⟩
                    unfold Oper.wp
                    rw [show (execOp a_.eval _).run Tryz.prog u = .ok (.value (.bool false)) u from by simp [go_sem, Act.eval, e18, e25]]
                    exact ⟨_, rfl, hJ.stay 26 (by decide) (by decide) (by show (s_ 18 && (s_ 25 && true)) = true; rw [hd 18 (by kernel_rfl), hd 25 (by kernel_rfl)]; rfl) rfl⟩
                · intro s_ V w13 hall hJ
                  have e26 : V 26 = .bool false := hJ.get 26 (by decide) (by decide) (hall 26 (by decide)) rfl
                  have B13 := Lib.hid (B12.out.trans (hJ.both.mono B12.out.size))
                  clear hall hJ hk02 hkl2 hkn2 eat5
                  simp only [Bxs.puts, Nat.reduceAdd, put_none, Re.put_lit, List.set_cons_succ, List.set_cons_zero]
                  rw [e26]
                  clear e26
                  go_wp2
                  go_roundw
                  case rel => exact ⟨k + 1, l2, _, c2, ds2, by omega, by omega, by go_num, IV8.out.below B13.out BS8.out, Nat.le_trans BS8.out B13.out.size, Nat.lt_of_lt_of_le BQ8.out B13.out.size⟩
                  case measure => simp [RowKit.intOf]; omega
              | false =>
                rw [show idxI ask l2 = -1 by unfold idxI; rw [if_neg (by rw [hin]; decide)]] at CIX
                rw [hin, ofU_out hin] at COF
                clear hin
                go_upto_region 17 with (first
                  | (refine wpList_load_mid rfl 29 _ rfl _ _ rfl _ _ RQ8.out Tryz.underlying29 rfl (by kernel_rfl) ?_)
                  | (go_at_call 19; refine CIX.out.mono ?_; rintro e w9 ⟨rfl, hb9⟩; have B9 := Lib.hid hb9; clear hb9)
                  | (go_at_call 20; refine (COF.out w9 B9.out).mono ?_; rintro e w10 ⟨rfl, hb10⟩; have B10 := Lib.hid (B9.out.trans (hb10.mono B9.out.size)); clear hb10; obtain ⟨w11, hw11⟩ : ∃ v, w10.alloc (.cells #[.int .i64 0, .int .i64 0, .int .i64 0] 23) = v := ⟨_, rfl⟩; have ZB := Lib.hid (show w11.heap[w10.heap.size]? = some (.cells #[.int .i64 0, .int .i64 0, .int .i64 0] 23 (0, 0)) by rw [← hw11]; exact heap_alloc_new _ _); have BU := Lib.hid (show Below w10.heap.size w10 w11 by rw [← hw11]; exact (Below.refl _ _).alloc (Nat.le_refl _) _); obtain ⟨w12, hw12⟩ : ∃ v, w11.setCells w10.heap.size 0 (R3 z3) = v := ⟨_, rfl⟩; have THz := Lib.hid (show w11.there w10.heap.size 0 3 from Back.th ZB.out rfl); have ONEz := Lib.hid (show ((R3 z3) : List Value).toArray.all (·.oneCell') = true by simp [Value.oneCell']); have HVz := Lib.hid hw12; have ZA := Lib.hid (show w12.heap[w10.heap.size]? = some (.cells ((R3 z3) : List Value).toArray 23 (0, 0)) by rw [← hw12]; exact Back.st ZB.out rfl); have B12 := Lib.hid (B10.out.trans ((show Below w10.heap.size w10 w12 by rw [← hw12]; exact bel_set BU.out (Nat.le_refl _)).mono B10.out.size)); clear hw12)
                  | (refine wpList_store_at rfl 23 _ _ rfl _ _ _ rfl rfl THz.out (by kernel_rfl) ONEz.out HVz.out ?_))
                clear hw11 THz ONEz HVz ZB BU CIX COF RQ8
                refine Vls.wp_region (by kernel_rfl) (Jx.JX (fun u => Below w12.heap.size w12 u) (fun u => Below w12.heap.size w12 u) 100 101 (fun _ _ => True) [(2, 1), (3, 0), (3, 2), (4, 3), (5, 4), (6, 5), (6, 4), (7, 6), (7, 4), (8, 7), (9, 7), (10, 7), (11, 7), (12, 7), (13, 7), (14, 7), (15, 7), (16, 7), (16, 4), (17, 4), (17, 16), (18, 17), (19, 18), (20, 19), (20, 18), (21, 20), (21, 18), (22, 21), (23, 21), (24, 22), (24, 23), (24, 21), (25, 21), (25, 24), (25, 18), (26, 18), (26, 25)] [.bool false, .int .i64 (-1), .bool false, .bool false, .bool false, .int .i64 (-1), .bool false, .bool false, undef, undef, undef, undef, undef, undef, undef, undef, .bool false, .bool false, .bool false, .int .i64 (-1), .bool true, .bool true, .agg #[.int .i64 0, .int .i64 0, .int .i64 0], .agg #[.int .i64 0, .int .i64 0, .int .i64 0], .bool false, .bool false, .bool false]) (by kernel_rfl) (fun _ => undef) (Jx.JX.start (P := fun u => Below w12.heap.size w12 u) (Below.drew (Below.refl _ _)) _) ?_ ?_
                · refine ⟨?_, ?_, ?_, ?_, ?_, ?_, ?_, ?_, ?_, ?_, ?_, ?_, ?_, ?_, ?_, ?_, ?_, ?_, ?_, ?_, ?_, ?_, ?_, ?_, ?_, ?_, ?_, trivial⟩
                  · intro s_ a_ u V hs0 hd hfr hpo hJ
                    have f16 : a_.tmps.getD 16 undef = .bool false := hfr 16 (by kernel_rfl)
                    refine .inl ⟨rfl, ?_⟩
                    unfold Oper.wp
                    rw [show (execOp a_.eval _).run Tryz.prog u = .ok (.value (.bool false)) u from by simp [go_sem, Act.eval, f16]]
                    exact ⟨_, rfl, hJ.stay 0 (by decide) (by decide) rfl rfl⟩
                  · intro s_ a_ u V hs0 hd hfr hpo hJ
                    have f14 : a_.tmps.getD 14 undef = .int .i64 (-1) := hfr 14 (by kernel_rfl)
                    refine .inl ⟨rfl, ?_⟩
                    unfold Oper.wp
                    rw [show (execOp a_.eval _).run Tryz.prog u = .ok (.value (.int .i64 (-1))) u from by simp [go_sem, Act.eval, f14]]
                    exact ⟨_, rfl, hJ.stay 1 (by decide) (by decide) rfl rfl⟩
                  · intro s_ a_ u V hs0 hd hfr hpo hJ
                    have e1 : a_.tmps.getD 107 undef = .int .i64 (-1) := (hpo 1 107 (by kernel_rfl)).trans (hJ.get 1 (by decide) (by decide) (hd 1 (by kernel_rfl)) rfl)
                    refine .inl ⟨rfl, ?_⟩
                    unfold Oper.wp
                    rw [show (execOp a_.eval _).run Tryz.prog u = .ok (.value (.bool false)) u from by simp [go_sem, Act.eval, e1]]
                    exact ⟨_, rfl, hJ.stay 2 (by decide) (by decide) (by show (s_ 1 && true) = true; rw [hd 1 (by kernel_rfl)]; rfl) rfl⟩
                  · intro s_ a_ u V hs0 hd hfr hpo hJ
                    have e0 : a_.tmps.getD 106 undef = .bool false := (hpo 0 106 (by kernel_rfl)).trans (hJ.get 0 (by decide) (by decide) (hd 0 (by kernel_rfl)) rfl)
                    have e2 : a_.tmps.getD 108 undef = .bool false := (hpo 2 108 (by kernel_rfl)).trans (hJ.get 2 (by decide) (by decide) (hd 2 (by kernel_rfl)) rfl)
                    refine .inl ⟨rfl, ?_⟩
                    unfold Oper.wp
                    rw [show (execOp a_.eval _).run Tryz.prog u = .ok (.value (.bool false)) u from by simp [go_sem, Act.eval, e0, e2]]
                    exact ⟨_, rfl, hJ.stay 3 (by decide) (by decide) (by show (s_ 0 && (s_ 2 && true)) = true; rw [hd 0 (by kernel_rfl), hd 2 (by kernel_rfl)]; rfl) rfl⟩
                  · intro s_ a_ u V hs0 hd hfr hpo hJ
                    have e3 : a_.tmps.getD 109 undef = .bool false := (hpo 3 109 (by kernel_rfl)).trans (hJ.get 3 (by decide) (by decide) (hd 3 (by kernel_rfl)) rfl)
                    refine .inl ⟨rfl, ?_⟩
                    unfold Oper.wp
                    rw [show (execOp a_.eval _).run Tryz.prog u = .ok (.value (.bool false)) u from by simp [go_sem, Act.eval, e3]]
                    exact ⟨_, rfl, hJ.stay 4 (by decide) (by decide) (by show (s_ 3 && true) = true; rw [hd 3 (by kernel_rfl)]; rfl) rfl⟩
                  · intro s_ a_ u V hs0 hd hfr hpo hJ
                    have f14 : a_.tmps.getD 14 undef = .int .i64 (-1) := hfr 14 (by kernel_rfl)
                    have e4 : a_.tmps.getD 110 undef = .bool false := (hpo 4 110 (by kernel_rfl)).trans (hJ.get 4 (by decide) (by decide) (hd 4 (by kernel_rfl)) rfl)
                    refine .inl ⟨Jx.wanted_of rfl rfl e4, ?_⟩
                    unfold Oper.wp
                    rw [show (execOp a_.eval _).run Tryz.prog u = .ok (.value (.int .i64 (-1))) u from by simp [go_sem, Act.eval, f14, e4]]
                    exact ⟨_, rfl, hJ.stay 5 (by decide) (by decide) (by show (s_ 4 && true) = true; rw [hd 4 (by kernel_rfl)]; rfl) rfl⟩
                  · intro s_ a_ u V hs0 hd hfr hpo hJ
                    have e5 : a_.tmps.getD 111 undef = .int .i64 (-1) := (hpo 5 111 (by kernel_rfl)).trans (hJ.get 5 (by decide) (by decide) (hd 5 (by kernel_rfl)) rfl)
                    have e4 : a_.tmps.getD 110 undef = .bool false := (hpo 4 110 (by kernel_rfl)).trans (hJ.get 4 (by decide) (by decide) (hd 4 (by kernel_rfl)) rfl)
                    refine .inl ⟨Jx.wanted_of rfl rfl e4, ?_⟩
                    unfold Oper.wp
                    rw [show (execOp a_.eval _).run Tryz.prog u = .ok (.value (.bool false)) u from by simp [go_sem, Act.eval, e5, e4]]
                    exact ⟨_, rfl, hJ.stay 6 (by decide) (by decide) (by show (s_ 5 && (s_ 4 && true)) = true; rw [hd 5 (by kernel_rfl), hd 4 (by kernel_rfl)]; rfl) rfl⟩
                  · intro s_ a_ u V hs0 hd hfr hpo hJ
                    have e6 : a_.tmps.getD 112 undef = .bool false := (hpo 6 112 (by kernel_rfl)).trans (hJ.get 6 (by decide) (by decide) (hd 6 (by kernel_rfl)) rfl)
                    have e4 : a_.tmps.getD 110 undef = .bool false := (hpo 4 110 (by kernel_rfl)).trans (hJ.get 4 (by decide) (by decide) (hd 4 (by kernel_rfl)) rfl)
                    refine .inl ⟨Jx.wanted_of rfl rfl e4, ?_⟩
                    unfold Oper.wp
                    rw [show (execOp a_.eval _).run Tryz.prog u = .ok (.value (.bool false)) u from by simp [go_sem, Act.eval, e6, e4]]
                    exact ⟨_, rfl, hJ.stay 7 (by decide) (by decide) (by show (s_ 6 && (s_ 4 && true)) = true; rw [hd 6 (by kernel_rfl), hd 4 (by kernel_rfl)]; rfl) rfl⟩
                  · intro s_ a_ u V hs0 hd hfr hpo hJ
                    have gd : a_.tmps.getD 113 undef = .bool false := (hpo 7 113 (by kernel_rfl)).trans (hJ.get 7 (by decide) (by decide) (hd 7 (by kernel_rfl)) rfl)
                    exact .inr ⟨Jx.unwanted_of rfl rfl gd, hJ.stay 8 (by decide) (by decide) (by show (s_ 7 && true) = true; rw [hd 7 (by kernel_rfl)]; rfl) rfl⟩
                  · intro s_ a_ u V hs0 hd hfr hpo hJ
                    have gd : a_.tmps.getD 113 undef = .bool false := (hpo 7 113 (by kernel_rfl)).trans (hJ.get 7 (by decide) (by decide) (hd 7 (by kernel_rfl)) rfl)
                    exact .inr ⟨Jx.unwanted_of rfl rfl gd, hJ.stay 9 (by decide) (by decide) (by show (s_ 7 && true) = true; rw [hd 7 (by kernel_rfl)]; rfl) rfl⟩
                  · intro s_ a_ u V hs0 hd hfr hpo hJ
                    have gd : a_.tmps.getD 113 undef = .bool false := (hpo 7 113 (by kernel_rfl)).trans (hJ.get 7 (by decide) (by decide) (hd 7 (by kernel_rfl)) rfl)
                    exact .inr ⟨Jx.unwanted_of rfl rfl gd, hJ.stay 10 (by decide) (by decide) (by show (s_ 7 && true) = true; rw [hd 7 (by kernel_rfl)]; rfl) rfl⟩
                  · intro s_ a_ u V hs0 hd hfr hpo hJ
                    have gd : a_.tmps.getD 113 undef = .bool false := (hpo 7 113 (by kernel_rfl)).trans (hJ.get 7 (by decide) (by decide) (hd 7 (by kernel_rfl)) rfl)
                    exact .inr ⟨Jx.unwanted_of rfl rfl gd, hJ.stay 11 (by decide) (by decide) (by show (s_ 7 && true) = true; rw [hd 7 (by kernel_rfl)]; rfl) rfl⟩
                  · intro s_ a_ u V hs0 hd hfr hpo hJ
                    have gd : a_.tmps.getD 113 undef = .bool false := (hpo 7 113 (by kernel_rfl)).trans (hJ.get 7 (by decide) (by decide) (hd 7 (by kernel_rfl)) rfl)
                    exact .inr ⟨Jx.unwanted_of rfl rfl gd, hJ.stay 12 (by decide) (by decide) (by show (s_ 7 && true) = true; rw [hd 7 (by kernel_rfl)]; rfl) rfl⟩
                  · intro s_ a_ u V hs0 hd hfr hpo hJ
                    have gd : a_.tmps.getD 113 undef = .bool false := (hpo 7 113 (by kernel_rfl)).trans (hJ.get 7 (by decide) (by decide) (hd 7 (by kernel_rfl)) rfl)
                    exact .inr ⟨Jx.unwanted_of rfl rfl gd, hJ.stay 13 (by decide) (by decide) (by show (s_ 7 && true) = true; rw [hd 7 (by kernel_rfl)]; rfl) rfl⟩
                  · intro s_ a_ u V hs0 hd hfr hpo hJ
                    have gd : a_.tmps.getD 113 undef = .bool false := (hpo 7 113 (by kernel_rfl)).trans (hJ.get 7 (by decide) (by decide) (hd 7 (by kernel_rfl)) rfl)
                    exact .inr ⟨Jx.unwanted_of rfl rfl gd, hJ.stay 14 (by decide) (by decide) (by show (s_ 7 && true) = true; rw [hd 7 (by kernel_rfl)]; rfl) rfl⟩
                  · intro s_ a_ u V hs0 hd hfr hpo hJ
                    have gd : a_.tmps.getD 113 undef = .bool false := (hpo 7 113 (by kernel_rfl)).trans (hJ.get 7 (by decide) (by decide) (hd 7 (by kernel_rfl)) rfl)
                    exact .inr ⟨Jx.unwanted_of rfl rfl gd, hJ.stay 15 (by decide) (by decide) (by show (s_ 7 && true) = true; rw [hd 7 (by kernel_rfl)]; rfl) rfl⟩
                  · intro s_ a_ u V hs0 hd hfr hpo hJ
                    have e7 : a_.tmps.getD 113 undef = .bool false := (hpo 7 113 (by kernel_rfl)).trans (hJ.get 7 (by decide) (by decide) (hd 7 (by kernel_rfl)) rfl)
                    have e4 : a_.tmps.getD 110 undef = .bool false := (hpo 4 110 (by kernel_rfl)).trans (hJ.get 4 (by decide) (by decide) (hd 4 (by kernel_rfl)) rfl)
                    refine .inl ⟨Jx.wanted_of rfl rfl e4, ?_⟩
                    unfold Oper.wp
                    rw [show (execOp a_.eval _).run Tryz.prog u = .ok (.value (.bool false)) u from by simp [go_sem, Act.eval, e7, e4]]
                    exact ⟨_, rfl, hJ.stay 16 (by decide) (by decide) (by show (s_ 7 && (s_ 4 && true)) = true; rw [hd 7 (by kernel_rfl), hd 4 (by kernel_rfl)]; rfl) rfl⟩
                  · intro s_ a_ u V hs0 hd hfr hpo hJ
                    have e4 : a_.tmps.getD 110 undef = .bool false := (hpo 4 110 (by kernel_rfl)).trans (hJ.get 4 (by decide) (by decide) (hd 4 (by kernel_rfl)) rfl)
                    have e16 : a_.tmps.getD 122 undef = .bool false := (hpo 16 122 (by kernel_rfl)).trans (hJ.get 16 (by decide) (by decide) (hd 16 (by kernel_rfl)) rfl)
                    refine .inl ⟨rfl, ?_⟩
                    unfold Oper.wp
                    rw [show (execOp a_.eval _).run Tryz.prog u = .ok (.value (.bool false)) u from by simp [go_sem, Act.eval, e4, e16]]
                    exact ⟨_, rfl, hJ.stay 17 (by decide) (by decide) (by show (s_ 4 && (s_ 16 && true)) = true; rw [hd 4 (by kernel_rfl), hd 16 (by kernel_rfl)]; rfl) rfl⟩
                  · intro s_ a_ u V hs0 hd hfr hpo hJ
                    have e17 : a_.tmps.getD 123 undef = .bool false := (hpo 17 123 (by kernel_rfl)).trans (hJ.get 17 (by decide) (by decide) (hd 17 (by kernel_rfl)) rfl)
                    refine .inl ⟨rfl, ?_⟩
                    unfold Oper.wp
                    rw [show (execOp a_.eval _).run Tryz.prog u = .ok (.value (.bool false)) u from by simp [go_sem, Act.eval, e17]]
                    exact ⟨_, rfl, hJ.stay 18 (by decide) (by decide) (by show (s_ 17 && true) = true; rw [hd 17 (by kernel_rfl)]; rfl) rfl⟩
                  · intro s_ a_ u V hs0 hd hfr hpo hJ
                    have f14 : a_.tmps.getD 14 undef = .int .i64 (-1) := hfr 14 (by kernel_rfl)
                    have e18 : a_.tmps.getD 124 undef = .bool false := (hpo 18 124 (by kernel_rfl)).trans (hJ.get 18 (by decide) (by decide) (hd 18 (by kernel_rfl)) rfl)
                    refine .inl ⟨Jx.wanted_of rfl rfl e18, ?_⟩
                    unfold Oper.wp
                    rw [show (execOp a_.eval _).run Tryz.prog u = .ok (.value (.int .i64 (-1))) u from by simp [go_sem, Act.eval, f14, e18]]
                    exact ⟨_, rfl, hJ.stay 19 (by decide) (by decide) (by show (s_ 18 && true) = true; rw [hd 18 (by kernel_rfl)]; rfl) rfl⟩
                  · intro s_ a_ u V hs0 hd hfr hpo hJ
                    have e19 : a_.tmps.getD 125 undef = .int .i64 (-1) := (hpo 19 125 (by kernel_rfl)).trans (hJ.get 19 (by decide) (by decide) (hd 19 (by kernel_rfl)) rfl)
                    have e18 : a_.tmps.getD 124 undef = .bool false := (hpo 18 124 (by kernel_rfl)).trans (hJ.get 18 (by decide) (by decide) (hd 18 (by kernel_rfl)) rfl)
                    refine .inl ⟨Jx.wanted_of rfl rfl e18, ?_⟩
                    unfold Oper.wp
                    rw [show (execOp a_.eval _).run Tryz.prog u = .ok (.value (.bool true)) u from by simp [go_sem, Act.eval, e19, e18]]
                    exact ⟨_, rfl, hJ.stay 20 (by decide) (by decide) (by show (s_ 19 && (s_ 18 && true)) = true; rw [hd 19 (by kernel_rfl), hd 18 (by kernel_rfl)]; rfl) rfl⟩
                  · intro s_ a_ u V hs0 hd hfr hpo hJ
                    have e20 : a_.tmps.getD 126 undef = .bool true := (hpo 20 126 (by kernel_rfl)).trans (hJ.get 20 (by decide) (by decide) (hd 20 (by kernel_rfl)) rfl)
                    have e18 : a_.tmps.getD 124 undef = .bool false := (hpo 18 124 (by kernel_rfl)).trans (hJ.get 18 (by decide) (by decide) (hd 18 (by kernel_rfl)) rfl)
                    refine .inl ⟨Jx.wanted_of rfl rfl e18, ?_⟩
                    unfold Oper.wp
                    rw [show (execOp a_.eval _).run Tryz.prog u = .ok (.value (.bool true)) u from by simp [go_sem, Act.eval, e20, e18]]
                    exact ⟨_, rfl, hJ.stay 21 (by decide) (by decide) (by show (s_ 20 && (s_ 18 && true)) = true; rw [hd 20 (by kernel_rfl), hd 18 (by kernel_rfl)]; rfl) rfl⟩
                  · intro s_ a_ u V hs0 hd hfr hpo hJ
                    have f15 : a_.tmps.getD 15 undef = .pointer (some ⟨w10.heap.size, 0, none⟩) := hfr 15 (by kernel_rfl)
                    have e21 : a_.tmps.getD 127 undef = .bool true := (hpo 21 127 (by kernel_rfl)).trans (hJ.get 21 (by decide) (by decide) (hd 21 (by kernel_rfl)) rfl)
                    have hP := hJ.both
                    refine .inl ⟨Jx.wanted_of rfl rfl e21, ?_⟩
                    exact wp_load_mid 23 (.tmp 15) rfl (w10.heap.size) (0) f15 [.int .i64 0, .int .i64 0, .int .i64 0] _ (range_box ((hP.block _ (lt_of_block ZA.out)).trans ZA.out)) Tryz.underlying23 rfl (by kernel_rfl) ⟨_, rfl, hJ.stay 22 (by decide) (by decide) (by show (s_ 21 && true) = true; rw [hd 21 (by kernel_rfl)]; rfl) rfl⟩
                  · intro s_ a_ u V hs0 hd hfr hpo hJ
                    have e21 : a_.tmps.getD 127 undef = .bool true := (hpo 21 127 (by kernel_rfl)).trans (hJ.get 21 (by decide) (by decide) (hd 21 (by kernel_rfl)) rfl)
                    refine .inl ⟨Jx.wanted_of rfl rfl e21, ?_⟩
                    unfold Oper.wp
                    rw [show (execOp a_.eval _).run Tryz.prog u = .ok (.value (.agg #[.int .i64 0, .int .i64 0, .int .i64 0])) u from by simp [go_sem, Act.eval, e21]]
                    exact ⟨_, rfl, hJ.stay 23 (by decide) (by decide) (by show (s_ 21 && true) = true; rw [hd 21 (by kernel_rfl)]; rfl) rfl⟩
                  · intro s_ a_ u V hs0 hd hfr hpo hJ
                    have e22 : a_.tmps.getD 128 undef = .agg #[.int .i64 0, .int .i64 0, .int .i64 0] := (hpo 22 128 (by kernel_rfl)).trans (hJ.get 22 (by decide) (by decide) (hd 22 (by kernel_rfl)) rfl)
                    have e23 : a_.tmps.getD 129 undef = .agg #[.int .i64 0, .int .i64 0, .int .i64 0] := (hpo 23 129 (by kernel_rfl)).trans (hJ.get 23 (by decide) (by decide) (hd 23 (by kernel_rfl)) rfl)
                    have e21 : a_.tmps.getD 127 undef = .bool true := (hpo 21 127 (by kernel_rfl)).trans (hJ.get 21 (by decide) (by decide) (hd 21 (by kernel_rfl)) rfl)
                    refine .inl ⟨Jx.wanted_of rfl rfl e21, ?_⟩
                    unfold Oper.wp
                    rw [show (execOp a_.eval _).run Tryz.prog u = .ok (.value (.bool false)) u from by simp [go_sem, Act.eval, e22, e23, e21, eqIn_zero]]
                    exact ⟨_, rfl, hJ.stay 24 (by decide) (by decide) (by show (s_ 22 && (s_ 23 && (s_ 21 && true))) = true; rw [hd 22 (by kernel_rfl), hd 23 (by kernel_rfl), hd 21 (by kernel_rfl)]; rfl) rfl⟩
                  · intro s_ a_ u V hs0 hd hfr hpo hJ
                    have e21 : a_.tmps.getD 127 undef = .bool true := (hpo 21 127 (by kernel_rfl)).trans (hJ.get 21 (by decide) (by decide) (hd 21 (by kernel_rfl)) rfl)
                    have e24 : a_.tmps.getD 130 undef = .bool false := (hpo 24 130 (by kernel_rfl)).trans (hJ.get 24 (by decide) (by decide) (hd 24 (by kernel_rfl)) rfl)
                    have e18 : a_.tmps.getD 124 undef = .bool false := (hpo 18 124 (by kernel_rfl)).trans (hJ.get 18 (by decide) (by decide) (hd 18 (by kernel_rfl)) rfl)
                    refine .inl ⟨Jx.wanted_of rfl rfl e18, ?_⟩
                    unfold Oper.wp
                    rw [show (execOp a_.eval _).run Tryz.prog u = .ok (.value (.bool false)) u from by simp [go_sem, Act.eval, e21, e24, e18]]
                    exact ⟨_, rfl, hJ.stay 25 (by decide) (by decide) (by show (s_ 21 && (s_ 24 && (s_ 18 && true))) = true; rw [hd 21 (by kernel_rfl), hd 24 (by kernel_rfl), hd 18 (by kernel_rfl)]; rfl) rfl⟩
                  · intro s_ a_ u V hs0 hd hfr hpo hJ
                    have e18 : a_.tmps.getD 124 undef = .bool false := (hpo 18 124 (by kernel_rfl)).trans (hJ.get 18 (by decide) (by decide) (hd 18 (by kernel_rfl)) rfl)
                    have e25 : a_.tmps.getD 131 undef = .bool false := (hpo 25 131 (by kernel_rfl)).trans (hJ.get 25 (by decide) (by decide) (hd 25 (by kernel_rfl)) rfl)
                    refine .inl ⟨rfl, ?_⟩
                    unfold Oper.wp
                    rw [show (execOp a_.eval _).run Tryz.prog u = .ok (.value (.bool false)) u from by simp [go_sem, Act.eval, e18, e25]]
                    exact ⟨_, rfl, hJ.stay 26 (by decide) (by decide) (by show (s_ 18 && (s_ 25 && true)) = true; rw [hd 18 (by kernel_rfl), hd 25 (by kernel_rfl)]; rfl) rfl⟩
                · intro s_ V w13 hall hJ
                  have e26 : V 26 = .bool false := hJ.get 26 (by decide) (by decide) (hall 26 (by decide)) rfl
                  have B13 := Lib.hid (B12.out.trans (hJ.both.mono B12.out.size))
                  clear hall hJ
                  simp only [Bxs.puts, Nat.reduceAdd, put_none, Re.put_lit, List.set_cons_succ, List.set_cons_zero]
                  rw [e26]
                  clear e26
                  go_wp2
                  go_roundw
                  case rel => exact ⟨k + 1, l2, A2, c2, ds2, by omega, by omega, by go_num, IV8.out.below B13.out BS8.out, Nat.le_trans BS8.out B13.out.size, Nat.lt_of_lt_of_le BQ8.out B13.out.size⟩
                  case measure => simp [RowKit.intOf]; omega
    · have CH := Lib.hid (show ∀ u, Below wr.heap.size wr u → Calls Tryz.prog 15 #[.pointer (some ⟨g, 0, none⟩)] u (Told1 hs u) from fun u hu => has_any u (IV.out.nn.below hu))
      have CW := Lib.hid (show ∀ u, Below wr.heap.size wr u → Calls Tryz.prog 9 #[] u (fun e w' => e = .returned (.bool true) ∧ Below u.heap.size u w') from fun u hu => works_any u (HSL.out.below (HWU u (hu.mono BS.out))))
      have HK := Lib.hid hkl
      clear hkl
      rcases (show ¬ (k : Int) < (L.length : Int) ∨ ((k : Int) < (L.length : Int) ∧ ¬ (k : Int) < 30) by have := HK.out; omega) with hka | ⟨hka, hkb⟩
      all_goals
        go_upto_region 19 with fail
        refine Vls.wp_region (by kernel_rfl) (Jx.JX (fun u => Below wr.heap.size wr u) (fun u => Below wr.heap.size wr u) 100 101 (fun _ _ => True) [(1, 0), (3, 2), (4, 1), (4, 3), (5, 4), (6, 5), (7, 5), (7, 6), (8, 7)] [.pointer (some ⟨g, 0, none⟩), .agg (R3 hs).toArray, .pointer (some ⟨bq, 0, none⟩), .agg (R3 hs).toArray, .bool true, .bool true, .bool true, .bool true, .bool true]) (by kernel_rfl) (fun _ => undef) (Jx.JX.start (P := fun u => Below wr.heap.size wr u) (Below.drew (Below.refl _ _)) _) ?_ ?_
        · refine ⟨?_, ?_, ?_, ?_, ?_, ?_, ?_, ?_, ?_, trivial⟩
          · intro s_ a_ u V hs0 hd hfr hpo hJ
            have f7 : a_.tmps.getD 7 undef = .pointer (some ⟨g, 0, none⟩) := hfr 7 (by kernel_rfl)
            refine .inl ⟨rfl, ?_⟩
            unfold Oper.wp
            rw [show (execOp a_.eval _).run Tryz.prog u = .ok (.value (.pointer (some ⟨g, 0, none⟩))) u from by simp [go_sem, Act.eval, f7]]
            exact ⟨_, rfl, hJ.stay 0 (by decide) (by decide) rfl rfl⟩
          · intro s_ a_ u V hs0 hd hfr hpo hJ
            have e0 : a_.tmps.getD 133 undef = .pointer (some ⟨g, 0, none⟩) := (hpo 0 133 (by kernel_rfl)).trans (hJ.get 0 (by decide) (by decide) (hd 0 (by kernel_rfl)) rfl)
            have hP := hJ.both
            refine .inl ⟨rfl, ?_⟩
            unfold Oper.wp
            rw [show (execOp a_.eval _).run Tryz.prog u = .ok (.enter 15 #[.pointer (some ⟨g, 0, none⟩)]) u from by simp [go_sem, Act.eval, e0]]
            refine Calls.mono (CH.out u hP) ?_
            rintro e u2 ⟨rfl, hb⟩
            exact ⟨_, rfl, hJ.step 1 (by decide) (by decide) (by show (s_ 0 && true) = true; rw [hd 0 (by kernel_rfl)]; rfl) (fun _ hP => hP.trans (hb.mono hP.size)) (fun _ hP => hP.trans (hb.mono hP.size)) (fun _ _ hR => hR) rfl⟩
          · intro s_ a_ u V hs0 hd hfr hpo hJ
            have f8 : a_.tmps.getD 8 undef = .pointer (some ⟨bq, 0, none⟩) := hfr 8 (by kernel_rfl)
            refine .inl ⟨rfl, ?_⟩
            unfold Oper.wp
            rw [show (execOp a_.eval _).run Tryz.prog u = .ok (.value (.pointer (some ⟨bq, 0, none⟩))) u from by simp [go_sem, Act.eval, f8]]
            exact ⟨_, rfl, hJ.stay 2 (by decide) (by decide) rfl rfl⟩
          · intro s_ a_ u V hs0 hd hfr hpo hJ
            have e2 : a_.tmps.getD 135 undef = .pointer (some ⟨bq, 0, none⟩) := (hpo 2 135 (by kernel_rfl)).trans (hJ.get 2 (by decide) (by decide) (hd 2 (by kernel_rfl)) rfl)
            have hP := hJ.both
            refine .inl ⟨rfl, ?_⟩
            exact wp_load_mid 23 (.tmp 135) rfl (bq) (0) e2 (R3 hs) _ ((IV.out.below hP BS.out).has3) Tryz.underlying23 rfl (by kernel_rfl) ⟨_, rfl, hJ.stay 3 (by decide) (by decide) (by show (s_ 2 && true) = true; rw [hd 2 (by kernel_rfl)]; rfl) rfl⟩
          · intro s_ a_ u V hs0 hd hfr hpo hJ
            have e1 : a_.tmps.getD 134 undef = .agg (R3 hs).toArray := (hpo 1 134 (by kernel_rfl)).trans (hJ.get 1 (by decide) (by decide) (hd 1 (by kernel_rfl)) rfl)
            have e3 : a_.tmps.getD 136 undef = .agg (R3 hs).toArray := (hpo 3 136 (by kernel_rfl)).trans (hJ.get 3 (by decide) (by decide) (hd 3 (by kernel_rfl)) rfl)
            refine .inl ⟨rfl, ?_⟩
            unfold Oper.wp
            rw [show (execOp a_.eval _).run Tryz.prog u = .ok (.value (.bool true)) u from by simp [go_sem, Act.eval, e1, e3, eqIn_self]]
            exact ⟨_, rfl, hJ.stay 4 (by decide) (by decide) (by show (s_ 1 && (s_ 3 && true)) = true; rw [hd 1 (by kernel_rfl), hd 3 (by kernel_rfl)]; rfl) rfl⟩
          · intro s_ a_ u V hs0 hd hfr hpo hJ
            have e4 : a_.tmps.getD 137 undef = .bool true := (hpo 4 137 (by kernel_rfl)).trans (hJ.get 4 (by decide) (by decide) (hd 4 (by kernel_rfl)) rfl)
            refine .inl ⟨rfl, ?_⟩
            unfold Oper.wp
            rw [show (execOp a_.eval _).run Tryz.prog u = .ok (.value (.bool true)) u from by simp [go_sem, Act.eval, e4]]
            exact ⟨_, rfl, hJ.stay 5 (by decide) (by decide) (by show (s_ 4 && true) = true; rw [hd 4 (by kernel_rfl)]; rfl) rfl⟩
          · intro s_ a_ u V hs0 hd hfr hpo hJ
            have e5 : a_.tmps.getD 138 undef = .bool true := (hpo 5 138 (by kernel_rfl)).trans (hJ.get 5 (by decide) (by decide) (hd 5 (by kernel_rfl)) rfl)
            have hP := hJ.both
            refine .inl ⟨Jx.wanted_of rfl rfl e5, ?_⟩
            unfold Oper.wp
            rw [show (execOp a_.eval _).run Tryz.prog u = .ok (.enter 9 #[]) u from by simp [go_sem, Act.eval, e5]]
            refine Calls.mono (CW.out u hP) ?_
            rintro e u2 ⟨rfl, hb⟩
            exact ⟨_, rfl, hJ.step 6 (by decide) (by decide) (by show (s_ 5 && true) = true; rw [hd 5 (by kernel_rfl)]; rfl) (fun _ hP => hP.trans (hb.mono hP.size)) (fun _ hP => hP.trans (hb.mono hP.size)) (fun _ _ hR => hR) rfl⟩
          · intro s_ a_ u V hs0 hd hfr hpo hJ
            have e5 : a_.tmps.getD 138 undef = .bool true := (hpo 5 138 (by kernel_rfl)).trans (hJ.get 5 (by decide) (by decide) (hd 5 (by kernel_rfl)) rfl)
            have e6 : a_.tmps.getD 139 undef = .bool true := (hpo 6 139 (by kernel_rfl)).trans (hJ.get 6 (by decide) (by decide) (hd 6 (by kernel_rfl)) rfl)
            refine .inl ⟨rfl, ?_⟩
            unfold Oper.wp
            rw [show (execOp a_.eval _).run Tryz.prog u = .ok (.value (.bool true)) u from by simp [go_sem, Act.eval, e5, e6]]
            exact ⟨_, rfl, hJ.stay 7 (by decide) (by decide) (by show (s_ 5 && (s_ 6 && true)) = true; rw [hd 5 (by kernel_rfl), hd 6 (by kernel_rfl)]; rfl) rfl⟩
          · intro s_ a_ u V hs0 hd hfr hpo hJ
            have e7 : a_.tmps.getD 140 undef = .bool true := (hpo 7 140 (by kernel_rfl)).trans (hJ.get 7 (by decide) (by decide) (hd 7 (by kernel_rfl)) rfl)
            refine .inl ⟨rfl, ?_⟩
            unfold Oper.wp
            rw [show (execOp a_.eval _).run Tryz.prog u = .ok (.value (.bool true)) u from by simp [go_sem, Act.eval, e7]]
            exact ⟨_, rfl, hJ.stay 8 (by decide) (by decide) (by show (s_ 7 && true) = true; rw [hd 7 (by kernel_rfl)]; rfl) rfl⟩
        · intro s_ V w5 hall hJ
          have e8 : V 8 = .bool true := hJ.get 8 (by decide) (by decide) (hall 8 (by decide)) rfl
          have B5 := Lib.hid (HWU w5 (hJ.both.mono BS.out))
          clear hall hJ
          simp only [Bxs.puts, Nat.reduceAdd, put_none, Re.put_lit, List.set_cons_succ, List.set_cons_zero]
          rw [e8]
          clear e8
          go_wp2
          go_ret
          exact ⟨rfl, B5.out⟩
end NodePlaysWalk
end Go.Proofs.YtbichomjpmmjmaaGreatDoor
