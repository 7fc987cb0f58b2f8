/-
  The walk of the law NodeBack: it returns true, and leaves all that was there as it was. Conditions: the acts and the spec can be read; the listed variables hold what the program's text lays (SLaid).
-/
import Derived.Test.YtbichomjpmmjmaaGreatDoorNb16
import Derived.Test.YtbichomjpmmjmaaGreatDoorNb9
import Derived.Test.YtbichomjpmmjmaaGreatDoorNb6
import Derived.Test.YtbichomjpmmjmaaGreatDoorNb2
set_option linter.unusedVariables false
set_option linter.unusedSimpArgs false
namespace Go.Proofs.YtbichomjpmmjmaaGreatDoor
open Go.ChangeShapes Go.WideShapes Go.ChangeAt Go.RowKit Go.Lib
open NumMath
namespace NodeBackWalk
open Re Nd Sd SpecOwn Nn
theorem eqIn_self (a : Rx) (w : World) : (Op.equalIn 10000 23 (.agg #[.int .i64 a.c, .int .i64 a.m, .int .i64 a.p]) (.agg #[.int .i64 a.c, .int .i64 a.m, .int .i64 a.p])).run Tryz.prog w = .ok true w := by rw [eqIn_res, eqR_self]
/-- the node at the head of a round: w1 the world ahead of it; the pod 1000 isn't there -/
structure Jv (B : Nat) (w1 v : World) (g : Nat) (hs : Rx) (l : Pods) (k : Nat) : Prop where
  nn : Nn B v g hs l
  no : isIn 1000 l = false
  n : l.length ≤ k
  bel : Below B w1 v
theorem Jv.below {B : Nat} {w1 v u : World} {g : Nat} {hs : Rx} {l : Pods} {k : Nat} (h : Jv B w1 v g hs l k) (hb : Below v.heap.size v u) (hB : B ≤ v.heap.size) : Jv B w1 u g hs l k := ⟨h.nn.below hb, h.no, h.n, h.bel.trans (hb.mono hB)⟩
theorem not_cut {l : Pods} {u : Int} (h : isIn 1000 l = false) : isIn 1000 (cut u l) = false := isIn_cut h
def bkF (l : Pods) (wz : Nat) (us : Rx) (g bs : Nat) (S7 : Value) (F : Int) (j : Nat) (s : Nat → Bool) (V : Nat → Value) (u : World) : Prop := match j with
  | 0 => V 0 = .pointer (some ⟨g, 0, none⟩)
  | 1 => V 1 = .agg (R3 us).toArray
  | 2 => V 2 = .pointer (some ⟨g, 0, none⟩)
  | 3 => ∃ (A : Option Addr) (c : Nat), V 3 = .slice A l.length c ∧ u.ownsRow 0 3 1 (.slice A l.length c) l.length ((l.map Pod.uid).map (Value.int .i64))
  | 4 => V 4 = .pointer (some ⟨g, 0, none⟩)
  | 5 => V 5 = S7
  | 6 => V 6 = .int .i64 F
  | 7 => ∃ (q : Nat) (X : Array Value), V 7 = .pointer (some ⟨q, 0, none⟩) ∧ wz ≤ q ∧ u.heap[q]? = some (.cells X 23 (0, 0)) ∧ X.size = 3
  | 8 => ∃ (q : Nat), V 7 = .pointer (some ⟨q, 0, none⟩) ∧ u.heap[q]? = some (.cells (R3 us).toArray 23 (0, 0))
  | 9 => V 9 = V 3
  | 10 => V 10 = .int .i64 F
  | _ => True
theorem bkF_loc (l : Pods) (wz : Nat) (us : Rx) (g bs : Nat) (S7 : Value) (F : Int) : Jx.Loc (bkF l wz us g bs S7 F) [(1, 0), (3, 2), (6, 4), (6, 5), (8, 7), (8, 1), (9, 3), (10, 6)] := fun j s V V' u hk h => match j, hk, h with
  | 0, hk, h => by
    show V' 0 = .pointer (some ⟨g, 0, none⟩)
    rw [hk 0 (.inl rfl)]
    exact h
  | 1, hk, h => by
    show V' 1 = .agg (R3 us).toArray
    rw [hk 1 (.inl rfl)]
    exact h
  | 2, hk, h => by
    show V' 2 = .pointer (some ⟨g, 0, none⟩)
    rw [hk 2 (.inl rfl)]
    exact h
  | 3, hk, h => by
    show ∃ (A : Option Addr) (c : Nat), V' 3 = .slice A l.length c ∧ u.ownsRow 0 3 1 (.slice A l.length c) l.length ((l.map Pod.uid).map (Value.int .i64))
    rw [hk 3 (.inl rfl)]
    exact h
  | 4, hk, h => by
    show V' 4 = .pointer (some ⟨g, 0, none⟩)
    rw [hk 4 (.inl rfl)]
    exact h
  | 5, hk, h => by
    show V' 5 = S7
    rw [hk 5 (.inl rfl)]
    exact h
  | 6, hk, h => by
    show V' 6 = .int .i64 F
    rw [hk 6 (.inl rfl)]
    exact h
  | 7, hk, h => by
    show ∃ (q : Nat) (X : Array Value), V' 7 = .pointer (some ⟨q, 0, none⟩) ∧ wz ≤ q ∧ u.heap[q]? = some (.cells X 23 (0, 0)) ∧ X.size = 3
    rw [hk 7 (.inl rfl)]
    exact h
  | 8, hk, h => by
    show ∃ (q : Nat), V' 7 = .pointer (some ⟨q, 0, none⟩) ∧ u.heap[q]? = some (.cells (R3 us).toArray 23 (0, 0))
    rw [hk 7 (.inr (by simp))]
    exact h
  | 9, hk, h => by
    show V' 9 = V' 3
    rw [hk 9 (.inl rfl), hk 3 (.inr (by simp))]
    exact h
  | 10, hk, h => by
    show V' 10 = .int .i64 F
    rw [hk 10 (.inl rfl)]
    exact h
  | n + 11, _, _ => trivial
theorem bkF_mono (l : Pods) (wz : Nat) (us : Rx) (g bs : Nat) (S7 : Value) (F : Int) : Jx.Mono (bkF l wz us g bs S7 F) := fun j s i V u u' hb h => match j, h with
  | 0, h => h
  | 1, h => h
  | 2, h => h
  | 3, h => by
    have hsk : ∀ k, (s k || k == i) = false → s k = false := fun k h => by cases hk : s k with
      | false => rfl
      | true => rw [hk] at h; cases h
    obtain ⟨A, c, h1, h2⟩ := h
    exact ⟨A, c, h1, Pt.owns_below h2 hb⟩
  | 4, h => h
  | 5, h => h
  | 6, h => h
  | 7, h => by
    have hsk : ∀ k, (s k || k == i) = false → s k = false := fun k h => by cases hk : s k with
      | false => rfl
      | true => rw [hk] at h; cases h
    obtain ⟨q, X, h1, h2, h3, h4⟩ := h
    exact ⟨q, X, h1, h2, (hb.block _ (lt_of_block h3)).trans h3, h4⟩
  | 8, h => by
    have hsk : ∀ k, (s k || k == i) = false → s k = false := fun k h => by cases hk : s k with
      | false => rfl
      | true => rw [hk] at h; cases h
    obtain ⟨q, h1, h2⟩ := h
    exact ⟨q, h1, (hb.block _ (lt_of_block h2)).trans h2⟩
  | 9, h => h
  | 10, h => h
  | n + 11, _ => trivial
theorem bkF_set {l : Pods} {wz : Nat} {us : Rx} {g bs : Nat} {S7 : Value} {F : Int} {u : World} {q : Nat} {X : Array Value} (hX : u.heap[q]? = some (.cells X 23 (0, 0))) (hXs : X.size = 3) {s s' : Nat → Bool} {V : Nat → Value} : ∀ {j : Nat}, j ≠ 8 → bkF l wz us g bs S7 F j s V u → bkF l wz us g bs S7 F j s' V (u.setCells q 0 (R3 us))
  | 0, _, h => h
  | 1, _, h => h
  | 2, _, h => h
  | 3, _, h => by
    obtain ⟨A, c, h1, h2⟩ := h
    exact ⟨A, c, h1, Pt.owns_of h2 fun r hr => (Back.far q (R3 us) 0 u).2.2.2.2 r fun e => by
      obtain ⟨_, cur, h3⟩ := Pt.owns_at h2 hr
      rw [e, hX] at h3
      injection h3 with h3
      injection h3 with _ h3 _
      exact absurd h3 (by decide)⟩
  | 4, _, h => h
  | 5, _, h => h
  | 6, _, h => h
  | 7, _, h => by
    obtain ⟨q', X', h1, h2, h3, h4⟩ := h
    by_cases e : q' = q
    · subst e; exact ⟨q', _, h1, h2, Back.st hX (by rw [hXs]; rfl), by simp⟩
    · exact ⟨q', X', h1, h2, ((Back.far q (R3 us) 0 u).2.2.2.2 _ e).trans h3, h4⟩
  | 8, _, h => absurd rfl ‹8 ≠ 8›
  | 9, _, h => h
  | 10, _, h => h
  | n + 11, _, _ => trivial
def bzF (l : Pods) (us : Rx) (g bs : Nat) (S7 row : Value) (F : Int) (j : Nat) (s : Nat → Bool) (V : Nat → Value) (u : World) : Prop := match j with
  | 0 => V 0 = .pointer (some ⟨g, 0, none⟩)
  | 1 => V 1 = .agg (R3 us).toArray
  | 2 => V 2 = .agg (R3 us).toArray
  | 3 => V 3 = .bool true
  | 4 => V 4 = .bool true
  | 5 => V 5 = .pointer (some ⟨g, 0, none⟩)
  | 6 => ∃ (A2 : Option Addr) (c2 : Nat), V 6 = .slice A2 l.length c2 ∧ u.ownsRow 0 3 1 (.slice A2 l.length c2) l.length ((l.map Pod.uid).map (Value.int .i64))
  | 7 => V 7 = row
  | 8 => V 8 = .bool true
  | 9 => V 9 = .bool true
  | 10 => V 10 = .bool true
  | 11 => V 11 = .pointer (some ⟨g, 0, none⟩)
  | 12 => V 12 = S7
  | 13 => V 13 = .int .i64 F
  | 14 => V 14 = .int .i64 F
  | 15 => V 15 = .bool true
  | 16 => V 16 = .bool true
  | 17 => V 17 = .bool true
  | _ => True
theorem bzF_loc (l : Pods) (us : Rx) (g bs : Nat) (S7 row : Value) (F : Int) : Jx.Loc (bzF l us g bs S7 row F) [(1, 0), (3, 1), (3, 2), (4, 3), (5, 4), (6, 5), (6, 4), (7, 4), (8, 6), (8, 7), (8, 4), (9, 4), (9, 8), (10, 9), (11, 10), (12, 10), (13, 11), (13, 12), (13, 10), (14, 10), (15, 13), (15, 14), (15, 10), (16, 10), (16, 15), (17, 16)] := fun j s V V' u hk h => match j, hk, h with
  | 0, hk, h => by
    show V' 0 = .pointer (some ⟨g, 0, none⟩)
    rw [hk 0 (.inl rfl)]
    exact h
  | 1, hk, h => by
    show V' 1 = .agg (R3 us).toArray
    rw [hk 1 (.inl rfl)]
    exact h
  | 2, hk, h => by
    show V' 2 = .agg (R3 us).toArray
    rw [hk 2 (.inl rfl)]
    exact h
  | 3, hk, h => by
    show V' 3 = .bool true
    rw [hk 3 (.inl rfl)]
    exact h
  | 4, hk, h => by
    show V' 4 = .bool true
    rw [hk 4 (.inl rfl)]
    exact h
  | 5, hk, h => by
    show V' 5 = .pointer (some ⟨g, 0, none⟩)
    rw [hk 5 (.inl rfl)]
    exact h
  | 6, hk, h => by
    show ∃ (A2 : Option Addr) (c2 : Nat), V' 6 = .slice A2 l.length c2 ∧ u.ownsRow 0 3 1 (.slice A2 l.length c2) l.length ((l.map Pod.uid).map (Value.int .i64))
    rw [hk 6 (.inl rfl)]
    exact h
  | 7, hk, h => by
    show V' 7 = row
    rw [hk 7 (.inl rfl)]
    exact h
  | 8, hk, h => by
    show V' 8 = .bool true
    rw [hk 8 (.inl rfl)]
    exact h
  | 9, hk, h => by
    show V' 9 = .bool true
    rw [hk 9 (.inl rfl)]
    exact h
  | 10, hk, h => by
    show V' 10 = .bool true
    rw [hk 10 (.inl rfl)]
    exact h
  | 11, hk, h => by
    show V' 11 = .pointer (some ⟨g, 0, none⟩)
    rw [hk 11 (.inl rfl)]
    exact h
  | 12, hk, h => by
    show V' 12 = S7
    rw [hk 12 (.inl rfl)]
    exact h
  | 13, hk, h => by
    show V' 13 = .int .i64 F
    rw [hk 13 (.inl rfl)]
    exact h
  | 14, hk, h => by
    show V' 14 = .int .i64 F
    rw [hk 14 (.inl rfl)]
    exact h
  | 15, hk, h => by
    show V' 15 = .bool true
    rw [hk 15 (.inl rfl)]
    exact h
  | 16, hk, h => by
    show V' 16 = .bool true
    rw [hk 16 (.inl rfl)]
    exact h
  | 17, hk, h => by
    show V' 17 = .bool true
    rw [hk 17 (.inl rfl)]
    exact h
  | n + 18, _, _ => trivial
theorem bzF_mono (l : Pods) (us : Rx) (g bs : Nat) (S7 row : Value) (F : Int) : Jx.Mono (bzF l us g bs S7 row F) := fun j s i V u u' hb h => match j, h with
  | 0, h => h
  | 1, h => h
  | 2, h => h
  | 3, h => h
  | 4, h => h
  | 5, h => h
  | 6, h => by
    have hsk : ∀ k, (s k || k == i) = false → s k = false := fun k h => by cases hk : s k with
      | false => rfl
      | true => rw [hk] at h; cases h
    obtain ⟨A, c, h1, h2⟩ := h
    exact ⟨A, c, h1, Pt.owns_below h2 hb⟩
  | 7, h => h
  | 8, h => h
  | 9, h => h
  | 10, h => h
  | 11, h => h
  | 12, h => h
  | 13, h => h
  | 14, h => h
  | 15, h => h
  | 16, h => h
  | 17, h => h
  | n + 18, _ => trivial
set_option maxRecDepth 100000 in
set_option maxHeartbeats 16000000 in
theorem walk (x0 : Rx) (h0 : x0.Ok) (A1 : Option Addr) (c1 : Nat) (L : List Na) (S : Spc) (LA : Option Addr) (lc : Nat) (IA : Option Addr) (ic : Nat) (MA : Option Addr) (mc : Nat) (w : World) (hSL : SLaid w) (hA : NActs w A1 L) (hn : L.length ≤ 9223372036854775807) (hS : S.In w LA lc IA ic MA mc) :
    Calls Tryz.prog 5 #[.agg (R3 x0).toArray, .slice A1 L.length c1, .agg ([.string S.name, .slice LA S.labels.length lc, .slice IA S.init.length ic, .slice MA S.main.length mc, .int .i64 S.restart, .int .i64 S.grace, .int .i64 S.prio] : List Value).toArray] w fun e w' => e = .returned (.bool true) ∧ Below w.heap.size w w' := by
  have HSL := Lib.hid hSL
  have HA := Lib.hid hA
  have HS := Lib.hid hS
  have hn' : (L.length : Int) ≤ 9223372036854775807 := by omega
  obtain ⟨w0, hw0⟩ : ∃ v, (w.alloc (.cells (R3 x0).toArray 23)).alloc (.cells ([.string S.name, .slice LA S.labels.length lc, .slice IA S.init.length ic, .slice MA S.main.length mc, .int .i64 S.restart, .int .i64 S.grace, .int .i64 S.prio] : List Value).toArray 35) = v := ⟨_, rfl⟩
  have R0 := Lib.hid (show w0.heap[w.heap.size]? = some (.cells (R3 x0).toArray 23 (0, 0)) by rw [← hw0, Below.heap_alloc _ _ _ (by simp)]; exact heap_alloc_new w _)
  have S0 := Lib.hid (show w0.heap[w.heap.size + 1]? = some (.cells ([.string S.name, .slice LA S.labels.length lc, .slice IA S.init.length ic, .slice MA S.main.length mc, .int .i64 S.restart, .int .i64 S.grace, .int .i64 S.prio] : List Value).toArray 35 (0, 0)) by rw [← hw0]; have := heap_alloc_new (w.alloc (.cells (R3 x0).toArray 23)) (.cells ([.string S.name, .slice LA S.labels.length lc, .slice IA S.init.length ic, .slice MA S.main.length mc, .int .i64 S.restart, .int .i64 S.grace, .int .i64 S.prio] : List Value).toArray 35); rw [World.size_alloc] at this; exact this)
  have B0 := Lib.hid (show Below w.heap.size w w0 by rw [← hw0]; go_grown)
  clear hSL hA hn hS
  go_enter Tryz.func5, Tryz.ntmps5
  go_wp2_with fail
  clear hw0
  refine (works_any w0 (HSL.out.below B0.out)).mono ?_
  rintro e w1 ⟨rfl, hb1⟩
  have B1 := Lib.hid (B0.out.trans (hb1.mono B0.out.size))
  have R1 := Lib.hid ((hb1.block _ (lt_of_block R0.out)).trans R0.out)
  have S1 := Lib.hid ((hb1.block _ (lt_of_block S0.out)).trans S0.out)
  have RR := Lib.hid (range_box R1.out)
  clear hb1 R0 S0 B0
  go_wp2_with (first | (refine wpList_load_mid rfl 23 _ rfl _ _ rfl _ _ RR.out Tryz.underlying23 rfl (by kernel_rfl) ?_))
  have CN := new_any x0 h0 w1
  obtain ⟨hs, hhs⟩ : ∃ hs, maxR x0 z3 = hs := ⟨_, rfl⟩
  obtain ⟨B, hB⟩ : ∃ B, w1.heap.size = B := ⟨_, rfl⟩
  obtain ⟨bs, hbs⟩ : ∃ b, w.heap.size + 1 = b := ⟨_, rfl⟩
  have WB := Lib.hid (show w.heap.size ≤ B by rw [← hB]; exact B1.out.size)
  have HB := Lib.hid hB
  have HBS := Lib.hid hbs
  rw [hbs] at S1
  have SB := Lib.hid (show bs < B by rw [← hB]; exact lt_of_block S1.out)
  rw [hhs] at CN
  refine (show Calls Tryz.prog 6 #[.agg (R3 x0).toArray] w1 _ from CN).mono ?_
  rintro e w2 ⟨g, rfl, hN, hb2⟩
  rw [hB] at hN
  have JV0 := Lib.hid (show Jv B w1 w2 g hs [] 0 from ⟨hN, rfl, Nat.le_refl _, by rw [← hB]; exact hb2⟩)
  have BS0 := Lib.hid (show B ≤ w2.heap.size by rw [← hB]; exact hb2.size)
  have HWU : ∀ u, Below B w2 u → Below w.heap.size w u := fun u hu => B1.out.trans ((JV0.out.bel.trans hu).mono WB.out)
  have RSB0 := Lib.hid (show ∀ u, Below B w2 u → u.rangeAt bs 0 ([.string S.name, .slice LA S.labels.length lc, .slice IA S.init.length ic, .slice MA S.main.length mc, .int .i64 S.restart, .int .i64 S.grace, .int .i64 S.prio]) from fun u hu => range_box (((JV0.out.bel.trans hu).block bs SB.out).trans S1.out))
  simp only [HBS.out]
  clear hN CN hhs hB hbs hb2 R1 RR
  have c0 : w2.cell? ⟨bs, 0, none⟩ = some (.string S.name) := RSB0.out w2 (Below.refl _ _) 0 _ rfl
  have c1_ : w2.cell? ⟨bs, 1, none⟩ = some (.slice LA S.labels.length lc) := RSB0.out w2 (Below.refl _ _) 1 _ rfl
  have c2 : w2.cell? ⟨bs, 2, none⟩ = some (.slice IA S.init.length ic) := RSB0.out w2 (Below.refl _ _) 2 _ rfl
  have c3 : w2.cell? ⟨bs, 3, none⟩ = some (.slice MA S.main.length mc) := RSB0.out w2 (Below.refl _ _) 3 _ rfl
  have c4 : w2.cell? ⟨bs, 4, none⟩ = some (.int .i64 S.restart) := RSB0.out w2 (Below.refl _ _) 4 _ rfl
  have c5 : w2.cell? ⟨bs, 5, none⟩ = some (.int .i64 S.grace) := RSB0.out w2 (Below.refl _ _) 5 _ rfl
  have c6 : w2.cell? ⟨bs, 6, none⟩ = some (.int .i64 S.prio) := RSB0.out w2 (Below.refl _ _) 6 _ rfl
  have CLS := Book.light_any S LA lc IA ic MA mc w2 (HS.out.below (HWU w2 (Below.refl _ _)))
  cases hl : Book.LightB S with
  | false =>
    rw [hl] at CLS
    go_wp2_with (first | (go_at_call 8; refine CLS.mono ?_; clear CLS; rintro e w3 ⟨rfl, hb3⟩; have B3 := Lib.hid (HWU w3 (hb3.mono BS0.out)); clear hb3))
    go_ret
    exact ⟨rfl, B3.out⟩
  | true =>
  have HLS := Lib.hid (Book.LightB_iff.1 hl)
  rw [hl] at CLS
  go_wp2_with (first | (go_at_call 8; refine CLS.mono ?_; clear CLS; rintro e w3 ⟨rfl, hb3⟩; have JV3 := Lib.hid (JV0.out.below hb3 BS0.out); have BS3 := Lib.hid (Nat.le_trans BS0.out hb3.size); clear hb3))
  clear hl HWU JV0 BS0 RSB0 c0 c1_ c2 c3 c4 c5 c6
  go_loopw [8] (fun i wr => ∃ (k : Nat) (l : Pods), k ≤ L.length ∧ k ≤ 30 ∧ i = .int .i64 k ∧ Hid (Jv B w1 wr g hs l k) ∧ Hid (B ≤ wr.heap.size)) (fun i _ => 30 - (RowKit.intOf i).toNat)
  case atStart => exact ⟨0, [], Nat.zero_le _, by omega, rfl, JV3.out, BS3.out⟩
  case round =>
    clear JV3 BS3
    obtain ⟨k, l, hk, hk30, rfl, JV, BS⟩ := hrel
    have HWU : ∀ u, Below B wr u → Below w.heap.size w u := fun u hu => B1.out.trans ((JV.out.bel.trans hu).mono WB.out)
    by_cases hkl : k < L.length ∧ k < 30
    · obtain ⟨hkl, hk3⟩ := hkl
      have hkb : (k : Int) < 30 := by omega
      obtain ⟨x, hxk⟩ : ∃ x, L[k]? = some x := ⟨_, List.getElem?_eq_getElem (by omega)⟩
      obtain ⟨r, o, rfl, hra, hrg⟩ := HA.out.cells k x hxk
      have HXO := Lib.hid (HA.out.ok x (List.mem_of_getElem? hxk))
      have RGA := Lib.hid (show ∀ u, Below w.heap.size w u → u.rangeAt r (o + k * 9) x.vals from fun u hu j v hv => (World.cell?_of_block (hu.block r hra)).trans (hrg j v hv))
      have RGS := Lib.hid (show ∀ u, Below w.heap.size w u → u.rangeAt r (o + k * 9 + 2) [.string x.S.name, .slice x.LA x.S.labels.length x.lc, .slice x.IA x.S.init.length x.ic, .slice x.MA x.S.main.length x.mc, .int .i64 x.S.restart, .int .i64 x.S.grace, .int .i64 x.S.prio] from fun u hu => Na.spec_at (RGA.out u hu))
      have eat : (⟨r, o, none⟩ : Addr).add (k * 9) = ⟨r, o + k * 9, none⟩ := by unfold Addr.add; split <;> simp_all
      have hk0 : (0 : Int) ≤ (k : Int) := by omega
      have hka : (k : Int) < (L.length : Int) := by omega
      clear hxk hra hrg
      have RS := Lib.hid (RGS.out wr (HWU wr (Below.refl _ _)))
      have HSX := Lib.hid (HXO.out.1.below (HWU wr (Below.refl _ _)))
      have CLX := Book.light_any x.S x.LA x.lc x.IA x.ic x.MA x.mc wr HSX.out
      cases hl : Book.LightB x.S with
      | false =>
        rw [hl] at CLX
        go_wp2_with (first | (refine wpList_load_mid rfl 35 _ rfl _ _ rfl _ _ RS.out Tryz.underlying35 rfl (by kernel_rfl) ?_) | (go_at_call 8; refine CLX.mono ?_; clear CLX; rintro e wl ⟨rfl, hbl⟩; have BE := Lib.hid (HWU wl (hbl.mono BS.out)); clear hbl))
        go_ret
        exact ⟨rfl, BE.out⟩
      | true =>
        have HLX := Lib.hid (Book.LightB_iff.1 hl)
        rw [hl] at CLX
        go_wp2_with (first | (refine wpList_load_mid rfl 35 _ rfl _ _ rfl _ _ RS.out Tryz.underlying35 rfl (by kernel_rfl) ?_))
        refine CLX.mono ?_
        clear CLX
        rintro e wl ⟨rfl, hbl⟩
        have JVl := Lib.hid (JV.out.below hbl BS.out)
        have BSl := Lib.hid (Nat.le_trans BS.out hbl.size)
        clear hbl JV BS HWU RS HSX hl wr
        obtain ⟨wr, hwr⟩ : ∃ v, wl = v := ⟨_, rfl⟩
        rw [hwr] at JVl BSl ⊢
        clear hwr wl
        have JV := Lib.hid JVl.out
        have BS := Lib.hid BSl.out
        clear JVl BSl
        have HWU : ∀ u, Below B wr u → Below w.heap.size w u := fun u hu => B1.out.trans ((JV.out.bel.trans hu).mono WB.out)
        have k0 : wr.cell? ⟨r, o + k * 9, none⟩ = some (.int .i64 x.kind) := RGA.out wr (HWU wr (Below.refl _ _)) 0 _ rfl
        have k1 : wr.cell? ⟨r, o + k * 9 + 1, none⟩ = some (.int .i64 x.uid) := RGA.out wr (HWU wr (Below.refl _ _)) 1 _ rfl
        by_cases hk1 : x.kind = 1
        · have hkk : (x.kind == 1) = true := by simp [hk1]
          have CA := Lib.hid (release_any x.uid wr JV.out.nn)
          obtain ⟨F, hF⟩ : ∃ F, relC l x.uid = F := ⟨_, rfl⟩
          rw [hF] at CA
          clear hk1 hF
          go_wp2_with (first | (go_at_call 23; refine CA.out.mono ?_; rintro e w5 ⟨rfl, hn5, hk5⟩; have N5 := Lib.hid hn5; have K5 := Lib.hid hk5; clear hn5 hk5))
          go_roundw
          case rel => exact ⟨k + 1, cut x.uid l, by omega, by omega, by go_num, ⟨N5.out, not_cut JV.out.no, by have := cut_le x.uid l; have := JV.out.n; omega, JV.out.bel.trans (K5.out.below BS.out (Nat.le_refl _))⟩, Nat.le_trans BS.out K5.out.size⟩
          case measure => simp [RowKit.intOf]; omega
        · have hkk : (x.kind == 1) = false := by simpa using hk1
          clear hk1
          by_cases hu : x.uid = 1000
          · have huu : (x.uid == 1000) = true := by simp [hu]
            clear hu
            go_wp2_with fail
            go_roundw
            case rel => exact ⟨k + 1, l, by omega, by omega, by go_num, ⟨JV.out.nn, JV.out.no, by have := JV.out.n; omega, JV.out.bel⟩, BS.out⟩
            case measure => simp [RowKit.intOf]; omega
          · have huu : (x.uid == 1000) = false := by simpa using hu
            have HUN := Lib.hid hu
            clear hu
            go_upto_region 14 with fail
            clear k0 k1
            refine Vls.wp_region (by kernel_rfl) (Jx.JX (fun u => Below wr.heap.size wr u) (fun u => Nn B u g hs (admL hs l x.uid (askS x.S)) ∧ Kn B wr u) 11 101 (fun _ _ => True) [(3, 1), (3, 2), (4, 3), (5, 4), (8, 6), (8, 7), (9, 8), (10, 9), (11, 0), (11, 5), (11, 10)] [.pointer (some ⟨g, 0, none⟩), .slice (some ⟨r, o, none⟩) L.length c1, .int .i64 k, .pointer (some ⟨r, o + k * 9, none⟩), .pointer (some ⟨r, o + k * 9 + 1, none⟩), .int .i64 x.uid, .slice (some ⟨r, o, none⟩) L.length c1, .int .i64 k, .pointer (some ⟨r, o + k * 9, none⟩), .pointer (some ⟨r, o + k * 9 + 2, none⟩), .agg ([.string x.S.name, .slice x.LA x.S.labels.length x.lc, .slice x.IA x.S.init.length x.ic, .slice x.MA x.S.main.length x.mc, .int .i64 x.S.restart, .int .i64 x.S.grace, .int .i64 x.S.prio] : List Value).toArray, undef]) (by kernel_rfl) (fun _ => undef) (Jx.JX.start (P := fun u => Below wr.heap.size wr u) (Below.drew (Below.refl _ _)) _) ?_ ?_
            · refine ⟨?_, ?_, ?_, ?_, ?_, ?_, ?_, ?_, ?_, ?_, ?_, ?_, trivial⟩
              · intro s_ a_ u V hs hd hfr hpo hJ
                have f7 : a_.tmps.getD 7 undef = .pointer (some ⟨g, 0, none⟩) := hfr 7 (by kernel_rfl)
                refine .inl ⟨rfl, ?_⟩
                unfold Oper.wp
                rw [show (execOp a_.eval _).run Tryz.prog u = .ok (.value (.pointer (some ⟨g, 0, none⟩))) u from by simp [go_sem, Act.eval, f7]]
                exact ⟨_, rfl, hJ.stay 0 (by decide) (by decide) rfl rfl⟩
              · intro s_ a_ u V hs hd hfr hpo hJ
                have f1 : a_.tmps.getD 1 undef = .slice (some ⟨r, o, none⟩) L.length c1 := hfr 1 (by kernel_rfl)
                refine .inl ⟨rfl, ?_⟩
                unfold Oper.wp
                rw [show (execOp a_.eval _).run Tryz.prog u = .ok (.value (.slice (some ⟨r, o, none⟩) L.length c1)) u from by simp [go_sem, Act.eval, f1]]
                exact ⟨_, rfl, hJ.stay 1 (by decide) (by decide) rfl rfl⟩
              · intro s_ a_ u V hs hd hfr hpo hJ
                have f8 : a_.tmps.getD 8 undef = .int .i64 k := hfr 8 (by kernel_rfl)
                refine .inl ⟨rfl, ?_⟩
                unfold Oper.wp
                rw [show (execOp a_.eval _).run Tryz.prog u = .ok (.value (.int .i64 k)) u from by simp [go_sem, Act.eval, f8]]
                exact ⟨_, rfl, hJ.stay 2 (by decide) (by decide) rfl rfl⟩
              · intro s_ a_ u V hs hd hfr hpo hJ
                have e1 : a_.tmps.getD 63 undef = .slice (some ⟨r, o, none⟩) L.length c1 := (hpo 1 63 (by kernel_rfl)).trans (hJ.get 1 (by decide) (by decide) (hd 1 (by kernel_rfl)) rfl)
                have e2 : a_.tmps.getD 64 undef = .int .i64 k := (hpo 2 64 (by kernel_rfl)).trans (hJ.get 2 (by decide) (by decide) (hd 2 (by kernel_rfl)) rfl)
                refine .inl ⟨rfl, ?_⟩
                unfold Oper.wp
                rw [show (execOp a_.eval _).run Tryz.prog u = .ok (.value (.pointer (some ⟨r, o + k * 9, none⟩))) u from by simp [go_sem, Act.eval, e1, e2, hk0, hka, eat]]
                exact ⟨_, rfl, hJ.stay 3 (by decide) (by decide) (by show (s_ 1 && (s_ 2 && true)) = true; rw [hd 1 (by kernel_rfl), hd 2 (by kernel_rfl)]; rfl) rfl⟩
              · intro s_ a_ u V hs hd hfr hpo hJ
                have e3 : a_.tmps.getD 65 undef = .pointer (some ⟨r, o + k * 9, none⟩) := (hpo 3 65 (by kernel_rfl)).trans (hJ.get 3 (by decide) (by decide) (hd 3 (by kernel_rfl)) rfl)
                refine .inl ⟨rfl, ?_⟩
                unfold Oper.wp
                rw [show (execOp a_.eval _).run Tryz.prog u = .ok (.value (.pointer (some ⟨r, o + k * 9 + 1, none⟩))) u from by simp [go_sem, Act.eval, e3]]
                exact ⟨_, rfl, hJ.stay 4 (by decide) (by decide) (by show (s_ 3 && true) = true; rw [hd 3 (by kernel_rfl)]; rfl) rfl⟩
              · intro s_ a_ u V hs hd hfr hpo hJ
                have e4 : a_.tmps.getD 66 undef = .pointer (some ⟨r, o + k * 9 + 1, none⟩) := (hpo 4 66 (by kernel_rfl)).trans (hJ.get 4 (by decide) (by decide) (hd 4 (by kernel_rfl)) rfl)
                have hn_ : s_ 11 = false := (hJ.back 11 (by simp) hs)
                have hP := hJ.pre hn_
                refine .inl ⟨rfl, ?_⟩
                have cx0 := RGA.out u (HWU u (hP.mono BS.out)) 1 _ rfl
                unfold Oper.wp
                rw [show (execOp a_.eval _).run Tryz.prog u = .ok (.value (.int .i64 x.uid)) u from by simp [go_sem, Act.eval, e4, cx0]]
                exact ⟨_, rfl, hJ.stay 5 (by decide) (by decide) (by show (s_ 4 && true) = true; rw [hd 4 (by kernel_rfl)]; rfl) rfl⟩
              · intro s_ a_ u V hs hd hfr hpo hJ
                have f1 : a_.tmps.getD 1 undef = .slice (some ⟨r, o, none⟩) L.length c1 := hfr 1 (by kernel_rfl)
                refine .inl ⟨rfl, ?_⟩
                unfold Oper.wp
                rw [show (execOp a_.eval _).run Tryz.prog u = .ok (.value (.slice (some ⟨r, o, none⟩) L.length c1)) u from by simp [go_sem, Act.eval, f1]]
                exact ⟨_, rfl, hJ.stay 6 (by decide) (by decide) rfl rfl⟩
              · intro s_ a_ u V hs hd hfr hpo hJ
                have f8 : a_.tmps.getD 8 undef = .int .i64 k := hfr 8 (by kernel_rfl)
                refine .inl ⟨rfl, ?_⟩
                unfold Oper.wp
                rw [show (execOp a_.eval _).run Tryz.prog u = .ok (.value (.int .i64 k)) u from by simp [go_sem, Act.eval, f8]]
                exact ⟨_, rfl, hJ.stay 7 (by decide) (by decide) rfl rfl⟩
              · intro s_ a_ u V hs hd hfr hpo hJ
                have e6 : a_.tmps.getD 68 undef = .slice (some ⟨r, o, none⟩) L.length c1 := (hpo 6 68 (by kernel_rfl)).trans (hJ.get 6 (by decide) (by decide) (hd 6 (by kernel_rfl)) rfl)
                have e7 : a_.tmps.getD 69 undef = .int .i64 k := (hpo 7 69 (by kernel_rfl)).trans (hJ.get 7 (by decide) (by decide) (hd 7 (by kernel_rfl)) rfl)
                refine .inl ⟨rfl, ?_⟩
                unfold Oper.wp
                rw [show (execOp a_.eval _).run Tryz.prog u = .ok (.value (.pointer (some ⟨r, o + k * 9, none⟩))) u from by simp [go_sem, Act.eval, e6, e7, hk0, hka, eat]]
                exact ⟨_, rfl, hJ.stay 8 (by decide) (by decide) (by show (s_ 6 && (s_ 7 && true)) = true; rw [hd 6 (by kernel_rfl), hd 7 (by kernel_rfl)]; rfl) rfl⟩
              · intro s_ a_ u V hs hd hfr hpo hJ
                have e8 : a_.tmps.getD 70 undef = .pointer (some ⟨r, o + k * 9, none⟩) := (hpo 8 70 (by kernel_rfl)).trans (hJ.get 8 (by decide) (by decide) (hd 8 (by kernel_rfl)) rfl)
                refine .inl ⟨rfl, ?_⟩
                unfold Oper.wp
                rw [show (execOp a_.eval _).run Tryz.prog u = .ok (.value (.pointer (some ⟨r, o + k * 9 + 2, none⟩))) u from by simp [go_sem, Act.eval, e8]]
                exact ⟨_, rfl, hJ.stay 9 (by decide) (by decide) (by show (s_ 8 && true) = true; rw [hd 8 (by kernel_rfl)]; rfl) rfl⟩
              · intro s_ a_ u V hs hd hfr hpo hJ
                have e9 : a_.tmps.getD 71 undef = .pointer (some ⟨r, o + k * 9 + 2, none⟩) := (hpo 9 71 (by kernel_rfl)).trans (hJ.get 9 (by decide) (by decide) (hd 9 (by kernel_rfl)) rfl)
                have hn_ : s_ 11 = false := (hJ.back 11 (by simp) hs)
                have hP := hJ.pre hn_
                refine .inl ⟨rfl, ?_⟩
                exact wp_load_mid 35 (.tmp 71) rfl (r) ((o + k * 9 + 2)) e9 [.string x.S.name, .slice x.LA x.S.labels.length x.lc, .slice x.IA x.S.init.length x.ic, .slice x.MA x.S.main.length x.mc, .int .i64 x.S.restart, .int .i64 x.S.grace, .int .i64 x.S.prio] _ (RGS.out u (HWU u (hP.mono BS.out))) Tryz.underlying35 rfl (by kernel_rfl) ⟨_, rfl, hJ.stay 10 (by decide) (by decide) (by show (s_ 9 && true) = true; rw [hd 9 (by kernel_rfl)]; rfl) rfl⟩
              · intro s_ a_ u V hs hd hfr hpo hJ
                have e0 : a_.tmps.getD 62 undef = .pointer (some ⟨g, 0, none⟩) := (hpo 0 62 (by kernel_rfl)).trans (hJ.get 0 (by decide) (by decide) (hd 0 (by kernel_rfl)) rfl)
                have e5 : a_.tmps.getD 67 undef = .int .i64 x.uid := (hpo 5 67 (by kernel_rfl)).trans (hJ.get 5 (by decide) (by decide) (hd 5 (by kernel_rfl)) rfl)
                have e10 : a_.tmps.getD 72 undef = .agg ([.string x.S.name, .slice x.LA x.S.labels.length x.lc, .slice x.IA x.S.init.length x.ic, .slice x.MA x.S.main.length x.mc, .int .i64 x.S.restart, .int .i64 x.S.grace, .int .i64 x.S.prio] : List Value).toArray := (hpo 10 72 (by kernel_rfl)).trans (hJ.get 10 (by decide) (by decide) (hd 10 (by kernel_rfl)) rfl)
                have hn_ : s_ 11 = false := hs
                have hP := hJ.pre hn_
                refine .inl ⟨rfl, ?_⟩
                unfold Oper.wp
                rw [show (execOp a_.eval _).run Tryz.prog u = .ok (.enter 21 #[.pointer (some ⟨g, 0, none⟩), .int .i64 x.uid, .agg ([.string x.S.name, .slice x.LA x.S.labels.length x.lc, .slice x.IA x.S.init.length x.ic, .slice x.MA x.S.main.length x.mc, .int .i64 x.S.restart, .int .i64 x.S.grace, .int .i64 x.S.prio] : List Value).toArray]) u from by simp [go_sem, Act.eval, e0, e5, e10]]
                refine Calls.mono (admit_any x.uid x.S x.LA x.lc x.IA x.ic x.MA x.mc HXO.out.2.2.2 HLX.out u (JV.out.nn.below hP) (HSL.out.below (HWU u (hP.mono BS.out))) (fun v hv => HXO.out.1.below ((HWU u (hP.mono BS.out)).trans (hv.below (HWU u (hP.mono BS.out)).size WB.out)))) ?_
                rintro e u2 ⟨rfl, hn2, hk2⟩
                exact ⟨_, rfl, hJ.fire (by show (s_ 0 && (s_ 5 && (s_ 10 && true))) = true; rw [hd 0 (by kernel_rfl), hd 5 (by kernel_rfl), hd 10 (by kernel_rfl)]; rfl) ⟨hn2, (Kn.of_below hP).trans hk2⟩ _⟩
            · intro s_ V w5 hall hJ
              obtain ⟨hn5, hk5⟩ := hJ.post (hall 11 (by decide))
              have N5 := Lib.hid hn5
              have K5 := Lib.hid hk5
              clear hall hJ hn5 hk5
              simp only [Bxs.puts, Nat.reduceAdd, put_none, Re.put_lit, List.set_cons_succ, List.set_cons_zero]
              go_wp2
              go_roundw
              case rel => exact ⟨k + 1, _, by omega, by omega, by go_num, ⟨N5.out, isIn_adm JV.out.no HUN.out, by have := adm_length hs l x.uid (askS x.S); have := JV.out.n; omega, JV.out.bel.trans (K5.out.below BS.out (Nat.le_refl _))⟩, Nat.le_trans BS.out K5.out.size⟩
              case measure => simp [RowKit.intOf]; omega
    · have HK30 := Lib.hid hk30
      obtain ⟨us, hus⟩ : ∃ us, usedR l = us := ⟨_, rfl⟩
      obtain ⟨F, hF⟩ : ∃ F, fitC hs l (askS S) = F := ⟨_, rfl⟩
      have HSU := Lib.hid (show ∀ u, Below B wr u → S.In u LA lc IA ic MA mc from fun u hu => HS.out.below (HWU u hu))
      have RSB := Lib.hid (show ∀ u, Below wr.heap.size wr u → u.rangeAt bs 0 ([.string S.name, .slice LA S.labels.length lc, .slice IA S.init.length ic, .slice MA S.main.length mc, .int .i64 S.restart, .int .i64 S.grace, .int .i64 S.prio]) from fun u hu => range_box (((JV.out.bel.trans (hu.mono BS.out)).block bs SB.out).trans S1.out))
      have CU := Lib.hid (show ∀ u, Below wr.heap.size wr u → Calls Tryz.prog 13 #[.pointer (some ⟨g, 0, none⟩)] u (Told1 us u) from fun u hu => by rw [← hus]; exact used_any u (JV.out.nn.below hu))
      have CF := Lib.hid (show ∀ u, Below wr.heap.size wr u → Calls Tryz.prog 24 #[.pointer (some ⟨g, 0, none⟩), .agg ([.string S.name, .slice LA S.labels.length lc, .slice IA S.init.length ic, .slice MA S.main.length mc, .int .i64 S.restart, .int .i64 S.grace, .int .i64 S.prio] : List Value).toArray] u (fun e w' => e = .returned (.int .i64 F) ∧ Below u.heap.size u w') from fun u hu => by rw [← hF]; exact fits_any S LA lc IA ic MA mc HLS.out u (JV.out.nn.below hu) (HSL.out.below (HWU u (hu.mono BS.out))) (HSU.out u (hu.mono BS.out)))
      have HF := Lib.hid hF
      have HUS := Lib.hid hus
      have HK := Lib.hid hkl
      clear hkl hus hF
      rcases (show ¬ (k : Int) < (L.length : Int) ∨ ((k : Int) < (L.length : Int) ∧ ¬ (k : Int) < 30) by have := HK.out; omega) with hka | ⟨hka, hkb⟩
      all_goals
        go_upto_region 15 with fail
        refine Vls.wp_region (by kernel_rfl) (Jx.GJ (bkF l wr.heap.size us g bs (.agg ([.string S.name, .slice LA S.labels.length lc, .slice IA S.init.length ic, .slice MA S.main.length mc, .int .i64 S.restart, .int .i64 S.grace, .int .i64 S.prio] : List Value).toArray) F) [(1, 0), (3, 2), (6, 4), (6, 5), (8, 7), (8, 1), (9, 3), (10, 6)] (fun s u => Below wr.heap.size wr u)) (by kernel_rfl) (fun _ => undef) (Jx.GJ.start (Below.drew (Below.refl _ _)) _) ?_ ?_
        · refine ⟨?_, ?_, ?_, ?_, ?_, ?_, ?_, ?_, ?_, ?_, ?_, trivial⟩
          · intro s_ a_ u V hs hd hfr hpo hJ
            have hW := hJ.w
            have f7 : a_.tmps.getD 7 undef = .pointer (some ⟨g, 0, none⟩) := hfr 7 (by kernel_rfl)
            refine .inl ⟨rfl, ?_⟩
            unfold Oper.wp
            rw [show (execOp a_.eval _).run Tryz.prog u = .ok (.value (.pointer (some ⟨g, 0, none⟩))) u from by simp [go_sem, Act.eval, f7]]
            exact ⟨_, rfl, hJ.step 0 hs rfl (bkF_loc l wr.heap.size us g bs (.agg ([.string S.name, .slice LA S.labels.length lc, .slice IA S.init.length ic, .slice MA S.main.length mc, .int .i64 S.restart, .int .i64 S.grace, .int .i64 S.prio] : List Value).toArray) F) (fun j _ h => bkF_mono l wr.heap.size us g bs (.agg ([.string S.name, .slice LA S.labels.length lc, .slice IA S.init.length ic, .slice MA S.main.length mc, .int .i64 S.restart, .int .i64 S.grace, .int .i64 S.prio] : List Value).toArray) F j _ _ _ _ _ (Below.refl _ _) h) (hW) (rfl)⟩
          · intro s_ a_ u V hs hd hfr hpo hJ
            have hW := hJ.w
            have e0 : a_.tmps.getD 74 undef = .pointer (some ⟨g, 0, none⟩) := (hpo 0 74 (by kernel_rfl)).trans (show V 0 = .pointer (some ⟨g, 0, none⟩) from hJ.f 0 (hd 0 (by kernel_rfl)))
            refine .inl ⟨rfl, ?_⟩
            unfold Oper.wp
            rw [show (execOp a_.eval _).run Tryz.prog u = .ok (.enter 13 #[.pointer (some ⟨g, 0, none⟩)]) u from by simp [go_sem, Act.eval, e0]]
            refine Calls.mono (CU.out u hW) ?_
            rintro e u2 ⟨rfl, hb⟩
            exact ⟨_, rfl, hJ.step 1 hs (by show (s_ 0 && true) = true; rw [hd 0 (by kernel_rfl)]; rfl) (bkF_loc l wr.heap.size us g bs (.agg ([.string S.name, .slice LA S.labels.length lc, .slice IA S.init.length ic, .slice MA S.main.length mc, .int .i64 S.restart, .int .i64 S.grace, .int .i64 S.prio] : List Value).toArray) F) (fun j _ h => bkF_mono l wr.heap.size us g bs (.agg ([.string S.name, .slice LA S.labels.length lc, .slice IA S.init.length ic, .slice MA S.main.length mc, .int .i64 S.restart, .int .i64 S.grace, .int .i64 S.prio] : List Value).toArray) F j _ _ _ _ _ hb h) (hW.trans (hb.mono hW.size)) (rfl)⟩
          · intro s_ a_ u V hs hd hfr hpo hJ
            have hW := hJ.w
            have f7 : a_.tmps.getD 7 undef = .pointer (some ⟨g, 0, none⟩) := hfr 7 (by kernel_rfl)
            refine .inl ⟨rfl, ?_⟩
            unfold Oper.wp
            rw [show (execOp a_.eval _).run Tryz.prog u = .ok (.value (.pointer (some ⟨g, 0, none⟩))) u from by simp [go_sem, Act.eval, f7]]
            exact ⟨_, rfl, hJ.step 2 hs rfl (bkF_loc l wr.heap.size us g bs (.agg ([.string S.name, .slice LA S.labels.length lc, .slice IA S.init.length ic, .slice MA S.main.length mc, .int .i64 S.restart, .int .i64 S.grace, .int .i64 S.prio] : List Value).toArray) F) (fun j _ h => bkF_mono l wr.heap.size us g bs (.agg ([.string S.name, .slice LA S.labels.length lc, .slice IA S.init.length ic, .slice MA S.main.length mc, .int .i64 S.restart, .int .i64 S.grace, .int .i64 S.prio] : List Value).toArray) F j _ _ _ _ _ (Below.refl _ _) h) (hW) (rfl)⟩
          · intro s_ a_ u V hs hd hfr hpo hJ
            have hW := hJ.w
            have e2 : a_.tmps.getD 76 undef = .pointer (some ⟨g, 0, none⟩) := (hpo 2 76 (by kernel_rfl)).trans (show V 2 = .pointer (some ⟨g, 0, none⟩) from hJ.f 2 (hd 2 (by kernel_rfl)))
            refine .inl ⟨rfl, ?_⟩
            unfold Oper.wp
            rw [show (execOp a_.eval _).run Tryz.prog u = .ok (.enter 26 #[.pointer (some ⟨g, 0, none⟩)]) u from by simp [go_sem, Act.eval, e2]]
            refine Calls.mono (pods_any u (JV.out.nn.below hW) (by have := JV.out.n; have := HK30.out; omega)) ?_
            rintro e u2 ⟨A, c, rfl, hrow, hb⟩
            exact ⟨_, rfl, hJ.step 3 hs (by show (s_ 2 && true) = true; rw [hd 2 (by kernel_rfl)]; rfl) (bkF_loc l wr.heap.size us g bs (.agg ([.string S.name, .slice LA S.labels.length lc, .slice IA S.init.length ic, .slice MA S.main.length mc, .int .i64 S.restart, .int .i64 S.grace, .int .i64 S.prio] : List Value).toArray) F) (fun j _ h => bkF_mono l wr.heap.size us g bs (.agg ([.string S.name, .slice LA S.labels.length lc, .slice IA S.init.length ic, .slice MA S.main.length mc, .int .i64 S.restart, .int .i64 S.grace, .int .i64 S.prio] : List Value).toArray) F j _ _ _ _ _ hb h) (hW.trans (hb.mono hW.size)) (⟨A, c, rfl, Pt.owns_base hrow (Nat.zero_le _)⟩)⟩
          · intro s_ a_ u V hs hd hfr hpo hJ
            have hW := hJ.w
            have f7 : a_.tmps.getD 7 undef = .pointer (some ⟨g, 0, none⟩) := hfr 7 (by kernel_rfl)
            refine .inl ⟨rfl, ?_⟩
            unfold Oper.wp
            rw [show (execOp a_.eval _).run Tryz.prog u = .ok (.value (.pointer (some ⟨g, 0, none⟩))) u from by simp [go_sem, Act.eval, f7]]
            exact ⟨_, rfl, hJ.step 4 hs rfl (bkF_loc l wr.heap.size us g bs (.agg ([.string S.name, .slice LA S.labels.length lc, .slice IA S.init.length ic, .slice MA S.main.length mc, .int .i64 S.restart, .int .i64 S.grace, .int .i64 S.prio] : List Value).toArray) F) (fun j _ h => bkF_mono l wr.heap.size us g bs (.agg ([.string S.name, .slice LA S.labels.length lc, .slice IA S.init.length ic, .slice MA S.main.length mc, .int .i64 S.restart, .int .i64 S.grace, .int .i64 S.prio] : List Value).toArray) F j _ _ _ _ _ (Below.refl _ _) h) (hW) (rfl)⟩
          · intro s_ a_ u V hs hd hfr hpo hJ
            have hW := hJ.w
            have f5 : a_.tmps.getD 5 undef = .pointer (some ⟨bs, 0, none⟩) := hfr 5 (by kernel_rfl)
            refine .inl ⟨rfl, ?_⟩
            exact wp_load_mid 35 (.tmp 5) rfl (bs) (0) f5 [.string S.name, .slice LA S.labels.length lc, .slice IA S.init.length ic, .slice MA S.main.length mc, .int .i64 S.restart, .int .i64 S.grace, .int .i64 S.prio] _ (RSB.out u hW) Tryz.underlying35 rfl (by kernel_rfl) ⟨_, rfl, hJ.step 5 hs rfl (bkF_loc l wr.heap.size us g bs (.agg ([.string S.name, .slice LA S.labels.length lc, .slice IA S.init.length ic, .slice MA S.main.length mc, .int .i64 S.restart, .int .i64 S.grace, .int .i64 S.prio] : List Value).toArray) F) (fun j _ h => bkF_mono l wr.heap.size us g bs (.agg ([.string S.name, .slice LA S.labels.length lc, .slice IA S.init.length ic, .slice MA S.main.length mc, .int .i64 S.restart, .int .i64 S.grace, .int .i64 S.prio] : List Value).toArray) F j _ _ _ _ _ (Below.refl _ _) h) (hW) (rfl)⟩
          · intro s_ a_ u V hs hd hfr hpo hJ
            have hW := hJ.w
            have e4 : a_.tmps.getD 78 undef = .pointer (some ⟨g, 0, none⟩) := (hpo 4 78 (by kernel_rfl)).trans (show V 4 = .pointer (some ⟨g, 0, none⟩) from hJ.f 4 (hd 4 (by kernel_rfl)))
            have e5 : a_.tmps.getD 79 undef = .agg ([.string S.name, .slice LA S.labels.length lc, .slice IA S.init.length ic, .slice MA S.main.length mc, .int .i64 S.restart, .int .i64 S.grace, .int .i64 S.prio] : List Value).toArray := (hpo 5 79 (by kernel_rfl)).trans (show V 5 = .agg ([.string S.name, .slice LA S.labels.length lc, .slice IA S.init.length ic, .slice MA S.main.length mc, .int .i64 S.restart, .int .i64 S.grace, .int .i64 S.prio] : List Value).toArray from hJ.f 5 (hd 5 (by kernel_rfl)))
            refine .inl ⟨rfl, ?_⟩
            unfold Oper.wp
            rw [show (execOp a_.eval _).run Tryz.prog u = .ok (.enter 24 #[.pointer (some ⟨g, 0, none⟩), .agg ([.string S.name, .slice LA S.labels.length lc, .slice IA S.init.length ic, .slice MA S.main.length mc, .int .i64 S.restart, .int .i64 S.grace, .int .i64 S.prio] : List Value).toArray]) u from by simp [go_sem, Act.eval, e4, e5]]
            refine Calls.mono (CF.out u hW) ?_
            rintro e u2 ⟨rfl, hb⟩
            exact ⟨_, rfl, hJ.step 6 hs (by show (s_ 4 && (s_ 5 && true)) = true; rw [hd 4 (by kernel_rfl), hd 5 (by kernel_rfl)]; rfl) (bkF_loc l wr.heap.size us g bs (.agg ([.string S.name, .slice LA S.labels.length lc, .slice IA S.init.length ic, .slice MA S.main.length mc, .int .i64 S.restart, .int .i64 S.grace, .int .i64 S.prio] : List Value).toArray) F) (fun j _ h => bkF_mono l wr.heap.size us g bs (.agg ([.string S.name, .slice LA S.labels.length lc, .slice IA S.init.length ic, .slice MA S.main.length mc, .int .i64 S.restart, .int .i64 S.grace, .int .i64 S.prio] : List Value).toArray) F j _ _ _ _ _ hb h) (hW.trans (hb.mono hW.size)) (rfl)⟩
          · intro s_ a_ u V hs hd hfr hpo hJ
            have hW := hJ.w
            refine .inl ⟨rfl, ?_⟩
            unfold Oper.wp
            rw [show (execOp a_.eval _).run Tryz.prog u = .ok (.value (.pointer (some ⟨u.heap.size, 0, none⟩))) (u.alloc (.cells #[.int .i64 0, .int .i64 0, .int .i64 0] 23 (0, 0))) from by simp [go_sem, Act.eval]]
            have hb : Below u.heap.size u (u.alloc (.cells #[.int .i64 0, .int .i64 0, .int .i64 0] 23 (0, 0))) := (Below.refl _ _).alloc (Nat.le_refl _) _
            exact ⟨_, rfl, hJ.step 7 hs rfl (bkF_loc l wr.heap.size us g bs (.agg ([.string S.name, .slice LA S.labels.length lc, .slice IA S.init.length ic, .slice MA S.main.length mc, .int .i64 S.restart, .int .i64 S.grace, .int .i64 S.prio] : List Value).toArray) F) (fun j _ h => bkF_mono l wr.heap.size us g bs (.agg ([.string S.name, .slice LA S.labels.length lc, .slice IA S.init.length ic, .slice MA S.main.length mc, .int .i64 S.restart, .int .i64 S.grace, .int .i64 S.prio] : List Value).toArray) F j _ _ _ _ _ hb h) (hW.trans (hb.mono hW.size)) (⟨u.heap.size, _, rfl, hW.size, heap_alloc_new u _, rfl⟩)⟩
          · intro s_ a_ u V hs hd hfr hpo hJ
            have hW := hJ.w
            have x7 := (show ∃ (q : Nat) (X : Array Value), V 7 = .pointer (some ⟨q, 0, none⟩) ∧ wr.heap.size ≤ q ∧ u.heap[q]? = some (.cells X 23 (0, 0)) ∧ X.size = 3 from hJ.f 7 (hd 7 (by kernel_rfl)))
            have y7 : a_.tmps.getD 9 undef = V 7 := hpo 7 9 (by kernel_rfl)
            have e1 : a_.tmps.getD 75 undef = .agg (R3 us).toArray := (hpo 1 75 (by kernel_rfl)).trans (show V 1 = .agg (R3 us).toArray from hJ.f 1 (hd 1 (by kernel_rfl)))
            obtain ⟨q, X, hq, hqz, hX, hXs⟩ := x7
            rw [hq] at y7
            have hn8 : s_ 8 = false := hs
            refine .inl ⟨rfl, ?_⟩
            exact wp_store_mid 23 (.tmp 9) (.tmp 75) rfl q 0 (R3 us).toArray y7 e1 (Back.th hX hXs) (by kernel_rfl) (by simp [Value.oneCell']) ⟨undef, rfl, hJ.step 8 hs (by show (s_ 7 && (s_ 1 && true)) = true; rw [hd 7 (by kernel_rfl), hd 1 (by kernel_rfl)]; rfl) (bkF_loc l wr.heap.size us g bs (.agg ([.string S.name, .slice LA S.labels.length lc, .slice IA S.init.length ic, .slice MA S.main.length mc, .int .i64 S.restart, .int .i64 S.grace, .int .i64 S.prio] : List Value).toArray) F) (fun j hj h => bkF_set hX hXs (fun e => by subst e; rw [hn8] at hj; cases hj) h) (bel_set hW hqz) (⟨q, hq, Back.st hX hXs⟩)⟩
          · intro s_ a_ u V hs hd hfr hpo hJ
            have hW := hJ.w
            have x3 := (show ∃ (A : Option Addr) (c : Nat), V 3 = .slice A l.length c ∧ u.ownsRow 0 3 1 (.slice A l.length c) l.length ((l.map Pod.uid).map (Value.int .i64)) from hJ.f 3 (hd 3 (by kernel_rfl)))
            have y3 : a_.tmps.getD 77 undef = V 3 := hpo 3 77 (by kernel_rfl)
            obtain ⟨A, c, hV, _⟩ := x3
            refine .inl ⟨rfl, ?_⟩
            unfold Oper.wp
            rw [show (execOp a_.eval _).run Tryz.prog u = .ok (.value (V 3)) u from by rw [hV] at y3; rw [hV]; simp [go_sem, Act.eval, y3]]
            exact ⟨V 3, rfl, hJ.step 9 hs (by show (s_ 3 && true) = true; rw [hd 3 (by kernel_rfl)]; rfl) (bkF_loc l wr.heap.size us g bs (.agg ([.string S.name, .slice LA S.labels.length lc, .slice IA S.init.length ic, .slice MA S.main.length mc, .int .i64 S.restart, .int .i64 S.grace, .int .i64 S.prio] : List Value).toArray) F) (fun j _ h => bkF_mono l wr.heap.size us g bs (.agg ([.string S.name, .slice LA S.labels.length lc, .slice IA S.init.length ic, .slice MA S.main.length mc, .int .i64 S.restart, .int .i64 S.grace, .int .i64 S.prio] : List Value).toArray) F j _ _ _ _ _ (Below.refl _ _) h) (hW) (rfl)⟩
          · intro s_ a_ u V hs hd hfr hpo hJ
            have hW := hJ.w
            have e6 : a_.tmps.getD 80 undef = .int .i64 F := (hpo 6 80 (by kernel_rfl)).trans (show V 6 = .int .i64 F from hJ.f 6 (hd 6 (by kernel_rfl)))
            refine .inl ⟨rfl, ?_⟩
            unfold Oper.wp
            rw [show (execOp a_.eval _).run Tryz.prog u = .ok (.value (.int .i64 F)) u from by simp [go_sem, Act.eval, e6]]
            exact ⟨_, rfl, hJ.step 10 hs (by show (s_ 6 && true) = true; rw [hd 6 (by kernel_rfl)]; rfl) (bkF_loc l wr.heap.size us g bs (.agg ([.string S.name, .slice LA S.labels.length lc, .slice IA S.init.length ic, .slice MA S.main.length mc, .int .i64 S.restart, .int .i64 S.grace, .int .i64 S.prio] : List Value).toArray) F) (fun j _ h => bkF_mono l wr.heap.size us g bs (.agg ([.string S.name, .slice LA S.labels.length lc, .slice IA S.init.length ic, .slice MA S.main.length mc, .int .i64 S.restart, .int .i64 S.grace, .int .i64 S.prio] : List Value).toArray) F j _ _ _ _ _ (Below.refl _ _) h) (hW) (rfl)⟩
        · intro s_ V w5 hall hJ
          obtain ⟨A, c, h3, hrow⟩ := (show ∃ (A : Option Addr) (c : Nat), V 3 = .slice A l.length c ∧ w5.ownsRow 0 3 1 (.slice A l.length c) l.length ((l.map Pod.uid).map (Value.int .i64)) from hJ.f 3 (hall 3 (by decide)))
          obtain ⟨q, h7, hq⟩ := (show ∃ (q : Nat), V 7 = .pointer (some ⟨q, 0, none⟩) ∧ w5.heap[q]? = some (.cells (R3 us).toArray 23 (0, 0)) from hJ.f 8 (hall 8 (by decide)))
          have h9 : V 9 = V 3 := hJ.f 9 (hall 9 (by decide))
          have e10 : V 10 = .int .i64 F := hJ.f 10 (hall 10 (by decide))
          have hb5 : Below wr.heap.size wr w5 := hJ.w
          have ROW := Lib.hid hrow
          have ZQ := Lib.hid hq
          have N5 := Lib.hid (JV.out.nn.below hb5)
          have BL5 := Lib.hid (JV.out.bel.trans (hb5.mono BS.out))
          have BS5 := Lib.hid (Nat.le_trans BS.out hb5.size)
          have HNO := Lib.hid JV.out.no
          have LEN := Lib.hid (show l.length ≤ 1000 by have := JV.out.n; have := HK30.out; omega)
          rw [h3] at h9
          clear hall hJ hrow hq hb5 CU CF RSB JV BS HWU
          simp only [Bxs.puts, Nat.reduceAdd, put_none, Re.put_lit, List.set_cons_succ, List.set_cons_zero]
          rw [h7, h9, e10]
          clear h7 h9 h3 e10
          have HWU5 : ∀ u, Below B w5 u → Below w.heap.size w u := fun u hu => B1.out.trans ((BL5.out.trans hu).mono WB.out)
          have RS5 := Lib.hid (show w5.rangeAt bs 0 ([.string S.name, .slice LA S.labels.length lc, .slice IA S.init.length ic, .slice MA S.main.length mc, .int .i64 S.restart, .int .i64 S.grace, .int .i64 S.prio]) from range_box ((BL5.out.block bs SB.out).trans S1.out))
          have CA := admit_any 1000 S LA lc IA ic MA mc (by decide) HLS.out w5 N5.out (HSL.out.below (HWU5 w5 (Below.refl _ _))) (fun v hv => HS.out.below (HWU5 v (hv.below BS5.out (Nat.le_refl _))))
          obtain ⟨l2, hl2⟩ : ∃ l2, admL hs l 1000 (askS S) = l2 := ⟨_, rfl⟩
          rw [adm_new (by decide) HNO.out, HF.out, hl2] at CA
          have HL2 := Lib.hid hl2
          have CA := Lib.hid CA
          clear hl2
          go_wp2_with (first | (refine wpList_load_mid rfl 35 _ rfl _ _ rfl _ _ RS5.out Tryz.underlying35 rfl (by kernel_rfl) ?_))
          refine CA.out.mono ?_
          rintro e w6 ⟨rfl, hn6, hk6⟩
          have N6 := Lib.hid hn6
          have K6 := Lib.hid hk6
          clear hn6 hk6 CA RS5
          by_cases hF0 : F = 0
          · obtain ⟨r1, r2, r3⟩ := adm_rel (has := hs) (q := askS S) HNO.out (by rw [adm_new (by decide) HNO.out, HF.out, hF0])
            rw [HL2.out] at r1 r2
            have CR1 := release_any 1000 w6 N6.out
            rw [r1, r2] at CR1
            have CR2 := Lib.hid (fun (u : World) (hu : Nn B u g hs l) => release_any 1000 u hu)
            rw [r3, cut_none HNO.out] at CR2
            have CR1 := Lib.hid CR1
            have HF1 := Lib.hid (show fitC hs l (askS S) = 0 from HF.out.trans hF0)
            subst hF0
            clear r1 r2 r3
            go_wp2_with fail
            refine CR1.out.mono ?_
            rintro e w7 ⟨rfl, hn7, hk7⟩
            have N7 := Lib.hid hn7
            have K7 := Lib.hid (K6.out.trans hk7)
            clear hn7 hk7 CR1
            go_wp2_with fail
            refine (CR2.out w7 N7.out).mono ?_
            rintro e wz ⟨rfl, hn8, hk8⟩
            have NZ := Lib.hid hn8
            have KZ := Lib.hid (K7.out.trans hk8)
            clear hn8 hk8 CR2 N6 K6 N7 K7
            go_upto_region 19 with fail
            have ZQ := Lib.hid ((KZ.out.block _ (lt_of_block ZQ.out) (.inr (not_n ZQ.out (by decide) (by decide) (by decide)))).trans ZQ.out)
            have ROW := Lib.hid (owns_kn ROW.out KZ.out (by decide) (by decide) (by decide))
            have BLZ := Lib.hid (BL5.out.trans (KZ.out.below BS5.out (Nat.le_refl _)))
            have BSZ := Lib.hid (Nat.le_trans BS5.out KZ.out.size)
            have HWU : ∀ u, Below B wz u → Below w.heap.size w u := fun u hu => B1.out.trans ((BLZ.out.trans hu).mono WB.out)
            have RSB := Lib.hid (show ∀ u, Below wz.heap.size wz u → u.rangeAt bs 0 ([.string S.name, .slice LA S.labels.length lc, .slice IA S.init.length ic, .slice MA S.main.length mc, .int .i64 S.restart, .int .i64 S.grace, .int .i64 S.prio]) from fun u hu => range_box (((BLZ.out.trans (hu.mono BSZ.out)).block bs SB.out).trans S1.out))
            have CU := Lib.hid (show ∀ u, Below wz.heap.size wz u → Calls Tryz.prog 13 #[.pointer (some ⟨g, 0, none⟩)] u (Told1 us u) from fun u hu => by rw [← HUS.out]; exact used_any u (NZ.out.below hu))
            have CF := Lib.hid (show ∀ u, Below wz.heap.size wz u → Calls Tryz.prog 24 #[.pointer (some ⟨g, 0, none⟩), .agg ([.string S.name, .slice LA S.labels.length lc, .slice IA S.init.length ic, .slice MA S.main.length mc, .int .i64 S.restart, .int .i64 S.grace, .int .i64 S.prio] : List Value).toArray] u (fun e w' => e = .returned (.int .i64 0) ∧ Below u.heap.size u w') from fun u hu => by rw [← HF1.out]; exact fits_any S LA lc IA ic MA mc HLS.out u (NZ.out.below hu) (HSL.out.below (HWU u (hu.mono BSZ.out))) (HS.out.below (HWU u (hu.mono BSZ.out))))
            refine Vls.wp_region (by kernel_rfl) (Jx.GJ (bzF l us g bs (.agg ([.string S.name, .slice LA S.labels.length lc, .slice IA S.init.length ic, .slice MA S.main.length mc, .int .i64 S.restart, .int .i64 S.grace, .int .i64 S.prio] : List Value).toArray) (.slice A l.length c) 0) [(1, 0), (3, 1), (3, 2), (4, 3), (5, 4), (6, 5), (6, 4), (7, 4), (8, 6), (8, 7), (8, 4), (9, 4), (9, 8), (10, 9), (11, 10), (12, 10), (13, 11), (13, 12), (13, 10), (14, 10), (15, 13), (15, 14), (15, 10), (16, 10), (16, 15), (17, 16)] (fun s u => Below wz.heap.size wz u)) (by kernel_rfl) (fun _ => undef) (Jx.GJ.start (Below.drew (Below.refl _ _)) _) ?_ ?_
            · refine ⟨?_, ?_, ?_, ?_, ?_, ?_, ?_, ?_, ?_, ?_, ?_, ?_, ?_, ?_, ?_, ?_, ?_, ?_, trivial⟩
              · intro s_ a_ u V hs hd hfr hpo hJ
                have hW := hJ.w
                have f7 : a_.tmps.getD 7 undef = .pointer (some ⟨g, 0, none⟩) := hfr 7 (by kernel_rfl)
                refine .inl ⟨rfl, ?_⟩
                unfold Oper.wp
                rw [show (execOp a_.eval _).run Tryz.prog u = .ok (.value (.pointer (some ⟨g, 0, none⟩))) u from by simp [go_sem, Act.eval, f7]]
                exact ⟨_, rfl, hJ.step 0 hs rfl (bzF_loc l us g bs (.agg ([.string S.name, .slice LA S.labels.length lc, .slice IA S.init.length ic, .slice MA S.main.length mc, .int .i64 S.restart, .int .i64 S.grace, .int .i64 S.prio] : List Value).toArray) (.slice A l.length c) 0) (fun j _ h => bzF_mono l us g bs (.agg ([.string S.name, .slice LA S.labels.length lc, .slice IA S.init.length ic, .slice MA S.main.length mc, .int .i64 S.restart, .int .i64 S.grace, .int .i64 S.prio] : List Value).toArray) (.slice A l.length c) 0 j _ _ _ _ _ (Below.refl _ _) h) (hW) (rfl)⟩
              · intro s_ a_ u V hs hd hfr hpo hJ
                have hW := hJ.w
                have e0 : a_.tmps.getD 101 undef = .pointer (some ⟨g, 0, none⟩) := (hpo 0 101 (by kernel_rfl)).trans (show V 0 = .pointer (some ⟨g, 0, none⟩) from hJ.f 0 (hd 0 (by kernel_rfl)))
                refine .inl ⟨rfl, ?_⟩
                unfold Oper.wp
                rw [show (execOp a_.eval _).run Tryz.prog u = .ok (.enter 13 #[.pointer (some ⟨g, 0, none⟩)]) u from by simp [go_sem, Act.eval, e0]]
                refine Calls.mono (CU.out u hW) ?_
                rintro e u2 ⟨rfl, hb⟩
                exact ⟨_, rfl, hJ.step 1 hs (by show (s_ 0 && true) = true; rw [hd 0 (by kernel_rfl)]; rfl) (bzF_loc l us g bs (.agg ([.string S.name, .slice LA S.labels.length lc, .slice IA S.init.length ic, .slice MA S.main.length mc, .int .i64 S.restart, .int .i64 S.grace, .int .i64 S.prio] : List Value).toArray) (.slice A l.length c) 0) (fun j _ h => bzF_mono l us g bs (.agg ([.string S.name, .slice LA S.labels.length lc, .slice IA S.init.length ic, .slice MA S.main.length mc, .int .i64 S.restart, .int .i64 S.grace, .int .i64 S.prio] : List Value).toArray) (.slice A l.length c) 0 j _ _ _ _ _ hb h) (hW.trans (hb.mono hW.size)) (rfl)⟩
              · intro s_ a_ u V hs hd hfr hpo hJ
                have hW := hJ.w
                have f9 : a_.tmps.getD 9 undef = .pointer (some ⟨q, 0, none⟩) := hfr 9 (by kernel_rfl)
                refine .inl ⟨rfl, ?_⟩
                exact wp_load_mid 23 (.tmp 9) rfl (q) (0) f9 (R3 us) _ (range_box ((hW.block _ (lt_of_block ZQ.out)).trans ZQ.out)) Tryz.underlying23 rfl (by kernel_rfl) ⟨_, rfl, hJ.step 2 hs rfl (bzF_loc l us g bs (.agg ([.string S.name, .slice LA S.labels.length lc, .slice IA S.init.length ic, .slice MA S.main.length mc, .int .i64 S.restart, .int .i64 S.grace, .int .i64 S.prio] : List Value).toArray) (.slice A l.length c) 0) (fun j _ h => bzF_mono l us g bs (.agg ([.string S.name, .slice LA S.labels.length lc, .slice IA S.init.length ic, .slice MA S.main.length mc, .int .i64 S.restart, .int .i64 S.grace, .int .i64 S.prio] : List Value).toArray) (.slice A l.length c) 0 j _ _ _ _ _ (Below.refl _ _) h) (hW) (rfl)⟩
              · intro s_ a_ u V hs hd hfr hpo hJ
                have hW := hJ.w
                have e1 : a_.tmps.getD 102 undef = .agg (R3 us).toArray := (hpo 1 102 (by kernel_rfl)).trans (show V 1 = .agg (R3 us).toArray from hJ.f 1 (hd 1 (by kernel_rfl)))
                have e2 : a_.tmps.getD 103 undef = .agg (R3 us).toArray := (hpo 2 103 (by kernel_rfl)).trans (show V 2 = .agg (R3 us).toArray from hJ.f 2 (hd 2 (by kernel_rfl)))
                refine .inl ⟨rfl, ?_⟩
                unfold Oper.wp
                rw [show (execOp a_.eval _).run Tryz.prog u = .ok (.value (.bool true)) u from by simp [go_sem, Act.eval, e1, e2, eqIn_self]]
                exact ⟨_, rfl, hJ.step 3 hs (by show (s_ 1 && (s_ 2 && true)) = true; rw [hd 1 (by kernel_rfl), hd 2 (by kernel_rfl)]; rfl) (bzF_loc l us g bs (.agg ([.string S.name, .slice LA S.labels.length lc, .slice IA S.init.length ic, .slice MA S.main.length mc, .int .i64 S.restart, .int .i64 S.grace, .int .i64 S.prio] : List Value).toArray) (.slice A l.length c) 0) (fun j _ h => bzF_mono l us g bs (.agg ([.string S.name, .slice LA S.labels.length lc, .slice IA S.init.length ic, .slice MA S.main.length mc, .int .i64 S.restart, .int .i64 S.grace, .int .i64 S.prio] : List Value).toArray) (.slice A l.length c) 0 j _ _ _ _ _ (Below.refl _ _) h) (hW) (rfl)⟩
              · intro s_ a_ u V hs hd hfr hpo hJ
                have hW := hJ.w
                have e3 : a_.tmps.getD 104 undef = .bool true := (hpo 3 104 (by kernel_rfl)).trans (show V 3 = .bool true from hJ.f 3 (hd 3 (by kernel_rfl)))
                refine .inl ⟨rfl, ?_⟩
                unfold Oper.wp
                rw [show (execOp a_.eval _).run Tryz.prog u = .ok (.value (.bool true)) u from by simp [go_sem, Act.eval, e3]]
                exact ⟨_, rfl, hJ.step 4 hs (by show (s_ 3 && true) = true; rw [hd 3 (by kernel_rfl)]; rfl) (bzF_loc l us g bs (.agg ([.string S.name, .slice LA S.labels.length lc, .slice IA S.init.length ic, .slice MA S.main.length mc, .int .i64 S.restart, .int .i64 S.grace, .int .i64 S.prio] : List Value).toArray) (.slice A l.length c) 0) (fun j _ h => bzF_mono l us g bs (.agg ([.string S.name, .slice LA S.labels.length lc, .slice IA S.init.length ic, .slice MA S.main.length mc, .int .i64 S.restart, .int .i64 S.grace, .int .i64 S.prio] : List Value).toArray) (.slice A l.length c) 0 j _ _ _ _ _ (Below.refl _ _) h) (hW) (rfl)⟩
              · intro s_ a_ u V hs hd hfr hpo hJ
                have hW := hJ.w
                have f7 : a_.tmps.getD 7 undef = .pointer (some ⟨g, 0, none⟩) := hfr 7 (by kernel_rfl)
                have e4 : a_.tmps.getD 105 undef = .bool true := (hpo 4 105 (by kernel_rfl)).trans (show V 4 = .bool true from hJ.f 4 (hd 4 (by kernel_rfl)))
                refine .inl ⟨Jx.wanted_of rfl rfl e4, ?_⟩
                unfold Oper.wp
                rw [show (execOp a_.eval _).run Tryz.prog u = .ok (.value (.pointer (some ⟨g, 0, none⟩))) u from by simp [go_sem, Act.eval, f7, e4]]
                exact ⟨_, rfl, hJ.step 5 hs (by show (s_ 4 && true) = true; rw [hd 4 (by kernel_rfl)]; rfl) (bzF_loc l us g bs (.agg ([.string S.name, .slice LA S.labels.length lc, .slice IA S.init.length ic, .slice MA S.main.length mc, .int .i64 S.restart, .int .i64 S.grace, .int .i64 S.prio] : List Value).toArray) (.slice A l.length c) 0) (fun j _ h => bzF_mono l us g bs (.agg ([.string S.name, .slice LA S.labels.length lc, .slice IA S.init.length ic, .slice MA S.main.length mc, .int .i64 S.restart, .int .i64 S.grace, .int .i64 S.prio] : List Value).toArray) (.slice A l.length c) 0 j _ _ _ _ _ (Below.refl _ _) h) (hW) (rfl)⟩
              · intro s_ a_ u V hs hd hfr hpo hJ
                have hW := hJ.w
                have e5 : a_.tmps.getD 106 undef = .pointer (some ⟨g, 0, none⟩) := (hpo 5 106 (by kernel_rfl)).trans (show V 5 = .pointer (some ⟨g, 0, none⟩) from hJ.f 5 (hd 5 (by kernel_rfl)))
                have e4 : a_.tmps.getD 105 undef = .bool true := (hpo 4 105 (by kernel_rfl)).trans (show V 4 = .bool true from hJ.f 4 (hd 4 (by kernel_rfl)))
                refine .inl ⟨Jx.wanted_of rfl rfl e4, ?_⟩
                unfold Oper.wp
                rw [show (execOp a_.eval _).run Tryz.prog u = .ok (.enter 26 #[.pointer (some ⟨g, 0, none⟩)]) u from by simp [go_sem, Act.eval, e5]]
                refine Calls.mono (pods_any u (NZ.out.below hW) (by have := LEN.out; omega)) ?_
                rintro e u2 ⟨A2, c2, rfl, hrow, hb⟩
                exact ⟨_, rfl, hJ.step 6 hs (by show (s_ 5 && (s_ 4 && true)) = true; rw [hd 5 (by kernel_rfl), hd 4 (by kernel_rfl)]; rfl) (bzF_loc l us g bs (.agg ([.string S.name, .slice LA S.labels.length lc, .slice IA S.init.length ic, .slice MA S.main.length mc, .int .i64 S.restart, .int .i64 S.grace, .int .i64 S.prio] : List Value).toArray) (.slice A l.length c) 0) (fun j _ h => bzF_mono l us g bs (.agg ([.string S.name, .slice LA S.labels.length lc, .slice IA S.init.length ic, .slice MA S.main.length mc, .int .i64 S.restart, .int .i64 S.grace, .int .i64 S.prio] : List Value).toArray) (.slice A l.length c) 0 j _ _ _ _ _ hb h) (hW.trans (hb.mono hW.size)) (⟨A2, c2, rfl, Pt.owns_base hrow (Nat.zero_le _)⟩)⟩
              · intro s_ a_ u V hs hd hfr hpo hJ
                have hW := hJ.w
                have f10 : a_.tmps.getD 10 undef = .slice A l.length c := hfr 10 (by kernel_rfl)
                have e4 : a_.tmps.getD 105 undef = .bool true := (hpo 4 105 (by kernel_rfl)).trans (show V 4 = .bool true from hJ.f 4 (hd 4 (by kernel_rfl)))
                refine .inl ⟨Jx.wanted_of rfl rfl e4, ?_⟩
                unfold Oper.wp
                rw [show (execOp a_.eval _).run Tryz.prog u = .ok (.value (.slice A l.length c)) u from by simp [go_sem, Act.eval, f10, e4]]
                exact ⟨_, rfl, hJ.step 7 hs (by show (s_ 4 && true) = true; rw [hd 4 (by kernel_rfl)]; rfl) (bzF_loc l us g bs (.agg ([.string S.name, .slice LA S.labels.length lc, .slice IA S.init.length ic, .slice MA S.main.length mc, .int .i64 S.restart, .int .i64 S.grace, .int .i64 S.prio] : List Value).toArray) (.slice A l.length c) 0) (fun j _ h => bzF_mono l us g bs (.agg ([.string S.name, .slice LA S.labels.length lc, .slice IA S.init.length ic, .slice MA S.main.length mc, .int .i64 S.restart, .int .i64 S.grace, .int .i64 S.prio] : List Value).toArray) (.slice A l.length c) 0 j _ _ _ _ _ (Below.refl _ _) h) (hW) (rfl)⟩
              · intro s_ a_ u V hs hd hfr hpo hJ
                have hW := hJ.w
                have x6 := (show ∃ (A2 : Option Addr) (c2 : Nat), V 6 = .slice A2 l.length c2 ∧ u.ownsRow 0 3 1 (.slice A2 l.length c2) l.length ((l.map Pod.uid).map (Value.int .i64)) from hJ.f 6 (hd 6 (by kernel_rfl)))
                have y6 : a_.tmps.getD 107 undef = V 6 := hpo 6 107 (by kernel_rfl)
                have e7 : a_.tmps.getD 108 undef = .slice A l.length c := (hpo 7 108 (by kernel_rfl)).trans (show V 7 = .slice A l.length c from hJ.f 7 (hd 7 (by kernel_rfl)))
                have e4 : a_.tmps.getD 105 undef = .bool true := (hpo 4 105 (by kernel_rfl)).trans (show V 4 = .bool true from hJ.f 4 (hd 4 (by kernel_rfl)))
                obtain ⟨A2, c2, hV, hrow⟩ := x6
                rw [hV] at y6
                refine .inl ⟨Jx.wanted_of rfl rfl e4, ?_⟩
                unfold Oper.wp
                rw [show (execOp a_.eval _).run Tryz.prog u = .ok (.enter 27 #[.slice A2 l.length c2, .slice A l.length c]) u from by simp [go_sem, Act.eval, y6, e7]]
                refine Calls.mono (Pt.sameInts_any (l.map Pod.uid) l.length (by simp) (by have := LEN.out; omega) u hrow (Pt.owns_below ROW.out hW)) ?_
                rintro e u2 ⟨rfl, hb⟩
                exact ⟨_, rfl, hJ.step 8 hs (by show (s_ 6 && (s_ 7 && (s_ 4 && true))) = true; rw [hd 6 (by kernel_rfl), hd 7 (by kernel_rfl), hd 4 (by kernel_rfl)]; rfl) (bzF_loc l us g bs (.agg ([.string S.name, .slice LA S.labels.length lc, .slice IA S.init.length ic, .slice MA S.main.length mc, .int .i64 S.restart, .int .i64 S.grace, .int .i64 S.prio] : List Value).toArray) (.slice A l.length c) 0) (fun j _ h => bzF_mono l us g bs (.agg ([.string S.name, .slice LA S.labels.length lc, .slice IA S.init.length ic, .slice MA S.main.length mc, .int .i64 S.restart, .int .i64 S.grace, .int .i64 S.prio] : List Value).toArray) (.slice A l.length c) 0 j _ _ _ _ _ hb h) (hW.trans (hb.mono hW.size)) (rfl)⟩
              · intro s_ a_ u V hs hd hfr hpo hJ
                have hW := hJ.w
                have e4 : a_.tmps.getD 105 undef = .bool true := (hpo 4 105 (by kernel_rfl)).trans (show V 4 = .bool true from hJ.f 4 (hd 4 (by kernel_rfl)))
                have e8 : a_.tmps.getD 109 undef = .bool true := (hpo 8 109 (by kernel_rfl)).trans (show V 8 = .bool true from hJ.f 8 (hd 8 (by kernel_rfl)))
                refine .inl ⟨rfl, ?_⟩
                unfold Oper.wp
                rw [show (execOp a_.eval _).run Tryz.prog u = .ok (.value (.bool true)) u from by simp [go_sem, Act.eval, e4, e8]]
                exact ⟨_, rfl, hJ.step 9 hs (by show (s_ 4 && (s_ 8 && true)) = true; rw [hd 4 (by kernel_rfl), hd 8 (by kernel_rfl)]; rfl) (bzF_loc l us g bs (.agg ([.string S.name, .slice LA S.labels.length lc, .slice IA S.init.length ic, .slice MA S.main.length mc, .int .i64 S.restart, .int .i64 S.grace, .int .i64 S.prio] : List Value).toArray) (.slice A l.length c) 0) (fun j _ h => bzF_mono l us g bs (.agg ([.string S.name, .slice LA S.labels.length lc, .slice IA S.init.length ic, .slice MA S.main.length mc, .int .i64 S.restart, .int .i64 S.grace, .int .i64 S.prio] : List Value).toArray) (.slice A l.length c) 0 j _ _ _ _ _ (Below.refl _ _) h) (hW) (rfl)⟩
              · intro s_ a_ u V hs hd hfr hpo hJ
                have hW := hJ.w
                have e9 : a_.tmps.getD 110 undef = .bool true := (hpo 9 110 (by kernel_rfl)).trans (show V 9 = .bool true from hJ.f 9 (hd 9 (by kernel_rfl)))
                refine .inl ⟨rfl, ?_⟩
                unfold Oper.wp
                rw [show (execOp a_.eval _).run Tryz.prog u = .ok (.value (.bool true)) u from by simp [go_sem, Act.eval, e9]]
                exact ⟨_, rfl, hJ.step 10 hs (by show (s_ 9 && true) = true; rw [hd 9 (by kernel_rfl)]; rfl) (bzF_loc l us g bs (.agg ([.string S.name, .slice LA S.labels.length lc, .slice IA S.init.length ic, .slice MA S.main.length mc, .int .i64 S.restart, .int .i64 S.grace, .int .i64 S.prio] : List Value).toArray) (.slice A l.length c) 0) (fun j _ h => bzF_mono l us g bs (.agg ([.string S.name, .slice LA S.labels.length lc, .slice IA S.init.length ic, .slice MA S.main.length mc, .int .i64 S.restart, .int .i64 S.grace, .int .i64 S.prio] : List Value).toArray) (.slice A l.length c) 0 j _ _ _ _ _ (Below.refl _ _) h) (hW) (rfl)⟩
              · intro s_ a_ u V hs hd hfr hpo hJ
                have hW := hJ.w
                have f7 : a_.tmps.getD 7 undef = .pointer (some ⟨g, 0, none⟩) := hfr 7 (by kernel_rfl)
                have e10 : a_.tmps.getD 111 undef = .bool true := (hpo 10 111 (by kernel_rfl)).trans (show V 10 = .bool true from hJ.f 10 (hd 10 (by kernel_rfl)))
                refine .inl ⟨Jx.wanted_of rfl rfl e10, ?_⟩
                unfold Oper.wp
                rw [show (execOp a_.eval _).run Tryz.prog u = .ok (.value (.pointer (some ⟨g, 0, none⟩))) u from by simp [go_sem, Act.eval, f7, e10]]
                exact ⟨_, rfl, hJ.step 11 hs (by show (s_ 10 && true) = true; rw [hd 10 (by kernel_rfl)]; rfl) (bzF_loc l us g bs (.agg ([.string S.name, .slice LA S.labels.length lc, .slice IA S.init.length ic, .slice MA S.main.length mc, .int .i64 S.restart, .int .i64 S.grace, .int .i64 S.prio] : List Value).toArray) (.slice A l.length c) 0) (fun j _ h => bzF_mono l us g bs (.agg ([.string S.name, .slice LA S.labels.length lc, .slice IA S.init.length ic, .slice MA S.main.length mc, .int .i64 S.restart, .int .i64 S.grace, .int .i64 S.prio] : List Value).toArray) (.slice A l.length c) 0 j _ _ _ _ _ (Below.refl _ _) h) (hW) (rfl)⟩
              · intro s_ a_ u V hs hd hfr hpo hJ
                have hW := hJ.w
                have f5 : a_.tmps.getD 5 undef = .pointer (some ⟨bs, 0, none⟩) := hfr 5 (by kernel_rfl)
                have e10 : a_.tmps.getD 111 undef = .bool true := (hpo 10 111 (by kernel_rfl)).trans (show V 10 = .bool true from hJ.f 10 (hd 10 (by kernel_rfl)))
                refine .inl ⟨Jx.wanted_of rfl rfl e10, ?_⟩
                exact wp_load_mid 35 (.tmp 5) rfl (bs) (0) f5 [.string S.name, .slice LA S.labels.length lc, .slice IA S.init.length ic, .slice MA S.main.length mc, .int .i64 S.restart, .int .i64 S.grace, .int .i64 S.prio] _ (RSB.out u hW) Tryz.underlying35 rfl (by kernel_rfl) ⟨_, rfl, hJ.step 12 hs (by show (s_ 10 && true) = true; rw [hd 10 (by kernel_rfl)]; rfl) (bzF_loc l us g bs (.agg ([.string S.name, .slice LA S.labels.length lc, .slice IA S.init.length ic, .slice MA S.main.length mc, .int .i64 S.restart, .int .i64 S.grace, .int .i64 S.prio] : List Value).toArray) (.slice A l.length c) 0) (fun j _ h => bzF_mono l us g bs (.agg ([.string S.name, .slice LA S.labels.length lc, .slice IA S.init.length ic, .slice MA S.main.length mc, .int .i64 S.restart, .int .i64 S.grace, .int .i64 S.prio] : List Value).toArray) (.slice A l.length c) 0 j _ _ _ _ _ (Below.refl _ _) h) (hW) (rfl)⟩
              · intro s_ a_ u V hs hd hfr hpo hJ
                have hW := hJ.w
                have e11 : a_.tmps.getD 112 undef = .pointer (some ⟨g, 0, none⟩) := (hpo 11 112 (by kernel_rfl)).trans (show V 11 = .pointer (some ⟨g, 0, none⟩) from hJ.f 11 (hd 11 (by kernel_rfl)))
                have e12 : a_.tmps.getD 113 undef = .agg ([.string S.name, .slice LA S.labels.length lc, .slice IA S.init.length ic, .slice MA S.main.length mc, .int .i64 S.restart, .int .i64 S.grace, .int .i64 S.prio] : List Value).toArray := (hpo 12 113 (by kernel_rfl)).trans (show V 12 = .agg ([.string S.name, .slice LA S.labels.length lc, .slice IA S.init.length ic, .slice MA S.main.length mc, .int .i64 S.restart, .int .i64 S.grace, .int .i64 S.prio] : List Value).toArray from hJ.f 12 (hd 12 (by kernel_rfl)))
                have e10 : a_.tmps.getD 111 undef = .bool true := (hpo 10 111 (by kernel_rfl)).trans (show V 10 = .bool true from hJ.f 10 (hd 10 (by kernel_rfl)))
                refine .inl ⟨Jx.wanted_of rfl rfl e10, ?_⟩
                unfold Oper.wp
                rw [show (execOp a_.eval _).run Tryz.prog u = .ok (.enter 24 #[.pointer (some ⟨g, 0, none⟩), .agg ([.string S.name, .slice LA S.labels.length lc, .slice IA S.init.length ic, .slice MA S.main.length mc, .int .i64 S.restart, .int .i64 S.grace, .int .i64 S.prio] : List Value).toArray]) u from by simp [go_sem, Act.eval, e11, e12, e10]]
                refine Calls.mono (CF.out u hW) ?_
                rintro e u2 ⟨rfl, hb⟩
                exact ⟨_, rfl, hJ.step 13 hs (by show (s_ 11 && (s_ 12 && (s_ 10 && true))) = true; rw [hd 11 (by kernel_rfl), hd 12 (by kernel_rfl), hd 10 (by kernel_rfl)]; rfl) (bzF_loc l us g bs (.agg ([.string S.name, .slice LA S.labels.length lc, .slice IA S.init.length ic, .slice MA S.main.length mc, .int .i64 S.restart, .int .i64 S.grace, .int .i64 S.prio] : List Value).toArray) (.slice A l.length c) 0) (fun j _ h => bzF_mono l us g bs (.agg ([.string S.name, .slice LA S.labels.length lc, .slice IA S.init.length ic, .slice MA S.main.length mc, .int .i64 S.restart, .int .i64 S.grace, .int .i64 S.prio] : List Value).toArray) (.slice A l.length c) 0 j _ _ _ _ _ hb h) (hW.trans (hb.mono hW.size)) (rfl)⟩
              · intro s_ a_ u V hs hd hfr hpo hJ
                have hW := hJ.w
                have f11 : a_.tmps.getD 11 undef = .int .i64 0 := hfr 11 (by kernel_rfl)
                have e10 : a_.tmps.getD 111 undef = .bool true := (hpo 10 111 (by kernel_rfl)).trans (show V 10 = .bool true from hJ.f 10 (hd 10 (by kernel_rfl)))
                refine .inl ⟨Jx.wanted_of rfl rfl e10, ?_⟩
                unfold Oper.wp
                rw [show (execOp a_.eval _).run Tryz.prog u = .ok (.value (.int .i64 0)) u from by simp [go_sem, Act.eval, f11, e10]]
                exact ⟨_, rfl, hJ.step 14 hs (by show (s_ 10 && true) = true; rw [hd 10 (by kernel_rfl)]; rfl) (bzF_loc l us g bs (.agg ([.string S.name, .slice LA S.labels.length lc, .slice IA S.init.length ic, .slice MA S.main.length mc, .int .i64 S.restart, .int .i64 S.grace, .int .i64 S.prio] : List Value).toArray) (.slice A l.length c) 0) (fun j _ h => bzF_mono l us g bs (.agg ([.string S.name, .slice LA S.labels.length lc, .slice IA S.init.length ic, .slice MA S.main.length mc, .int .i64 S.restart, .int .i64 S.grace, .int .i64 S.prio] : List Value).toArray) (.slice A l.length c) 0 j _ _ _ _ _ (Below.refl _ _) h) (hW) (rfl)⟩
              · intro s_ a_ u V hs hd hfr hpo hJ
                have hW := hJ.w
                have e13 : a_.tmps.getD 114 undef = .int .i64 0 := (hpo 13 114 (by kernel_rfl)).trans (show V 13 = .int .i64 0 from hJ.f 13 (hd 13 (by kernel_rfl)))
                have e14 : a_.tmps.getD 115 undef = .int .i64 0 := (hpo 14 115 (by kernel_rfl)).trans (show V 14 = .int .i64 0 from hJ.f 14 (hd 14 (by kernel_rfl)))
                have e10 : a_.tmps.getD 111 undef = .bool true := (hpo 10 111 (by kernel_rfl)).trans (show V 10 = .bool true from hJ.f 10 (hd 10 (by kernel_rfl)))
                refine .inl ⟨Jx.wanted_of rfl rfl e10, ?_⟩
                unfold Oper.wp
                rw [show (execOp a_.eval _).run Tryz.prog u = .ok (.value (.bool true)) u from by simp [go_sem, Act.eval, e13, e14, e10]]
                exact ⟨_, rfl, hJ.step 15 hs (by show (s_ 13 && (s_ 14 && (s_ 10 && true))) = true; rw [hd 13 (by kernel_rfl), hd 14 (by kernel_rfl), hd 10 (by kernel_rfl)]; rfl) (bzF_loc l us g bs (.agg ([.string S.name, .slice LA S.labels.length lc, .slice IA S.init.length ic, .slice MA S.main.length mc, .int .i64 S.restart, .int .i64 S.grace, .int .i64 S.prio] : List Value).toArray) (.slice A l.length c) 0) (fun j _ h => bzF_mono l us g bs (.agg ([.string S.name, .slice LA S.labels.length lc, .slice IA S.init.length ic, .slice MA S.main.length mc, .int .i64 S.restart, .int .i64 S.grace, .int .i64 S.prio] : List Value).toArray) (.slice A l.length c) 0 j _ _ _ _ _ (Below.refl _ _) h) (hW) (rfl)⟩
              · intro s_ a_ u V hs hd hfr hpo hJ
                have hW := hJ.w
                have e10 : a_.tmps.getD 111 undef = .bool true := (hpo 10 111 (by kernel_rfl)).trans (show V 10 = .bool true from hJ.f 10 (hd 10 (by kernel_rfl)))
                have e15 : a_.tmps.getD 116 undef = .bool true := (hpo 15 116 (by kernel_rfl)).trans (show V 15 = .bool true from hJ.f 15 (hd 15 (by kernel_rfl)))
                refine .inl ⟨rfl, ?_⟩
                unfold Oper.wp
                rw [show (execOp a_.eval _).run Tryz.prog u = .ok (.value (.bool true)) u from by simp [go_sem, Act.eval, e10, e15]]
                exact ⟨_, rfl, hJ.step 16 hs (by show (s_ 10 && (s_ 15 && true)) = true; rw [hd 10 (by kernel_rfl), hd 15 (by kernel_rfl)]; rfl) (bzF_loc l us g bs (.agg ([.string S.name, .slice LA S.labels.length lc, .slice IA S.init.length ic, .slice MA S.main.length mc, .int .i64 S.restart, .int .i64 S.grace, .int .i64 S.prio] : List Value).toArray) (.slice A l.length c) 0) (fun j _ h => bzF_mono l us g bs (.agg ([.string S.name, .slice LA S.labels.length lc, .slice IA S.init.length ic, .slice MA S.main.length mc, .int .i64 S.restart, .int .i64 S.grace, .int .i64 S.prio] : List Value).toArray) (.slice A l.length c) 0 j _ _ _ _ _ (Below.refl _ _) h) (hW) (rfl)⟩
              · intro s_ a_ u V hs hd hfr hpo hJ
                have hW := hJ.w
                have e16 : a_.tmps.getD 117 undef = .bool true := (hpo 16 117 (by kernel_rfl)).trans (show V 16 = .bool true from hJ.f 16 (hd 16 (by kernel_rfl)))
                refine .inl ⟨rfl, ?_⟩
                unfold Oper.wp
                rw [show (execOp a_.eval _).run Tryz.prog u = .ok (.value (.bool true)) u from by simp [go_sem, Act.eval, e16]]
                exact ⟨_, rfl, hJ.step 17 hs (by show (s_ 16 && true) = true; rw [hd 16 (by kernel_rfl)]; rfl) (bzF_loc l us g bs (.agg ([.string S.name, .slice LA S.labels.length lc, .slice IA S.init.length ic, .slice MA S.main.length mc, .int .i64 S.restart, .int .i64 S.grace, .int .i64 S.prio] : List Value).toArray) (.slice A l.length c) 0) (fun j _ h => bzF_mono l us g bs (.agg ([.string S.name, .slice LA S.labels.length lc, .slice IA S.init.length ic, .slice MA S.main.length mc, .int .i64 S.restart, .int .i64 S.grace, .int .i64 S.prio] : List Value).toArray) (.slice A l.length c) 0 j _ _ _ _ _ (Below.refl _ _) h) (hW) (rfl)⟩
            · intro s_ V w9 hall hJ
              have e17 : V 17 = .bool true := hJ.f 17 (hall 17 (by decide))
              have B9 := Lib.hid (HWU w9 (Below.mono hJ.w BSZ.out))
              clear hall hJ
              simp only [Bxs.puts, Nat.reduceAdd, put_none, Re.put_lit, List.set_cons_succ, List.set_cons_zero]
              rw [e17]
              clear e17
              go_wp2
              go_ret
              exact ⟨rfl, B9.out⟩
          · have hF1 : (F == 0) = false := by simpa using hF0
            have HF1 := Lib.hid HF.out
            have HLL := Lib.hid (show l2 = l from HL2.out.symm.trans (adm_stay (by rw [adm_new (by decide) HNO.out, HF.out]; exact hF0)))
            clear hF0
            obtain ⟨wz, hwz⟩ : ∃ v, w6 = v := ⟨_, rfl⟩
            have NZ := Lib.hid (show Nn B wz g hs l by rw [← hwz, ← HLL.out]; exact N6.out)
            have KZ := Lib.hid (show Kn B w5 wz by rw [← hwz]; exact K6.out)
            rw [hwz]
            clear hwz N6 K6 HLL
            go_upto_region 19 with fail
            have ZQ := Lib.hid ((KZ.out.block _ (lt_of_block ZQ.out) (.inr (not_n ZQ.out (by decide) (by decide) (by decide)))).trans ZQ.out)
            have ROW := Lib.hid (owns_kn ROW.out KZ.out (by decide) (by decide) (by decide))
            have BLZ := Lib.hid (BL5.out.trans (KZ.out.below BS5.out (Nat.le_refl _)))
            have BSZ := Lib.hid (Nat.le_trans BS5.out KZ.out.size)
            have HWU : ∀ u, Below B wz u → Below w.heap.size w u := fun u hu => B1.out.trans ((BLZ.out.trans hu).mono WB.out)
            have RSB := Lib.hid (show ∀ u, Below wz.heap.size wz u → u.rangeAt bs 0 ([.string S.name, .slice LA S.labels.length lc, .slice IA S.init.length ic, .slice MA S.main.length mc, .int .i64 S.restart, .int .i64 S.grace, .int .i64 S.prio]) from fun u hu => range_box (((BLZ.out.trans (hu.mono BSZ.out)).block bs SB.out).trans S1.out))
            have CU := Lib.hid (show ∀ u, Below wz.heap.size wz u → Calls Tryz.prog 13 #[.pointer (some ⟨g, 0, none⟩)] u (Told1 us u) from fun u hu => by rw [← HUS.out]; exact used_any u (NZ.out.below hu))
            have CF := Lib.hid (show ∀ u, Below wz.heap.size wz u → Calls Tryz.prog 24 #[.pointer (some ⟨g, 0, none⟩), .agg ([.string S.name, .slice LA S.labels.length lc, .slice IA S.init.length ic, .slice MA S.main.length mc, .int .i64 S.restart, .int .i64 S.grace, .int .i64 S.prio] : List Value).toArray] u (fun e w' => e = .returned (.int .i64 F) ∧ Below u.heap.size u w') from fun u hu => by rw [← HF1.out]; exact fits_any S LA lc IA ic MA mc HLS.out u (NZ.out.below hu) (HSL.out.below (HWU u (hu.mono BSZ.out))) (HS.out.below (HWU u (hu.mono BSZ.out))))
            refine Vls.wp_region (by kernel_rfl) (Jx.GJ (bzF l us g bs (.agg ([.string S.name, .slice LA S.labels.length lc, .slice IA S.init.length ic, .slice MA S.main.length mc, .int .i64 S.restart, .int .i64 S.grace, .int .i64 S.prio] : List Value).toArray) (.slice A l.length c) F) [(1, 0), (3, 1), (3, 2), (4, 3), (5, 4), (6, 5), (6, 4), (7, 4), (8, 6), (8, 7), (8, 4), (9, 4), (9, 8), (10, 9), (11, 10), (12, 10), (13, 11), (13, 12), (13, 10), (14, 10), (15, 13), (15, 14), (15, 10), (16, 10), (16, 15), (17, 16)] (fun s u => Below wz.heap.size wz u)) (by kernel_rfl) (fun _ => undef) (Jx.GJ.start (Below.drew (Below.refl _ _)) _) ?_ ?_
            · refine ⟨?_, ?_, ?_, ?_, ?_, ?_, ?_, ?_, ?_, ?_, ?_, ?_, ?_, ?_, ?_, ?_, ?_, ?_, trivial⟩
              · intro s_ a_ u V hs hd hfr hpo hJ
                have hW := hJ.w
                have f7 : a_.tmps.getD 7 undef = .pointer (some ⟨g, 0, none⟩) := hfr 7 (by kernel_rfl)
                refine .inl ⟨rfl, ?_⟩
                unfold Oper.wp
                rw [show (execOp a_.eval _).run Tryz.prog u = .ok (.value (.pointer (some ⟨g, 0, none⟩))) u from by simp [go_sem, Act.eval, f7]]
                exact ⟨_, rfl, hJ.step 0 hs rfl (bzF_loc l us g bs (.agg ([.string S.name, .slice LA S.labels.length lc, .slice IA S.init.length ic, .slice MA S.main.length mc, .int .i64 S.restart, .int .i64 S.grace, .int .i64 S.prio] : List Value).toArray) (.slice A l.length c) F) (fun j _ h => bzF_mono l us g bs (.agg ([.string S.name, .slice LA S.labels.length lc, .slice IA S.init.length ic, .slice MA S.main.length mc, .int .i64 S.restart, .int .i64 S.grace, .int .i64 S.prio] : List Value).toArray) (.slice A l.length c) F j _ _ _ _ _ (Below.refl _ _) h) (hW) (rfl)⟩
              · intro s_ a_ u V hs hd hfr hpo hJ
                have hW := hJ.w
                have e0 : a_.tmps.getD 101 undef = .pointer (some ⟨g, 0, none⟩) := (hpo 0 101 (by kernel_rfl)).trans (show V 0 = .pointer (some ⟨g, 0, none⟩) from hJ.f 0 (hd 0 (by kernel_rfl)))
                refine .inl ⟨rfl, ?_⟩
                unfold Oper.wp
                rw [show (execOp a_.eval _).run Tryz.prog u = .ok (.enter 13 #[.pointer (some ⟨g, 0, none⟩)]) u from by simp [go_sem, Act.eval, e0]]
                refine Calls.mono (CU.out u hW) ?_
                rintro e u2 ⟨rfl, hb⟩
                exact ⟨_, rfl, hJ.step 1 hs (by show (s_ 0 && true) = true; rw [hd 0 (by kernel_rfl)]; rfl) (bzF_loc l us g bs (.agg ([.string S.name, .slice LA S.labels.length lc, .slice IA S.init.length ic, .slice MA S.main.length mc, .int .i64 S.restart, .int .i64 S.grace, .int .i64 S.prio] : List Value).toArray) (.slice A l.length c) F) (fun j _ h => bzF_mono l us g bs (.agg ([.string S.name, .slice LA S.labels.length lc, .slice IA S.init.length ic, .slice MA S.main.length mc, .int .i64 S.restart, .int .i64 S.grace, .int .i64 S.prio] : List Value).toArray) (.slice A l.length c) F j _ _ _ _ _ hb h) (hW.trans (hb.mono hW.size)) (rfl)⟩
              · intro s_ a_ u V hs hd hfr hpo hJ
                have hW := hJ.w
                have f9 : a_.tmps.getD 9 undef = .pointer (some ⟨q, 0, none⟩) := hfr 9 (by kernel_rfl)
                refine .inl ⟨rfl, ?_⟩
                exact wp_load_mid 23 (.tmp 9) rfl (q) (0) f9 (R3 us) _ (range_box ((hW.block _ (lt_of_block ZQ.out)).trans ZQ.out)) Tryz.underlying23 rfl (by kernel_rfl) ⟨_, rfl, hJ.step 2 hs rfl (bzF_loc l us g bs (.agg ([.string S.name, .slice LA S.labels.length lc, .slice IA S.init.length ic, .slice MA S.main.length mc, .int .i64 S.restart, .int .i64 S.grace, .int .i64 S.prio] : List Value).toArray) (.slice A l.length c) F) (fun j _ h => bzF_mono l us g bs (.agg ([.string S.name, .slice LA S.labels.length lc, .slice IA S.init.length ic, .slice MA S.main.length mc, .int .i64 S.restart, .int .i64 S.grace, .int .i64 S.prio] : List Value).toArray) (.slice A l.length c) F j _ _ _ _ _ (Below.refl _ _) h) (hW) (rfl)⟩
              · intro s_ a_ u V hs hd hfr hpo hJ
                have hW := hJ.w
                have e1 : a_.tmps.getD 102 undef = .agg (R3 us).toArray := (hpo 1 102 (by kernel_rfl)).trans (show V 1 = .agg (R3 us).toArray from hJ.f 1 (hd 1 (by kernel_rfl)))
                have e2 : a_.tmps.getD 103 undef = .agg (R3 us).toArray := (hpo 2 103 (by kernel_rfl)).trans (show V 2 = .agg (R3 us).toArray from hJ.f 2 (hd 2 (by kernel_rfl)))
                refine .inl ⟨rfl, ?_⟩
                unfold Oper.wp
                rw [show (execOp a_.eval _).run Tryz.prog u = .ok (.value (.bool true)) u from by simp [go_sem, Act.eval, e1, e2, eqIn_self]]
                exact ⟨_, rfl, hJ.step 3 hs (by show (s_ 1 && (s_ 2 && true)) = true; rw [hd 1 (by kernel_rfl), hd 2 (by kernel_rfl)]; rfl) (bzF_loc l us g bs (.agg ([.string S.name, .slice LA S.labels.length lc, .slice IA S.init.length ic, .slice MA S.main.length mc, .int .i64 S.restart, .int .i64 S.grace, .int .i64 S.prio] : List Value).toArray) (.slice A l.length c) F) (fun j _ h => bzF_mono l us g bs (.agg ([.string S.name, .slice LA S.labels.length lc, .slice IA S.init.length ic, .slice MA S.main.length mc, .int .i64 S.restart, .int .i64 S.grace, .int .i64 S.prio] : List Value).toArray) (.slice A l.length c) F j _ _ _ _ _ (Below.refl _ _) h) (hW) (rfl)⟩
              · intro s_ a_ u V hs hd hfr hpo hJ
                have hW := hJ.w
                have e3 : a_.tmps.getD 104 undef = .bool true := (hpo 3 104 (by kernel_rfl)).trans (show V 3 = .bool true from hJ.f 3 (hd 3 (by kernel_rfl)))
                refine .inl ⟨rfl, ?_⟩
                unfold Oper.wp
                rw [show (execOp a_.eval _).run Tryz.prog u = .ok (.value (.bool true)) u from by simp [go_sem, Act.eval, e3]]
                exact ⟨_, rfl, hJ.step 4 hs (by show (s_ 3 && true) = true; rw [hd 3 (by kernel_rfl)]; rfl) (bzF_loc l us g bs (.agg ([.string S.name, .slice LA S.labels.length lc, .slice IA S.init.length ic, .slice MA S.main.length mc, .int .i64 S.restart, .int .i64 S.grace, .int .i64 S.prio] : List Value).toArray) (.slice A l.length c) F) (fun j _ h => bzF_mono l us g bs (.agg ([.string S.name, .slice LA S.labels.length lc, .slice IA S.init.length ic, .slice MA S.main.length mc, .int .i64 S.restart, .int .i64 S.grace, .int .i64 S.prio] : List Value).toArray) (.slice A l.length c) F j _ _ _ _ _ (Below.refl _ _) h) (hW) (rfl)⟩
              · intro s_ a_ u V hs hd hfr hpo hJ
                have hW := hJ.w
                have f7 : a_.tmps.getD 7 undef = .pointer (some ⟨g, 0, none⟩) := hfr 7 (by kernel_rfl)
                have e4 : a_.tmps.getD 105 undef = .bool true := (hpo 4 105 (by kernel_rfl)).trans (show V 4 = .bool true from hJ.f 4 (hd 4 (by kernel_rfl)))
                refine .inl ⟨Jx.wanted_of rfl rfl e4, ?_⟩
                unfold Oper.wp
                rw [show (execOp a_.eval _).run Tryz.prog u = .ok (.value (.pointer (some ⟨g, 0, none⟩))) u from by simp [go_sem, Act.eval, f7, e4]]
                exact ⟨_, rfl, hJ.step 5 hs (by show (s_ 4 && true) = true; rw [hd 4 (by kernel_rfl)]; rfl) (bzF_loc l us g bs (.agg ([.string S.name, .slice LA S.labels.length lc, .slice IA S.init.length ic, .slice MA S.main.length mc, .int .i64 S.restart, .int .i64 S.grace, .int .i64 S.prio] : List Value).toArray) (.slice A l.length c) F) (fun j _ h => bzF_mono l us g bs (.agg ([.string S.name, .slice LA S.labels.length lc, .slice IA S.init.length ic, .slice MA S.main.length mc, .int .i64 S.restart, .int .i64 S.grace, .int .i64 S.prio] : List Value).toArray) (.slice A l.length c) F j _ _ _ _ _ (Below.refl _ _) h) (hW) (rfl)⟩
              · intro s_ a_ u V hs hd hfr hpo hJ
                have hW := hJ.w
                have e5 : a_.tmps.getD 106 undef = .pointer (some ⟨g, 0, none⟩) := (hpo 5 106 (by kernel_rfl)).trans (show V 5 = .pointer (some ⟨g, 0, none⟩) from hJ.f 5 (hd 5 (by kernel_rfl)))
                have e4 : a_.tmps.getD 105 undef = .bool true := (hpo 4 105 (by kernel_rfl)).trans (show V 4 = .bool true from hJ.f 4 (hd 4 (by kernel_rfl)))
                refine .inl ⟨Jx.wanted_of rfl rfl e4, ?_⟩
                unfold Oper.wp
                rw [show (execOp a_.eval _).run Tryz.prog u = .ok (.enter 26 #[.pointer (some ⟨g, 0, none⟩)]) u from by simp [go_sem, Act.eval, e5]]
                refine Calls.mono (pods_any u (NZ.out.below hW) (by have := LEN.out; omega)) ?_
                rintro e u2 ⟨A2, c2, rfl, hrow, hb⟩
                exact ⟨_, rfl, hJ.step 6 hs (by show (s_ 5 && (s_ 4 && true)) = true; rw [hd 5 (by kernel_rfl), hd 4 (by kernel_rfl)]; rfl) (bzF_loc l us g bs (.agg ([.string S.name, .slice LA S.labels.length lc, .slice IA S.init.length ic, .slice MA S.main.length mc, .int .i64 S.restart, .int .i64 S.grace, .int .i64 S.prio] : List Value).toArray) (.slice A l.length c) F) (fun j _ h => bzF_mono l us g bs (.agg ([.string S.name, .slice LA S.labels.length lc, .slice IA S.init.length ic, .slice MA S.main.length mc, .int .i64 S.restart, .int .i64 S.grace, .int .i64 S.prio] : List Value).toArray) (.slice A l.length c) F j _ _ _ _ _ hb h) (hW.trans (hb.mono hW.size)) (⟨A2, c2, rfl, Pt.owns_base hrow (Nat.zero_le _)⟩)⟩
              · intro s_ a_ u V hs hd hfr hpo hJ
                have hW := hJ.w
                have f10 : a_.tmps.getD 10 undef = .slice A l.length c := hfr 10 (by kernel_rfl)
                have e4 : a_.tmps.getD 105 undef = .bool true := (hpo 4 105 (by kernel_rfl)).trans (show V 4 = .bool true from hJ.f 4 (hd 4 (by kernel_rfl)))
                refine .inl ⟨Jx.wanted_of rfl rfl e4, ?_⟩
                unfold Oper.wp
                rw [show (execOp a_.eval _).run Tryz.prog u = .ok (.value (.slice A l.length c)) u from by simp [go_sem, Act.eval, f10, e4]]
                exact ⟨_, rfl, hJ.step 7 hs (by show (s_ 4 && true) = true; rw [hd 4 (by kernel_rfl)]; rfl) (bzF_loc l us g bs (.agg ([.string S.name, .slice LA S.labels.length lc, .slice IA S.init.length ic, .slice MA S.main.length mc, .int .i64 S.restart, .int .i64 S.grace, .int .i64 S.prio] : List Value).toArray) (.slice A l.length c) F) (fun j _ h => bzF_mono l us g bs (.agg ([.string S.name, .slice LA S.labels.length lc, .slice IA S.init.length ic, .slice MA S.main.length mc, .int .i64 S.restart, .int .i64 S.grace, .int .i64 S.prio] : List Value).toArray) (.slice A l.length c) F j _ _ _ _ _ (Below.refl _ _) h) (hW) (rfl)⟩
              · intro s_ a_ u V hs hd hfr hpo hJ
                have hW := hJ.w
                have x6 := (show ∃ (A2 : Option Addr) (c2 : Nat), V 6 = .slice A2 l.length c2 ∧ u.ownsRow 0 3 1 (.slice A2 l.length c2) l.length ((l.map Pod.uid).map (Value.int .i64)) from hJ.f 6 (hd 6 (by kernel_rfl)))
                have y6 : a_.tmps.getD 107 undef = V 6 := hpo 6 107 (by kernel_rfl)
                have e7 : a_.tmps.getD 108 undef = .slice A l.length c := (hpo 7 108 (by kernel_rfl)).trans (show V 7 = .slice A l.length c from hJ.f 7 (hd 7 (by kernel_rfl)))
                have e4 : a_.tmps.getD 105 undef = .bool true := (hpo 4 105 (by kernel_rfl)).trans (show V 4 = .bool true from hJ.f 4 (hd 4 (by kernel_rfl)))
                obtain ⟨A2, c2, hV, hrow⟩ := x6
                rw [hV] at y6
                refine .inl ⟨Jx.wanted_of rfl rfl e4, ?_⟩
                unfold Oper.wp
                rw [show (execOp a_.eval _).run Tryz.prog u = .ok (.enter 27 #[.slice A2 l.length c2, .slice A l.length c]) u from by simp [go_sem, Act.eval, y6, e7]]
                refine Calls.mono (Pt.sameInts_any (l.map Pod.uid) l.length (by simp) (by have := LEN.out; omega) u hrow (Pt.owns_below ROW.out hW)) ?_
                rintro e u2 ⟨rfl, hb⟩
                exact ⟨_, rfl, hJ.step 8 hs (by show (s_ 6 && (s_ 7 && (s_ 4 && true))) = true; rw [hd 6 (by kernel_rfl), hd 7 (by kernel_rfl), hd 4 (by kernel_rfl)]; rfl) (bzF_loc l us g bs (.agg ([.string S.name, .slice LA S.labels.length lc, .slice IA S.init.length ic, .slice MA S.main.length mc, .int .i64 S.restart, .int .i64 S.grace, .int .i64 S.prio] : List Value).toArray) (.slice A l.length c) F) (fun j _ h => bzF_mono l us g bs (.agg ([.string S.name, .slice LA S.labels.length lc, .slice IA S.init.length ic, .slice MA S.main.length mc, .int .i64 S.restart, .int .i64 S.grace, .int .i64 S.prio] : List Value).toArray) (.slice A l.length c) F j _ _ _ _ _ hb h) (hW.trans (hb.mono hW.size)) (rfl)⟩
              · intro s_ a_ u V hs hd hfr hpo hJ
                have hW := hJ.w
                have e4 : a_.tmps.getD 105 undef = .bool true := (hpo 4 105 (by kernel_rfl)).trans (show V 4 = .bool true from hJ.f 4 (hd 4 (by kernel_rfl)))
                have e8 : a_.tmps.getD 109 undef = .bool true := (hpo 8 109 (by kernel_rfl)).trans (show V 8 = .bool true from hJ.f 8 (hd 8 (by kernel_rfl)))
                refine .inl ⟨rfl, ?_⟩
                unfold Oper.wp
                rw [show (execOp a_.eval _).run Tryz.prog u = .ok (.value (.bool true)) u from by simp [go_sem, Act.eval, e4, e8]]
                exact ⟨_, rfl, hJ.step 9 hs (by show (s_ 4 && (s_ 8 && true)) = true; rw [hd 4 (by kernel_rfl), hd 8 (by kernel_rfl)]; rfl) (bzF_loc l us g bs (.agg ([.string S.name, .slice LA S.labels.length lc, .slice IA S.init.length ic, .slice MA S.main.length mc, .int .i64 S.restart, .int .i64 S.grace, .int .i64 S.prio] : List Value).toArray) (.slice A l.length c) F) (fun j _ h => bzF_mono l us g bs (.agg ([.string S.name, .slice LA S.labels.length lc, .slice IA S.init.length ic, .slice MA S.main.length mc, .int .i64 S.restart, .int .i64 S.grace, .int .i64 S.prio] : List Value).toArray) (.slice A l.length c) F j _ _ _ _ _ (Below.refl _ _) h) (hW) (rfl)⟩
              · intro s_ a_ u V hs hd hfr hpo hJ
                have hW := hJ.w
                have e9 : a_.tmps.getD 110 undef = .bool true := (hpo 9 110 (by kernel_rfl)).trans (show V 9 = .bool true from hJ.f 9 (hd 9 (by kernel_rfl)))
                refine .inl ⟨rfl, ?_⟩
                unfold Oper.wp
                rw [show (execOp a_.eval _).run Tryz.prog u = .ok (.value (.bool true)) u from by simp [go_sem, Act.eval, e9]]
                exact ⟨_, rfl, hJ.step 10 hs (by show (s_ 9 && true) = true; rw [hd 9 (by kernel_rfl)]; rfl) (bzF_loc l us g bs (.agg ([.string S.name, .slice LA S.labels.length lc, .slice IA S.init.length ic, .slice MA S.main.length mc, .int .i64 S.restart, .int .i64 S.grace, .int .i64 S.prio] : List Value).toArray) (.slice A l.length c) F) (fun j _ h => bzF_mono l us g bs (.agg ([.string S.name, .slice LA S.labels.length lc, .slice IA S.init.length ic, .slice MA S.main.length mc, .int .i64 S.restart, .int .i64 S.grace, .int .i64 S.prio] : List Value).toArray) (.slice A l.length c) F j _ _ _ _ _ (Below.refl _ _) h) (hW) (rfl)⟩
              · intro s_ a_ u V hs hd hfr hpo hJ
                have hW := hJ.w
                have f7 : a_.tmps.getD 7 undef = .pointer (some ⟨g, 0, none⟩) := hfr 7 (by kernel_rfl)
                have e10 : a_.tmps.getD 111 undef = .bool true := (hpo 10 111 (by kernel_rfl)).trans (show V 10 = .bool true from hJ.f 10 (hd 10 (by kernel_rfl)))
                refine .inl ⟨Jx.wanted_of rfl rfl e10, ?_⟩
                unfold Oper.wp
                rw [show (execOp a_.eval _).run Tryz.prog u = .ok (.value (.pointer (some ⟨g, 0, none⟩))) u from by simp [go_sem, Act.eval, f7, e10]]
                exact ⟨_, rfl, hJ.step 11 hs (by show (s_ 10 && true) = true; rw [hd 10 (by kernel_rfl)]; rfl) (bzF_loc l us g bs (.agg ([.string S.name, .slice LA S.labels.length lc, .slice IA S.init.length ic, .slice MA S.main.length mc, .int .i64 S.restart, .int .i64 S.grace, .int .i64 S.prio] : List Value).toArray) (.slice A l.length c) F) (fun j _ h => bzF_mono l us g bs (.agg ([.string S.name, .slice LA S.labels.length lc, .slice IA S.init.length ic, .slice MA S.main.length mc, .int .i64 S.restart, .int .i64 S.grace, .int .i64 S.prio] : List Value).toArray) (.slice A l.length c) F j _ _ _ _ _ (Below.refl _ _) h) (hW) (rfl)⟩
              · intro s_ a_ u V hs hd hfr hpo hJ
                have hW := hJ.w
                have f5 : a_.tmps.getD 5 undef = .pointer (some ⟨bs, 0, none⟩) := hfr 5 (by kernel_rfl)
                have e10 : a_.tmps.getD 111 undef = .bool true := (hpo 10 111 (by kernel_rfl)).trans (show V 10 = .bool true from hJ.f 10 (hd 10 (by kernel_rfl)))
                refine .inl ⟨Jx.wanted_of rfl rfl e10, ?_⟩
                exact wp_load_mid 35 (.tmp 5) rfl (bs) (0) f5 [.string S.name, .slice LA S.labels.length lc, .slice IA S.init.length ic, .slice MA S.main.length mc, .int .i64 S.restart, .int .i64 S.grace, .int .i64 S.prio] _ (RSB.out u hW) Tryz.underlying35 rfl (by kernel_rfl) ⟨_, rfl, hJ.step 12 hs (by show (s_ 10 && true) = true; rw [hd 10 (by kernel_rfl)]; rfl) (bzF_loc l us g bs (.agg ([.string S.name, .slice LA S.labels.length lc, .slice IA S.init.length ic, .slice MA S.main.length mc, .int .i64 S.restart, .int .i64 S.grace, .int .i64 S.prio] : List Value).toArray) (.slice A l.length c) F) (fun j _ h => bzF_mono l us g bs (.agg ([.string S.name, .slice LA S.labels.length lc, .slice IA S.init.length ic, .slice MA S.main.length mc, .int .i64 S.restart, .int .i64 S.grace, .int .i64 S.prio] : List Value).toArray) (.slice A l.length c) F j _ _ _ _ _ (Below.refl _ _) h) (hW) (rfl)⟩
              · intro s_ a_ u V hs hd hfr hpo hJ
                have hW := hJ.w
                have e11 : a_.tmps.getD 112 undef = .pointer (some ⟨g, 0, none⟩) := (hpo 11 112 (by kernel_rfl)).trans (show V 11 = .pointer (some ⟨g, 0, none⟩) from hJ.f 11 (hd 11 (by kernel_rfl)))
                have e12 : a_.tmps.getD 113 undef = .agg ([.string S.name, .slice LA S.labels.length lc, .slice IA S.init.length ic, .slice MA S.main.length mc, .int .i64 S.restart, .int .i64 S.grace, .int .i64 S.prio] : List Value).toArray := (hpo 12 113 (by kernel_rfl)).trans (show V 12 = .agg ([.string S.name, .slice LA S.labels.length lc, .slice IA S.init.length ic, .slice MA S.main.length mc, .int .i64 S.restart, .int .i64 S.grace, .int .i64 S.prio] : List Value).toArray from hJ.f 12 (hd 12 (by kernel_rfl)))
                have e10 : a_.tmps.getD 111 undef = .bool true := (hpo 10 111 (by kernel_rfl)).trans (show V 10 = .bool true from hJ.f 10 (hd 10 (by kernel_rfl)))
                refine .inl ⟨Jx.wanted_of rfl rfl e10, ?_⟩
                unfold Oper.wp
                rw [show (execOp a_.eval _).run Tryz.prog u = .ok (.enter 24 #[.pointer (some ⟨g, 0, none⟩), .agg ([.string S.name, .slice LA S.labels.length lc, .slice IA S.init.length ic, .slice MA S.main.length mc, .int .i64 S.restart, .int .i64 S.grace, .int .i64 S.prio] : List Value).toArray]) u from by simp [go_sem, Act.eval, e11, e12, e10]]
                refine Calls.mono (CF.out u hW) ?_
                rintro e u2 ⟨rfl, hb⟩
                exact ⟨_, rfl, hJ.step 13 hs (by show (s_ 11 && (s_ 12 && (s_ 10 && true))) = true; rw [hd 11 (by kernel_rfl), hd 12 (by kernel_rfl), hd 10 (by kernel_rfl)]; rfl) (bzF_loc l us g bs (.agg ([.string S.name, .slice LA S.labels.length lc, .slice IA S.init.length ic, .slice MA S.main.length mc, .int .i64 S.restart, .int .i64 S.grace, .int .i64 S.prio] : List Value).toArray) (.slice A l.length c) F) (fun j _ h => bzF_mono l us g bs (.agg ([.string S.name, .slice LA S.labels.length lc, .slice IA S.init.length ic, .slice MA S.main.length mc, .int .i64 S.restart, .int .i64 S.grace, .int .i64 S.prio] : List Value).toArray) (.slice A l.length c) F j _ _ _ _ _ hb h) (hW.trans (hb.mono hW.size)) (rfl)⟩
              · intro s_ a_ u V hs hd hfr hpo hJ
                have hW := hJ.w
                have f11 : a_.tmps.getD 11 undef = .int .i64 F := hfr 11 (by kernel_rfl)
                have e10 : a_.tmps.getD 111 undef = .bool true := (hpo 10 111 (by kernel_rfl)).trans (show V 10 = .bool true from hJ.f 10 (hd 10 (by kernel_rfl)))
                refine .inl ⟨Jx.wanted_of rfl rfl e10, ?_⟩
                unfold Oper.wp
                rw [show (execOp a_.eval _).run Tryz.prog u = .ok (.value (.int .i64 F)) u from by simp [go_sem, Act.eval, f11, e10]]
                exact ⟨_, rfl, hJ.step 14 hs (by show (s_ 10 && true) = true; rw [hd 10 (by kernel_rfl)]; rfl) (bzF_loc l us g bs (.agg ([.string S.name, .slice LA S.labels.length lc, .slice IA S.init.length ic, .slice MA S.main.length mc, .int .i64 S.restart, .int .i64 S.grace, .int .i64 S.prio] : List Value).toArray) (.slice A l.length c) F) (fun j _ h => bzF_mono l us g bs (.agg ([.string S.name, .slice LA S.labels.length lc, .slice IA S.init.length ic, .slice MA S.main.length mc, .int .i64 S.restart, .int .i64 S.grace, .int .i64 S.prio] : List Value).toArray) (.slice A l.length c) F j _ _ _ _ _ (Below.refl _ _) h) (hW) (rfl)⟩
              · intro s_ a_ u V hs hd hfr hpo hJ
                have hW := hJ.w
                have e13 : a_.tmps.getD 114 undef = .int .i64 F := (hpo 13 114 (by kernel_rfl)).trans (show V 13 = .int .i64 F from hJ.f 13 (hd 13 (by kernel_rfl)))
                have e14 : a_.tmps.getD 115 undef = .int .i64 F := (hpo 14 115 (by kernel_rfl)).trans (show V 14 = .int .i64 F from hJ.f 14 (hd 14 (by kernel_rfl)))
                have e10 : a_.tmps.getD 111 undef = .bool true := (hpo 10 111 (by kernel_rfl)).trans (show V 10 = .bool true from hJ.f 10 (hd 10 (by kernel_rfl)))
                refine .inl ⟨Jx.wanted_of rfl rfl e10, ?_⟩
                unfold Oper.wp
                rw [show (execOp a_.eval _).run Tryz.prog u = .ok (.value (.bool true)) u from by simp [go_sem, Act.eval, e13, e14, e10]]
                exact ⟨_, rfl, hJ.step 15 hs (by show (s_ 13 && (s_ 14 && (s_ 10 && true))) = true; rw [hd 13 (by kernel_rfl), hd 14 (by kernel_rfl), hd 10 (by kernel_rfl)]; rfl) (bzF_loc l us g bs (.agg ([.string S.name, .slice LA S.labels.length lc, .slice IA S.init.length ic, .slice MA S.main.length mc, .int .i64 S.restart, .int .i64 S.grace, .int .i64 S.prio] : List Value).toArray) (.slice A l.length c) F) (fun j _ h => bzF_mono l us g bs (.agg ([.string S.name, .slice LA S.labels.length lc, .slice IA S.init.length ic, .slice MA S.main.length mc, .int .i64 S.restart, .int .i64 S.grace, .int .i64 S.prio] : List Value).toArray) (.slice A l.length c) F j _ _ _ _ _ (Below.refl _ _) h) (hW) (rfl)⟩
              · intro s_ a_ u V hs hd hfr hpo hJ
                have hW := hJ.w
                have e10 : a_.tmps.getD 111 undef = .bool true := (hpo 10 111 (by kernel_rfl)).trans (show V 10 = .bool true from hJ.f 10 (hd 10 (by kernel_rfl)))
                have e15 : a_.tmps.getD 116 undef = .bool true := (hpo 15 116 (by kernel_rfl)).trans (show V 15 = .bool true from hJ.f 15 (hd 15 (by kernel_rfl)))
                refine .inl ⟨rfl, ?_⟩
                unfold Oper.wp
                rw [show (execOp a_.eval _).run Tryz.prog u = .ok (.value (.bool true)) u from by simp [go_sem, Act.eval, e10, e15]]
                exact ⟨_, rfl, hJ.step 16 hs (by show (s_ 10 && (s_ 15 && true)) = true; rw [hd 10 (by kernel_rfl), hd 15 (by kernel_rfl)]; rfl) (bzF_loc l us g bs (.agg ([.string S.name, .slice LA S.labels.length lc, .slice IA S.init.length ic, .slice MA S.main.length mc, .int .i64 S.restart, .int .i64 S.grace, .int .i64 S.prio] : List Value).toArray) (.slice A l.length c) F) (fun j _ h => bzF_mono l us g bs (.agg ([.string S.name, .slice LA S.labels.length lc, .slice IA S.init.length ic, .slice MA S.main.length mc, .int .i64 S.restart, .int .i64 S.grace, .int .i64 S.prio] : List Value).toArray) (.slice A l.length c) F j _ _ _ _ _ (Below.refl _ _) h) (hW) (rfl)⟩
              · intro s_ a_ u V hs hd hfr hpo hJ
                have hW := hJ.w
                have e16 : a_.tmps.getD 117 undef = .bool true := (hpo 16 117 (by kernel_rfl)).trans (show V 16 = .bool true from hJ.f 16 (hd 16 (by kernel_rfl)))
                refine .inl ⟨rfl, ?_⟩
                unfold Oper.wp
                rw [show (execOp a_.eval _).run Tryz.prog u = .ok (.value (.bool true)) u from by simp [go_sem, Act.eval, e16]]
                exact ⟨_, rfl, hJ.step 17 hs (by show (s_ 16 && true) = true; rw [hd 16 (by kernel_rfl)]; rfl) (bzF_loc l us g bs (.agg ([.string S.name, .slice LA S.labels.length lc, .slice IA S.init.length ic, .slice MA S.main.length mc, .int .i64 S.restart, .int .i64 S.grace, .int .i64 S.prio] : List Value).toArray) (.slice A l.length c) F) (fun j _ h => bzF_mono l us g bs (.agg ([.string S.name, .slice LA S.labels.length lc, .slice IA S.init.length ic, .slice MA S.main.length mc, .int .i64 S.restart, .int .i64 S.grace, .int .i64 S.prio] : List Value).toArray) (.slice A l.length c) F j _ _ _ _ _ (Below.refl _ _) h) (hW) (rfl)⟩
            · intro s_ V w9 hall hJ
              have e17 : V 17 = .bool true := hJ.f 17 (hall 17 (by decide))
              have B9 := Lib.hid (HWU w9 (Below.mono hJ.w BSZ.out))
              clear hall hJ
              simp only [Bxs.puts, Nat.reduceAdd, put_none, Re.put_lit, List.set_cons_succ, List.set_cons_zero]
              rw [e17]
              clear e17
              go_wp2
              go_ret
              exact ⟨rfl, B9.out⟩
end NodeBackWalk
end Go.Proofs.YtbichomjpmmjmaaGreatDoor
