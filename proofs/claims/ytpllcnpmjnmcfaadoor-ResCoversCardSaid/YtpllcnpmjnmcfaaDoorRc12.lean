/-
  Package res: Sum, and the document's. What was there is left as it was. Condition: the numbers are 64-bit integers, the list can be read.
-/
import Derived.Test.YtpllcnpmjnmcfaaDoorRc11
import Derived.WalkKit
import Derived.BigFrame
import Derived.Laws.AppendOwn
import Derived.Laws.AppendOwnNone
import Derived.Laws.OwnMore
set_option linter.unusedVariables false
set_option linter.unusedSimpArgs false
namespace Go.Proofs.YtpllcnpmjnmcfaaDoor
open Go.ChangeShapes Go.WideShapes Go.ChangeAt Go.RowKit Go.Lib
open NumMath
namespace Re
/-- a list of resources at A -/
def Ress (w : World) (A : Option Addr) (l : List Rx) : Prop := ∀ (k : Nat) (x : Rx), l[k]? = some x → x.Ok ∧ ∃ r o, A = some ⟨r, o, none⟩ ∧ r < w.heap.size ∧ w.rangeAt r (o + k * 3) (R3 x)
theorem range_mv {w v : World} {b o : Nat} {vs : List Value} (hu : v.heap[b]? = w.heap[b]?) (h : w.rangeAt b o vs) : v.rangeAt b o vs := fun j x hx => (World.cell?_of_block hu).trans (h j x hx)
theorem Ress.below {w v : World} {A : Option Addr} {l : List Rx} (h : Ress w A l) (hb : Below w.heap.size w v) : Ress v A l := fun k x hk => by
  obtain ⟨h1, r, o, h2, h3, h4⟩ := h k x hk
  exact ⟨h1, r, o, h2, Nat.lt_of_lt_of_le h3 hb.size, range_mv (hb.block _ h3) h4⟩
theorem ress_nil (w : World) (A : Option Addr) : Ress w A [] := fun k x hk => by simp at hk
theorem at_three (r o k : Nat) : (⟨r, o, none⟩ : Addr).add (k * 3) = ⟨r, o + k * 3, none⟩ := by unfold Addr.add; split <;> simp_all
theorem drop_at {l : List Rx} {k : Nat} {x : Rx} (h : l[k]? = some x) : l.drop k = x :: l.drop (k + 1) := by
  obtain ⟨hk, hx⟩ := List.getElem?_eq_some_iff.1 h
  rw [List.drop_eq_getElem_cons hk, hx]
theorem sum_cons (s x : Rx) (l : List Rx) : sumR s (x :: l) = if (addR s x).2 = true then sumR (addR s x).1 l else (z3, false) := rfl
/-- a new box, in a region that draws -/
structure J1 (v : World) (vs : List Value) (r : List Value) (s : Nat → Bool) (V : Nat → Value) (u : World) : Prop where
  bel : Below v.heap.size v u
  val : ∀ j, j ≠ 9 → j ≠ 10 → s j = true → V j = vs.getD j undef
  bx : s 9 = true → ∃ q X, V 9 = .pointer (some ⟨q, 0, none⟩) ∧ v.heap.size ≤ q ∧ u.heap[q]? = some (.cells X 23 (0, 0)) ∧ X.size = 3 ∧ (s 10 = true → X = r.toArray)
  o10 : s 10 = true → s 9 = true
variable {v u : World} {vs r : List Value} {s : Nat → Bool} {V : Nat → Value}
theorem J1.start (v : World) (vs r : List Value) (V : Nat → Value) : J1 v vs r (fun _ => false) V v.drew :=
  ⟨Below.drew (Below.refl _ _), fun _ _ _ h => Bool.noConfusion h, fun h => Bool.noConfusion h, fun h => Bool.noConfusion h⟩
theorem J1.get (h : J1 v vs r s V u) (j : Nat) (h9 : j ≠ 9) (h10 : j ≠ 10) (hs : s j = true) {x : Value} (hx : vs.getD j undef = x) : V j = x := (h.val j h9 h10 hs).trans hx
theorem J1.step (h : J1 v vs r s V u) (i : Nat) (h9 : i ≠ 9) (h10 : i ≠ 10) {u' : World} (hb : Below u.heap.size u u') {x : Value} (hx : x = vs.getD i undef) : J1 v vs r (fun j => s j || j == i) (fun j => if j = i then x else V j) u' := by
  have e9 : (9 == i) = false := by simp; omega
  have e10 : (10 == i) = false := by simp; omega
  refine ⟨h.bel.trans (hb.mono h.bel.size), fun j g9 g10 hs => ?_, ?_, ?_⟩
  · by_cases hji : j = i
    · subst hji; rw [if_pos rfl]; exact hx
    · rw [if_neg hji]; exact h.val j g9 g10 (by simpa [hji] using hs)
  all_goals simp only [e9, e10, Bool.or_false, if_neg (Ne.symm h9)]
  · intro hs
    obtain ⟨q, X, q1, q2, q3, q4⟩ := h.bx hs
    exact ⟨q, X, q1, q2, (hb.block q (lt_of_at q3)).trans q3, q4⟩
  · exact h.o10
theorem J1.al (h : J1 v vs r s V u) (hs : s 9 = false) (Z : Array Value) (hZ : Z.size = 3) : J1 v vs r (fun j => s j || j == 9) (fun j => if j = 9 then .pointer (some ⟨u.heap.size, 0, none⟩) else V j) (u.alloc (.cells Z 23 (0, 0))) := by
  have hb : Below u.heap.size u (u.alloc (.cells Z 23 (0, 0))) := (Below.refl _ _).alloc (Nat.le_refl _) _
  have h10 : s 10 = false := by
    cases h10 : s 10 with
    | false => rfl
    | true => rw [h.o10 h10] at hs; cases hs
  refine ⟨h.bel.trans (hb.mono h.bel.size), fun j g9 g10 hs => ?_, ?_, ?_⟩
  · rw [if_neg g9]; exact h.val j g9 g10 (by simpa [g9] using hs)
  all_goals simp only [show ((9 : Nat) == 9) = true from rfl, show ((10 : Nat) == 9) = false from rfl, Bool.or_false, Bool.or_true, if_pos]
  · exact fun _ => ⟨u.heap.size, Z, rfl, h.bel.size, heap_alloc_new u _, hZ, fun h => by rw [h10] at h; cases h⟩
  · exact fun h => by simp
theorem J1.st (h : J1 v vs r s V u) (hr : r.length = 3) (h9 : s 9 = true) {q : Nat} (hq : V 9 = .pointer (some ⟨q, 0, none⟩)) (x : Value) : J1 v vs r (fun j => s j || j == 10) (fun j => if j = 10 then x else V j) (u.setCells q 0 r) := by
  obtain ⟨p, X, e1, e2, e3, e4, e5⟩ := h.bx h9
  obtain rfl : p = q := by rw [hq] at e1; injection e1 with e1; injection e1 with e1; injection e1 with e1; exact e1.symm
  refine ⟨bel_set h.bel e2, fun j g9 g10 hs => ?_, ?_, ?_⟩
  · rw [if_neg g10]; exact h.val j g9 g10 (by simpa [g10] using hs)
  all_goals simp only [show ((9 : Nat) == 10) = false from rfl, show ((10 : Nat) == 10) = true from rfl, Bool.or_false, Bool.or_true, if_neg (show ¬ (9 : Nat) = 10 by decide)]
  · exact fun _ => ⟨p, r.toArray, hq, e2, Back.st e3 (by rw [e4, hr]), by simpa using hr, fun _ => rfl⟩
  · exact fun _ => h9
theorem res_sum (tmps : Array Value) (w : World) (p : Nat) (xs : List Value) (x : Value) (h2 : tmps.getD 2 undef = .pointer (some ⟨p, 0, none⟩)) (h3 : tmps.getD 3 undef = x) (hX : w.heap[p]? = some (.cells xs.toArray 23 (0, 0))) (hm : xs.length = 3) :
    (results Tryd.f20 tmps).run Tryd.prog w = .ok (.tuple #[.agg xs.toArray, x]) w := by
  have h1 : (loadVar 23 ⟨p, 0, none⟩).run Tryd.prog w = .ok (.agg xs.toArray) w := run_loadVar_mid w p 0 23 _ _ (range_box hX) Tryd.underlying23 rfl (by rw [hm]; kernel_rfl)
  simp only [results, Tryd.results20]
  simp only [Array.getD_eq_getD_getElem?] at h2 h3
  have ha : (asAddr (tmps[2]?.getD undef)).run Tryd.prog w = .ok ⟨p, 0, none⟩ w := by rw [h2]; rfl
  simp [Sem.run_bind, h1, ha, h3]
set_option maxRecDepth 100000 in
set_option maxHeartbeats 4000000 in
theorem sum_any (A : Option Addr) (c : Nat) (l : List Rx) (hl : l.length ≤ 1000000) (w : World) (h : Ress w A l) : Calls Tryd.prog 20 #[.slice A l.length c] w (Told3 (sumR z3 l) w) := by
  have H := Lib.hid h
  have HL := Lib.hid hl
  clear h hl
  obtain ⟨w0, hw0⟩ : ∃ v, (w.alloc (.cells #[.int .i64 0, .int .i64 0, .int .i64 0] 23)).alloc (.cells #[.int .i64 0, .int .i64 0, .int .i64 0] 23) = v := ⟨_, rfl⟩
  have Z0 := Lib.hid (show w0.heap[w.heap.size]? = some (.cells (R3 z3).toArray 23 (0, 0)) by rw [← hw0, Below.heap_alloc _ _ _ (by simp)]; exact heap_alloc_new w _)
  have S0 := Lib.hid (show w0.heap[w.heap.size + 1]? = some (.cells (R3 z3).toArray 23 (0, 0)) by rw [← hw0]; have := heap_alloc_new (w.alloc (.cells #[.int .i64 0, .int .i64 0, .int .i64 0] 23)) (.cells #[.int .i64 0, .int .i64 0, .int .i64 0] 23); rw [World.size_alloc] at this; exact this)
  have B0 := Lib.hid (show Below w.heap.size w w0 by rw [← hw0]; go_grown)
  go_enter Tryd.func20, Tryd.ntmps20
  go_wp2_with fail
  clear hw0
  go_loopw [11] (fun i wr => ∃ (k : Nat) (s : Rx), k ≤ l.length ∧ i = .int .i64 k ∧ Hid s.Ok ∧ Hid (sumR z3 l = sumR s (l.drop k)) ∧ Hid (Below w.heap.size w wr) ∧ Hid (wr.heap[w.heap.size]? = some (.cells (R3 z3).toArray 23 (0, 0))) ∧ Hid (wr.heap[w.heap.size + 1]? = some (.cells (R3 s).toArray 23 (0, 0)))) (fun i _ => l.length - (RowKit.intOf i).toNat)
  case atStart => exact ⟨0, z3, Nat.zero_le _, rfl, z3_ok, (by rw [List.drop_zero] : sumR z3 l = sumR z3 (l.drop 0)), B0.out, Z0.out, S0.out⟩
  case round =>
    obtain ⟨k, s, hk, rfl, HO, HS, BW, ZW, SW⟩ := hrel
    have hk6 : (k : Int) ≤ 1000000 := by have := HL.out; omega
    by_cases hlt : k < l.length
    · have hka : (k : Int) < (l.length : Int) := by omega
      have hk0 : (0 : Int) ≤ (k : Int) := by omega
      obtain ⟨x, hx⟩ : ∃ x, l[k]? = some x := ⟨_, List.getElem?_eq_getElem hlt⟩
      obtain ⟨hxo, ra, oa, rfl, hra, hrg⟩ := (H.out.below BW.out) k x hx
      have eat := at_three ra oa k
      have HXO := Lib.hid hxo
      have HD := Lib.hid (show sumR s (l.drop k) = if (addR s x).2 = true then sumR (addR s x).1 (l.drop (k + 1)) else (z3, false) by rw [drop_at hx, sum_cons])
      obtain ⟨w1, hw1⟩ : ∃ v, wr.alloc (.cells #[.int .i64 0, .int .i64 0, .int .i64 0] 23) = v := ⟨_, rfl⟩
      have k1 : ∀ b, b < wr.heap.size → w1.heap[b]? = wr.heap[b]? := fun b hb => by rw [← hw1]; exact Below.heap_alloc wr _ b hb
      have s1 : w1.heap.size = wr.heap.size + 1 := by rw [← hw1]; simp
      have X1 : w1.heap[wr.heap.size]? = some (.cells (R3 z3).toArray 23 (0, 0)) := by rw [← hw1]; exact heap_alloc_new wr _
      have RGX := Lib.hid hrg
      have hz1 := lt_of_at ZW.out
      have hz2 := lt_of_at SW.out
      obtain ⟨w2, hw2⟩ : ∃ v, w1.setCells (wr.heap.size) 0 (R3 x) = v := ⟨_, rfl⟩
      have THx := Lib.hid (show w1.there (wr.heap.size) 0 3 from Back.th X1 rfl)
      have ONEx := Lib.hid (show ((R3 x) : List Value).toArray.all (·.oneCell') = true by simp [Value.oneCell'])
      have HVx := Lib.hid hw2
      have kw2 : ∀ b, b ≠ wr.heap.size → w2.heap[b]? = w1.heap[b]? := fun b hb => by rw [← hw2]; exact (Back.far (wr.heap.size) (R3 x) 0 w1).2.2.2.2 b hb
      have sw2 : w2.heap.size = w1.heap.size := by rw [← hw2]; exact (Back.far (wr.heap.size) (R3 x) 0 w1).2.2.2.1
      have nw2 : w2.heap[wr.heap.size]? = some (.cells ((R3 x)).toArray 23 (0, 0)) := by rw [← hw2]; exact Back.st X1 rfl
      have B2 := Lib.hid (show Below w.heap.size w w2 by rw [← hw2, ← hw1]; exact bel_set (BW.out.alloc BW.out.size _) (by have := BW.out.size; omega))
      have Z2 := Lib.hid ((kw2 _ (by omega)).trans ((k1 _ hz1).trans ZW.out))
      have S2 := Lib.hid ((kw2 _ (by omega)).trans ((k1 _ hz2).trans SW.out))
      have RS2 := Lib.hid (range_box S2.out)
      have RX2 := Lib.hid (range_box nw2)
      clear hx hxo hra hrg k1 s1 X1 hz1 hz2 kw2 sw2 nw2 hw2
      go_wp2_with (first | (refine wpList_load_mid rfl 23 _ rfl _ _ rfl _ _ RGX.out Tryd.underlying23 rfl (by kernel_rfl) ?_) | (refine wpList_store_at rfl 23 _ _ rfl _ _ _ rfl rfl THx.out (by kernel_rfl) ONEx.out HVx.out ?_) | (refine wpList_load_mid rfl 23 _ rfl _ _ rfl _ _ RS2.out Tryd.underlying23 rfl (by kernel_rfl) ?_) | (refine wpList_load_mid rfl 23 _ rfl _ _ rfl _ _ RX2.out Tryd.underlying23 rfl (by kernel_rfl) ?_))
      clear hw1
      refine (add_any s x HO.out HXO.out w2).mono ?_
      rintro e w3 ⟨rfl, hb3⟩
      have HSO := Lib.hid (add_ok s x)
      obtain ⟨r, hr⟩ : ∃ r, addR s x = r := ⟨_, rfl⟩
      rw [hr] at HD HSO ⊢
      obtain ⟨w4, hw4⟩ : ∃ v, w3.alloc (.cells #[.int .i64 0, .int .i64 0, .int .i64 0] 23) = v := ⟨_, rfl⟩
      have k4 : ∀ b, b < w3.heap.size → w4.heap[b]? = w3.heap[b]? := fun b hb => by rw [← hw4]; exact Below.heap_alloc w3 _ b hb
      have X4 : w4.heap[w3.heap.size]? = some (.cells (R3 z3).toArray 23 (0, 0)) := by rw [← hw4]; exact heap_alloc_new w3 _
      obtain ⟨w5, hw5⟩ : ∃ v, w4.setCells (w3.heap.size) 0 (R3 r.1) = v := ⟨_, rfl⟩
      have THy := Lib.hid (show w4.there (w3.heap.size) 0 3 from Back.th X4 rfl)
      have ONEy := Lib.hid (show ((R3 r.1) : List Value).toArray.all (·.oneCell') = true by simp [Value.oneCell'])
      have HVy := Lib.hid hw5
      have kw5 : ∀ b, b ≠ w3.heap.size → w5.heap[b]? = w4.heap[b]? := fun b hb => by rw [← hw5]; exact (Back.far (w3.heap.size) (R3 r.1) 0 w4).2.2.2.2 b hb
      have sw5 : w5.heap.size = w4.heap.size := by rw [← hw5]; exact (Back.far (w3.heap.size) (R3 r.1) 0 w4).2.2.2.1
      have nw5 : w5.heap[w3.heap.size]? = some (.cells ((R3 r.1)).toArray 23 (0, 0)) := by rw [← hw5]; exact Back.st X4 rfl
      have hs3 := hb3.size
      have hz1 := lt_of_at Z2.out
      have hz2 := lt_of_at S2.out
      have Z5 := Lib.hid ((kw5 _ (by omega)).trans ((k4 _ (by omega)).trans ((hb3.block _ hz1).trans Z2.out)))
      have S5 := Lib.hid ((kw5 _ (by omega)).trans ((k4 _ (by omega)).trans ((hb3.block _ hz2).trans S2.out)))
      have B5 := Lib.hid (show Below w.heap.size w w5 by rw [← hw5, ← hw4]; exact bel_set ((B2.out.trans (hb3.mono B2.out.size)).alloc (by have := B2.out.size; omega) _) (by have := B2.out.size; omega))
      have RY5 := Lib.hid (range_box nw5)
      clear hr hb3 k4 X4 kw5 sw5 nw5 hw5 hs3 hz1 hz2 Z2 S2 B2 RS2 RX2
      cases hr2 : r.2 with
      | false =>
        have HE := Lib.hid (show sumR z3 l = (z3, false) by rw [HS.out, HD.out, hr2, if_neg (by decide)])
        obtain ⟨w6, hw6⟩ : ∃ v, w5.setCells (w.heap.size) 0 (R3 z3) = v := ⟨_, rfl⟩
        have THz := Lib.hid (show w5.there (w.heap.size) 0 3 from Back.th Z5.out rfl)
        have ONEz := Lib.hid (show ((R3 z3) : List Value).toArray.all (·.oneCell') = true by simp [Value.oneCell'])
        have HVz := Lib.hid hw6
        have kw6 : ∀ b, b ≠ w.heap.size → w6.heap[b]? = w5.heap[b]? := fun b hb => by rw [← hw6]; exact (Back.far (w.heap.size) (R3 z3) 0 w5).2.2.2.2 b hb
        have sw6 : w6.heap.size = w5.heap.size := by rw [← hw6]; exact (Back.far (w.heap.size) (R3 z3) 0 w5).2.2.2.1
        have nw6 : w6.heap[w.heap.size]? = some (.cells ((R3 z3)).toArray 23 (0, 0)) := by rw [← hw6]; exact Back.st Z5.out rfl
        have Z6 := Lib.hid nw6
        have B6 := Lib.hid (show Below w.heap.size w w6 by rw [← hw6]; exact bel_set B5.out (Nat.le_refl _))
        clear hr2 kw6 sw6 nw6 hw6
        go_wp2_with (first | (refine wpList_store_at rfl 23 _ _ rfl _ _ _ rfl rfl THy.out (by kernel_rfl) ONEy.out HVy.out ?_) | (refine wpList_store_at rfl 23 _ _ rfl _ _ _ rfl rfl THz.out (by kernel_rfl) ONEz.out HVz.out ?_))
        clear hw4
        refine bodyPost_ret (v := .tuple #[.agg (R3 z3).toArray, .bool false]) (res_sum _ _ _ (R3 z3) _ rfl rfl Z6.out rfl) rfl ?_
        rw [HE.out]
        exact ⟨rfl, B6.out⟩
      | true =>
        have HE := Lib.hid (show sumR z3 l = sumR r.1 (l.drop (k + 1)) by rw [HS.out, HD.out, hr2, if_pos rfl])
        obtain ⟨w6, hw6⟩ : ∃ v, w5.setCells (w.heap.size + 1) 0 (R3 r.1) = v := ⟨_, rfl⟩
        have THz := Lib.hid (show w5.there (w.heap.size + 1) 0 3 from Back.th S5.out rfl)
        have ONEz := Lib.hid (show ((R3 r.1) : List Value).toArray.all (·.oneCell') = true by simp [Value.oneCell'])
        have HVz := Lib.hid hw6
        have kw6 : ∀ b, b ≠ w.heap.size + 1 → w6.heap[b]? = w5.heap[b]? := fun b hb => by rw [← hw6]; exact (Back.far (w.heap.size + 1) (R3 r.1) 0 w5).2.2.2.2 b hb
        have sw6 : w6.heap.size = w5.heap.size := by rw [← hw6]; exact (Back.far (w.heap.size + 1) (R3 r.1) 0 w5).2.2.2.1
        have nw6 : w6.heap[w.heap.size + 1]? = some (.cells ((R3 r.1)).toArray 23 (0, 0)) := by rw [← hw6]; exact Back.st S5.out rfl
        have S6 := Lib.hid nw6
        have Z6 := Lib.hid ((kw6 _ (by omega)).trans Z5.out)
        have B6 := Lib.hid (show Below w.heap.size w w6 by rw [← hw6]; exact bel_set B5.out (by omega))
        clear hr2 kw6 sw6 nw6 hw6
        go_wp2_with (first | (refine wpList_store_at rfl 23 _ _ rfl _ _ _ rfl rfl THy.out (by kernel_rfl) ONEy.out HVy.out ?_) | (refine wpList_load_mid rfl 23 _ rfl _ _ rfl _ _ RY5.out Tryd.underlying23 rfl (by kernel_rfl) ?_) | (refine wpList_store_at rfl 23 _ _ rfl _ _ _ rfl rfl THz.out (by kernel_rfl) ONEz.out HVz.out ?_))
        clear hw4
        go_roundw
        case rel => exact ⟨k + 1, r.1, by omega, by go_num, HSO.out, HE.out, B6.out, Z6.out, S6.out⟩
        case measure => simp [RowKit.intOf]; omega
    · have hka : ¬ (k : Int) < (l.length : Int) := by omega
      have HE := Lib.hid (show sumR z3 l = (s, true) by rw [HS.out, List.drop_of_length_le (by omega)]; rfl)
      have RS := Lib.hid (range_box SW.out)
      obtain ⟨w6, hw6⟩ : ∃ v, wr.setCells (w.heap.size) 0 (R3 s) = v := ⟨_, rfl⟩
      have THz := Lib.hid (show wr.there (w.heap.size) 0 3 from Back.th ZW.out rfl)
      have ONEz := Lib.hid (show ((R3 s) : List Value).toArray.all (·.oneCell') = true by simp [Value.oneCell'])
      have HVz := Lib.hid hw6
      have kw6 : ∀ b, b ≠ w.heap.size → w6.heap[b]? = wr.heap[b]? := fun b hb => by rw [← hw6]; exact (Back.far (w.heap.size) (R3 s) 0 wr).2.2.2.2 b hb
      have sw6 : w6.heap.size = wr.heap.size := by rw [← hw6]; exact (Back.far (w.heap.size) (R3 s) 0 wr).2.2.2.1
      have nw6 : w6.heap[w.heap.size]? = some (.cells ((R3 s)).toArray 23 (0, 0)) := by rw [← hw6]; exact Back.st ZW.out rfl
      have Z6 := Lib.hid nw6
      have B6 := Lib.hid (show Below w.heap.size w w6 by rw [← hw6]; exact bel_set BW.out (Nat.le_refl _))
      clear kw6 sw6 nw6 hw6
      go_wp2_with (first | (refine wpList_load_mid rfl 23 _ rfl _ _ rfl _ _ RS.out Tryd.underlying23 rfl (by kernel_rfl) ?_) | (refine wpList_store_at rfl 23 _ _ rfl _ _ _ rfl rfl THz.out (by kernel_rfl) ONEz.out HVz.out ?_))
      refine bodyPost_ret (v := .tuple #[.agg (R3 s).toArray, .bool true]) (res_sum _ _ _ (R3 s) _ rfl rfl Z6.out rfl) rfl ?_
      rw [HE.out]
      exact ⟨rfl, B6.out⟩
theorem res_refsum (tmps : Array Value) (w : World) (p : Nat) (xs : List Value) (x : Value) (h2 : tmps.getD 2 undef = .pointer (some ⟨p, 0, none⟩)) (h3 : tmps.getD 3 undef = x) (hX : w.heap[p]? = some (.cells xs.toArray 23 (0, 0))) (hm : xs.length = 3) :
    (results Tryd.f21 tmps).run Tryd.prog w = .ok (.tuple #[.agg xs.toArray, x]) w := by
  have h1 : (loadVar 23 ⟨p, 0, none⟩).run Tryd.prog w = .ok (.agg xs.toArray) w := run_loadVar_mid w p 0 23 _ _ (range_box hX) Tryd.underlying23 rfl (by rw [hm]; kernel_rfl)
  simp only [results, Tryd.results21]
  simp only [Array.getD_eq_getD_getElem?] at h2 h3
  have ha : (asAddr (tmps[2]?.getD undef)).run Tryd.prog w = .ok ⟨p, 0, none⟩ w := by rw [h2]; rfl
  simp [Sem.run_bind, h1, ha, h3]
set_option maxRecDepth 100000 in
set_option maxHeartbeats 4000000 in
theorem refsum_any (A : Option Addr) (c : Nat) (l : List Rx) (hl : l.length ≤ 1000000) (w : World) (h : Ress w A l) : Calls Tryd.prog 21 #[.slice A l.length c] w (Told3 (sumR z3 l) w) := by
  have H := Lib.hid h
  have HL := Lib.hid hl
  clear h hl
  obtain ⟨w0, hw0⟩ : ∃ v, (w.alloc (.cells #[.int .i64 0, .int .i64 0, .int .i64 0] 23)).alloc (.cells #[.int .i64 0, .int .i64 0, .int .i64 0] 23) = v := ⟨_, rfl⟩
  have Z0 := Lib.hid (show w0.heap[w.heap.size]? = some (.cells (R3 z3).toArray 23 (0, 0)) by rw [← hw0, Below.heap_alloc _ _ _ (by simp)]; exact heap_alloc_new w _)
  have S0 := Lib.hid (show w0.heap[w.heap.size + 1]? = some (.cells (R3 z3).toArray 23 (0, 0)) by rw [← hw0]; have := heap_alloc_new (w.alloc (.cells #[.int .i64 0, .int .i64 0, .int .i64 0] 23)) (.cells #[.int .i64 0, .int .i64 0, .int .i64 0] 23); rw [World.size_alloc] at this; exact this)
  have B0 := Lib.hid (show Below w.heap.size w w0 by rw [← hw0]; go_grown)
  go_enter Tryd.func21, Tryd.ntmps21
  go_wp2_with fail
  clear hw0
  go_loopw [5] (fun i wr => ∃ (k : Nat) (s : Rx), k ≤ l.length ∧ i = .int .i64 k ∧ Hid s.Ok ∧ Hid (sumR z3 l = sumR s (l.drop k)) ∧ Hid (Below w.heap.size w wr) ∧ Hid (wr.heap[w.heap.size]? = some (.cells (R3 z3).toArray 23 (0, 0))) ∧ Hid (wr.heap[w.heap.size + 1]? = some (.cells (R3 s).toArray 23 (0, 0)))) (fun i _ => l.length - (RowKit.intOf i).toNat)
  case atStart => exact ⟨0, z3, Nat.zero_le _, rfl, z3_ok, (by rw [List.drop_zero] : sumR z3 l = sumR z3 (l.drop 0)), B0.out, Z0.out, S0.out⟩
  case round =>
    obtain ⟨k, s, hk, rfl, HO, HS, BW, ZW, SW⟩ := hrel
    have hk6 : (k : Int) ≤ 1000000 := by have := HL.out; omega
    by_cases hlt : k < l.length
    · have hka : (k : Int) < (l.length : Int) := by omega
      have hk0 : (0 : Int) ≤ (k : Int) := by omega
      obtain ⟨x, hx⟩ : ∃ x, l[k]? = some x := ⟨_, List.getElem?_eq_getElem hlt⟩
      obtain ⟨hxo, ra, oa, rfl, hra, hrg⟩ := (H.out.below BW.out) k x hx
      have eat := at_three ra oa k
      have HXO := Lib.hid hxo
      have RAL := Lib.hid hra
      have RGX := Lib.hid hrg
      have HD := Lib.hid (show sumR s (l.drop k) = if (addR s x).2 = true then sumR (addR s x).1 (l.drop (k + 1)) else (z3, false) by rw [drop_at hx, sum_cons])
      have HSO := Lib.hid (add_ok s x)
      obtain ⟨r, hr⟩ : ∃ r, addR s x = r := ⟨_, rfl⟩
      rw [hr] at HD HSO
      have HR := Lib.hid hr
      clear hx hxo hra hrg hr
      go_wp2_with fail
      refine Vls.wp_region (by kernel_rfl) (J1 wr [.agg (R3 s).toArray, .slice (some ⟨ra, oa, none⟩) l.length c, .int .i64 k, .pointer (some ⟨ra, oa + k * 3, none⟩), .agg (R3 x).toArray, .tuple #[.agg (R3 r.1).toArray, .bool r.2], .tuple #[.agg (R3 r.1).toArray, .bool r.2], .agg (R3 r.1).toArray, .bool r.2, undef, undef, .bool r.2] (R3 r.1)) (by kernel_rfl) (fun _ => undef) (J1.start _ _ _ _) ?_ ?_
      · refine ⟨?_, ?_, ?_, ?_, ?_, ?_, ?_, ?_, ?_, ?_, ?_, ?_, trivial⟩
        · intro s_ a_ u V hs hd hfr hpo hJ
          have f0 : a_.tmps.getD 4 undef = .pointer (some ⟨w.heap.size + 1, 0, none⟩) := hfr 4 (by kernel_rfl)
          refine .inl ⟨rfl, ?_⟩
          exact wp_load_mid 23 (.tmp 4) rfl (w.heap.size + 1) 0 f0 (R3 s) _ (range_box ((hJ.bel.block _ (lt_of_at SW.out)).trans SW.out)) Tryd.underlying23 rfl (by kernel_rfl) ⟨_, rfl, hJ.step 0 (by decide) (by decide) (Below.refl _ _) rfl⟩
        · intro s_ a_ u V hs hd hfr hpo hJ
          have f0 : a_.tmps.getD 0 undef = .slice (some ⟨ra, oa, none⟩) l.length c := hfr 0 (by kernel_rfl)
          refine .inl ⟨rfl, ?_⟩
          unfold Oper.wp
          rw [show (execOp a_.eval _).run Tryd.prog u = .ok (.value (.slice (some ⟨ra, oa, none⟩) l.length c)) u from by simp [go_sem, Act.eval, f0]]
          exact ⟨_, rfl, hJ.step 1 (by decide) (by decide) (Below.refl _ _) rfl⟩
        · intro s_ a_ u V hs hd hfr hpo hJ
          have f0 : a_.tmps.getD 5 undef = .int .i64 k := hfr 5 (by kernel_rfl)
          refine .inl ⟨rfl, ?_⟩
          unfold Oper.wp
          rw [show (execOp a_.eval _).run Tryd.prog u = .ok (.value (.int .i64 k)) u from by simp [go_sem, Act.eval, f0]]
          exact ⟨_, rfl, hJ.step 2 (by decide) (by decide) (Below.refl _ _) rfl⟩
        · intro s_ a_ u V hs hd hfr hpo hJ
          have e1 : a_.tmps.getD 16 undef = .slice (some ⟨ra, oa, none⟩) l.length c := (hpo 1 16 (by kernel_rfl)).trans (hJ.get 1 (by decide) (by decide) (hd 1 (by kernel_rfl)) rfl)
          have e2 : a_.tmps.getD 17 undef = .int .i64 k := (hpo 2 17 (by kernel_rfl)).trans (hJ.get 2 (by decide) (by decide) (hd 2 (by kernel_rfl)) rfl)
          refine .inl ⟨rfl, ?_⟩
          unfold Oper.wp
          rw [show (execOp a_.eval _).run Tryd.prog u = .ok (.value (.pointer (some ⟨ra, oa + k * 3, none⟩))) u from by simp [go_sem, Act.eval, e1, e2, hk0, hka, eat]]
          exact ⟨_, rfl, hJ.step 3 (by decide) (by decide) (Below.refl _ _) rfl⟩
        · intro s_ a_ u V hs hd hfr hpo hJ
          have e1 : a_.tmps.getD 18 undef = .pointer (some ⟨ra, oa + k * 3, none⟩) := (hpo 3 18 (by kernel_rfl)).trans (hJ.get 3 (by decide) (by decide) (hd 3 (by kernel_rfl)) rfl)
          refine .inl ⟨rfl, ?_⟩
          exact wp_load_mid 23 (.tmp 18) rfl ra (oa + k * 3) e1 (R3 x) _ (range_mv (hJ.bel.block _ RAL.out) RGX.out) Tryd.underlying23 rfl (by kernel_rfl) ⟨_, rfl, hJ.step 4 (by decide) (by decide) (Below.refl _ _) rfl⟩
        · intro s_ a_ u V hs hd hfr hpo hJ
          have e1 : a_.tmps.getD 15 undef = .agg (R3 s).toArray := (hpo 0 15 (by kernel_rfl)).trans (hJ.get 0 (by decide) (by decide) (hd 0 (by kernel_rfl)) rfl)
          have e2 : a_.tmps.getD 19 undef = .agg (R3 x).toArray := (hpo 4 19 (by kernel_rfl)).trans (hJ.get 4 (by decide) (by decide) (hd 4 (by kernel_rfl)) rfl)
          refine .inl ⟨rfl, ?_⟩
          unfold Oper.wp
          rw [show (execOp a_.eval _).run Tryd.prog u = .ok (.enter 8 #[.agg (R3 s).toArray, .agg (R3 x).toArray]) u from by simp [go_sem, Act.eval, e1, e2]]
          refine Calls.mono (refadd_any s x HO.out HXO.out u) ?_
          rintro e u2 ⟨rfl, hb⟩
          rw [HR.out]
          exact ⟨_, rfl, hJ.step 5 (by decide) (by decide) hb rfl⟩
        · intro s_ a_ u V hs hd hfr hpo hJ
          have e1 : a_.tmps.getD 20 undef = .tuple #[.agg (R3 r.1).toArray, .bool r.2] := (hpo 5 20 (by kernel_rfl)).trans (hJ.get 5 (by decide) (by decide) (hd 5 (by kernel_rfl)) rfl)
          refine .inl ⟨rfl, ?_⟩
          unfold Oper.wp
          rw [show (execOp a_.eval _).run Tryd.prog u = .ok (.value (.tuple #[.agg (R3 r.1).toArray, .bool r.2])) u from by simp [go_sem, Act.eval, e1]]
          exact ⟨_, rfl, hJ.step 6 (by decide) (by decide) (Below.refl _ _) rfl⟩
        · intro s_ a_ u V hs hd hfr hpo hJ
          have e1 : a_.tmps.getD 14 undef = .tuple #[.agg (R3 r.1).toArray, .bool r.2] := (hpo 6 14 (by kernel_rfl)).trans (hJ.get 6 (by decide) (by decide) (hd 6 (by kernel_rfl)) rfl)
          refine .inl ⟨rfl, ?_⟩
          unfold Oper.wp
          rw [show (execOp a_.eval _).run Tryd.prog u = .ok (.value (.agg (R3 r.1).toArray)) u from by simp [go_sem, Act.eval, e1]]
          exact ⟨_, rfl, hJ.step 7 (by decide) (by decide) (Below.refl _ _) rfl⟩
        · intro s_ a_ u V hs hd hfr hpo hJ
          have e1 : a_.tmps.getD 14 undef = .tuple #[.agg (R3 r.1).toArray, .bool r.2] := (hpo 6 14 (by kernel_rfl)).trans (hJ.get 6 (by decide) (by decide) (hd 6 (by kernel_rfl)) rfl)
          refine .inl ⟨rfl, ?_⟩
          unfold Oper.wp
          rw [show (execOp a_.eval _).run Tryd.prog u = .ok (.value (.bool r.2)) u from by simp [go_sem, Act.eval, e1]]
          exact ⟨_, rfl, hJ.step 8 (by decide) (by decide) (Below.refl _ _) rfl⟩
        · intro s_ a_ u V hs hd hfr hpo hJ
          refine .inl ⟨rfl, ?_⟩
          unfold Oper.wp
          rw [show (execOp a_.eval _).run Tryd.prog u = .ok (.value (.pointer (some ⟨u.heap.size, 0, none⟩))) (u.alloc (.cells #[.int .i64 0, .int .i64 0, .int .i64 0] 23 (0, 0))) from by simp [go_sem, Act.eval]]
          exact ⟨_, rfl, hJ.al hs _ rfl⟩
        · intro s_ a_ u V hs hd hfr hpo hJ
          have h9 : s_ 9 = true := hd 9 (by kernel_rfl)
          obtain ⟨qq, X, hq, hqv, hX, hXs, _⟩ := hJ.bx h9
          have e1 : a_.tmps.getD 6 undef = .pointer (some ⟨qq, 0, none⟩) := (hpo 9 6 (by kernel_rfl)).trans hq
          have e2 : a_.tmps.getD 21 undef = .agg (R3 r.1).toArray := (hpo 7 21 (by kernel_rfl)).trans (hJ.get 7 (by decide) (by decide) (hd 7 (by kernel_rfl)) rfl)
          refine .inl ⟨rfl, ?_⟩
          exact wp_store_mid 23 (.tmp 6) (.tmp 21) rfl qq 0 (R3 r.1).toArray e1 e2 (Back.th hX hXs) (by kernel_rfl) (by simp [Value.oneCell']) ⟨undef, rfl, hJ.st rfl h9 hq _⟩
        · intro s_ a_ u V hs hd hfr hpo hJ
          have e1 : a_.tmps.getD 22 undef = .bool r.2 := (hpo 8 22 (by kernel_rfl)).trans (hJ.get 8 (by decide) (by decide) (hd 8 (by kernel_rfl)) rfl)
          refine .inl ⟨rfl, ?_⟩
          unfold Oper.wp
          rw [show (execOp a_.eval _).run Tryd.prog u = .ok (.value (.bool r.2)) u from by simp [go_sem, Act.eval, e1]]
          exact ⟨_, rfl, hJ.step 11 (by decide) (by decide) (Below.refl _ _) rfl⟩
      · intro s_ V w5 hall hJ
        obtain ⟨qq, X, e9, hqv, hX, hXs, hXe⟩ := hJ.bx (hall 9 (by decide))
        rw [hXe (hall 10 (by decide))] at hX
        have e11 : V 11 = .bool r.2 := hJ.get 11 (by decide) (by decide) (hall 11 (by decide)) rfl
        have hz1 := lt_of_at ZW.out
        have hz2 := lt_of_at SW.out
        have Z5 := Lib.hid ((hJ.bel.block _ hz1).trans ZW.out)
        have S5 := Lib.hid ((hJ.bel.block _ hz2).trans SW.out)
        have B5 := Lib.hid (BW.out.trans (hJ.bel.mono BW.out.size))
        have RY5 := Lib.hid (range_box hX)
        clear hall hJ hX hXs hXe hqv hz1 hz2 RAL RGX
        simp only [Bxs.puts, Nat.reduceAdd, put_none, put_lit, List.set_cons_succ, List.set_cons_zero]
        rw [e9, e11]
        clear e9 e11
        cases hr2 : r.2 with
        | false =>
          have HE := Lib.hid (show sumR z3 l = (z3, false) by rw [HS.out, HD.out, hr2, if_neg (by decide)])
          obtain ⟨w6, hw6⟩ : ∃ v, w5.setCells (w.heap.size) 0 (R3 z3) = v := ⟨_, rfl⟩
          have THz := Lib.hid (show w5.there (w.heap.size) 0 3 from Back.th Z5.out rfl)
          have ONEz := Lib.hid (show ((R3 z3) : List Value).toArray.all (·.oneCell') = true by simp [Value.oneCell'])
          have HVz := Lib.hid hw6
          have kw6 : ∀ b, b ≠ w.heap.size → w6.heap[b]? = w5.heap[b]? := fun b hb => by rw [← hw6]; exact (Back.far (w.heap.size) (R3 z3) 0 w5).2.2.2.2 b hb
          have sw6 : w6.heap.size = w5.heap.size := by rw [← hw6]; exact (Back.far (w.heap.size) (R3 z3) 0 w5).2.2.2.1
          have nw6 : w6.heap[w.heap.size]? = some (.cells ((R3 z3)).toArray 23 (0, 0)) := by rw [← hw6]; exact Back.st Z5.out rfl
          have Z6 := Lib.hid nw6
          have B6 := Lib.hid (show Below w.heap.size w w6 by rw [← hw6]; exact bel_set B5.out (Nat.le_refl _))
          clear hr2 kw6 sw6 nw6 hw6
          go_wp2_with (first | (refine wpList_store_at rfl 23 _ _ rfl _ _ _ rfl rfl THz.out (by kernel_rfl) ONEz.out HVz.out ?_))
          refine bodyPost_ret (v := .tuple #[.agg (R3 z3).toArray, .bool false]) (res_refsum _ _ _ (R3 z3) _ rfl rfl Z6.out rfl) rfl ?_
          rw [HE.out]
          exact ⟨rfl, B6.out⟩
        | true =>
          have HE := Lib.hid (show sumR z3 l = sumR r.1 (l.drop (k + 1)) by rw [HS.out, HD.out, hr2, if_pos rfl])
          obtain ⟨w6, hw6⟩ : ∃ v, w5.setCells (w.heap.size + 1) 0 (R3 r.1) = v := ⟨_, rfl⟩
          have THz := Lib.hid (show w5.there (w.heap.size + 1) 0 3 from Back.th S5.out rfl)
          have ONEz := Lib.hid (show ((R3 r.1) : List Value).toArray.all (·.oneCell') = true by simp [Value.oneCell'])
          have HVz := Lib.hid hw6
          have kw6 : ∀ b, b ≠ w.heap.size + 1 → w6.heap[b]? = w5.heap[b]? := fun b hb => by rw [← hw6]; exact (Back.far (w.heap.size + 1) (R3 r.1) 0 w5).2.2.2.2 b hb
          have sw6 : w6.heap.size = w5.heap.size := by rw [← hw6]; exact (Back.far (w.heap.size + 1) (R3 r.1) 0 w5).2.2.2.1
          have nw6 : w6.heap[w.heap.size + 1]? = some (.cells ((R3 r.1)).toArray 23 (0, 0)) := by rw [← hw6]; exact Back.st S5.out rfl
          have S6 := Lib.hid nw6
          have Z6 := Lib.hid ((kw6 _ (by omega)).trans Z5.out)
          have B6 := Lib.hid (show Below w.heap.size w w6 by rw [← hw6]; exact bel_set B5.out (by omega))
          clear hr2 kw6 sw6 nw6 hw6
          go_wp2_with (first | (refine wpList_load_mid rfl 23 _ rfl _ _ rfl _ _ RY5.out Tryd.underlying23 rfl (by kernel_rfl) ?_) | (refine wpList_store_at rfl 23 _ _ rfl _ _ _ rfl rfl THz.out (by kernel_rfl) ONEz.out HVz.out ?_))
          go_roundw
          case rel => exact ⟨k + 1, r.1, by omega, by go_num, HSO.out, HE.out, B6.out, Z6.out, S6.out⟩
          case measure => simp [RowKit.intOf]; omega
    · have hka : ¬ (k : Int) < (l.length : Int) := by omega
      have HE := Lib.hid (show sumR z3 l = (s, true) by rw [HS.out, List.drop_of_length_le (by omega)]; rfl)
      have RS := Lib.hid (range_box SW.out)
      obtain ⟨w6, hw6⟩ : ∃ v, wr.setCells (w.heap.size) 0 (R3 s) = v := ⟨_, rfl⟩
      have THz := Lib.hid (show wr.there (w.heap.size) 0 3 from Back.th ZW.out rfl)
      have ONEz := Lib.hid (show ((R3 s) : List Value).toArray.all (·.oneCell') = true by simp [Value.oneCell'])
      have HVz := Lib.hid hw6
      have kw6 : ∀ b, b ≠ w.heap.size → w6.heap[b]? = wr.heap[b]? := fun b hb => by rw [← hw6]; exact (Back.far (w.heap.size) (R3 s) 0 wr).2.2.2.2 b hb
      have sw6 : w6.heap.size = wr.heap.size := by rw [← hw6]; exact (Back.far (w.heap.size) (R3 s) 0 wr).2.2.2.1
      have nw6 : w6.heap[w.heap.size]? = some (.cells ((R3 s)).toArray 23 (0, 0)) := by rw [← hw6]; exact Back.st ZW.out rfl
      have Z6 := Lib.hid nw6
      have B6 := Lib.hid (show Below w.heap.size w w6 by rw [← hw6]; exact bel_set BW.out (Nat.le_refl _))
      clear kw6 sw6 nw6 hw6
      go_wp2_with (first | (refine wpList_load_mid rfl 23 _ rfl _ _ rfl _ _ RS.out Tryd.underlying23 rfl (by kernel_rfl) ?_) | (refine wpList_store_at rfl 23 _ _ rfl _ _ _ rfl rfl THz.out (by kernel_rfl) ONEz.out HVz.out ?_))
      refine bodyPost_ret (v := .tuple #[.agg (R3 s).toArray, .bool true]) (res_refsum _ _ _ (R3 s) _ rfl rfl Z6.out rfl) rfl ?_
      rw [HE.out]
      exact ⟨rfl, B6.out⟩
end Re
end Go.Proofs.YtpllcnpmjnmcfaaDoor

/-
  'append' onto a row of the call's own, wherever it stands behind a guard that says yes, the source nil or not: a row of the call's own with the source's elements behind. Conditions: as the law says.
-/
namespace Go.Proofs.YtpllcnpmjnmcfaaDoor
open Go.RowKit
namespace AppendAny

theorem wpList_append_want {P : Program} {w : World} {ops : Array Oper} {rest : List Oper} {o : Oper} {a : Act} {Q : Exit → Act → World → Prop} (hgd : Region.wanted o (yielded ops a.tmps) = true) (s x : Operand) (t : TypeId)
    (ho : o.op = .call { callee := .builtin .append, args := #[s, x], argTypes := #[t, t] })
    (base : Nat) (e : TypeId) (i : TypeInfo) (z : Value) (size bytes : Nat) (ht : P.underlying t = some (.slice e)) (hi : P.info? e = some i) (hz : i.zero = some z)
    (hsize : i.size = size) (hby : i.bytes = bytes) (hzs : z.cells.size = size) (hsz : 0 < size)
    (v : Value) (n : Nat) (xs : List Value) (hs : a.eval s = v) (hown : w.ownsRow base e size v n xs)
    (A : Option Addr) (m c : Nat) (news : List Value) (hx : a.eval x = .slice A m c) (hl : news.length = m * size)
    (hsrc : (A = none ∧ m = 0 ∧ c = 0) ∨ ∃ ad, A = some ad ∧ ∀ j u, news[j]? = some u → w.cell? (ad.add j) = some u) (h1 : ∀ u ∈ news, u.oneCell' = true)
    (h63 : n + m ≤ maxLen) (hbytes : (n + m) * bytes ≤ 140737488355328) (hbase : base ≤ w.heap.size)
    (h : ∀ v' w', w'.ownsRow base e size v' (n + m) (xs ++ news) → w.grownBy w' v.ownBlock → wpList P ops Q rest (a.put o.dst v') w') : wpList P ops Q (o :: rest) a w := by
  rcases hsrc with ⟨rfl, rfl, rfl⟩ | ⟨ad, rfl, hc⟩
  · refine BigFrame.wpList_want hgd fun K hK => ?_
    have hrun := run_append_owned_none (P := P) (w := w) base t o.type e i size ht hi v n xs hown
    unfold Oper.wp
    simp [execOp, ho, resolve, invoke, builtin, hs, hx, hrun, Result.andThen]
    have hn : news = [] := List.eq_nil_of_length_eq_zero (by simpa using hl)
    exact hK _ _ (h v w (by rw [hn]; simpa using hown) ⟨rfl, rfl, rfl, Nat.le_refl _, fun _ _ _ => rfl⟩)
  · exact BigFrame.wpList_want hgd fun K hK => wp_append_own w s x t ho base e i z size bytes ht hi hz hsize hby hzs hsz v n xs hs hown ad m c news hx hl hc h1 h63 hbytes hbase fun v' w' h2 h3 _ => hK _ _ (h v' w' h2 h3)

/-- the same, as a step of a region that draws its order -/
theorem step_append_any {P : Program} {w : World} {ops : Array Oper} {o : Oper} {a : Act} {K : Act → World → Prop} {Q : Exit → Act → World → Prop} {E : Prop} (hgd : o.guard = none) (s x : Operand) (t : TypeId)
    (ho : o.op = .call { callee := .builtin .append, args := #[s, x], argTypes := #[t, t] })
    (base : Nat) (e : TypeId) (i : TypeInfo) (z : Value) (size bytes : Nat) (ht : P.underlying t = some (.slice e)) (hi : P.info? e = some i) (hz : i.zero = some z)
    (hsize : i.size = size) (hby : i.bytes = bytes) (hzs : z.cells.size = size) (hsz : 0 < size)
    (v : Value) (n : Nat) (xs : List Value) (hs : a.eval s = v) (hown : w.ownsRow base e size v n xs)
    (A : Option Addr) (m c : Nat) (news : List Value) (hx : a.eval x = .slice A m c) (hl : news.length = m * size)
    (hsrc : (A = none ∧ m = 0 ∧ c = 0) ∨ ∃ ad, A = some ad ∧ ∀ j u, news[j]? = some u → w.cell? (ad.add j) = some u) (h1 : ∀ u ∈ news, u.oneCell' = true)
    (h63 : n + m ≤ maxLen) (hbytes : (n + m) * bytes ≤ 140737488355328) (hbase : base ≤ w.heap.size)
    (h : ∀ A' c' w', w'.ownsRow base e size (.slice A' (n + m) c') (n + m) (xs ++ news) → w.grownBy w' v.ownBlock → K (a.put o.dst (.slice A' (n + m) c')) w') :
    if Region.wanted o (yielded ops a.tmps) = true then Oper.wp P o a w K Q else E := by
  have hw : Region.wanted o (yielded ops a.tmps) = true := by simp [Region.wanted, hgd]
  rw [if_pos hw]
  have form : ∀ {v' : Value} {w' : World}, w'.ownsRow base e size v' (n + m) (xs ++ news) → w.grownBy w' v.ownBlock → K (a.put o.dst v') w' := by
    intro v' w' h2 h3
    have : ∃ A' c', v' = .slice A' (n + m) c' := by
      rcases h2.2 with ⟨e1, e2⟩ | ⟨g, cap, cur, e1, _⟩
      · exact ⟨none, 0, by rw [e1, e2]⟩
      · exact ⟨_, _, e1⟩
    obtain ⟨A', c', rfl⟩ := this
    exact h A' c' w' h2 h3
  rcases hsrc with ⟨rfl, rfl, rfl⟩ | ⟨ad, rfl, hc⟩
  · have hrun := run_append_owned_none (P := P) (w := w) base t o.type e i size ht hi v n xs hown
    unfold Oper.wp
    simp [execOp, ho, resolve, invoke, builtin, hs, hx, hrun, Result.andThen]
    have hn : news = [] := List.eq_nil_of_length_eq_zero (by simpa using hl)
    exact form (by rw [hn]; simpa using hown) ⟨rfl, rfl, rfl, Nat.le_refl _, fun _ _ _ => rfl⟩
  · exact wp_append_own w s x t ho base e i z size bytes ht hi hz hsize hby hzs hsz v n xs hs hown ad m c news hx hl hc h1 h63 hbytes hbase fun v' w' h2 h3 _ => form h2 h3
end AppendAny
end Go.Proofs.YtpllcnpmjnmcfaaDoor

/-
  Rows of resources: what lies in a row of the call's own, append, and small. No condition.
-/
set_option linter.unusedVariables false
set_option linter.unusedSimpArgs false
namespace Go.Proofs.YtpllcnpmjnmcfaaDoor
open Go.ChangeShapes Go.WideShapes Go.ChangeAt Go.RowKit Go.Lib
open NumMath
namespace Re
def flatR : List Rx → List Value
  | [] => []
  | x :: l => R3 x ++ flatR l
theorem flatR_cat : ∀ (l m : List Rx), flatR (l ++ m) = flatR l ++ flatR m
  | [], _ => rfl
  | x :: l, m => by rw [List.cons_append, flatR, flatR, flatR_cat l m, List.append_assoc]
theorem flatR_len : ∀ (l : List Rx), (flatR l).length = l.length * 3
  | [] => rfl
  | x :: l => by rw [flatR, List.length_append, flatR_len l, List.length_cons]; simp; omega
theorem flatR_at : ∀ {l : List Rx} {k : Nat} {x : Rx}, l[k]? = some x → ∀ j, j < 3 → (flatR l)[k * 3 + j]? = (R3 x)[j]?
  | [], k, x, h, _, _ => by simp at h
  | y :: l, 0, x, h, j, hj => by
    simp only [List.getElem?_cons_zero, Option.some.injEq] at h
    subst h
    rw [flatR, List.getElem?_append_left (by simp; omega)]
    simp
  | y :: l, k + 1, x, h, j, hj => by
    simp only [List.getElem?_cons_succ] at h
    rw [flatR, List.getElem?_append_right (by simp; omega), ← flatR_at h j hj]
    congr 1
    simp; omega
theorem one_flatR : ∀ (l : List Rx), ∀ u ∈ flatR l, u.oneCell' = true
  | [], u, h => by cases h
  | x :: l, u, h => by
    rw [flatR, List.mem_append] at h
    rcases h with h | h
    · simp only [List.mem_cons, List.not_mem_nil, or_false] at h
      rcases h with rfl | rfl | rfl <;> rfl
    · exact one_flatR l u h
/-- a row of the call's own holds the list -/
theorem ress_own {w : World} {base n c : Nat} {A : Option Addr} {l : List Rx} (h : w.ownsRow base 23 3 (.slice A n c) n (flatR l)) (hn : l.length = n) (hk : ∀ x ∈ l, x.Ok) : Ress w A l := fun k x hx => by
  obtain ⟨h1, h2⟩ := h
  have hkl : k < l.length := (List.getElem?_eq_some_iff.1 hx).1
  rcases h2 with ⟨_, h0⟩ | ⟨g, cap, cur, e, _, hg, _, _, _, ht⟩
  · omega
  · injection e with e1 _ _
    subst e1
    refine ⟨hk x (List.mem_of_getElem? hx), g, 0, rfl, lt_of_at hg, fun j v hv => ?_⟩
    have hj : j < 3 := by have := (List.getElem?_eq_some_iff.1 hv).1; simpa using this
    rw [← flatR_at hx j hj, ← ht, List.getElem?_take_of_lt (by omega)] at hv
    exact cell_of hg _ (by simpa using hv)
theorem res_info : ∃ i, Tryd.prog.info? 23 = some i ∧ i.zero = some (.agg #[.int .i64 0, .int .i64 0, .int .i64 0]) ∧ i.size = 3 ∧ i.bytes = 24 := by
  have h : (Tryd.prog.info? 23).map (fun i => (i.zero, i.size, i.bytes)) = some (some (.agg #[.int .i64 0, .int .i64 0, .int .i64 0]), 3, 24) := by kernel_rfl
  cases hi : Tryd.prog.info? 23 with
  | none => rw [hi] at h; cases h
  | some i =>
    rw [hi] at h
    simp only [Option.map_some, Option.some.injEq, Prod.mk.injEq] at h
    exact ⟨i, rfl, h.1, h.2.1, h.2.2⟩
/-- append of one onto a row of the call's own -/
theorem wpList_append_res {w : World} {ops : Array Oper} {rest : List Oper} {o : Oper} {a : Act} {Q : Exit → Act → World → Prop} (hgd : o.guard = none) (s x : Operand)
    (ho : o.op = .call { callee := .builtin .append, args := #[s, x], argTypes := #[30, 30] })
    (base : Nat) (l : List Rx) (A : Option Addr) (n c : Nat) (hs : a.eval s = .slice A n c) (hown : w.ownsRow base 23 3 (.slice A n c) n (flatR l))
    (b m : Nat) (y : Rx) (hx : a.eval x = .slice (some ⟨b, 0, none⟩) 1 m) (hb : w.rangeAt b 0 (R3 y)) (hn : n ≤ 1000000) (hbase : base ≤ w.heap.size)
    (h : ∀ A' c' w', w'.ownsRow base 23 3 (.slice A' (n + 1) c') (n + 1) (flatR (l ++ [y])) → Below base w w' → wpList Tryd.prog ops Q rest (a.put o.dst (.slice A' (n + 1) c')) w') : wpList Tryd.prog ops Q (o :: rest) a w := by
  obtain ⟨i, hi, hz, hsz, hby⟩ := res_info
  refine AppendAny.wpList_append_want (by simp [Region.wanted, hgd]) s x 30 ho base 23 i (.agg #[.int .i64 0, .int .i64 0, .int .i64 0]) 3 24 Tryd.underlying30 hi hz hsz hby rfl (by decide) (.slice A n c) n (flatR l) hs hown (some ⟨b, 0, none⟩) 1 m (R3 y) hx rfl (.inr ⟨_, rfl, fun j u hu => ?_⟩) ?_ (by unfold maxLen; omega) (by omega) hbase fun v' w' h2 h3 => ?_
  · have := hb j u hu
    rw [Nat.zero_add] at this
    rw [show (⟨b, 0, none⟩ : Addr).add j = ⟨b, j, none⟩ by unfold Addr.add; split <;> simp_all]
    exact this
  · exact fun u hu => one_flatR [y] u (by rw [flatR, flatR, List.append_nil]; exact hu)
  · have : ∃ A' c', v' = .slice A' (n + 1) c' := by
      rcases h2.2 with ⟨e1, e2⟩ | ⟨g, cap, cur, e1, _⟩
      · exact ⟨none, 0, by rw [e1, e2]⟩
      · exact ⟨_, _, e1⟩
    obtain ⟨A', c', rfl⟩ := this
    refine h A' c' w' (by rw [flatR_cat, flatR, flatR, List.append_nil]; exact h2) ((Below.refl base w).grown h3 hbase fun k hk => (hown.lt k hk).1)
/-- numbers from 0 to 2^55 -/
def smallB (a : Rx) : Bool := decide (0 ≤ a.c) && (decide (a.c ≤ 36028797018963968) && (decide (0 ≤ a.m) && (decide (a.m ≤ 36028797018963968) && (decide (0 ≤ a.p) && decide (a.p ≤ 36028797018963968)))))
theorem small_in {a : Rx} (h : smallB a = true) : In 36028797018963968 a := by
  simp only [smallB, Bool.and_eq_true, decide_eq_true_eq] at h
  exact ⟨⟨h.1, h.2.1⟩, ⟨h.2.2.1, h.2.2.2.1⟩, ⟨h.2.2.2.2.1, h.2.2.2.2.2⟩⟩
set_option maxRecDepth 100000 in
theorem small_any (a : Rx) (w : World) : Calls Tryd.prog 22 #[.agg #[.int .i64 a.c, .int .i64 a.m, .int .i64 a.p]] w fun e w' => e = .returned (.bool (smallB a)) ∧ Below w.heap.size w w' := by
  unfold smallB
  refine if h0 : 0 ≤ a.c then if h1 : a.c ≤ 36028797018963968 then if h2 : 0 ≤ a.m then if h3 : a.m ≤ 36028797018963968 then if h4 : 0 ≤ a.p then if h5 : a.p ≤ 36028797018963968 then ?_ else ?_ else ?_ else ?_ else ?_ else ?_ else ?_
  all_goals
    simp only [*, decide_true, decide_false, Bool.and_true, Bool.and_false, Bool.false_and, Bool.true_and]
    go_enter Tryd.func22, Tryd.ntmps22
    go_wp2
    go_ret
    exact ⟨rfl, by go_grown⟩
end Re
end Go.Proofs.YtpllcnpmjnmcfaaDoor
