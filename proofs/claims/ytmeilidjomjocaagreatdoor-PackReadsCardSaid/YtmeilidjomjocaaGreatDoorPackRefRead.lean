/-
  The document's readings of numbers and texts by contract: its Reader (a text, a place, an error) stands for an error and the bytes left, and turns as the plain readings say. Conditions: the text has at most 2^46 bytes, the place lies in it. And what follows of it, part by part, each with its conditions.
-/
import Derived.Test.YtmeilidjomjocaaGreatDoorPackAll
import Derived.Test.YtmeilidjomjocaaGreatDoorNumRefTake
import Derived.BigRegion
/- The document's readings of numbers and texts by contract: its Reader (a text, a place, an error) stands for an error and the bytes left, and turns as the plain readings say. Conditions: the text has at most 2^46 bytes, the place lies in it. -/
set_option linter.unusedVariables false
set_option linter.unusedSimpArgs false
namespace Go.Proofs.YtmeilidjomjocaaGreatDoor
open Go.ChangeShapes Go.WideShapes Go.ChangeAt Go.RowKit Go.Lib
open LebMath WirePure Sd Wire
namespace Pk

set_option maxRecDepth 20000 in
theorem rfail_ref (S : ByteArray) (A : Int) (c d : Int) (w : World) :
    Calls Tryz.prog 85 #[.agg #[.string S, .int .i64 A, .int .i64 c], .int .i64 d] w fun e w' => e = .returned (.agg #[.string S, .int .i64 A, .int .i64 (fst c d)]) ∧ Below w.heap.size w w' := by
  by_cases hc : c = 0
  · subst hc
    rw [fst_no]
    go_enter Tryz.func85, Tryz.ntmps85
    go_wp2_with fail
    refine bodyPost_ret (v := .agg #[.string S, .int .i64 A, .int .i64 d]) ?hres rfl ?_
    case hres => simp [results, Tryz.results85, go_sem]
    exact ⟨rfl, ((Below.refl _ _).alloc (Nat.le_refl _) _).alloc (by simp) _⟩
  · rw [fst_yes hc]
    go_enter Tryz.func85, Tryz.ntmps85
    go_wp2_with fail
    refine bodyPost_ret (v := .agg #[.string S, .int .i64 A, .int .i64 c]) ?hres rfl ?_
    case hres => simp [results, Tryz.results85, go_sem]
    exact ⟨rfl, ((Below.refl _ _).alloc (Nat.le_refl _) _).alloc (by simp) _⟩

theorem r3_cells {w : World} {g : Nat} {u v x : Value} {t : TypeId} (h : w.heap[g]? = some (.cells #[u, v, x] t (0, 0))) :
    (w.cell? ⟨g, 0, none⟩ = some u ∧ w.cell? ⟨g, 1, none⟩ = some v ∧ w.cell? ⟨g, 2, none⟩ = some x) ∧ w.frozen? ⟨g, 0, none⟩ = false ∧ w.frozen? ⟨g, 1, none⟩ = false ∧ w.frozen? ⟨g, 2, none⟩ = false := by
  refine ⟨⟨?_, ?_, ?_⟩, ?_, ?_, ?_⟩ <;> simp [World.cell?, World.frozen?, h]
theorem r3_set0 {w : World} {g : Nat} {u v x : Value} {t : TypeId} (h : w.heap[g]? = some (.cells #[u, v, x] t (0, 0))) (y : Value) : (w.setCell ⟨g, 0, none⟩ y).heap[g]? = some (.cells #[y, v, x] t (0, 0)) := by
  simpa using heap_setCell_same w g 0 _ _ y h
theorem r3_set2 {w : World} {g : Nat} {u v x : Value} {t : TypeId} (h : w.heap[g]? = some (.cells #[u, v, x] t (0, 0))) (y : Value) : (w.setCell ⟨g, 2, none⟩ y).heap[g]? = some (.cells #[u, v, y] t (0, 0)) := by
  simpa using heap_setCell_same w g 2 _ _ y h
theorem r3_set1 {w : World} {g : Nat} {u v x : Value} {t : TypeId} (h : w.heap[g]? = some (.cells #[u, v, x] t (0, 0))) (y : Value) : (w.setCell ⟨g, 1, none⟩ y).heap[g]? = some (.cells #[u, y, x] t (0, 0)) := by
  simpa using heap_setCell_same w g 1 _ _ y h

/-- a great number: the error, the value, how far -/
def bigE (c : Int) (l : List UInt8) : Int := if (takeV l).2 = 0 then fst c (why l) else c
def bigV (c : Int) (l : List UInt8) : Nat := if bigE c l = 0 then (takeV l).1 else 0
def bigK (c : Int) (l : List UInt8) : Nat := if bigE c l = 0 then (takeV l).2 else 0
theorem big_short {l : List UInt8} {k : Nat} (hk : l.length ≤ k) (h9 : l.length < 10) (h : false = (l.take k).any fun x => decide (x.toNat < 128)) : bigE 0 l = 40 ∧ bigV 0 l = 0 ∧ bigK 0 l = 0 := by
  rw [List.take_of_length_le hk] at h
  have hz : (takeV l).2 = 0 := by
    rw [takeV_all (fun j hj => ?_)]
    by_cases hb : 128 ≤ (l.getD j 0).toNat
    · exact hb
    · exfalso
      have e : l.getD j 0 = l[j] := by simp [List.getD, hj]
      have : (l.any fun x => decide (x.toNat < 128)) = true := List.any_eq_true.2 ⟨l[j], List.getElem_mem _, by rw [← e]; exact decide_eq_true (by omega)⟩
      rw [← h] at this
      exact absurd this (by simp)
  have hw : bigE 0 l = 40 := by
    unfold bigE why
    rw [if_pos hz, fst_no, if_neg (by omega), if_neg (by rw [← h]; simp)]
  refine ⟨hw, ?_, ?_⟩
  · unfold bigV; rw [hw]; rfl
  · unfold bigK; rw [hw]; rfl
theorem why_form {l : List UInt8} {k : Nat} (h : 10 ≤ l.length ∨ true = (l.take k).any fun x => decide (x.toNat < 128)) : why l = 3 := by
  unfold why
  rcases h with h | h
  · rw [if_pos h]
  · split
    · rfl
    · rw [if_pos]
      obtain ⟨x, hx, hb⟩ := List.any_eq_true.1 h.symm
      exact List.any_eq_true.2 ⟨x, List.mem_of_mem_take hx, hb⟩
theorem big_form {l : List UInt8} (hw : why l = 3) (hz : (takeV l).2 = 0) : bigE 0 l = 3 ∧ bigV 0 l = 0 ∧ bigK 0 l = 0 := by
  have e : bigE 0 l = 3 := by unfold bigE; rw [if_pos hz, fst_no, hw]
  refine ⟨e, ?_, ?_⟩
  · unfold bigV; rw [e]; rfl
  · unfold bigK; rw [e]; rfl
theorem big_good {l : List UInt8} (hz : (takeV l).2 ≠ 0) : bigE 0 l = 0 ∧ bigV 0 l = (takeV l).1 ∧ bigK 0 l = (takeV l).2 := by
  have e : bigE 0 l = 0 := by unfold bigE; rw [if_neg hz]
  refine ⟨e, ?_, ?_⟩
  · unfold bigV; rw [e]; rfl
  · unfold bigK; rw [e]; rfl
theorem bigE_err {c : Int} (h : c ≠ 0) (l : List UInt8) : bigE c l = c := by
  unfold bigE
  split
  · exact fst_yes h _
  · rfl
theorem bigV_err {c : Int} (h : c ≠ 0) (l : List UInt8) : bigV c l = 0 := by unfold bigV; rw [bigE_err h, if_neg h]
theorem bigK_err {c : Int} (h : c ≠ 0) (l : List UInt8) : bigK c l = 0 := by unfold bigK; rw [bigE_err h, if_neg h]

set_option maxRecDepth 20000 in
set_option maxHeartbeats 4000000 in
theorem rbig_ref (S : ByteArray) (A : Nat) (c : Int) (hS : S.size ≤ 70368744177664) (hA : A ≤ S.size) (l : List UInt8) (hl : S.data.toList.drop A = l) (w : World) :
    Calls Tryz.prog 87 #[.agg #[.string S, .int .i64 A, .int .i64 c]] w fun e w' => e = .returned (.tuple #[.agg #[.string S, .int .i64 (A + bigK c l : Nat), .int .i64 (bigE c l)], .int .u64 (bigV c l : Nat)]) ∧ Below w.heap.size w w' := by
  by_cases hc : c = 0
  · subst hc
    have hr : (S.extract A S.size).data.toList = l := by
      rw [← hl]
      have e : S.data.toList.length = S.size := Array.length_toList
      simp
      rw [List.take_of_length_le (by rw [List.length_drop, e]; exact Nat.le_refl _)]
    obtain ⟨R, hR⟩ : ∃ R, S.extract A S.size = R := ⟨_, rfl⟩
    rw [hR] at hr
    have hlen : l.length = R.size := by rw [← hr]; exact Array.length_toList
    have hRs : R.size ≤ 70368744177664 := by rw [← hR]; simp; omega
    go_enter Tryz.func87, Tryz.ntmps87
    go_wp2_with fail
    go_loop [5, 6] (fun sm i => ∃ k : Nat, k ≤ R.size ∧ k ≤ 10 ∧ i = .int .i64 k ∧ ∃ b : Bool, sm = .bool b ∧ Hid (b = (R.data.toList.take k).any fun x => decide (x.toNat < 128))) (fun _ i => 10 - (RowKit.intOf i).toNat)
    case atStart => exact ⟨0, Nat.zero_le _, by omega, rfl, false, rfl, rfl⟩
    case round =>
      obtain ⟨k, hk, hk10, rfl, b, rfl, HB⟩ := hrel
      by_cases hlt : k < R.size
      · have hb : (R[k].toNat : Int) < 256 := by have := R[k].toNat_lt; omega
        by_cases h10 : k < 10
        · have HN : Hid ((b || decide ((R[k].toNat : Int) < 128)) = (R.data.toList.take (k + 1)).any fun x => decide (x.toNat < 128)) := by
            show _ = _
            have e : R.data.toList.length = R.size := Array.length_toList
            have ek : R.data.toList[k]'(by omega) = R[k] := by rw [Array.getElem_toList]; rfl
            rw [List.take_succ_eq_append_getElem (by omega : k < R.data.toList.length), List.any_append, ← HB.out, ek]
            have e2 : ((R[k].toNat : Int) < 128) ↔ R[k].toNat < 128 := by omega
            simp [e2]
          cases b
          · by_cases hs : (R[k].toNat : Int) < 128
            · go_wp2_with fail
              go_round
              case rel => exact ⟨k + 1, by omega, by omega, by go_num, true, rfl, by show _ = _; rw [← HN.out]; simp [hs]⟩
              case measure => simp [RowKit.intOf]; omega
            · go_wp2_with fail
              go_round
              case rel => exact ⟨k + 1, by omega, by omega, by go_num, false, rfl, by show _ = _; rw [← HN.out]; simp [hs]⟩
              case measure => simp [RowKit.intOf]; omega
          · go_wp2_with fail
            go_round
            case rel => exact ⟨k + 1, by omega, by omega, by go_num, true, rfl, by show _ = _; rw [← HN.out]; simp⟩
            case measure => simp [RowKit.intOf]; omega
        · obtain rfl : k = 10 := by omega
          cases b
          · have HW := Lib.hid (why_form (l := l) (k := 10) (Or.inl (by omega)))
            go_wp2_with fail
            obtain ⟨w0, hw0⟩ : ∃ v, (w.alloc (.cells #[.string S, .int .i64 A, .int .i64 0] 31)).alloc (.cells #[.string ⟨#[]⟩, .int .i64 0, .int .i64 0] 31) = v := ⟨_, rfl⟩
            have Z0 := Lib.hid (show w0.heap[w.heap.size]? = some (.cells #[.string S, .int .i64 A, .int .i64 0] 31 (0, 0)) by
              rw [← hw0]
              have hx := ((Below.refl (w.heap.size + 1) (w.alloc (.cells #[.string S, .int .i64 A, .int .i64 0] 31))).alloc (by simp) (.cells #[.string ⟨#[]⟩, .int .i64 0, .int .i64 0] 31)).block w.heap.size (by omega)
              exact hx.trans (heap_alloc_new w _))
            have Y0 := Lib.hid (show w0.heap[w.heap.size + 1]? = some (.cells #[.string ⟨#[]⟩, .int .i64 0, .int .i64 0] 31 (0, 0)) by
              rw [← hw0]
              have hx := heap_alloc_new (w.alloc (.cells #[.string S, .int .i64 A, .int .i64 0] 31)) (.cells #[.string ⟨#[]⟩, .int .i64 0, .int .i64 0] 31)
              simpa using hx)
            have B0 := Lib.hid (show Below w.heap.size w w0 by rw [← hw0]; exact ((Below.refl _ _).alloc (Nat.le_refl _) _).alloc (by simp) _)
            rw [hw0]
            clear hw0
            refine (NumRefTake.refTake_any R w0 (by show _ ≤ _; unfold maxLen; omega)).mono ?_
            rw [hr]
            rintro e w1 ⟨rfl, hb1⟩
            have B1 := Lib.hid (B0.out.trans (hb1.mono B0.out.size))
            have Y1 := Lib.hid ((hb1.block (w.heap.size + 1) (lt_of_block Y0.out)).trans Y0.out)
            have Z1 := Lib.hid ((hb1.block w.heap.size (lt_of_block Z0.out)).trans Z0.out)
            clear hb1
            obtain ⟨⟨c0, c1, c2⟩, f0, f1, f2⟩ := r3_cells Z1.out
            by_cases hz : (takeV l).2 = 0
            · have HX := Lib.hid (big_form HW.out hz)
              rw [hz]
              go_wp2_with fail
              refine (rfail_ref S A 0 3 w1).mono ?_
              rintro e w2 ⟨rfl, hb2⟩
              have B2 := Lib.hid (B1.out.trans (hb2.mono B1.out.size))
              have Y2 := Lib.hid ((hb2.block (w.heap.size + 1) (lt_of_block Y1.out)).trans Y1.out)
              have Z2 := Lib.hid ((hb2.block w.heap.size (lt_of_block Z1.out)).trans Z1.out)
              clear hb2
              clear c0 c1 c2 f0 f1 f2
              have y1 := r3_set0 Y2.out (.string S)
              obtain ⟨v1, hv1⟩ : ∃ v, w2.setCell ⟨w.heap.size + 1, 0, none⟩ (.string S) = v := ⟨_, rfl⟩
              rw [hv1] at y1
              obtain ⟨⟨p0, p1, p2⟩, q0, q1, q2⟩ := r3_cells Y2.out
              obtain ⟨⟨d0, d1, d2⟩, g0, g1, g2⟩ := r3_cells y1
              have y2 := r3_set1 y1 (.int .i64 A)
              obtain ⟨v2, hv2⟩ : ∃ v, v1.setCell ⟨w.heap.size + 1, 1, none⟩ (.int .i64 A) = v := ⟨_, rfl⟩
              rw [hv2] at y2
              obtain ⟨⟨d3, d4, d5⟩, g3, g4, g5⟩ := r3_cells y2
              have y3 := r3_set2 y2 (.int .i64 (fst 0 3))
              obtain ⟨v3, hv3⟩ : ∃ v, v2.setCell ⟨w.heap.size + 1, 2, none⟩ (.int .i64 (fst 0 3)) = v := ⟨_, rfl⟩
              rw [hv3] at y3
              obtain ⟨⟨d6, d7, d8⟩, g6, g7, g8⟩ := r3_cells y3
              have BZ := Lib.hid (show Below w.heap.size w v3 by
                rw [← hv3, ← hv2, ← hv1]
                exact ((B2.out.setCell (p := ⟨w.heap.size + 1, 0, none⟩) (by show _ ≤ _ + _; omega) _).setCell (p := ⟨w.heap.size + 1, 1, none⟩) (by show _ ≤ _ + _; omega) _).setCell (p := ⟨w.heap.size + 1, 2, none⟩) (by show _ ≤ _ + _; omega) _)
              clear y1 y2 y3
              go_wp2_with fail
              refine bodyPost_ret (v := .tuple #[.agg #[.string S, .int .i64 A, .int .i64 (fst 0 3)], .int .u64 0]) ?hres rfl ?_
              case hres => simp [results, Tryz.results87, go_sem, d6, d7, d8]
              exact ⟨by rw [HX.out.1, HX.out.2.1, HX.out.2.2]; rfl, BZ.out⟩
            · have HX := Lib.hid (big_good hz)
              have h10 := takeV_le l
              obtain ⟨⟨V, K⟩, hVK⟩ : ∃ t, takeV l = t := ⟨_, rfl⟩
              rw [hVK] at hz h10 HX ⊢
              clear hVK
              have x1 := r3_set1 Z1.out (.int .i64 ((A : Int) + (K : Int)))
              obtain ⟨u1, hu1⟩ : ∃ v, w1.setCell ⟨w.heap.size, 1, none⟩ (.int .i64 ((A : Int) + (K : Int))) = v := ⟨_, rfl⟩
              rw [hu1] at x1
              obtain ⟨⟨e0, e1, e2⟩, _, _, _⟩ := r3_cells x1
              have B2 := Lib.hid (show Below w.heap.size w u1 by
                rw [← hu1]
                exact B1.out.setCell (Nat.le_refl _) _)
              have Y2 := Lib.hid (show u1.heap[w.heap.size + 1]? = some (.cells #[.string ⟨#[]⟩, .int .i64 0, .int .i64 0] 31 (0, 0)) by
                rw [← hu1]
                exact (Below.heap_setCell _ _ _ _ (by show w.heap.size + 1 ≠ w.heap.size; omega)).trans Y1.out)
              clear x1
              have y1 := r3_set0 Y2.out (.string S)
              obtain ⟨v1, hv1⟩ : ∃ v, u1.setCell ⟨w.heap.size + 1, 0, none⟩ (.string S) = v := ⟨_, rfl⟩
              rw [hv1] at y1
              obtain ⟨⟨p0, p1, p2⟩, q0, q1, q2⟩ := r3_cells Y2.out
              obtain ⟨⟨d0, d1, d2⟩, g0, g1, g2⟩ := r3_cells y1
              have y2 := r3_set1 y1 (.int .i64 ((A : Int) + (K : Int)))
              obtain ⟨v2, hv2⟩ : ∃ v, v1.setCell ⟨w.heap.size + 1, 1, none⟩ (.int .i64 ((A : Int) + (K : Int))) = v := ⟨_, rfl⟩
              rw [hv2] at y2
              obtain ⟨⟨d3, d4, d5⟩, g3, g4, g5⟩ := r3_cells y2
              have y3 := r3_set2 y2 (.int .i64 0)
              obtain ⟨v3, hv3⟩ : ∃ v, v2.setCell ⟨w.heap.size + 1, 2, none⟩ (.int .i64 0) = v := ⟨_, rfl⟩
              rw [hv3] at y3
              obtain ⟨⟨d6, d7, d8⟩, g6, g7, g8⟩ := r3_cells y3
              have BZ := Lib.hid (show Below w.heap.size w v3 by
                rw [← hv3, ← hv2, ← hv1]
                exact ((B2.out.setCell (p := ⟨w.heap.size + 1, 0, none⟩) (by show _ ≤ _ + _; omega) _).setCell (p := ⟨w.heap.size + 1, 1, none⟩) (by show _ ≤ _ + _; omega) _).setCell (p := ⟨w.heap.size + 1, 2, none⟩) (by show _ ≤ _ + _; omega) _)
              clear y1 y2 y3
              go_wp2_with fail
              refine bodyPost_ret (v := .tuple #[.agg #[.string S, .int .i64 ((A : Int) + (K : Int)), .int .i64 0], .int .u64 (V : Nat)]) ?hres rfl ?_
              case hres => simp [results, Tryz.results87, go_sem, d6, d7, d8]
              exact ⟨by rw [HX.out.1, HX.out.2.1, HX.out.2.2]; rfl, BZ.out⟩
          · have HW := Lib.hid (why_form (l := l) (k := 10) (Or.inl (by omega)))
            go_wp2_with fail
            obtain ⟨w0, hw0⟩ : ∃ v, (w.alloc (.cells #[.string S, .int .i64 A, .int .i64 0] 31)).alloc (.cells #[.string ⟨#[]⟩, .int .i64 0, .int .i64 0] 31) = v := ⟨_, rfl⟩
            have Z0 := Lib.hid (show w0.heap[w.heap.size]? = some (.cells #[.string S, .int .i64 A, .int .i64 0] 31 (0, 0)) by
              rw [← hw0]
              have hx := ((Below.refl (w.heap.size + 1) (w.alloc (.cells #[.string S, .int .i64 A, .int .i64 0] 31))).alloc (by simp) (.cells #[.string ⟨#[]⟩, .int .i64 0, .int .i64 0] 31)).block w.heap.size (by omega)
              exact hx.trans (heap_alloc_new w _))
            have Y0 := Lib.hid (show w0.heap[w.heap.size + 1]? = some (.cells #[.string ⟨#[]⟩, .int .i64 0, .int .i64 0] 31 (0, 0)) by
              rw [← hw0]
              have hx := heap_alloc_new (w.alloc (.cells #[.string S, .int .i64 A, .int .i64 0] 31)) (.cells #[.string ⟨#[]⟩, .int .i64 0, .int .i64 0] 31)
              simpa using hx)
            have B0 := Lib.hid (show Below w.heap.size w w0 by rw [← hw0]; exact ((Below.refl _ _).alloc (Nat.le_refl _) _).alloc (by simp) _)
            rw [hw0]
            clear hw0
            refine (NumRefTake.refTake_any R w0 (by show _ ≤ _; unfold maxLen; omega)).mono ?_
            rw [hr]
            rintro e w1 ⟨rfl, hb1⟩
            have B1 := Lib.hid (B0.out.trans (hb1.mono B0.out.size))
            have Y1 := Lib.hid ((hb1.block (w.heap.size + 1) (lt_of_block Y0.out)).trans Y0.out)
            have Z1 := Lib.hid ((hb1.block w.heap.size (lt_of_block Z0.out)).trans Z0.out)
            clear hb1
            obtain ⟨⟨c0, c1, c2⟩, f0, f1, f2⟩ := r3_cells Z1.out
            by_cases hz : (takeV l).2 = 0
            · have HX := Lib.hid (big_form HW.out hz)
              rw [hz]
              go_wp2_with fail
              refine (rfail_ref S A 0 3 w1).mono ?_
              rintro e w2 ⟨rfl, hb2⟩
              have B2 := Lib.hid (B1.out.trans (hb2.mono B1.out.size))
              have Y2 := Lib.hid ((hb2.block (w.heap.size + 1) (lt_of_block Y1.out)).trans Y1.out)
              have Z2 := Lib.hid ((hb2.block w.heap.size (lt_of_block Z1.out)).trans Z1.out)
              clear hb2
              clear c0 c1 c2 f0 f1 f2
              have y1 := r3_set0 Y2.out (.string S)
              obtain ⟨v1, hv1⟩ : ∃ v, w2.setCell ⟨w.heap.size + 1, 0, none⟩ (.string S) = v := ⟨_, rfl⟩
              rw [hv1] at y1
              obtain ⟨⟨p0, p1, p2⟩, q0, q1, q2⟩ := r3_cells Y2.out
              obtain ⟨⟨d0, d1, d2⟩, g0, g1, g2⟩ := r3_cells y1
              have y2 := r3_set1 y1 (.int .i64 A)
              obtain ⟨v2, hv2⟩ : ∃ v, v1.setCell ⟨w.heap.size + 1, 1, none⟩ (.int .i64 A) = v := ⟨_, rfl⟩
              rw [hv2] at y2
              obtain ⟨⟨d3, d4, d5⟩, g3, g4, g5⟩ := r3_cells y2
              have y3 := r3_set2 y2 (.int .i64 (fst 0 3))
              obtain ⟨v3, hv3⟩ : ∃ v, v2.setCell ⟨w.heap.size + 1, 2, none⟩ (.int .i64 (fst 0 3)) = v := ⟨_, rfl⟩
              rw [hv3] at y3
              obtain ⟨⟨d6, d7, d8⟩, g6, g7, g8⟩ := r3_cells y3
              have BZ := Lib.hid (show Below w.heap.size w v3 by
                rw [← hv3, ← hv2, ← hv1]
                exact ((B2.out.setCell (p := ⟨w.heap.size + 1, 0, none⟩) (by show _ ≤ _ + _; omega) _).setCell (p := ⟨w.heap.size + 1, 1, none⟩) (by show _ ≤ _ + _; omega) _).setCell (p := ⟨w.heap.size + 1, 2, none⟩) (by show _ ≤ _ + _; omega) _)
              clear y1 y2 y3
              go_wp2_with fail
              refine bodyPost_ret (v := .tuple #[.agg #[.string S, .int .i64 A, .int .i64 (fst 0 3)], .int .u64 0]) ?hres rfl ?_
              case hres => simp [results, Tryz.results87, go_sem, d6, d7, d8]
              exact ⟨by rw [HX.out.1, HX.out.2.1, HX.out.2.2]; rfl, BZ.out⟩
            · have HX := Lib.hid (big_good hz)
              have h10 := takeV_le l
              obtain ⟨⟨V, K⟩, hVK⟩ : ∃ t, takeV l = t := ⟨_, rfl⟩
              rw [hVK] at hz h10 HX ⊢
              clear hVK
              have x1 := r3_set1 Z1.out (.int .i64 ((A : Int) + (K : Int)))
              obtain ⟨u1, hu1⟩ : ∃ v, w1.setCell ⟨w.heap.size, 1, none⟩ (.int .i64 ((A : Int) + (K : Int))) = v := ⟨_, rfl⟩
              rw [hu1] at x1
              obtain ⟨⟨e0, e1, e2⟩, _, _, _⟩ := r3_cells x1
              have B2 := Lib.hid (show Below w.heap.size w u1 by
                rw [← hu1]
                exact B1.out.setCell (Nat.le_refl _) _)
              have Y2 := Lib.hid (show u1.heap[w.heap.size + 1]? = some (.cells #[.string ⟨#[]⟩, .int .i64 0, .int .i64 0] 31 (0, 0)) by
                rw [← hu1]
                exact (Below.heap_setCell _ _ _ _ (by show w.heap.size + 1 ≠ w.heap.size; omega)).trans Y1.out)
              clear x1
              have y1 := r3_set0 Y2.out (.string S)
              obtain ⟨v1, hv1⟩ : ∃ v, u1.setCell ⟨w.heap.size + 1, 0, none⟩ (.string S) = v := ⟨_, rfl⟩
              rw [hv1] at y1
              obtain ⟨⟨p0, p1, p2⟩, q0, q1, q2⟩ := r3_cells Y2.out
              obtain ⟨⟨d0, d1, d2⟩, g0, g1, g2⟩ := r3_cells y1
              have y2 := r3_set1 y1 (.int .i64 ((A : Int) + (K : Int)))
              obtain ⟨v2, hv2⟩ : ∃ v, v1.setCell ⟨w.heap.size + 1, 1, none⟩ (.int .i64 ((A : Int) + (K : Int))) = v := ⟨_, rfl⟩
              rw [hv2] at y2
              obtain ⟨⟨d3, d4, d5⟩, g3, g4, g5⟩ := r3_cells y2
              have y3 := r3_set2 y2 (.int .i64 0)
              obtain ⟨v3, hv3⟩ : ∃ v, v2.setCell ⟨w.heap.size + 1, 2, none⟩ (.int .i64 0) = v := ⟨_, rfl⟩
              rw [hv3] at y3
              obtain ⟨⟨d6, d7, d8⟩, g6, g7, g8⟩ := r3_cells y3
              have BZ := Lib.hid (show Below w.heap.size w v3 by
                rw [← hv3, ← hv2, ← hv1]
                exact ((B2.out.setCell (p := ⟨w.heap.size + 1, 0, none⟩) (by show _ ≤ _ + _; omega) _).setCell (p := ⟨w.heap.size + 1, 1, none⟩) (by show _ ≤ _ + _; omega) _).setCell (p := ⟨w.heap.size + 1, 2, none⟩) (by show _ ≤ _ + _; omega) _)
              clear y1 y2 y3
              go_wp2_with fail
              refine bodyPost_ret (v := .tuple #[.agg #[.string S, .int .i64 ((A : Int) + (K : Int)), .int .i64 0], .int .u64 (V : Nat)]) ?hres rfl ?_
              case hres => simp [results, Tryz.results87, go_sem, d6, d7, d8]
              exact ⟨by rw [HX.out.1, HX.out.2.1, HX.out.2.2]; rfl, BZ.out⟩
      · cases b
        · by_cases h9 : R.size < 10
          · have HX := Lib.hid (big_short (l := l) (k := k) (by omega) (by omega) (by rw [← hr]; exact HB.out))
            go_wp2_with fail
            obtain ⟨w0, hw0⟩ : ∃ v, (w.alloc (.cells #[.string S, .int .i64 A, .int .i64 0] 31)).alloc (.cells #[.string ⟨#[]⟩, .int .i64 0, .int .i64 0] 31) = v := ⟨_, rfl⟩
            have Z0 := Lib.hid (show w0.heap[w.heap.size]? = some (.cells #[.string S, .int .i64 A, .int .i64 0] 31 (0, 0)) by
              rw [← hw0]
              have hx := ((Below.refl (w.heap.size + 1) (w.alloc (.cells #[.string S, .int .i64 A, .int .i64 0] 31))).alloc (by simp) (.cells #[.string ⟨#[]⟩, .int .i64 0, .int .i64 0] 31)).block w.heap.size (by omega)
              exact hx.trans (heap_alloc_new w _))
            have Y0 := Lib.hid (show w0.heap[w.heap.size + 1]? = some (.cells #[.string ⟨#[]⟩, .int .i64 0, .int .i64 0] 31 (0, 0)) by
              rw [← hw0]
              have hx := heap_alloc_new (w.alloc (.cells #[.string S, .int .i64 A, .int .i64 0] 31)) (.cells #[.string ⟨#[]⟩, .int .i64 0, .int .i64 0] 31)
              simpa using hx)
            have B0 := Lib.hid (show Below w.heap.size w w0 by rw [← hw0]; exact ((Below.refl _ _).alloc (Nat.le_refl _) _).alloc (by simp) _)
            rw [hw0]
            clear hw0
            obtain ⟨⟨c0, c1, c2⟩, f0, f1, f2⟩ := r3_cells Z0.out
            go_wp2_with fail
            refine (rfail_ref S A 0 40 w0).mono ?_
            rintro e w1 ⟨rfl, hb1⟩
            have B1 := Lib.hid (B0.out.trans (hb1.mono B0.out.size))
            have Y1 := Lib.hid ((hb1.block (w.heap.size + 1) (lt_of_block Y0.out)).trans Y0.out)
            have Z1 := Lib.hid ((hb1.block w.heap.size (lt_of_block Z0.out)).trans Z0.out)
            clear hb1
            clear c0 c1 c2 f0 f1 f2
            have y1 := r3_set0 Y1.out (.string S)
            obtain ⟨v1, hv1⟩ : ∃ v, w1.setCell ⟨w.heap.size + 1, 0, none⟩ (.string S) = v := ⟨_, rfl⟩
            rw [hv1] at y1
            obtain ⟨⟨p0, p1, p2⟩, q0, q1, q2⟩ := r3_cells Y1.out
            obtain ⟨⟨d0, d1, d2⟩, g0, g1, g2⟩ := r3_cells y1
            have y2 := r3_set1 y1 (.int .i64 A)
            obtain ⟨v2, hv2⟩ : ∃ v, v1.setCell ⟨w.heap.size + 1, 1, none⟩ (.int .i64 A) = v := ⟨_, rfl⟩
            rw [hv2] at y2
            obtain ⟨⟨d3, d4, d5⟩, g3, g4, g5⟩ := r3_cells y2
            have y3 := r3_set2 y2 (.int .i64 (fst 0 40))
            obtain ⟨v3, hv3⟩ : ∃ v, v2.setCell ⟨w.heap.size + 1, 2, none⟩ (.int .i64 (fst 0 40)) = v := ⟨_, rfl⟩
            rw [hv3] at y3
            obtain ⟨⟨d6, d7, d8⟩, g6, g7, g8⟩ := r3_cells y3
            have BZ := Lib.hid (show Below w.heap.size w v3 by
              rw [← hv3, ← hv2, ← hv1]
              exact ((B1.out.setCell (p := ⟨w.heap.size + 1, 0, none⟩) (by show _ ≤ _ + _; omega) _).setCell (p := ⟨w.heap.size + 1, 1, none⟩) (by show _ ≤ _ + _; omega) _).setCell (p := ⟨w.heap.size + 1, 2, none⟩) (by show _ ≤ _ + _; omega) _)
            clear y1 y2 y3
            go_wp2_with fail
            refine bodyPost_ret (v := .tuple #[.agg #[.string S, .int .i64 A, .int .i64 (fst 0 40)], .int .u64 0]) ?hres rfl ?_
            case hres => simp [results, Tryz.results87, go_sem, d6, d7, d8]
            exact ⟨by rw [HX.out.1, HX.out.2.1, HX.out.2.2]; rfl, BZ.out⟩
          · have HW := Lib.hid (why_form (l := l) (k := k) (Or.inl (by omega)))
            go_wp2_with fail
            obtain ⟨w0, hw0⟩ : ∃ v, (w.alloc (.cells #[.string S, .int .i64 A, .int .i64 0] 31)).alloc (.cells #[.string ⟨#[]⟩, .int .i64 0, .int .i64 0] 31) = v := ⟨_, rfl⟩
            have Z0 := Lib.hid (show w0.heap[w.heap.size]? = some (.cells #[.string S, .int .i64 A, .int .i64 0] 31 (0, 0)) by
              rw [← hw0]
              have hx := ((Below.refl (w.heap.size + 1) (w.alloc (.cells #[.string S, .int .i64 A, .int .i64 0] 31))).alloc (by simp) (.cells #[.string ⟨#[]⟩, .int .i64 0, .int .i64 0] 31)).block w.heap.size (by omega)
              exact hx.trans (heap_alloc_new w _))
            have Y0 := Lib.hid (show w0.heap[w.heap.size + 1]? = some (.cells #[.string ⟨#[]⟩, .int .i64 0, .int .i64 0] 31 (0, 0)) by
              rw [← hw0]
              have hx := heap_alloc_new (w.alloc (.cells #[.string S, .int .i64 A, .int .i64 0] 31)) (.cells #[.string ⟨#[]⟩, .int .i64 0, .int .i64 0] 31)
              simpa using hx)
            have B0 := Lib.hid (show Below w.heap.size w w0 by rw [← hw0]; exact ((Below.refl _ _).alloc (Nat.le_refl _) _).alloc (by simp) _)
            rw [hw0]
            clear hw0
            refine (NumRefTake.refTake_any R w0 (by show _ ≤ _; unfold maxLen; omega)).mono ?_
            rw [hr]
            rintro e w1 ⟨rfl, hb1⟩
            have B1 := Lib.hid (B0.out.trans (hb1.mono B0.out.size))
            have Y1 := Lib.hid ((hb1.block (w.heap.size + 1) (lt_of_block Y0.out)).trans Y0.out)
            have Z1 := Lib.hid ((hb1.block w.heap.size (lt_of_block Z0.out)).trans Z0.out)
            clear hb1
            obtain ⟨⟨c0, c1, c2⟩, f0, f1, f2⟩ := r3_cells Z1.out
            by_cases hz : (takeV l).2 = 0
            · have HX := Lib.hid (big_form HW.out hz)
              rw [hz]
              go_wp2_with fail
              refine (rfail_ref S A 0 3 w1).mono ?_
              rintro e w2 ⟨rfl, hb2⟩
              have B2 := Lib.hid (B1.out.trans (hb2.mono B1.out.size))
              have Y2 := Lib.hid ((hb2.block (w.heap.size + 1) (lt_of_block Y1.out)).trans Y1.out)
              have Z2 := Lib.hid ((hb2.block w.heap.size (lt_of_block Z1.out)).trans Z1.out)
              clear hb2
              clear c0 c1 c2 f0 f1 f2
              have y1 := r3_set0 Y2.out (.string S)
              obtain ⟨v1, hv1⟩ : ∃ v, w2.setCell ⟨w.heap.size + 1, 0, none⟩ (.string S) = v := ⟨_, rfl⟩
              rw [hv1] at y1
              obtain ⟨⟨p0, p1, p2⟩, q0, q1, q2⟩ := r3_cells Y2.out
              obtain ⟨⟨d0, d1, d2⟩, g0, g1, g2⟩ := r3_cells y1
              have y2 := r3_set1 y1 (.int .i64 A)
              obtain ⟨v2, hv2⟩ : ∃ v, v1.setCell ⟨w.heap.size + 1, 1, none⟩ (.int .i64 A) = v := ⟨_, rfl⟩
              rw [hv2] at y2
              obtain ⟨⟨d3, d4, d5⟩, g3, g4, g5⟩ := r3_cells y2
              have y3 := r3_set2 y2 (.int .i64 (fst 0 3))
              obtain ⟨v3, hv3⟩ : ∃ v, v2.setCell ⟨w.heap.size + 1, 2, none⟩ (.int .i64 (fst 0 3)) = v := ⟨_, rfl⟩
              rw [hv3] at y3
              obtain ⟨⟨d6, d7, d8⟩, g6, g7, g8⟩ := r3_cells y3
              have BZ := Lib.hid (show Below w.heap.size w v3 by
                rw [← hv3, ← hv2, ← hv1]
                exact ((B2.out.setCell (p := ⟨w.heap.size + 1, 0, none⟩) (by show _ ≤ _ + _; omega) _).setCell (p := ⟨w.heap.size + 1, 1, none⟩) (by show _ ≤ _ + _; omega) _).setCell (p := ⟨w.heap.size + 1, 2, none⟩) (by show _ ≤ _ + _; omega) _)
              clear y1 y2 y3
              go_wp2_with fail
              refine bodyPost_ret (v := .tuple #[.agg #[.string S, .int .i64 A, .int .i64 (fst 0 3)], .int .u64 0]) ?hres rfl ?_
              case hres => simp [results, Tryz.results87, go_sem, d6, d7, d8]
              exact ⟨by rw [HX.out.1, HX.out.2.1, HX.out.2.2]; rfl, BZ.out⟩
            · have HX := Lib.hid (big_good hz)
              have h10 := takeV_le l
              obtain ⟨⟨V, K⟩, hVK⟩ : ∃ t, takeV l = t := ⟨_, rfl⟩
              rw [hVK] at hz h10 HX ⊢
              clear hVK
              have x1 := r3_set1 Z1.out (.int .i64 ((A : Int) + (K : Int)))
              obtain ⟨u1, hu1⟩ : ∃ v, w1.setCell ⟨w.heap.size, 1, none⟩ (.int .i64 ((A : Int) + (K : Int))) = v := ⟨_, rfl⟩
              rw [hu1] at x1
              obtain ⟨⟨e0, e1, e2⟩, _, _, _⟩ := r3_cells x1
              have B2 := Lib.hid (show Below w.heap.size w u1 by
                rw [← hu1]
                exact B1.out.setCell (Nat.le_refl _) _)
              have Y2 := Lib.hid (show u1.heap[w.heap.size + 1]? = some (.cells #[.string ⟨#[]⟩, .int .i64 0, .int .i64 0] 31 (0, 0)) by
                rw [← hu1]
                exact (Below.heap_setCell _ _ _ _ (by show w.heap.size + 1 ≠ w.heap.size; omega)).trans Y1.out)
              clear x1
              have y1 := r3_set0 Y2.out (.string S)
              obtain ⟨v1, hv1⟩ : ∃ v, u1.setCell ⟨w.heap.size + 1, 0, none⟩ (.string S) = v := ⟨_, rfl⟩
              rw [hv1] at y1
              obtain ⟨⟨p0, p1, p2⟩, q0, q1, q2⟩ := r3_cells Y2.out
              obtain ⟨⟨d0, d1, d2⟩, g0, g1, g2⟩ := r3_cells y1
              have y2 := r3_set1 y1 (.int .i64 ((A : Int) + (K : Int)))
              obtain ⟨v2, hv2⟩ : ∃ v, v1.setCell ⟨w.heap.size + 1, 1, none⟩ (.int .i64 ((A : Int) + (K : Int))) = v := ⟨_, rfl⟩
              rw [hv2] at y2
              obtain ⟨⟨d3, d4, d5⟩, g3, g4, g5⟩ := r3_cells y2
              have y3 := r3_set2 y2 (.int .i64 0)
              obtain ⟨v3, hv3⟩ : ∃ v, v2.setCell ⟨w.heap.size + 1, 2, none⟩ (.int .i64 0) = v := ⟨_, rfl⟩
              rw [hv3] at y3
              obtain ⟨⟨d6, d7, d8⟩, g6, g7, g8⟩ := r3_cells y3
              have BZ := Lib.hid (show Below w.heap.size w v3 by
                rw [← hv3, ← hv2, ← hv1]
                exact ((B2.out.setCell (p := ⟨w.heap.size + 1, 0, none⟩) (by show _ ≤ _ + _; omega) _).setCell (p := ⟨w.heap.size + 1, 1, none⟩) (by show _ ≤ _ + _; omega) _).setCell (p := ⟨w.heap.size + 1, 2, none⟩) (by show _ ≤ _ + _; omega) _)
              clear y1 y2 y3
              go_wp2_with fail
              refine bodyPost_ret (v := .tuple #[.agg #[.string S, .int .i64 ((A : Int) + (K : Int)), .int .i64 0], .int .u64 (V : Nat)]) ?hres rfl ?_
              case hres => simp [results, Tryz.results87, go_sem, d6, d7, d8]
              exact ⟨by rw [HX.out.1, HX.out.2.1, HX.out.2.2]; rfl, BZ.out⟩
        · have HW := Lib.hid (why_form (l := l) (k := k) (Or.inr (by rw [← hr]; exact HB.out)))
          go_wp2_with fail
          obtain ⟨w0, hw0⟩ : ∃ v, (w.alloc (.cells #[.string S, .int .i64 A, .int .i64 0] 31)).alloc (.cells #[.string ⟨#[]⟩, .int .i64 0, .int .i64 0] 31) = v := ⟨_, rfl⟩
          have Z0 := Lib.hid (show w0.heap[w.heap.size]? = some (.cells #[.string S, .int .i64 A, .int .i64 0] 31 (0, 0)) by
            rw [← hw0]
            have hx := ((Below.refl (w.heap.size + 1) (w.alloc (.cells #[.string S, .int .i64 A, .int .i64 0] 31))).alloc (by simp) (.cells #[.string ⟨#[]⟩, .int .i64 0, .int .i64 0] 31)).block w.heap.size (by omega)
            exact hx.trans (heap_alloc_new w _))
          have Y0 := Lib.hid (show w0.heap[w.heap.size + 1]? = some (.cells #[.string ⟨#[]⟩, .int .i64 0, .int .i64 0] 31 (0, 0)) by
            rw [← hw0]
            have hx := heap_alloc_new (w.alloc (.cells #[.string S, .int .i64 A, .int .i64 0] 31)) (.cells #[.string ⟨#[]⟩, .int .i64 0, .int .i64 0] 31)
            simpa using hx)
          have B0 := Lib.hid (show Below w.heap.size w w0 by rw [← hw0]; exact ((Below.refl _ _).alloc (Nat.le_refl _) _).alloc (by simp) _)
          rw [hw0]
          clear hw0
          refine (NumRefTake.refTake_any R w0 (by show _ ≤ _; unfold maxLen; omega)).mono ?_
          rw [hr]
          rintro e w1 ⟨rfl, hb1⟩
          have B1 := Lib.hid (B0.out.trans (hb1.mono B0.out.size))
          have Y1 := Lib.hid ((hb1.block (w.heap.size + 1) (lt_of_block Y0.out)).trans Y0.out)
          have Z1 := Lib.hid ((hb1.block w.heap.size (lt_of_block Z0.out)).trans Z0.out)
          clear hb1
          obtain ⟨⟨c0, c1, c2⟩, f0, f1, f2⟩ := r3_cells Z1.out
          by_cases hz : (takeV l).2 = 0
          · have HX := Lib.hid (big_form HW.out hz)
            rw [hz]
            go_wp2_with fail
            refine (rfail_ref S A 0 3 w1).mono ?_
            rintro e w2 ⟨rfl, hb2⟩
            have B2 := Lib.hid (B1.out.trans (hb2.mono B1.out.size))
            have Y2 := Lib.hid ((hb2.block (w.heap.size + 1) (lt_of_block Y1.out)).trans Y1.out)
            have Z2 := Lib.hid ((hb2.block w.heap.size (lt_of_block Z1.out)).trans Z1.out)
            clear hb2
            clear c0 c1 c2 f0 f1 f2
            have y1 := r3_set0 Y2.out (.string S)
            obtain ⟨v1, hv1⟩ : ∃ v, w2.setCell ⟨w.heap.size + 1, 0, none⟩ (.string S) = v := ⟨_, rfl⟩
            rw [hv1] at y1
            obtain ⟨⟨p0, p1, p2⟩, q0, q1, q2⟩ := r3_cells Y2.out
            obtain ⟨⟨d0, d1, d2⟩, g0, g1, g2⟩ := r3_cells y1
            have y2 := r3_set1 y1 (.int .i64 A)
            obtain ⟨v2, hv2⟩ : ∃ v, v1.setCell ⟨w.heap.size + 1, 1, none⟩ (.int .i64 A) = v := ⟨_, rfl⟩
            rw [hv2] at y2
            obtain ⟨⟨d3, d4, d5⟩, g3, g4, g5⟩ := r3_cells y2
            have y3 := r3_set2 y2 (.int .i64 (fst 0 3))
            obtain ⟨v3, hv3⟩ : ∃ v, v2.setCell ⟨w.heap.size + 1, 2, none⟩ (.int .i64 (fst 0 3)) = v := ⟨_, rfl⟩
            rw [hv3] at y3
            obtain ⟨⟨d6, d7, d8⟩, g6, g7, g8⟩ := r3_cells y3
            have BZ := Lib.hid (show Below w.heap.size w v3 by
              rw [← hv3, ← hv2, ← hv1]
              exact ((B2.out.setCell (p := ⟨w.heap.size + 1, 0, none⟩) (by show _ ≤ _ + _; omega) _).setCell (p := ⟨w.heap.size + 1, 1, none⟩) (by show _ ≤ _ + _; omega) _).setCell (p := ⟨w.heap.size + 1, 2, none⟩) (by show _ ≤ _ + _; omega) _)
            clear y1 y2 y3
            go_wp2_with fail
            refine bodyPost_ret (v := .tuple #[.agg #[.string S, .int .i64 A, .int .i64 (fst 0 3)], .int .u64 0]) ?hres rfl ?_
            case hres => simp [results, Tryz.results87, go_sem, d6, d7, d8]
            exact ⟨by rw [HX.out.1, HX.out.2.1, HX.out.2.2]; rfl, BZ.out⟩
          · have HX := Lib.hid (big_good hz)
            have h10 := takeV_le l
            obtain ⟨⟨V, K⟩, hVK⟩ : ∃ t, takeV l = t := ⟨_, rfl⟩
            rw [hVK] at hz h10 HX ⊢
            clear hVK
            have x1 := r3_set1 Z1.out (.int .i64 ((A : Int) + (K : Int)))
            obtain ⟨u1, hu1⟩ : ∃ v, w1.setCell ⟨w.heap.size, 1, none⟩ (.int .i64 ((A : Int) + (K : Int))) = v := ⟨_, rfl⟩
            rw [hu1] at x1
            obtain ⟨⟨e0, e1, e2⟩, _, _, _⟩ := r3_cells x1
            have B2 := Lib.hid (show Below w.heap.size w u1 by
              rw [← hu1]
              exact B1.out.setCell (Nat.le_refl _) _)
            have Y2 := Lib.hid (show u1.heap[w.heap.size + 1]? = some (.cells #[.string ⟨#[]⟩, .int .i64 0, .int .i64 0] 31 (0, 0)) by
              rw [← hu1]
              exact (Below.heap_setCell _ _ _ _ (by show w.heap.size + 1 ≠ w.heap.size; omega)).trans Y1.out)
            clear x1
            have y1 := r3_set0 Y2.out (.string S)
            obtain ⟨v1, hv1⟩ : ∃ v, u1.setCell ⟨w.heap.size + 1, 0, none⟩ (.string S) = v := ⟨_, rfl⟩
            rw [hv1] at y1
            obtain ⟨⟨p0, p1, p2⟩, q0, q1, q2⟩ := r3_cells Y2.out
            obtain ⟨⟨d0, d1, d2⟩, g0, g1, g2⟩ := r3_cells y1
            have y2 := r3_set1 y1 (.int .i64 ((A : Int) + (K : Int)))
            obtain ⟨v2, hv2⟩ : ∃ v, v1.setCell ⟨w.heap.size + 1, 1, none⟩ (.int .i64 ((A : Int) + (K : Int))) = v := ⟨_, rfl⟩
            rw [hv2] at y2
            obtain ⟨⟨d3, d4, d5⟩, g3, g4, g5⟩ := r3_cells y2
            have y3 := r3_set2 y2 (.int .i64 0)
            obtain ⟨v3, hv3⟩ : ∃ v, v2.setCell ⟨w.heap.size + 1, 2, none⟩ (.int .i64 0) = v := ⟨_, rfl⟩
            rw [hv3] at y3
            obtain ⟨⟨d6, d7, d8⟩, g6, g7, g8⟩ := r3_cells y3
            have BZ := Lib.hid (show Below w.heap.size w v3 by
              rw [← hv3, ← hv2, ← hv1]
              exact ((B2.out.setCell (p := ⟨w.heap.size + 1, 0, none⟩) (by show _ ≤ _ + _; omega) _).setCell (p := ⟨w.heap.size + 1, 1, none⟩) (by show _ ≤ _ + _; omega) _).setCell (p := ⟨w.heap.size + 1, 2, none⟩) (by show _ ≤ _ + _; omega) _)
            clear y1 y2 y3
            go_wp2_with fail
            refine bodyPost_ret (v := .tuple #[.agg #[.string S, .int .i64 ((A : Int) + (K : Int)), .int .i64 0], .int .u64 (V : Nat)]) ?hres rfl ?_
            case hres => simp [results, Tryz.results87, go_sem, d6, d7, d8]
            exact ⟨by rw [HX.out.1, HX.out.2.1, HX.out.2.2]; rfl, BZ.out⟩
  · rw [bigE_err hc, bigV_err hc, bigK_err hc]
    go_enter Tryz.func87, Tryz.ntmps87
    go_wp2_with fail
    refine bodyPost_ret (v := .tuple #[.agg #[.string S, .int .i64 A, .int .i64 c], .int .u64 0]) ?hres rfl ?_
    case hres => simp [results, Tryz.results87, go_sem]
    exact ⟨rfl, ((Below.refl _ _).alloc (Nat.le_refl _) _).alloc (by simp) _⟩

def numK (m : Nat) (c : Int) (l : List UInt8) : Nat := if numE m c l = 0 then (takeV l).2 else 0
theorem num_far (m : Nat) (c : Int) (l : List UInt8) (h : bigE c l ≠ 0) : numE m c l = bigE c l ∧ numV m c l = 0 ∧ numK m c l = 0 ∧ bigK c l = 0 := by
  have e : numE m c l = bigE c l := by
    by_cases hc : c = 0
    · subst hc
      unfold bigE at h ⊢
      unfold numE
      by_cases hz : (takeV l).2 = 0
      · rw [if_pos hz, if_pos hz]
      · rw [if_neg hz] at h; exact absurd rfl h
    · rw [numE_err hc, bigE_err hc]
  refine ⟨e, ?_, ?_, ?_⟩
  · unfold WirePure.numV; rw [e, if_neg h]
  · unfold numK; rw [e, if_neg h]
  · unfold bigK; rw [if_neg h]
theorem num_none (c : Int) (l : List UInt8) (h : bigE c l = 0) : c = 0 ∧ (takeV l).2 ≠ 0 ∧ bigV c l = (takeV l).1 ∧ bigK c l = (takeV l).2 := by
  have hc : c = 0 := by
    by_cases hc : c = 0
    · exact hc
    · rw [bigE_err hc] at h; exact absurd h hc
  subst hc
  refine ⟨rfl, ?_, ?_, ?_⟩
  · intro hz
    unfold bigE at h
    rw [if_pos hz, fst_no] at h
    exact why_ne l h
  · unfold bigV; rw [if_pos h]
  · unfold bigK; rw [if_pos h]
theorem num_big (m : Nat) (l : List UInt8) (h : (takeV l).2 ≠ 0) (hm : m < (takeV l).1) : numE m 0 l = 2 ∧ numV m 0 l = 0 ∧ numK m 0 l = 0 := by
  have e : numE m 0 l = 2 := by unfold numE; rw [if_neg h, if_pos hm, fst_no]
  exact ⟨e, by unfold WirePure.numV; rw [e]; rfl, by unfold numK; rw [e]; rfl⟩
theorem num_fits (m : Nat) (l : List UInt8) (h : (takeV l).2 ≠ 0) (hm : ¬ m < (takeV l).1) : numE m 0 l = 0 ∧ numV m 0 l = (takeV l).1 ∧ numK m 0 l = (takeV l).2 := by
  have e : numE m 0 l = 0 := by unfold numE; rw [if_neg h, if_neg hm]
  exact ⟨e, by unfold WirePure.numV; rw [e]; rfl, by unfold numK; rw [e]; rfl⟩

set_option maxRecDepth 20000 in
set_option maxHeartbeats 4000000 in
theorem rnum_ref (S : ByteArray) (A : Nat) (c : Int) (hS : S.size ≤ 70368744177664) (hA : A ≤ S.size) (l : List UInt8) (hl : S.data.toList.drop A = l) (m : Nat) (hm : m ≤ 9223372036854775807) (w : World) :
    Calls Tryz.prog 44 #[.agg #[.string S, .int .i64 A, .int .i64 c], .int .i64 m] w fun e w' => e = .returned (.tuple #[.agg #[.string S, .int .i64 (A + numK m c l : Nat), .int .i64 (numE m c l)], .int .i64 (WirePure.numV m c l : Nat)]) ∧ Below w.heap.size w w' := by
  have HBIG := fun wx => rbig_ref S A c hS hA l hl wx
  have HBIG := Lib.hid HBIG
  have h10 := takeV_le l
  by_cases hy : bigE c l = 0
  · obtain ⟨rfl, h1, h2, h3⟩ := num_none c l hy
    rw [hy, h2, h3] at HBIG
    clear h2 h3 hy
    have hlt := takeV_lt l
    by_cases hV : m < (takeV l).1
    · have HX := Lib.hid (num_big m l h1 hV)
      obtain ⟨⟨V, K⟩, hVK⟩ : ∃ t, takeV l = t := ⟨_, rfl⟩
      rw [hVK] at HBIG h10 hV hlt
      clear hVK h1 hl
      go_enter Tryz.func44, Tryz.ntmps44
      go_wp2_with fail
      obtain ⟨w0, hw0⟩ : ∃ v, (w.alloc (.cells #[.string S, .int .i64 A, .int .i64 0] 31)).alloc (.cells #[.string ⟨#[]⟩, .int .i64 0, .int .i64 0] 31) = v := ⟨_, rfl⟩
      have Z0 := Lib.hid (show w0.heap[w.heap.size]? = some (.cells #[.string S, .int .i64 A, .int .i64 0] 31 (0, 0)) by
        rw [← hw0]
        have hx := ((Below.refl (w.heap.size + 1) (w.alloc (.cells #[.string S, .int .i64 A, .int .i64 0] 31))).alloc (by simp) (.cells #[.string ⟨#[]⟩, .int .i64 0, .int .i64 0] 31)).block w.heap.size (by omega)
        exact hx.trans (heap_alloc_new w _))
      have Y0 := Lib.hid (show w0.heap[w.heap.size + 1]? = some (.cells #[.string ⟨#[]⟩, .int .i64 0, .int .i64 0] 31 (0, 0)) by
        rw [← hw0]
        have hx := heap_alloc_new (w.alloc (.cells #[.string S, .int .i64 A, .int .i64 0] 31)) (.cells #[.string ⟨#[]⟩, .int .i64 0, .int .i64 0] 31)
        simpa using hx)
      have B0 := Lib.hid (show Below w.heap.size w w0 by rw [← hw0]; exact ((Below.refl _ _).alloc (Nat.le_refl _) _).alloc (by simp) _)
      rw [hw0]
      clear hw0
      refine (HBIG.out w0).mono ?_
      rintro e w1 ⟨rfl, hb1⟩
      have B1 := Lib.hid (B0.out.trans (hb1.mono B0.out.size))
      have Y1 := Lib.hid ((hb1.block (w.heap.size + 1) (lt_of_block Y0.out)).trans Y0.out)
      have Z1 := Lib.hid ((hb1.block w.heap.size (lt_of_block Z0.out)).trans Z0.out)
      clear hb1
      have FZ := fun o => r3_cells (w := w1.alloc o) (((Below.refl w1.heap.size w1).alloc (Nat.le_refl _) o).block w.heap.size (lt_of_block Z1.out) |>.trans Z1.out)
      have c0 := fun o => (FZ o).1.1
      have c1 := fun o => (FZ o).1.2.1
      have c2 := fun o => (FZ o).1.2.2
      have f0 := fun o => (FZ o).2.1
      have f1 := fun o => (FZ o).2.2.1
      have f2 := fun o => (FZ o).2.2.2
      clear FZ
      go_wp2_with fail
      refine (rfail_ref S A 0 2 _).mono ?_
      rintro e w2 ⟨rfl, hb2⟩
      have BQ := Lib.hid (show Below w.heap.size w (w1.alloc (.cells #[.string S, .int .i64 ((A : Int) + (K : Int)), .int .i64 0] 31)) from B1.out.alloc B1.out.size _)
      have YQ := Lib.hid (((Below.refl w1.heap.size w1).alloc (Nat.le_refl _) (.cells #[.string S, .int .i64 ((A : Int) + (K : Int)), .int .i64 0] 31)).block (w.heap.size + 1) (lt_of_block Y1.out) |>.trans Y1.out)
      have B2 := Lib.hid (BQ.out.trans (hb2.mono BQ.out.size))
      have Y2 := Lib.hid ((hb2.block (w.heap.size + 1) (lt_of_block YQ.out)).trans YQ.out)
      clear hb2 c0 c1 c2 f0 f1 f2
      have y1 := r3_set0 Y2.out (.string S)
      obtain ⟨v1, hv1⟩ : ∃ v, w2.setCell ⟨w.heap.size + 1, 0, none⟩ (.string S) = v := ⟨_, rfl⟩
      rw [hv1] at y1
      obtain ⟨⟨p0, p1, p2⟩, q0, q1, q2⟩ := r3_cells Y2.out
      obtain ⟨⟨d0, d1, d2⟩, g0, g1, g2⟩ := r3_cells y1
      have y2 := r3_set1 y1 (.int .i64 A)
      obtain ⟨v2, hv2⟩ : ∃ v, v1.setCell ⟨w.heap.size + 1, 1, none⟩ (.int .i64 A) = v := ⟨_, rfl⟩
      rw [hv2] at y2
      obtain ⟨⟨d3, d4, d5⟩, g3, g4, g5⟩ := r3_cells y2
      have y3 := r3_set2 y2 (.int .i64 (fst 0 2))
      obtain ⟨v3, hv3⟩ : ∃ v, v2.setCell ⟨w.heap.size + 1, 2, none⟩ (.int .i64 (fst 0 2)) = v := ⟨_, rfl⟩
      rw [hv3] at y3
      obtain ⟨⟨d6, d7, d8⟩, g6, g7, g8⟩ := r3_cells y3
      have BZ := Lib.hid (show Below w.heap.size w v3 by
        rw [← hv3, ← hv2, ← hv1]
        exact ((B2.out.setCell (p := ⟨w.heap.size + 1, 0, none⟩) (by show _ ≤ _ + _; omega) _).setCell (p := ⟨w.heap.size + 1, 1, none⟩) (by show _ ≤ _ + _; omega) _).setCell (p := ⟨w.heap.size + 1, 2, none⟩) (by show _ ≤ _ + _; omega) _)
      clear y1 y2 y3
      go_wp2_with fail
      refine bodyPost_ret (v := .tuple #[.agg #[.string S, .int .i64 A, .int .i64 (fst 0 2)], .int .i64 0]) ?hres rfl ?_
      case hres => simp [results, Tryz.results44, go_sem, d6, d7, d8]
      exact ⟨by rw [HX.out.1, HX.out.2.1, HX.out.2.2]; rfl, BZ.out⟩
    · have HX := Lib.hid (num_fits m l h1 hV)
      obtain ⟨⟨V, K⟩, hVK⟩ : ∃ t, takeV l = t := ⟨_, rfl⟩
      rw [hVK] at HBIG h10 hV hlt HX
      clear hVK h1 hl
      have hwr : IntKind.i64.wrap (V : Int) = V := IntWalk.i64_in _ (by omega)
      go_enter Tryz.func44, Tryz.ntmps44
      go_wp2_with fail
      obtain ⟨w0, hw0⟩ : ∃ v, (w.alloc (.cells #[.string S, .int .i64 A, .int .i64 0] 31)).alloc (.cells #[.string ⟨#[]⟩, .int .i64 0, .int .i64 0] 31) = v := ⟨_, rfl⟩
      have Z0 := Lib.hid (show w0.heap[w.heap.size]? = some (.cells #[.string S, .int .i64 A, .int .i64 0] 31 (0, 0)) by
        rw [← hw0]
        have hx := ((Below.refl (w.heap.size + 1) (w.alloc (.cells #[.string S, .int .i64 A, .int .i64 0] 31))).alloc (by simp) (.cells #[.string ⟨#[]⟩, .int .i64 0, .int .i64 0] 31)).block w.heap.size (by omega)
        exact hx.trans (heap_alloc_new w _))
      have Y0 := Lib.hid (show w0.heap[w.heap.size + 1]? = some (.cells #[.string ⟨#[]⟩, .int .i64 0, .int .i64 0] 31 (0, 0)) by
        rw [← hw0]
        have hx := heap_alloc_new (w.alloc (.cells #[.string S, .int .i64 A, .int .i64 0] 31)) (.cells #[.string ⟨#[]⟩, .int .i64 0, .int .i64 0] 31)
        simpa using hx)
      have B0 := Lib.hid (show Below w.heap.size w w0 by rw [← hw0]; exact ((Below.refl _ _).alloc (Nat.le_refl _) _).alloc (by simp) _)
      rw [hw0]
      clear hw0
      refine (HBIG.out w0).mono ?_
      rintro e w1 ⟨rfl, hb1⟩
      have B1 := Lib.hid (B0.out.trans (hb1.mono B0.out.size))
      have Y1 := Lib.hid ((hb1.block (w.heap.size + 1) (lt_of_block Y0.out)).trans Y0.out)
      have Z1 := Lib.hid ((hb1.block w.heap.size (lt_of_block Z0.out)).trans Z0.out)
      clear hb1
      have FZ := fun o => r3_cells (w := w1.alloc o) (((Below.refl w1.heap.size w1).alloc (Nat.le_refl _) o).block w.heap.size (lt_of_block Z1.out) |>.trans Z1.out)
      have c0 := fun o => (FZ o).1.1
      have c1 := fun o => (FZ o).1.2.1
      have c2 := fun o => (FZ o).1.2.2
      have f0 := fun o => (FZ o).2.1
      have f1 := fun o => (FZ o).2.2.1
      have f2 := fun o => (FZ o).2.2.2
      clear FZ
      have BQ := Lib.hid (show Below w.heap.size w (w1.alloc (.cells #[.string S, .int .i64 ((A : Int) + (K : Int)), .int .i64 0] 31)) from B1.out.alloc B1.out.size _)
      have YQ := Lib.hid (((Below.refl w1.heap.size w1).alloc (Nat.le_refl _) (.cells #[.string S, .int .i64 ((A : Int) + (K : Int)), .int .i64 0] 31)).block (w.heap.size + 1) (lt_of_block Y1.out) |>.trans Y1.out)
      have y1 := r3_set0 YQ.out (.string S)
      obtain ⟨v1, hv1⟩ : ∃ v, (w1.alloc (.cells #[.string S, .int .i64 ((A : Int) + (K : Int)), .int .i64 0] 31)).setCell ⟨w.heap.size + 1, 0, none⟩ (.string S) = v := ⟨_, rfl⟩
      rw [hv1] at y1
      obtain ⟨⟨p0, p1, p2⟩, q0, q1, q2⟩ := r3_cells YQ.out
      obtain ⟨⟨d0, d1, d2⟩, g0, g1, g2⟩ := r3_cells y1
      have y2 := r3_set1 y1 (.int .i64 ((A : Int) + (K : Int)))
      obtain ⟨v2, hv2⟩ : ∃ v, v1.setCell ⟨w.heap.size + 1, 1, none⟩ (.int .i64 ((A : Int) + (K : Int))) = v := ⟨_, rfl⟩
      rw [hv2] at y2
      obtain ⟨⟨d3, d4, d5⟩, g3, g4, g5⟩ := r3_cells y2
      have y3 := r3_set2 y2 (.int .i64 0)
      obtain ⟨v3, hv3⟩ : ∃ v, v2.setCell ⟨w.heap.size + 1, 2, none⟩ (.int .i64 0) = v := ⟨_, rfl⟩
      rw [hv3] at y3
      obtain ⟨⟨d6, d7, d8⟩, g6, g7, g8⟩ := r3_cells y3
      have BZ := Lib.hid (show Below w.heap.size w v3 by
        rw [← hv3, ← hv2, ← hv1]
        exact ((BQ.out.setCell (p := ⟨w.heap.size + 1, 0, none⟩) (by show _ ≤ _ + _; omega) _).setCell (p := ⟨w.heap.size + 1, 1, none⟩) (by show _ ≤ _ + _; omega) _).setCell (p := ⟨w.heap.size + 1, 2, none⟩) (by show _ ≤ _ + _; omega) _)
      clear y1 y2 y3
      go_wp2_with fail
      refine bodyPost_ret (v := .tuple #[.agg #[.string S, .int .i64 ((A : Int) + (K : Int)), .int .i64 0], .int .i64 V]) ?hres rfl ?_
      case hres => simp [results, Tryz.results44, go_sem, d6, d7, d8]
      exact ⟨by rw [HX.out.1, HX.out.2.1, HX.out.2.2], BZ.out⟩
  · obtain ⟨h1, h2, h3, h4⟩ := num_far m c l hy
    obtain ⟨y, hY⟩ : ∃ y, bigE c l = y := ⟨_, rfl⟩
    have hv : bigV c l = 0 := by unfold bigV; rw [if_neg hy]
    rw [h1, h2, h3, hY]
    rw [h4, hY, hv] at HBIG
    rw [hY] at hy
    clear h1 h2 h3 h4 hY hv
    go_enter Tryz.func44, Tryz.ntmps44
    go_wp2_with fail
    obtain ⟨w0, hw0⟩ : ∃ v, (w.alloc (.cells #[.string S, .int .i64 A, .int .i64 c] 31)).alloc (.cells #[.string ⟨#[]⟩, .int .i64 0, .int .i64 0] 31) = v := ⟨_, rfl⟩
    have Z0 := Lib.hid (show w0.heap[w.heap.size]? = some (.cells #[.string S, .int .i64 A, .int .i64 c] 31 (0, 0)) by
      rw [← hw0]
      have hx := ((Below.refl (w.heap.size + 1) (w.alloc (.cells #[.string S, .int .i64 A, .int .i64 c] 31))).alloc (by simp) (.cells #[.string ⟨#[]⟩, .int .i64 0, .int .i64 0] 31)).block w.heap.size (by omega)
      exact hx.trans (heap_alloc_new w _))
    have Y0 := Lib.hid (show w0.heap[w.heap.size + 1]? = some (.cells #[.string ⟨#[]⟩, .int .i64 0, .int .i64 0] 31 (0, 0)) by
      rw [← hw0]
      have hx := heap_alloc_new (w.alloc (.cells #[.string S, .int .i64 A, .int .i64 c] 31)) (.cells #[.string ⟨#[]⟩, .int .i64 0, .int .i64 0] 31)
      simpa using hx)
    have B0 := Lib.hid (show Below w.heap.size w w0 by rw [← hw0]; exact ((Below.refl _ _).alloc (Nat.le_refl _) _).alloc (by simp) _)
    rw [hw0]
    clear hw0
    refine (HBIG.out w0).mono ?_
    rintro e w1 ⟨rfl, hb1⟩
    have B1 := Lib.hid (B0.out.trans (hb1.mono B0.out.size))
    have Y1 := Lib.hid ((hb1.block (w.heap.size + 1) (lt_of_block Y0.out)).trans Y0.out)
    have Z1 := Lib.hid ((hb1.block w.heap.size (lt_of_block Z0.out)).trans Z0.out)
    clear hb1
    have FZ := fun o => r3_cells (w := w1.alloc o) (((Below.refl w1.heap.size w1).alloc (Nat.le_refl _) o).block w.heap.size (lt_of_block Z1.out) |>.trans Z1.out)
    have c0 := fun o => (FZ o).1.1
    have c1 := fun o => (FZ o).1.2.1
    have c2 := fun o => (FZ o).1.2.2
    have f0 := fun o => (FZ o).2.1
    have f1 := fun o => (FZ o).2.2.1
    have f2 := fun o => (FZ o).2.2.2
    clear FZ
    have BQ := Lib.hid (show Below w.heap.size w (w1.alloc (.cells #[.string S, .int .i64 A, .int .i64 y] 31)) from B1.out.alloc B1.out.size _)
    have YQ := Lib.hid (((Below.refl w1.heap.size w1).alloc (Nat.le_refl _) (.cells #[.string S, .int .i64 A, .int .i64 y] 31)).block (w.heap.size + 1) (lt_of_block Y1.out) |>.trans Y1.out)
    have y1 := r3_set0 YQ.out (.string S)
    obtain ⟨v1, hv1⟩ : ∃ v, (w1.alloc (.cells #[.string S, .int .i64 A, .int .i64 y] 31)).setCell ⟨w.heap.size + 1, 0, none⟩ (.string S) = v := ⟨_, rfl⟩
    rw [hv1] at y1
    obtain ⟨⟨p0, p1, p2⟩, q0, q1, q2⟩ := r3_cells YQ.out
    obtain ⟨⟨d0, d1, d2⟩, g0, g1, g2⟩ := r3_cells y1
    have y2 := r3_set1 y1 (.int .i64 A)
    obtain ⟨v2, hv2⟩ : ∃ v, v1.setCell ⟨w.heap.size + 1, 1, none⟩ (.int .i64 A) = v := ⟨_, rfl⟩
    rw [hv2] at y2
    obtain ⟨⟨d3, d4, d5⟩, g3, g4, g5⟩ := r3_cells y2
    have y3 := r3_set2 y2 (.int .i64 y)
    obtain ⟨v3, hv3⟩ : ∃ v, v2.setCell ⟨w.heap.size + 1, 2, none⟩ (.int .i64 y) = v := ⟨_, rfl⟩
    rw [hv3] at y3
    obtain ⟨⟨d6, d7, d8⟩, g6, g7, g8⟩ := r3_cells y3
    have BZ := Lib.hid (show Below w.heap.size w v3 by
      rw [← hv3, ← hv2, ← hv1]
      exact ((BQ.out.setCell (p := ⟨w.heap.size + 1, 0, none⟩) (by show _ ≤ _ + _; omega) _).setCell (p := ⟨w.heap.size + 1, 1, none⟩) (by show _ ≤ _ + _; omega) _).setCell (p := ⟨w.heap.size + 1, 2, none⟩) (by show _ ≤ _ + _; omega) _)
    clear y1 y2 y3
    go_wp2_with fail
    refine bodyPost_ret (v := .tuple #[.agg #[.string S, .int .i64 A, .int .i64 y], .int .i64 0]) ?hres rfl ?_
    case hres => simp [results, Tryz.results44, go_sem, d6, d7, d8]
    exact ⟨rfl, BZ.out⟩
theorem numL_drop (m : Nat) (c : Int) (l : List UInt8) : numL m c l = l.drop (numK m c l) := by
  unfold numL numK
  split
  · rfl
  · rfl
theorem numK_le (m : Nat) (c : Int) (l : List UInt8) : numK m c l ≤ l.length ∧ numK m c l ≤ 10 := by
  unfold numK
  split
  · by_cases hz : (takeV l).2 = 0
    · rw [hz]; omega
    · have := takeV_some hz; exact ⟨this.1, this.2.1⟩
  · omega
def textK (m : Nat) (c : Int) (l : List UInt8) : Nat := numK m c l + if textE m c l = 0 then WirePure.numV m c l else 0
theorem text_far {m : Nat} {c : Int} {l : List UInt8} (h : numE m c l ≠ 0) : textE m c l = numE m c l ∧ textS m c l = [] ∧ textK m c l = numK m c l := by
  have e : textE m c l = numE m c l := takeE_err h _ _
  refine ⟨e, takeS_err h _ _, ?_⟩
  unfold textK
  rw [e, if_neg h]; rfl
theorem text_less {m : Nat} {c : Int} {l : List UInt8} (h : numE m c l = 0) (hs : l.length - numK m c l < WirePure.numV m c l) : textE m c l = 40 ∧ textS m c l = [] ∧ textK m c l = numK m c l := by
  have e : textE m c l = 40 := by
    unfold textE takeE
    rw [numL_drop, List.length_drop, if_pos hs, h, fst_no]
  refine ⟨e, ?_, ?_⟩
  · unfold textE at e
    unfold textS takeS
    rw [e]; rfl
  · unfold textK
    rw [e]; rfl
theorem text_fits {m : Nat} {c : Int} {l : List UInt8} (h : numE m c l = 0) (hs : ¬ l.length - numK m c l < WirePure.numV m c l) : textE m c l = 0 ∧ textS m c l = (l.drop (numK m c l)).take (WirePure.numV m c l) ∧ textK m c l = numK m c l + WirePure.numV m c l := by
  have e : textE m c l = 0 := by
    unfold textE takeE
    rw [numL_drop, List.length_drop, if_neg hs, h]
  refine ⟨e, ?_, ?_⟩
  · unfold textE at e
    unfold textS takeS
    rw [e, numL_drop]; rfl
  · unfold textK
    rw [e]; rfl

set_option maxRecDepth 20000 in
set_option maxHeartbeats 4000000 in
theorem rtext_ref (S : ByteArray) (A : Nat) (c : Int) (hS : S.size ≤ 70368744177664) (hA : A ≤ S.size) (l : List UInt8) (hl : S.data.toList.drop A = l) (m : Nat) (hm : m ≤ 9223372036854775807) (w : World) :
    Calls Tryz.prog 41 #[.agg #[.string S, .int .i64 A, .int .i64 c], .int .i64 m] w fun e w' => e = .returned (.tuple #[.agg #[.string S, .int .i64 (A + textK m c l : Nat), .int .i64 (textE m c l)], .string ⟨(textS m c l).toArray⟩]) ∧ Below w.heap.size w w' := by
  have HNUM := fun wx => rnum_ref S A c hS hA l hl m hm wx
  have HNUM := Lib.hid HNUM
  obtain ⟨k1, k2⟩ := numK_le m c l
  have k3 := numV_le m c l
  have hll : l.length = S.size - A := by rw [← hl, List.length_drop]; congr 1
  have hby : ∀ k n : Nat, (S.extract (A + k) (A + k + n)) = ⟨((l.drop k).take n).toArray⟩ := by
    intro k n
    apply ByteArray.ext
    apply Array.ext'
    rw [← hl, List.drop_drop]
    simp [List.extract_eq_take_drop]
  have HBY := Lib.hid (hby (numK m c l) (WirePure.numV m c l))
  clear hby
  by_cases hy : numE m c l = 0
  · by_cases hV : l.length - numK m c l < WirePure.numV m c l
    · have HX := Lib.hid (text_less hy hV)
      rw [hy] at HNUM
      obtain ⟨V, hVV⟩ : ∃ t, WirePure.numV m c l = t := ⟨_, rfl⟩
      obtain ⟨K, hK⟩ : ∃ t, numK m c l = t := ⟨_, rfl⟩
      rw [hVV, hK] at HNUM hV
      rw [hVV] at k3
      rw [hK] at k1 k2 HX
      clear hVV hK HBY hy hl
      have hcmp : (S.size : Int) - ((A : Int) + (K : Int)) < (V : Int) := by omega
      go_enter Tryz.func41, Tryz.ntmps41
      go_wp2_with fail
      obtain ⟨w0, hw0⟩ : ∃ v, (w.alloc (.cells #[.string S, .int .i64 A, .int .i64 c] 31)).alloc (.cells #[.string ⟨#[]⟩, .int .i64 0, .int .i64 0] 31) = v := ⟨_, rfl⟩
      have Z0 := Lib.hid (show w0.heap[w.heap.size]? = some (.cells #[.string S, .int .i64 A, .int .i64 c] 31 (0, 0)) by
        rw [← hw0]
        have hx := ((Below.refl (w.heap.size + 1) (w.alloc (.cells #[.string S, .int .i64 A, .int .i64 c] 31))).alloc (by simp) (.cells #[.string ⟨#[]⟩, .int .i64 0, .int .i64 0] 31)).block w.heap.size (by omega)
        exact hx.trans (heap_alloc_new w _))
      have Y0 := Lib.hid (show w0.heap[w.heap.size + 1]? = some (.cells #[.string ⟨#[]⟩, .int .i64 0, .int .i64 0] 31 (0, 0)) by
        rw [← hw0]
        have hx := heap_alloc_new (w.alloc (.cells #[.string S, .int .i64 A, .int .i64 c] 31)) (.cells #[.string ⟨#[]⟩, .int .i64 0, .int .i64 0] 31)
        simpa using hx)
      have B0 := Lib.hid (show Below w.heap.size w w0 by rw [← hw0]; exact ((Below.refl _ _).alloc (Nat.le_refl _) _).alloc (by simp) _)
      rw [hw0]
      clear hw0
      refine (HNUM.out w0).mono ?_
      rintro e w1 ⟨rfl, hb1⟩
      have B1 := Lib.hid (B0.out.trans (hb1.mono B0.out.size))
      have Y1 := Lib.hid ((hb1.block (w.heap.size + 1) (lt_of_block Y0.out)).trans Y0.out)
      have Z1 := Lib.hid ((hb1.block w.heap.size (lt_of_block Z0.out)).trans Z0.out)
      clear hb1
      have FZ := fun o => r3_cells (w := w1.alloc o) (((Below.refl w1.heap.size w1).alloc (Nat.le_refl _) o).block w.heap.size (lt_of_block Z1.out) |>.trans Z1.out)
      have c0 := fun o => (FZ o).1.1
      have c1 := fun o => (FZ o).1.2.1
      have c2 := fun o => (FZ o).1.2.2
      have f0 := fun o => (FZ o).2.1
      have f1 := fun o => (FZ o).2.2.1
      have f2 := fun o => (FZ o).2.2.2
      clear FZ
      go_wp2_with fail
      refine (rfail_ref S ((A : Int) + (K : Int)) 0 40 _).mono ?_
      rintro e w2 ⟨rfl, hb2⟩
      have BQ := Lib.hid (show Below w.heap.size w (w1.alloc (.cells #[.string S, .int .i64 ((A : Int) + (K : Int)), .int .i64 0] 31)) from B1.out.alloc B1.out.size _)
      have YQ := Lib.hid (((Below.refl w1.heap.size w1).alloc (Nat.le_refl _) (.cells #[.string S, .int .i64 ((A : Int) + (K : Int)), .int .i64 0] 31)).block (w.heap.size + 1) (lt_of_block Y1.out) |>.trans Y1.out)
      have B2 := Lib.hid (BQ.out.trans (hb2.mono BQ.out.size))
      have Y2 := Lib.hid ((hb2.block (w.heap.size + 1) (lt_of_block YQ.out)).trans YQ.out)
      clear hb2 c0 c1 c2 f0 f1 f2
      have y1 := r3_set0 Y2.out (.string S)
      obtain ⟨v1, hv1⟩ : ∃ v, w2.setCell ⟨w.heap.size + 1, 0, none⟩ (.string S) = v := ⟨_, rfl⟩
      rw [hv1] at y1
      obtain ⟨⟨p0, p1, p2⟩, q0, q1, q2⟩ := r3_cells Y2.out
      obtain ⟨⟨d0, d1, d2⟩, g0, g1, g2⟩ := r3_cells y1
      have y2 := r3_set1 y1 (.int .i64 ((A : Int) + (K : Int)))
      obtain ⟨v2, hv2⟩ : ∃ v, v1.setCell ⟨w.heap.size + 1, 1, none⟩ (.int .i64 ((A : Int) + (K : Int))) = v := ⟨_, rfl⟩
      rw [hv2] at y2
      obtain ⟨⟨d3, d4, d5⟩, g3, g4, g5⟩ := r3_cells y2
      have y3 := r3_set2 y2 (.int .i64 (fst 0 40))
      obtain ⟨v3, hv3⟩ : ∃ v, v2.setCell ⟨w.heap.size + 1, 2, none⟩ (.int .i64 (fst 0 40)) = v := ⟨_, rfl⟩
      rw [hv3] at y3
      obtain ⟨⟨d6, d7, d8⟩, g6, g7, g8⟩ := r3_cells y3
      have BZ := Lib.hid (show Below w.heap.size w v3 by
        rw [← hv3, ← hv2, ← hv1]
        exact ((B2.out.setCell (p := ⟨w.heap.size + 1, 0, none⟩) (by show _ ≤ _ + _; omega) _).setCell (p := ⟨w.heap.size + 1, 1, none⟩) (by show _ ≤ _ + _; omega) _).setCell (p := ⟨w.heap.size + 1, 2, none⟩) (by show _ ≤ _ + _; omega) _)
      clear y1 y2 y3
      go_wp2_with fail
      refine bodyPost_ret (v := .tuple #[.agg #[.string S, .int .i64 ((A : Int) + (K : Int)), .int .i64 (fst 0 40)], .string ⟨#[]⟩]) ?hres rfl ?_
      case hres => simp [results, Tryz.results41, go_sem, d6, d7, d8]
      exact ⟨by rw [HX.out.1, HX.out.2.1, HX.out.2.2]; rfl, BZ.out⟩
    · have HX := Lib.hid (text_fits hy hV)
      rw [hy] at HNUM
      obtain ⟨V, hVV⟩ : ∃ t, WirePure.numV m c l = t := ⟨_, rfl⟩
      obtain ⟨K, hK⟩ : ∃ t, numK m c l = t := ⟨_, rfl⟩
      rw [hVV, hK] at HNUM hV HX HBY
      rw [hVV] at k3
      rw [hK] at k1 k2
      clear hVV hK hy hl
      have hcmp : ¬ (S.size : Int) - ((A : Int) + (K : Int)) < (V : Int) := by omega
      have ht1 : ((A : Int) + (K : Int)).toNat = A + K := by omega
      have ht2 : ((A : Int) + (K : Int) + (V : Int)).toNat = A + K + V := by omega
      have hrun : ∀ v, (Instr.slice 9 (.string S) (some (.int .i64 ((A : Int) + (K : Int)))) (some (.int .i64 ((A : Int) + (K : Int) + (V : Int)))) none).run Tryz.prog v = .ok (.string (S.extract (A + K) (A + K + V))) v := by
        intro v
        have := run_slice_string (P := Tryz.prog) v 9 S .i64 .i64 ((A : Int) + (K : Int)) ((A : Int) + (K : Int) + (V : Int)) Tryz.underlying9 (by omega) (by omega) (by omega)
        rw [ht1, ht2] at this
        exact this
      go_enter Tryz.func41, Tryz.ntmps41
      go_wp2_with fail
      obtain ⟨w0, hw0⟩ : ∃ v, (w.alloc (.cells #[.string S, .int .i64 A, .int .i64 c] 31)).alloc (.cells #[.string ⟨#[]⟩, .int .i64 0, .int .i64 0] 31) = v := ⟨_, rfl⟩
      have Z0 := Lib.hid (show w0.heap[w.heap.size]? = some (.cells #[.string S, .int .i64 A, .int .i64 c] 31 (0, 0)) by
        rw [← hw0]
        have hx := ((Below.refl (w.heap.size + 1) (w.alloc (.cells #[.string S, .int .i64 A, .int .i64 c] 31))).alloc (by simp) (.cells #[.string ⟨#[]⟩, .int .i64 0, .int .i64 0] 31)).block w.heap.size (by omega)
        exact hx.trans (heap_alloc_new w _))
      have Y0 := Lib.hid (show w0.heap[w.heap.size + 1]? = some (.cells #[.string ⟨#[]⟩, .int .i64 0, .int .i64 0] 31 (0, 0)) by
        rw [← hw0]
        have hx := heap_alloc_new (w.alloc (.cells #[.string S, .int .i64 A, .int .i64 c] 31)) (.cells #[.string ⟨#[]⟩, .int .i64 0, .int .i64 0] 31)
        simpa using hx)
      have B0 := Lib.hid (show Below w.heap.size w w0 by rw [← hw0]; exact ((Below.refl _ _).alloc (Nat.le_refl _) _).alloc (by simp) _)
      rw [hw0]
      clear hw0
      refine (HNUM.out w0).mono ?_
      rintro e w1 ⟨rfl, hb1⟩
      have B1 := Lib.hid (B0.out.trans (hb1.mono B0.out.size))
      have Y1 := Lib.hid ((hb1.block (w.heap.size + 1) (lt_of_block Y0.out)).trans Y0.out)
      have Z1 := Lib.hid ((hb1.block w.heap.size (lt_of_block Z0.out)).trans Z0.out)
      clear hb1
      have FZ := fun o => r3_cells (w := w1.alloc o) (((Below.refl w1.heap.size w1).alloc (Nat.le_refl _) o).block w.heap.size (lt_of_block Z1.out) |>.trans Z1.out)
      have c0 := fun o => (FZ o).1.1
      have c1 := fun o => (FZ o).1.2.1
      have c2 := fun o => (FZ o).1.2.2
      have f0 := fun o => (FZ o).2.1
      have f1 := fun o => (FZ o).2.2.1
      have f2 := fun o => (FZ o).2.2.2
      clear FZ
      have BQ := Lib.hid (show Below w.heap.size w (w1.alloc (.cells #[.string S, .int .i64 ((A : Int) + (K : Int) + (V : Int)), .int .i64 0] 31)) from B1.out.alloc B1.out.size _)
      have YQ := Lib.hid (((Below.refl w1.heap.size w1).alloc (Nat.le_refl _) (.cells #[.string S, .int .i64 ((A : Int) + (K : Int) + (V : Int)), .int .i64 0] 31)).block (w.heap.size + 1) (lt_of_block Y1.out) |>.trans Y1.out)
      have y1 := r3_set0 YQ.out (.string S)
      obtain ⟨v1, hv1⟩ : ∃ v, (w1.alloc (.cells #[.string S, .int .i64 ((A : Int) + (K : Int) + (V : Int)), .int .i64 0] 31)).setCell ⟨w.heap.size + 1, 0, none⟩ (.string S) = v := ⟨_, rfl⟩
      rw [hv1] at y1
      obtain ⟨⟨p0, p1, p2⟩, q0, q1, q2⟩ := r3_cells YQ.out
      obtain ⟨⟨d0, d1, d2⟩, g0, g1, g2⟩ := r3_cells y1
      have y2 := r3_set1 y1 (.int .i64 ((A : Int) + (K : Int) + (V : Int)))
      obtain ⟨v2, hv2⟩ : ∃ v, v1.setCell ⟨w.heap.size + 1, 1, none⟩ (.int .i64 ((A : Int) + (K : Int) + (V : Int))) = v := ⟨_, rfl⟩
      rw [hv2] at y2
      obtain ⟨⟨d3, d4, d5⟩, g3, g4, g5⟩ := r3_cells y2
      have y3 := r3_set2 y2 (.int .i64 0)
      obtain ⟨v3, hv3⟩ : ∃ v, v2.setCell ⟨w.heap.size + 1, 2, none⟩ (.int .i64 0) = v := ⟨_, rfl⟩
      rw [hv3] at y3
      obtain ⟨⟨d6, d7, d8⟩, g6, g7, g8⟩ := r3_cells y3
      have BZ := Lib.hid (show Below w.heap.size w v3 by
        rw [← hv3, ← hv2, ← hv1]
        exact ((BQ.out.setCell (p := ⟨w.heap.size + 1, 0, none⟩) (by show _ ≤ _ + _; omega) _).setCell (p := ⟨w.heap.size + 1, 1, none⟩) (by show _ ≤ _ + _; omega) _).setCell (p := ⟨w.heap.size + 1, 2, none⟩) (by show _ ≤ _ + _; omega) _)
      clear y1 y2 y3
      go_wp2_with fail
      refine bodyPost_ret (v := .tuple #[.agg #[.string S, .int .i64 ((A : Int) + (K : Int) + (V : Int)), .int .i64 0], .string (S.extract (A + K) (A + K + V))]) ?hres rfl ?_
      case hres => simp [results, Tryz.results41, go_sem, d6, d7, d8]
      exact ⟨by rw [HX.out.1, HX.out.2.1, HX.out.2.2, ← HBY.out, ← Nat.add_assoc]; rfl, BZ.out⟩
  · have HX := Lib.hid (text_far hy)
    have hv : WirePure.numV m c l = 0 := by unfold WirePure.numV; rw [if_neg hy]
    have hk : numK m c l = 0 := by unfold numK; rw [if_neg hy]
    obtain ⟨y, hY⟩ : ∃ y, numE m c l = y := ⟨_, rfl⟩
    rw [hk, hY] at HX
    rw [hk, hY, hv] at HNUM
    rw [hY] at hy
    clear hv hk hY HBY hl
    go_enter Tryz.func41, Tryz.ntmps41
    go_wp2_with fail
    obtain ⟨w0, hw0⟩ : ∃ v, (w.alloc (.cells #[.string S, .int .i64 A, .int .i64 c] 31)).alloc (.cells #[.string ⟨#[]⟩, .int .i64 0, .int .i64 0] 31) = v := ⟨_, rfl⟩
    have Z0 := Lib.hid (show w0.heap[w.heap.size]? = some (.cells #[.string S, .int .i64 A, .int .i64 c] 31 (0, 0)) by
      rw [← hw0]
      have hx := ((Below.refl (w.heap.size + 1) (w.alloc (.cells #[.string S, .int .i64 A, .int .i64 c] 31))).alloc (by simp) (.cells #[.string ⟨#[]⟩, .int .i64 0, .int .i64 0] 31)).block w.heap.size (by omega)
      exact hx.trans (heap_alloc_new w _))
    have Y0 := Lib.hid (show w0.heap[w.heap.size + 1]? = some (.cells #[.string ⟨#[]⟩, .int .i64 0, .int .i64 0] 31 (0, 0)) by
      rw [← hw0]
      have hx := heap_alloc_new (w.alloc (.cells #[.string S, .int .i64 A, .int .i64 c] 31)) (.cells #[.string ⟨#[]⟩, .int .i64 0, .int .i64 0] 31)
      simpa using hx)
    have B0 := Lib.hid (show Below w.heap.size w w0 by rw [← hw0]; exact ((Below.refl _ _).alloc (Nat.le_refl _) _).alloc (by simp) _)
    rw [hw0]
    clear hw0
    refine (HNUM.out w0).mono ?_
    rintro e w1 ⟨rfl, hb1⟩
    have B1 := Lib.hid (B0.out.trans (hb1.mono B0.out.size))
    have Y1 := Lib.hid ((hb1.block (w.heap.size + 1) (lt_of_block Y0.out)).trans Y0.out)
    have Z1 := Lib.hid ((hb1.block w.heap.size (lt_of_block Z0.out)).trans Z0.out)
    clear hb1
    have FZ := fun o => r3_cells (w := w1.alloc o) (((Below.refl w1.heap.size w1).alloc (Nat.le_refl _) o).block w.heap.size (lt_of_block Z1.out) |>.trans Z1.out)
    have c0 := fun o => (FZ o).1.1
    have c1 := fun o => (FZ o).1.2.1
    have c2 := fun o => (FZ o).1.2.2
    have f0 := fun o => (FZ o).2.1
    have f1 := fun o => (FZ o).2.2.1
    have f2 := fun o => (FZ o).2.2.2
    clear FZ
    have BQ := Lib.hid (show Below w.heap.size w (w1.alloc (.cells #[.string S, .int .i64 A, .int .i64 y] 31)) from B1.out.alloc B1.out.size _)
    have YQ := Lib.hid (((Below.refl w1.heap.size w1).alloc (Nat.le_refl _) (.cells #[.string S, .int .i64 A, .int .i64 y] 31)).block (w.heap.size + 1) (lt_of_block Y1.out) |>.trans Y1.out)
    have y1 := r3_set0 YQ.out (.string S)
    obtain ⟨v1, hv1⟩ : ∃ v, (w1.alloc (.cells #[.string S, .int .i64 A, .int .i64 y] 31)).setCell ⟨w.heap.size + 1, 0, none⟩ (.string S) = v := ⟨_, rfl⟩
    rw [hv1] at y1
    obtain ⟨⟨p0, p1, p2⟩, q0, q1, q2⟩ := r3_cells YQ.out
    obtain ⟨⟨d0, d1, d2⟩, g0, g1, g2⟩ := r3_cells y1
    have y2 := r3_set1 y1 (.int .i64 A)
    obtain ⟨v2, hv2⟩ : ∃ v, v1.setCell ⟨w.heap.size + 1, 1, none⟩ (.int .i64 A) = v := ⟨_, rfl⟩
    rw [hv2] at y2
    obtain ⟨⟨d3, d4, d5⟩, g3, g4, g5⟩ := r3_cells y2
    have y3 := r3_set2 y2 (.int .i64 y)
    obtain ⟨v3, hv3⟩ : ∃ v, v2.setCell ⟨w.heap.size + 1, 2, none⟩ (.int .i64 y) = v := ⟨_, rfl⟩
    rw [hv3] at y3
    obtain ⟨⟨d6, d7, d8⟩, g6, g7, g8⟩ := r3_cells y3
    have BZ := Lib.hid (show Below w.heap.size w v3 by
      rw [← hv3, ← hv2, ← hv1]
      exact ((BQ.out.setCell (p := ⟨w.heap.size + 1, 0, none⟩) (by show _ ≤ _ + _; omega) _).setCell (p := ⟨w.heap.size + 1, 1, none⟩) (by show _ ≤ _ + _; omega) _).setCell (p := ⟨w.heap.size + 1, 2, none⟩) (by show _ ≤ _ + _; omega) _)
    clear y1 y2 y3
    go_wp2_with fail
    refine bodyPost_ret (v := .tuple #[.agg #[.string S, .int .i64 A, .int .i64 y], .string ⟨#[]⟩]) ?hres rfl ?_
    case hres => simp [results, Tryz.results41, go_sem, d6, d7, d8]
    exact ⟨by rw [HX.out.1, HX.out.2.1, HX.out.2.2]; rfl, BZ.out⟩

theorem textL_drop (m : Nat) (c : Int) (l : List UInt8) : textL m c l = l.drop (textK m c l) := by
  by_cases h : numE m c l = 0
  · by_cases hs : l.length - numK m c l < WirePure.numV m c l
    · obtain ⟨h1, h2, h3⟩ := text_less h hs
      rw [h3]
      unfold textE at h1
      unfold textL takeL
      rw [h1, numL_drop]; rfl
    · obtain ⟨h1, h2, h3⟩ := text_fits h hs
      rw [h3]
      unfold textE at h1
      unfold textL takeL
      rw [h1, numL_drop, if_pos rfl, List.drop_drop]
  · obtain ⟨h1, h2, h3⟩ := text_far h
    rw [h3]
    unfold textL
    rw [takeL_err h, numL_drop]
theorem textK_le (m : Nat) (c : Int) (l : List UInt8) : textK m c l ≤ l.length := by
  have hk := (numK_le m c l).1
  by_cases h : numE m c l = 0
  · by_cases hs : l.length - numK m c l < WirePure.numV m c l
    · rw [(text_less h hs).2.2]; exact hk
    · rw [(text_fits h hs).2.2]; omega
  · rw [(text_far h).2.2]; exact hk

/-- the document's reader: the text S, the place A where the bytes l are left -/
def At (S : ByteArray) (A : Nat) (l : List UInt8) : Prop := A ≤ S.size ∧ S.data.toList.drop A = l
theorem At.len {S : ByteArray} {A : Nat} {l : List UInt8} (h : At S A l) : l.length = S.size - A := by
  rw [← h.2, List.length_drop]; congr 1
theorem At.more {S : ByteArray} {A k : Nat} {l : List UInt8} (h : At S A l) (hk : k ≤ l.length) : At S (A + k) (l.drop k) := by
  have := h.len
  have h1 := h.1
  exact ⟨by omega, by rw [← h.2, List.drop_drop]⟩

theorem num_ref (S : ByteArray) (hS : S.size ≤ 70368744177664) (k : Nat) (hk : k < 18446744073709551616) (m : Int) (hm : m = k) (hm2 : k ≤ 9223372036854775807) (A : Nat) (c : Int) (l : List UInt8) (hA : At S A l) (x c' : Int) (l' : List UInt8) (hq : (intC k hk).rd c l = (x, c', l')) (w : World) :
    Calls Tryz.prog 44 #[.agg #[.string S, .int .i64 A, .int .i64 c], .int .i64 m] w fun e w' => ∃ A' : Nat, e = .returned (.tuple #[.agg #[.string S, .int .i64 A', .int .i64 c'], .int .i64 x]) ∧ At S A' l' ∧ Below w.heap.size w w' := by
  subst hm
  have e : (((WirePure.numV k c l : Nat) : Int), numE k c l, numL k c l) = (x, c', l') := hq
  injection e with e1 e2
  injection e2 with e2 e3
  rw [← e1, ← e2, ← e3]
  refine (rnum_ref S A c hS hA.1 l hA.2 k hm2 w).mono ?_
  rintro e w1 ⟨rfl, hb⟩
  exact ⟨A + numK k c l, rfl, by rw [numL_drop]; exact hA.more (numK_le k c l).1, hb⟩
theorem text_ref (S : ByteArray) (hS : S.size ≤ 70368744177664) (k : Nat) (hk : k < 18446744073709551616) (m : Int) (hm : m = k) (hm2 : k ≤ 9223372036854775807) (A : Nat) (c : Int) (l : List UInt8) (hA : At S A l) (x : ByteArray) (c' : Int) (l' : List UInt8) (hq : (textC k hk).rd c l = (x, c', l')) (w : World) :
    Calls Tryz.prog 41 #[.agg #[.string S, .int .i64 A, .int .i64 c], .int .i64 m] w fun e w' => ∃ A' : Nat, e = .returned (.tuple #[.agg #[.string S, .int .i64 A', .int .i64 c'], .string x]) ∧ At S A' l' ∧ Below w.heap.size w w' := by
  subst hm
  have e : ((⟨(textS k c l).toArray⟩ : ByteArray), textE k c l, textL k c l) = (x, c', l') := hq
  injection e with e1 e2
  injection e2 with e2 e3
  rw [← e1, ← e2, ← e3]
  refine (rtext_ref S A c hS hA.1 l hA.2 k hm2 w).mono ?_
  rintro e w1 ⟨rfl, hb⟩
  exact ⟨A + textK k c l, rfl, by rw [textL_drop]; exact hA.more (textK_le k c l), hb⟩
end Pk
end Go.Proofs.YtmeilidjomjocaaGreatDoor

/- The document's readings of chapter 7 (provostref07.three, TakeLabels, takes, Take, Of) by contract: what the plain codes say. Condition: the text has at most 2^46 bytes. -/
set_option linter.unusedVariables false
set_option linter.unusedSimpArgs false
namespace Go.Proofs.YtmeilidjomjocaaGreatDoor
open Go.ChangeShapes Go.WideShapes Go.ChangeAt Go.RowKit Go.Lib
open LebMath WirePure Sd Wire
namespace Pk

theorem four_boxes (w : World) (o1 o2 o3 o4 : Obj) (w0 : World) (h : (((w.alloc o1).alloc o2).alloc o3).alloc o4 = w0) :
    Below w.heap.size w w0 ∧ w0.heap[w.heap.size]? = some o1 ∧ w0.heap[w.heap.size + 1]? = some o2 ∧ w0.heap[w.heap.size + 1 + 1]? = some o3 ∧ w0.heap[w.heap.size + 1 + 1 + 1]? = some o4 := by
  subst h
  have a1 := heap_alloc_new w o1
  have a2 := heap_alloc_new (w.alloc o1) o2
  have a3 := heap_alloc_new ((w.alloc o1).alloc o2) o3
  have a4 := heap_alloc_new (((w.alloc o1).alloc o2).alloc o3) o4
  have s1 : (w.alloc o1).heap.size = w.heap.size + 1 := by simp
  have s2 : ((w.alloc o1).alloc o2).heap.size = w.heap.size + 2 := by simp
  have s3 : (((w.alloc o1).alloc o2).alloc o3).heap.size = w.heap.size + 3 := by simp
  have k2 := ((Below.refl (w.heap.size + 1) (w.alloc o1)).alloc (by omega) o2).block
  have k3 := ((Below.refl (w.heap.size + 2) ((w.alloc o1).alloc o2)).alloc (by omega) o3).block
  have k4 := ((Below.refl (w.heap.size + 3) (((w.alloc o1).alloc o2).alloc o3)).alloc (by omega) o4).block
  rw [s1] at a2
  rw [s2] at a3
  rw [s3] at a4
  refine ⟨((((Below.refl _ _).alloc (Nat.le_refl _) _).alloc (by omega) _).alloc (by omega) _).alloc (by omega) _, ?_, ?_, ?_, a4⟩
  · exact (k4 _ (by omega)).trans ((k3 _ (by omega)).trans ((k2 _ (by omega)).trans a1))
  · exact (k4 _ (by omega)).trans ((k3 _ (by omega)).trans a2)
  · exact (k4 _ (by omega)).trans a3

set_option maxRecDepth 20000 in
set_option maxHeartbeats 4000000 in
theorem three_ref (S : ByteArray) (hS : S.size ≤ 70368744177664) (A : Nat) (c : Int) (l : List UInt8) (hA : At S A l) (x1 x2 x3 c1 c2 c3 : Int) (l1 l2 l3 : List UInt8) (q1 : bigC.rd c l = (x1, c1, l1)) (q2 : bigC.rd c1 l1 = (x2, c2, l2)) (q3 : bigC.rd c2 l2 = (x3, c3, l3)) (w : World) :
    Calls Tryz.prog 86 #[.agg #[.string S, .int .i64 A, .int .i64 c]] w fun e w' => ∃ A' : Nat, e = .returned (.tuple #[.agg #[.string S, .int .i64 A', .int .i64 c3], .agg #[.int .i64 x1, .int .i64 x2, .int .i64 x3]]) ∧ At S A' l3 ∧ Below w.heap.size w w' := by
  have HA := Lib.hid hA
  have Q1 := Lib.hid q1
  have Q2 := Lib.hid q2
  have Q3 := Lib.hid q3
  have HS := Lib.hid hS
  clear hA q1 q2 q3 hS
  go_enter Tryz.func86, Tryz.ntmps86
  go_wp2_with fail
  obtain ⟨w0, hw0⟩ : ∃ v, (((w.alloc (.cells #[.string S, .int .i64 A, .int .i64 c] 31)).alloc (.cells #[.string ⟨#[]⟩, .int .i64 0, .int .i64 0] 31)).alloc (.cells #[.int .i64 0, .int .i64 0, .int .i64 0] 69)).alloc (.cells #[.int .i64 0, .int .i64 0, .int .i64 0] 69) = v := ⟨_, rfl⟩
  have HBX := Lib.hid (four_boxes w _ _ _ _ w0 hw0)
  rw [hw0]
  obtain ⟨b, hb⟩ : ∃ b, w.heap.size = b := ⟨_, rfl⟩
  have HBB := Lib.hid hb
  rw [hb] at HBX ⊢
  clear hw0 hb
  have B := Lib.hid (show Below w.heap.size w w0 by rw [HBB.out]; exact HBX.out.1)
  have R := Lib.hid HBX.out.2.1
  have P := Lib.hid HBX.out.2.2.1
  have T := Lib.hid HBX.out.2.2.2.1
  have X := Lib.hid HBX.out.2.2.2.2
  clear HBX
  refine (num_ref S HS.out 1099511627776 (by decide) 1099511627776 (by decide) (by decide) A c l HA.out x1 c1 l1 Q1.out _).mono ?_
  rintro e w1 ⟨A1, rfl, h1, hb1⟩
  have H1 := Lib.hid h1
  clear h1
  have B_1 := Lib.hid (B.out.trans (hb1.mono B.out.size))
  have R_1 := Lib.hid ((hb1.block (b) (lt_of_block R.out)).trans R.out)
  have P_1 := Lib.hid ((hb1.block (b + 1) (lt_of_block P.out)).trans P.out)
  have T_1 := Lib.hid ((hb1.block (b + 1 + 1) (lt_of_block T.out)).trans T.out)
  have X_1 := Lib.hid ((hb1.block (b + 1 + 1 + 1) (lt_of_block X.out)).trans X.out)
  clear hb1 B R P T X
  have B := B_1
  have R := R_1
  have P := P_1
  have T := T_1
  have X := X_1
  clear B_1 R_1 P_1 T_1 X_1
  obtain ⟨u1, hu1⟩ : ∃ v, w1.alloc (.cells #[.string S, .int .i64 A1, .int .i64 c1] 31) = v := ⟨_, rfl⟩
  have al := fun j (hj : j < w1.heap.size) => ((Below.refl w1.heap.size w1).alloc (Nat.le_refl _) (.cells #[.string S, .int .i64 A1, .int .i64 c1] 31)).block j hj
  have gn := heap_alloc_new w1 (.cells #[.string S, .int .i64 A1, .int .i64 c1] 31)
  rw [hu1] at al gn
  obtain ⟨⟨gn1u1, gn2u1, gn3u1⟩, _, _, _⟩ := r3_cells gn
  clear gn
  have R_a := Lib.hid ((al (b) (lt_of_block R.out)).trans R.out)
  have P_a := Lib.hid ((al (b + 1) (lt_of_block P.out)).trans P.out)
  have T_a := Lib.hid ((al (b + 1 + 1) (lt_of_block T.out)).trans T.out)
  have X_a := Lib.hid ((al (b + 1 + 1 + 1) (lt_of_block X.out)).trans X.out)
  have B_a := Lib.hid (show Below w.heap.size w u1 by rw [← hu1]; exact B.out.alloc B.out.size _)
  clear al B R P T X
  have B := B_a
  have R := R_a
  have P := P_a
  have T := T_a
  have X := X_a
  clear B_a R_a P_a T_a X_a
  obtain ⟨⟨s1a, s1b, s1c⟩, s1d, s1e, s1f⟩ := r3_cells R.out
  have R_s := Lib.hid (r3_set0 R.out (.string S))
  have P_s := Lib.hid ((Below.heap_setCell u1 ⟨b, 0, none⟩ (.string S) (b + 1) (by show b + 1 ≠ b; omega)).trans P.out)
  have T_s := Lib.hid ((Below.heap_setCell u1 ⟨b, 0, none⟩ (.string S) (b + 1 + 1) (by show b + 1 + 1 ≠ b; omega)).trans T.out)
  have X_s := Lib.hid ((Below.heap_setCell u1 ⟨b, 0, none⟩ (.string S) (b + 1 + 1 + 1) (by show b + 1 + 1 + 1 ≠ b; omega)).trans X.out)
  have B_s := Lib.hid (B.out.setCell (p := ⟨b, 0, none⟩) (by show w.heap.size ≤ b; have := HBB.out; omega) (.string S))
  obtain ⟨v1a, hv1a⟩ : ∃ v, u1.setCell ⟨b, 0, none⟩ (.string S) = v := ⟨_, rfl⟩
  rw [hv1a] at B_s R_s P_s T_s X_s
  clear B R P T X
  have B := B_s
  have R := R_s
  have P := P_s
  have T := T_s
  have X := X_s
  clear B_s R_s P_s T_s X_s
  obtain ⟨⟨s2a, s2b, s2c⟩, s2d, s2e, s2f⟩ := r3_cells R.out
  have R_s := Lib.hid (r3_set1 R.out (.int .i64 A1))
  have P_s := Lib.hid ((Below.heap_setCell v1a ⟨b, 1, none⟩ (.int .i64 A1) (b + 1) (by show b + 1 ≠ b; omega)).trans P.out)
  have T_s := Lib.hid ((Below.heap_setCell v1a ⟨b, 1, none⟩ (.int .i64 A1) (b + 1 + 1) (by show b + 1 + 1 ≠ b; omega)).trans T.out)
  have X_s := Lib.hid ((Below.heap_setCell v1a ⟨b, 1, none⟩ (.int .i64 A1) (b + 1 + 1 + 1) (by show b + 1 + 1 + 1 ≠ b; omega)).trans X.out)
  have B_s := Lib.hid (B.out.setCell (p := ⟨b, 1, none⟩) (by show w.heap.size ≤ b; have := HBB.out; omega) (.int .i64 A1))
  obtain ⟨v1b, hv1b⟩ : ∃ v, v1a.setCell ⟨b, 1, none⟩ (.int .i64 A1) = v := ⟨_, rfl⟩
  rw [hv1b] at B_s R_s P_s T_s X_s
  clear B R P T X
  have B := B_s
  have R := R_s
  have P := P_s
  have T := T_s
  have X := X_s
  clear B_s R_s P_s T_s X_s
  obtain ⟨⟨s3a, s3b, s3c⟩, s3d, s3e, s3f⟩ := r3_cells R.out
  have R_s := Lib.hid (r3_set2 R.out (.int .i64 c1))
  have P_s := Lib.hid ((Below.heap_setCell v1b ⟨b, 2, none⟩ (.int .i64 c1) (b + 1) (by show b + 1 ≠ b; omega)).trans P.out)
  have T_s := Lib.hid ((Below.heap_setCell v1b ⟨b, 2, none⟩ (.int .i64 c1) (b + 1 + 1) (by show b + 1 + 1 ≠ b; omega)).trans T.out)
  have X_s := Lib.hid ((Below.heap_setCell v1b ⟨b, 2, none⟩ (.int .i64 c1) (b + 1 + 1 + 1) (by show b + 1 + 1 + 1 ≠ b; omega)).trans X.out)
  have B_s := Lib.hid (B.out.setCell (p := ⟨b, 2, none⟩) (by show w.heap.size ≤ b; have := HBB.out; omega) (.int .i64 c1))
  obtain ⟨v1c, hv1c⟩ : ∃ v, v1b.setCell ⟨b, 2, none⟩ (.int .i64 c1) = v := ⟨_, rfl⟩
  rw [hv1c] at B_s R_s P_s T_s X_s
  clear B R P T X
  have B := B_s
  have R := R_s
  have P := P_s
  have T := T_s
  have X := X_s
  clear B_s R_s P_s T_s X_s
  obtain ⟨⟨s4a, s4b, s4c⟩, s4d, s4e, s4f⟩ := r3_cells X.out
  have X_s := Lib.hid (r3_set0 X.out (.int .i64 x1))
  have R_s := Lib.hid ((Below.heap_setCell v1c ⟨b + 1 + 1 + 1, 0, none⟩ (.int .i64 x1) (b) (by show b ≠ b + 1 + 1 + 1; omega)).trans R.out)
  have P_s := Lib.hid ((Below.heap_setCell v1c ⟨b + 1 + 1 + 1, 0, none⟩ (.int .i64 x1) (b + 1) (by show b + 1 ≠ b + 1 + 1 + 1; omega)).trans P.out)
  have T_s := Lib.hid ((Below.heap_setCell v1c ⟨b + 1 + 1 + 1, 0, none⟩ (.int .i64 x1) (b + 1 + 1) (by show b + 1 + 1 ≠ b + 1 + 1 + 1; omega)).trans T.out)
  have B_s := Lib.hid (B.out.setCell (p := ⟨b + 1 + 1 + 1, 0, none⟩) (by show w.heap.size ≤ b + 1 + 1 + 1; have := HBB.out; omega) (.int .i64 x1))
  obtain ⟨v1d, hv1d⟩ : ∃ v, v1c.setCell ⟨b + 1 + 1 + 1, 0, none⟩ (.int .i64 x1) = v := ⟨_, rfl⟩
  rw [hv1d] at B_s R_s P_s T_s X_s
  clear B R P T X
  have B := B_s
  have R := R_s
  have P := P_s
  have T := T_s
  have X := X_s
  clear B_s R_s P_s T_s X_s
  obtain ⟨⟨t1a, t1b, t1c⟩, _, _, _⟩ := r3_cells R.out
  go_wp2_with fail
  refine (num_ref S HS.out 1099511627776 (by decide) 1099511627776 (by decide) (by decide) A1 c1 l1 H1.out x2 c2 l2 Q2.out _).mono ?_
  rintro e w2 ⟨A2, rfl, h2, hb2⟩
  have H2 := Lib.hid h2
  clear h2
  have B_2 := Lib.hid (B.out.trans (hb2.mono B.out.size))
  have R_2 := Lib.hid ((hb2.block (b) (lt_of_block R.out)).trans R.out)
  have P_2 := Lib.hid ((hb2.block (b + 1) (lt_of_block P.out)).trans P.out)
  have T_2 := Lib.hid ((hb2.block (b + 1 + 1) (lt_of_block T.out)).trans T.out)
  have X_2 := Lib.hid ((hb2.block (b + 1 + 1 + 1) (lt_of_block X.out)).trans X.out)
  clear hb2 B R P T X
  have B := B_2
  have R := R_2
  have P := P_2
  have T := T_2
  have X := X_2
  clear B_2 R_2 P_2 T_2 X_2
  obtain ⟨u2, hu2⟩ : ∃ v, w2.alloc (.cells #[.string S, .int .i64 A2, .int .i64 c2] 31) = v := ⟨_, rfl⟩
  have al := fun j (hj : j < w2.heap.size) => ((Below.refl w2.heap.size w2).alloc (Nat.le_refl _) (.cells #[.string S, .int .i64 A2, .int .i64 c2] 31)).block j hj
  have gn := heap_alloc_new w2 (.cells #[.string S, .int .i64 A2, .int .i64 c2] 31)
  rw [hu2] at al gn
  obtain ⟨⟨gn1u2, gn2u2, gn3u2⟩, _, _, _⟩ := r3_cells gn
  clear gn
  have R_a := Lib.hid ((al (b) (lt_of_block R.out)).trans R.out)
  have P_a := Lib.hid ((al (b + 1) (lt_of_block P.out)).trans P.out)
  have T_a := Lib.hid ((al (b + 1 + 1) (lt_of_block T.out)).trans T.out)
  have X_a := Lib.hid ((al (b + 1 + 1 + 1) (lt_of_block X.out)).trans X.out)
  have B_a := Lib.hid (show Below w.heap.size w u2 by rw [← hu2]; exact B.out.alloc B.out.size _)
  clear al B R P T X
  have B := B_a
  have R := R_a
  have P := P_a
  have T := T_a
  have X := X_a
  clear B_a R_a P_a T_a X_a
  obtain ⟨⟨s5a, s5b, s5c⟩, s5d, s5e, s5f⟩ := r3_cells R.out
  have R_s := Lib.hid (r3_set0 R.out (.string S))
  have P_s := Lib.hid ((Below.heap_setCell u2 ⟨b, 0, none⟩ (.string S) (b + 1) (by show b + 1 ≠ b; omega)).trans P.out)
  have T_s := Lib.hid ((Below.heap_setCell u2 ⟨b, 0, none⟩ (.string S) (b + 1 + 1) (by show b + 1 + 1 ≠ b; omega)).trans T.out)
  have X_s := Lib.hid ((Below.heap_setCell u2 ⟨b, 0, none⟩ (.string S) (b + 1 + 1 + 1) (by show b + 1 + 1 + 1 ≠ b; omega)).trans X.out)
  have B_s := Lib.hid (B.out.setCell (p := ⟨b, 0, none⟩) (by show w.heap.size ≤ b; have := HBB.out; omega) (.string S))
  obtain ⟨v2a, hv2a⟩ : ∃ v, u2.setCell ⟨b, 0, none⟩ (.string S) = v := ⟨_, rfl⟩
  rw [hv2a] at B_s R_s P_s T_s X_s
  clear B R P T X
  have B := B_s
  have R := R_s
  have P := P_s
  have T := T_s
  have X := X_s
  clear B_s R_s P_s T_s X_s
  obtain ⟨⟨s6a, s6b, s6c⟩, s6d, s6e, s6f⟩ := r3_cells R.out
  have R_s := Lib.hid (r3_set1 R.out (.int .i64 A2))
  have P_s := Lib.hid ((Below.heap_setCell v2a ⟨b, 1, none⟩ (.int .i64 A2) (b + 1) (by show b + 1 ≠ b; omega)).trans P.out)
  have T_s := Lib.hid ((Below.heap_setCell v2a ⟨b, 1, none⟩ (.int .i64 A2) (b + 1 + 1) (by show b + 1 + 1 ≠ b; omega)).trans T.out)
  have X_s := Lib.hid ((Below.heap_setCell v2a ⟨b, 1, none⟩ (.int .i64 A2) (b + 1 + 1 + 1) (by show b + 1 + 1 + 1 ≠ b; omega)).trans X.out)
  have B_s := Lib.hid (B.out.setCell (p := ⟨b, 1, none⟩) (by show w.heap.size ≤ b; have := HBB.out; omega) (.int .i64 A2))
  obtain ⟨v2b, hv2b⟩ : ∃ v, v2a.setCell ⟨b, 1, none⟩ (.int .i64 A2) = v := ⟨_, rfl⟩
  rw [hv2b] at B_s R_s P_s T_s X_s
  clear B R P T X
  have B := B_s
  have R := R_s
  have P := P_s
  have T := T_s
  have X := X_s
  clear B_s R_s P_s T_s X_s
  obtain ⟨⟨s7a, s7b, s7c⟩, s7d, s7e, s7f⟩ := r3_cells R.out
  have R_s := Lib.hid (r3_set2 R.out (.int .i64 c2))
  have P_s := Lib.hid ((Below.heap_setCell v2b ⟨b, 2, none⟩ (.int .i64 c2) (b + 1) (by show b + 1 ≠ b; omega)).trans P.out)
  have T_s := Lib.hid ((Below.heap_setCell v2b ⟨b, 2, none⟩ (.int .i64 c2) (b + 1 + 1) (by show b + 1 + 1 ≠ b; omega)).trans T.out)
  have X_s := Lib.hid ((Below.heap_setCell v2b ⟨b, 2, none⟩ (.int .i64 c2) (b + 1 + 1 + 1) (by show b + 1 + 1 + 1 ≠ b; omega)).trans X.out)
  have B_s := Lib.hid (B.out.setCell (p := ⟨b, 2, none⟩) (by show w.heap.size ≤ b; have := HBB.out; omega) (.int .i64 c2))
  obtain ⟨v2c, hv2c⟩ : ∃ v, v2b.setCell ⟨b, 2, none⟩ (.int .i64 c2) = v := ⟨_, rfl⟩
  rw [hv2c] at B_s R_s P_s T_s X_s
  clear B R P T X
  have B := B_s
  have R := R_s
  have P := P_s
  have T := T_s
  have X := X_s
  clear B_s R_s P_s T_s X_s
  obtain ⟨⟨s8a, s8b, s8c⟩, s8d, s8e, s8f⟩ := r3_cells X.out
  have X_s := Lib.hid (r3_set1 X.out (.int .i64 x2))
  have R_s := Lib.hid ((Below.heap_setCell v2c ⟨b + 1 + 1 + 1, 1, none⟩ (.int .i64 x2) (b) (by show b ≠ b + 1 + 1 + 1; omega)).trans R.out)
  have P_s := Lib.hid ((Below.heap_setCell v2c ⟨b + 1 + 1 + 1, 1, none⟩ (.int .i64 x2) (b + 1) (by show b + 1 ≠ b + 1 + 1 + 1; omega)).trans P.out)
  have T_s := Lib.hid ((Below.heap_setCell v2c ⟨b + 1 + 1 + 1, 1, none⟩ (.int .i64 x2) (b + 1 + 1) (by show b + 1 + 1 ≠ b + 1 + 1 + 1; omega)).trans T.out)
  have B_s := Lib.hid (B.out.setCell (p := ⟨b + 1 + 1 + 1, 1, none⟩) (by show w.heap.size ≤ b + 1 + 1 + 1; have := HBB.out; omega) (.int .i64 x2))
  obtain ⟨v2d, hv2d⟩ : ∃ v, v2c.setCell ⟨b + 1 + 1 + 1, 1, none⟩ (.int .i64 x2) = v := ⟨_, rfl⟩
  rw [hv2d] at B_s R_s P_s T_s X_s
  clear B R P T X
  have B := B_s
  have R := R_s
  have P := P_s
  have T := T_s
  have X := X_s
  clear B_s R_s P_s T_s X_s
  obtain ⟨⟨t2a, t2b, t2c⟩, _, _, _⟩ := r3_cells R.out
  go_wp2_with fail
  refine (num_ref S HS.out 1099511627776 (by decide) 1099511627776 (by decide) (by decide) A2 c2 l2 H2.out x3 c3 l3 Q3.out _).mono ?_
  rintro e w3 ⟨A3, rfl, h3, hb3⟩
  have H3 := Lib.hid h3
  clear h3
  have B_3 := Lib.hid (B.out.trans (hb3.mono B.out.size))
  have R_3 := Lib.hid ((hb3.block (b) (lt_of_block R.out)).trans R.out)
  have P_3 := Lib.hid ((hb3.block (b + 1) (lt_of_block P.out)).trans P.out)
  have T_3 := Lib.hid ((hb3.block (b + 1 + 1) (lt_of_block T.out)).trans T.out)
  have X_3 := Lib.hid ((hb3.block (b + 1 + 1 + 1) (lt_of_block X.out)).trans X.out)
  clear hb3 B R P T X
  have B := B_3
  have R := R_3
  have P := P_3
  have T := T_3
  have X := X_3
  clear B_3 R_3 P_3 T_3 X_3
  obtain ⟨u3, hu3⟩ : ∃ v, w3.alloc (.cells #[.string S, .int .i64 A3, .int .i64 c3] 31) = v := ⟨_, rfl⟩
  have al := fun j (hj : j < w3.heap.size) => ((Below.refl w3.heap.size w3).alloc (Nat.le_refl _) (.cells #[.string S, .int .i64 A3, .int .i64 c3] 31)).block j hj
  have gn := heap_alloc_new w3 (.cells #[.string S, .int .i64 A3, .int .i64 c3] 31)
  rw [hu3] at al gn
  obtain ⟨⟨gn1u3, gn2u3, gn3u3⟩, _, _, _⟩ := r3_cells gn
  clear gn
  have R_a := Lib.hid ((al (b) (lt_of_block R.out)).trans R.out)
  have P_a := Lib.hid ((al (b + 1) (lt_of_block P.out)).trans P.out)
  have T_a := Lib.hid ((al (b + 1 + 1) (lt_of_block T.out)).trans T.out)
  have X_a := Lib.hid ((al (b + 1 + 1 + 1) (lt_of_block X.out)).trans X.out)
  have B_a := Lib.hid (show Below w.heap.size w u3 by rw [← hu3]; exact B.out.alloc B.out.size _)
  clear al B R P T X
  have B := B_a
  have R := R_a
  have P := P_a
  have T := T_a
  have X := X_a
  clear B_a R_a P_a T_a X_a
  obtain ⟨⟨s9a, s9b, s9c⟩, s9d, s9e, s9f⟩ := r3_cells R.out
  have R_s := Lib.hid (r3_set0 R.out (.string S))
  have P_s := Lib.hid ((Below.heap_setCell u3 ⟨b, 0, none⟩ (.string S) (b + 1) (by show b + 1 ≠ b; omega)).trans P.out)
  have T_s := Lib.hid ((Below.heap_setCell u3 ⟨b, 0, none⟩ (.string S) (b + 1 + 1) (by show b + 1 + 1 ≠ b; omega)).trans T.out)
  have X_s := Lib.hid ((Below.heap_setCell u3 ⟨b, 0, none⟩ (.string S) (b + 1 + 1 + 1) (by show b + 1 + 1 + 1 ≠ b; omega)).trans X.out)
  have B_s := Lib.hid (B.out.setCell (p := ⟨b, 0, none⟩) (by show w.heap.size ≤ b; have := HBB.out; omega) (.string S))
  obtain ⟨v3a, hv3a⟩ : ∃ v, u3.setCell ⟨b, 0, none⟩ (.string S) = v := ⟨_, rfl⟩
  rw [hv3a] at B_s R_s P_s T_s X_s
  clear B R P T X
  have B := B_s
  have R := R_s
  have P := P_s
  have T := T_s
  have X := X_s
  clear B_s R_s P_s T_s X_s
  obtain ⟨⟨s10a, s10b, s10c⟩, s10d, s10e, s10f⟩ := r3_cells R.out
  have R_s := Lib.hid (r3_set1 R.out (.int .i64 A3))
  have P_s := Lib.hid ((Below.heap_setCell v3a ⟨b, 1, none⟩ (.int .i64 A3) (b + 1) (by show b + 1 ≠ b; omega)).trans P.out)
  have T_s := Lib.hid ((Below.heap_setCell v3a ⟨b, 1, none⟩ (.int .i64 A3) (b + 1 + 1) (by show b + 1 + 1 ≠ b; omega)).trans T.out)
  have X_s := Lib.hid ((Below.heap_setCell v3a ⟨b, 1, none⟩ (.int .i64 A3) (b + 1 + 1 + 1) (by show b + 1 + 1 + 1 ≠ b; omega)).trans X.out)
  have B_s := Lib.hid (B.out.setCell (p := ⟨b, 1, none⟩) (by show w.heap.size ≤ b; have := HBB.out; omega) (.int .i64 A3))
  obtain ⟨v3b, hv3b⟩ : ∃ v, v3a.setCell ⟨b, 1, none⟩ (.int .i64 A3) = v := ⟨_, rfl⟩
  rw [hv3b] at B_s R_s P_s T_s X_s
  clear B R P T X
  have B := B_s
  have R := R_s
  have P := P_s
  have T := T_s
  have X := X_s
  clear B_s R_s P_s T_s X_s
  obtain ⟨⟨s11a, s11b, s11c⟩, s11d, s11e, s11f⟩ := r3_cells R.out
  have R_s := Lib.hid (r3_set2 R.out (.int .i64 c3))
  have P_s := Lib.hid ((Below.heap_setCell v3b ⟨b, 2, none⟩ (.int .i64 c3) (b + 1) (by show b + 1 ≠ b; omega)).trans P.out)
  have T_s := Lib.hid ((Below.heap_setCell v3b ⟨b, 2, none⟩ (.int .i64 c3) (b + 1 + 1) (by show b + 1 + 1 ≠ b; omega)).trans T.out)
  have X_s := Lib.hid ((Below.heap_setCell v3b ⟨b, 2, none⟩ (.int .i64 c3) (b + 1 + 1 + 1) (by show b + 1 + 1 + 1 ≠ b; omega)).trans X.out)
  have B_s := Lib.hid (B.out.setCell (p := ⟨b, 2, none⟩) (by show w.heap.size ≤ b; have := HBB.out; omega) (.int .i64 c3))
  obtain ⟨v3c, hv3c⟩ : ∃ v, v3b.setCell ⟨b, 2, none⟩ (.int .i64 c3) = v := ⟨_, rfl⟩
  rw [hv3c] at B_s R_s P_s T_s X_s
  clear B R P T X
  have B := B_s
  have R := R_s
  have P := P_s
  have T := T_s
  have X := X_s
  clear B_s R_s P_s T_s X_s
  obtain ⟨⟨s12a, s12b, s12c⟩, s12d, s12e, s12f⟩ := r3_cells X.out
  have X_s := Lib.hid (r3_set2 X.out (.int .i64 x3))
  have R_s := Lib.hid ((Below.heap_setCell v3c ⟨b + 1 + 1 + 1, 2, none⟩ (.int .i64 x3) (b) (by show b ≠ b + 1 + 1 + 1; omega)).trans R.out)
  have P_s := Lib.hid ((Below.heap_setCell v3c ⟨b + 1 + 1 + 1, 2, none⟩ (.int .i64 x3) (b + 1) (by show b + 1 ≠ b + 1 + 1 + 1; omega)).trans P.out)
  have T_s := Lib.hid ((Below.heap_setCell v3c ⟨b + 1 + 1 + 1, 2, none⟩ (.int .i64 x3) (b + 1 + 1) (by show b + 1 + 1 ≠ b + 1 + 1 + 1; omega)).trans T.out)
  have B_s := Lib.hid (B.out.setCell (p := ⟨b + 1 + 1 + 1, 2, none⟩) (by show w.heap.size ≤ b + 1 + 1 + 1; have := HBB.out; omega) (.int .i64 x3))
  obtain ⟨v3d, hv3d⟩ : ∃ v, v3c.setCell ⟨b + 1 + 1 + 1, 2, none⟩ (.int .i64 x3) = v := ⟨_, rfl⟩
  rw [hv3d] at B_s R_s P_s T_s X_s
  clear B R P T X
  have B := B_s
  have R := R_s
  have P := P_s
  have T := T_s
  have X := X_s
  clear B_s R_s P_s T_s X_s
  obtain ⟨⟨t3a, t3b, t3c⟩, _, _, _⟩ := r3_cells R.out
  obtain ⟨⟨t4a, t4b, t4c⟩, _, _, _⟩ := r3_cells X.out
  obtain ⟨⟨s13a, s13b, s13c⟩, s13d, s13e, s13f⟩ := r3_cells P.out
  have P_s := Lib.hid (r3_set0 P.out (.string S))
  have R_s := Lib.hid ((Below.heap_setCell v3d ⟨b + 1, 0, none⟩ (.string S) (b) (by show b ≠ b + 1; omega)).trans R.out)
  have T_s := Lib.hid ((Below.heap_setCell v3d ⟨b + 1, 0, none⟩ (.string S) (b + 1 + 1) (by show b + 1 + 1 ≠ b + 1; omega)).trans T.out)
  have X_s := Lib.hid ((Below.heap_setCell v3d ⟨b + 1, 0, none⟩ (.string S) (b + 1 + 1 + 1) (by show b + 1 + 1 + 1 ≠ b + 1; omega)).trans X.out)
  have B_s := Lib.hid (B.out.setCell (p := ⟨b + 1, 0, none⟩) (by show w.heap.size ≤ b + 1; have := HBB.out; omega) (.string S))
  obtain ⟨z0, hz0⟩ : ∃ v, v3d.setCell ⟨b + 1, 0, none⟩ (.string S) = v := ⟨_, rfl⟩
  rw [hz0] at B_s R_s P_s T_s X_s
  clear B R P T X
  have B := B_s
  have R := R_s
  have P := P_s
  have T := T_s
  have X := X_s
  clear B_s R_s P_s T_s X_s
  obtain ⟨⟨k0a, k0b, k0c⟩, _, _, _⟩ := r3_cells X.out
  obtain ⟨⟨s14a, s14b, s14c⟩, s14d, s14e, s14f⟩ := r3_cells P.out
  have P_s := Lib.hid (r3_set1 P.out (.int .i64 A3))
  have R_s := Lib.hid ((Below.heap_setCell z0 ⟨b + 1, 1, none⟩ (.int .i64 A3) (b) (by show b ≠ b + 1; omega)).trans R.out)
  have T_s := Lib.hid ((Below.heap_setCell z0 ⟨b + 1, 1, none⟩ (.int .i64 A3) (b + 1 + 1) (by show b + 1 + 1 ≠ b + 1; omega)).trans T.out)
  have X_s := Lib.hid ((Below.heap_setCell z0 ⟨b + 1, 1, none⟩ (.int .i64 A3) (b + 1 + 1 + 1) (by show b + 1 + 1 + 1 ≠ b + 1; omega)).trans X.out)
  have B_s := Lib.hid (B.out.setCell (p := ⟨b + 1, 1, none⟩) (by show w.heap.size ≤ b + 1; have := HBB.out; omega) (.int .i64 A3))
  obtain ⟨z1, hz1⟩ : ∃ v, z0.setCell ⟨b + 1, 1, none⟩ (.int .i64 A3) = v := ⟨_, rfl⟩
  rw [hz1] at B_s R_s P_s T_s X_s
  clear B R P T X
  have B := B_s
  have R := R_s
  have P := P_s
  have T := T_s
  have X := X_s
  clear B_s R_s P_s T_s X_s
  obtain ⟨⟨k1a, k1b, k1c⟩, _, _, _⟩ := r3_cells X.out
  obtain ⟨⟨s15a, s15b, s15c⟩, s15d, s15e, s15f⟩ := r3_cells P.out
  have P_s := Lib.hid (r3_set2 P.out (.int .i64 c3))
  have R_s := Lib.hid ((Below.heap_setCell z1 ⟨b + 1, 2, none⟩ (.int .i64 c3) (b) (by show b ≠ b + 1; omega)).trans R.out)
  have T_s := Lib.hid ((Below.heap_setCell z1 ⟨b + 1, 2, none⟩ (.int .i64 c3) (b + 1 + 1) (by show b + 1 + 1 ≠ b + 1; omega)).trans T.out)
  have X_s := Lib.hid ((Below.heap_setCell z1 ⟨b + 1, 2, none⟩ (.int .i64 c3) (b + 1 + 1 + 1) (by show b + 1 + 1 + 1 ≠ b + 1; omega)).trans X.out)
  have B_s := Lib.hid (B.out.setCell (p := ⟨b + 1, 2, none⟩) (by show w.heap.size ≤ b + 1; have := HBB.out; omega) (.int .i64 c3))
  obtain ⟨z2, hz2⟩ : ∃ v, z1.setCell ⟨b + 1, 2, none⟩ (.int .i64 c3) = v := ⟨_, rfl⟩
  rw [hz2] at B_s R_s P_s T_s X_s
  clear B R P T X
  have B := B_s
  have R := R_s
  have P := P_s
  have T := T_s
  have X := X_s
  clear B_s R_s P_s T_s X_s
  obtain ⟨⟨k2a, k2b, k2c⟩, _, _, _⟩ := r3_cells X.out
  obtain ⟨⟨s16a, s16b, s16c⟩, s16d, s16e, s16f⟩ := r3_cells T.out
  have T_s := Lib.hid (r3_set0 T.out (.int .i64 x1))
  have R_s := Lib.hid ((Below.heap_setCell z2 ⟨b + 1 + 1, 0, none⟩ (.int .i64 x1) (b) (by show b ≠ b + 1 + 1; omega)).trans R.out)
  have P_s := Lib.hid ((Below.heap_setCell z2 ⟨b + 1 + 1, 0, none⟩ (.int .i64 x1) (b + 1) (by show b + 1 ≠ b + 1 + 1; omega)).trans P.out)
  have X_s := Lib.hid ((Below.heap_setCell z2 ⟨b + 1 + 1, 0, none⟩ (.int .i64 x1) (b + 1 + 1 + 1) (by show b + 1 + 1 + 1 ≠ b + 1 + 1; omega)).trans X.out)
  have B_s := Lib.hid (B.out.setCell (p := ⟨b + 1 + 1, 0, none⟩) (by show w.heap.size ≤ b + 1 + 1; have := HBB.out; omega) (.int .i64 x1))
  obtain ⟨z3, hz3⟩ : ∃ v, z2.setCell ⟨b + 1 + 1, 0, none⟩ (.int .i64 x1) = v := ⟨_, rfl⟩
  rw [hz3] at B_s R_s P_s T_s X_s
  clear B R P T X
  have B := B_s
  have R := R_s
  have P := P_s
  have T := T_s
  have X := X_s
  clear B_s R_s P_s T_s X_s
  obtain ⟨⟨k3a, k3b, k3c⟩, _, _, _⟩ := r3_cells X.out
  obtain ⟨⟨s17a, s17b, s17c⟩, s17d, s17e, s17f⟩ := r3_cells T.out
  have T_s := Lib.hid (r3_set1 T.out (.int .i64 x2))
  have R_s := Lib.hid ((Below.heap_setCell z3 ⟨b + 1 + 1, 1, none⟩ (.int .i64 x2) (b) (by show b ≠ b + 1 + 1; omega)).trans R.out)
  have P_s := Lib.hid ((Below.heap_setCell z3 ⟨b + 1 + 1, 1, none⟩ (.int .i64 x2) (b + 1) (by show b + 1 ≠ b + 1 + 1; omega)).trans P.out)
  have X_s := Lib.hid ((Below.heap_setCell z3 ⟨b + 1 + 1, 1, none⟩ (.int .i64 x2) (b + 1 + 1 + 1) (by show b + 1 + 1 + 1 ≠ b + 1 + 1; omega)).trans X.out)
  have B_s := Lib.hid (B.out.setCell (p := ⟨b + 1 + 1, 1, none⟩) (by show w.heap.size ≤ b + 1 + 1; have := HBB.out; omega) (.int .i64 x2))
  obtain ⟨z4, hz4⟩ : ∃ v, z3.setCell ⟨b + 1 + 1, 1, none⟩ (.int .i64 x2) = v := ⟨_, rfl⟩
  rw [hz4] at B_s R_s P_s T_s X_s
  clear B R P T X
  have B := B_s
  have R := R_s
  have P := P_s
  have T := T_s
  have X := X_s
  clear B_s R_s P_s T_s X_s
  obtain ⟨⟨k4a, k4b, k4c⟩, _, _, _⟩ := r3_cells X.out
  obtain ⟨⟨s18a, s18b, s18c⟩, s18d, s18e, s18f⟩ := r3_cells T.out
  have T_s := Lib.hid (r3_set2 T.out (.int .i64 x3))
  have R_s := Lib.hid ((Below.heap_setCell z4 ⟨b + 1 + 1, 2, none⟩ (.int .i64 x3) (b) (by show b ≠ b + 1 + 1; omega)).trans R.out)
  have P_s := Lib.hid ((Below.heap_setCell z4 ⟨b + 1 + 1, 2, none⟩ (.int .i64 x3) (b + 1) (by show b + 1 ≠ b + 1 + 1; omega)).trans P.out)
  have X_s := Lib.hid ((Below.heap_setCell z4 ⟨b + 1 + 1, 2, none⟩ (.int .i64 x3) (b + 1 + 1 + 1) (by show b + 1 + 1 + 1 ≠ b + 1 + 1; omega)).trans X.out)
  have B_s := Lib.hid (B.out.setCell (p := ⟨b + 1 + 1, 2, none⟩) (by show w.heap.size ≤ b + 1 + 1; have := HBB.out; omega) (.int .i64 x3))
  obtain ⟨z5, hz5⟩ : ∃ v, z4.setCell ⟨b + 1 + 1, 2, none⟩ (.int .i64 x3) = v := ⟨_, rfl⟩
  rw [hz5] at B_s R_s P_s T_s X_s
  clear B R P T X
  have B := B_s
  have R := R_s
  have P := P_s
  have T := T_s
  have X := X_s
  clear B_s R_s P_s T_s X_s
  obtain ⟨⟨k5a, k5b, k5c⟩, _, _, _⟩ := r3_cells X.out
  obtain ⟨⟨y1, y2, y3⟩, _, _, _⟩ := r3_cells P.out
  obtain ⟨⟨y4, y5, y6⟩, _, _, _⟩ := r3_cells T.out
  obtain ⟨⟨y7, y8, y9⟩, _, _, _⟩ := r3_cells X.out
  go_wp2_with fail
  go_region
  go_wp2_with fail
  refine bodyPost_ret (v := .tuple #[.agg #[.string S, .int .i64 A3, .int .i64 c3], .agg #[.int .i64 x1, .int .i64 x2, .int .i64 x3]]) ?hres rfl ?_
  case hres => simp [results, Tryz.results86, go_sem, y1, y2, y3, y4, y5, y6]
  exact ⟨A3, rfl, H3.out, B.out.drew⟩
end Pk
end Go.Proofs.YtmeilidjomjocaaGreatDoor

/- The document's reading of labels (provostref07.TakeLabels) by contract. Condition: the text has at most 2^46 bytes. -/
set_option linter.unusedVariables false
set_option linter.unusedSimpArgs false
namespace Go.Proofs.YtmeilidjomjocaaGreatDoor
open Go.ChangeShapes Go.WideShapes Go.ChangeAt Go.RowKit Go.Lib
open LebMath WirePure Sd Wire SpecOwn
namespace Pk

theorem two_boxes (w : World) (o1 o2 : Obj) (w0 : World) (h : ((w.alloc o1).alloc o2) = w0) :
    Below w.heap.size w w0 ∧ w0.heap[w.heap.size]? = some o1 ∧ w0.heap[w.heap.size + 1]? = some o2 := by
  subst h
  have a1 := heap_alloc_new w o1
  have a2 := heap_alloc_new (w.alloc o1) o2
  have s1 : (w.alloc o1).heap.size = w.heap.size + 1 := by simp
  have k2 := ((Below.refl (w.heap.size + 1) (w.alloc o1)).alloc (by omega) o2).block
  rw [s1] at a2
  exact ⟨((Below.refl _ _).alloc (Nat.le_refl _) _).alloc (by omega) _, (k2 _ (by omega)).trans a1, a2⟩

set_option maxRecDepth 100000 in
set_option maxHeartbeats 4000000 in
theorem takeLabels_ref (S : ByteArray) (hS : S.size ≤ 70368744177664) (A : Nat) (c : Int) (l : List UInt8) (hA : At S A l) (xs : List Lbl) (c' : Int) (l' : List UInt8) (hq : labelsC.rd c l = (xs, c', l')) (w : World) :
    Calls Tryz.prog 42 #[.agg #[.string S, .int .i64 A, .int .i64 c]] w fun e w' => ∃ (A' : Nat) (P : Option Addr) (m cap : Nat), e = .returned (.tuple #[.agg #[.string S, .int .i64 A', .int .i64 c'], .slice P m cap]) ∧ At S A' l' ∧ m ≤ cap ∧ From w.heap.size P ∧ (c' = 0 → m = xs.length ∧ Lbls w' P xs) ∧ Below w.heap.size w w' := by
  have HA := Lib.hid hA
  have HS := Lib.hid hS
  obtain ⟨n, hn⟩ : ∃ n, WirePure.numV 4 c l = n := ⟨_, rfl⟩
  obtain ⟨c1, hc1⟩ : ∃ d, numE 4 c l = d := ⟨_, rfl⟩
  obtain ⟨l1, hl1⟩ : ∃ d, numL 4 c l = d := ⟨_, rfl⟩
  have q0 : (intC 4 (by decide)).rd c l = ((n : Int), c1, l1) := by rw [← hn, ← hc1, ← hl1]; rfl
  have hnk : n ≤ 4 := by rw [← hn]; exact numV_le 4 c l
  have hq' : ((if (repS labelC.rd c1 l1 n).1 = 0 then repX labelC.rd c1 l1 n else []), repS labelC.rd c1 l1 n) = (xs, c', l') := by rw [← hn, ← hc1, ← hl1]; exact hq
  injection hq' with hq1 hq2
  have HQ1 := Lib.hid hq1
  have HQ2 := Lib.hid hq2
  have Q0 := Lib.hid q0
  obtain ⟨i0, hi0, hz0, hz1, hz2⟩ := info_parts info_labels
  clear hA hq hq1 hq2 q0 hn hc1 hl1 hS
  go_enter Tryz.func42, Tryz.ntmps42
  go_wp2_with fail
  obtain ⟨w0, hw0⟩ : ∃ v, ((w.alloc (.cells #[.string S, .int .i64 A, .int .i64 c] 31)).alloc (.cells #[.string ⟨#[]⟩, .int .i64 0, .int .i64 0] 31)) = v := ⟨_, rfl⟩
  have HBX := Lib.hid (two_boxes w _ _ w0 hw0)
  rw [hw0]
  obtain ⟨b, hb⟩ : ∃ b, w.heap.size = b := ⟨_, rfl⟩
  have HBB := Lib.hid hb
  rw [hb] at HBX ⊢
  clear hw0 hb
  have B := Lib.hid (show Below w.heap.size w w0 by rw [HBB.out]; exact HBX.out.1)
  have R := Lib.hid HBX.out.2.1
  have P := Lib.hid HBX.out.2.2
  have GB := Lib.hid (show b ≤ b from Nat.le_refl _)
  clear HBX
  refine (num_ref S HS.out 4 (by decide) 4 (by decide) (by decide) A c l HA.out n c1 l1 Q0.out _).mono ?_
  rintro e w1 ⟨A1, rfl, h1, hb1⟩
  have H1 := Lib.hid h1
  clear h1
  have B_z := Lib.hid (B.out.trans (hb1.mono B.out.size))
  have R_z := Lib.hid ((hb1.block (b) (lt_of_block R.out)).trans R.out)
  have P_z := Lib.hid ((hb1.block (b + 1) (lt_of_block P.out)).trans P.out)
  clear hb1
  clear B R P
  have B := B_z
  have R := R_z
  have P := P_z
  clear B_z R_z P_z
  obtain ⟨⟨s1a, s1b, s1c⟩, s1d, s1e, s1f⟩ := r3_cells R.out
  have R_z := Lib.hid (r3_set0 R.out (.string S))
  have P_z := Lib.hid ((Below.heap_setCell w1 ⟨b, 0, none⟩ (.string S) (b + 1) (by show b + 1 ≠ b; have := GB.out; omega)).trans P.out)
  have B_z := Lib.hid (B.out.setCell (p := ⟨b, 0, none⟩) (by show w.heap.size ≤ b; have := HBB.out; have := GB.out; omega) (.string S))
  obtain ⟨v1a, hv1a⟩ : ∃ v, w1.setCell ⟨b, 0, none⟩ (.string S) = v := ⟨_, rfl⟩
  rw [hv1a] at B_z R_z P_z
  clear B R P
  have B := B_z
  have R := R_z
  have P := P_z
  clear B_z R_z P_z
  obtain ⟨⟨s2a, s2b, s2c⟩, s2d, s2e, s2f⟩ := r3_cells R.out
  have R_z := Lib.hid (r3_set1 R.out (.int .i64 A1))
  have P_z := Lib.hid ((Below.heap_setCell v1a ⟨b, 1, none⟩ (.int .i64 A1) (b + 1) (by show b + 1 ≠ b; have := GB.out; omega)).trans P.out)
  have B_z := Lib.hid (B.out.setCell (p := ⟨b, 1, none⟩) (by show w.heap.size ≤ b; have := HBB.out; have := GB.out; omega) (.int .i64 A1))
  obtain ⟨v1b, hv1b⟩ : ∃ v, v1a.setCell ⟨b, 1, none⟩ (.int .i64 A1) = v := ⟨_, rfl⟩
  rw [hv1b] at B_z R_z P_z
  clear B R P
  have B := B_z
  have R := R_z
  have P := P_z
  clear B_z R_z P_z
  obtain ⟨⟨s3a, s3b, s3c⟩, s3d, s3e, s3f⟩ := r3_cells R.out
  have R_z := Lib.hid (r3_set2 R.out (.int .i64 c1))
  have P_z := Lib.hid ((Below.heap_setCell v1b ⟨b, 2, none⟩ (.int .i64 c1) (b + 1) (by show b + 1 ≠ b; have := GB.out; omega)).trans P.out)
  have B_z := Lib.hid (B.out.setCell (p := ⟨b, 2, none⟩) (by show w.heap.size ≤ b; have := HBB.out; have := GB.out; omega) (.int .i64 c1))
  obtain ⟨v1c, hv1c⟩ : ∃ v, v1b.setCell ⟨b, 2, none⟩ (.int .i64 c1) = v := ⟨_, rfl⟩
  rw [hv1c] at B_z R_z P_z
  clear B R P
  have B := B_z
  have R := R_z
  have P := P_z
  clear B_z R_z P_z
  obtain ⟨⟨t0a, t0b, t0c⟩, _, _, _⟩ := r3_cells R.out
  go_wp2_with fail
  go_loopw [4, 6] (fun v i wr => ∃ j Aj : Nat, j ≤ n ∧ i = .int .i64 j ∧ Hid (wr.ownsRow (b + 2) 131 2 v j (flatL (repX labelC.rd c1 l1 j))) ∧ Hid (At S Aj (repS labelC.rd c1 l1 j).2) ∧ Hid (wr.heap[b]? = some (.cells #[.string S, .int .i64 Aj, .int .i64 (repS labelC.rd c1 l1 j).1] 31 (0, 0))) ∧ Hid (wr.heap[b + 1]? = some (.cells #[.string ⟨#[]⟩, .int .i64 0, .int .i64 0] 31 (0, 0))) ∧ Hid (Below w.heap.size w wr)) (fun _ i _ => n - (RowKit.intOf i).toNat)
  case atStart => exact ⟨0, A1, Nat.zero_le _, rfl, World.ownsRow_nil _ _ _ _, H1.out, R.out, P.out, B.out⟩
  case round =>
    clear B R P
    obtain ⟨j, Aj, hj, rfl, O, HJ, R, P, B⟩ := hrel
    have hjk : (j : Int) ≤ 4 := by omega
    obtain ⟨v, cap, rfl⟩ := own_form O.out
    obtain ⟨cj, hcj⟩ : ∃ d, (repS labelC.rd c1 l1 j).1 = d := ⟨_, rfl⟩
    obtain ⟨lj, hlj⟩ : ∃ d, (repS labelC.rd c1 l1 j).2 = d := ⟨_, rfl⟩
    have HSJ0 := Lib.hid (show repS labelC.rd c1 l1 j = (cj, lj) by rw [← hcj, ← hlj])
    rw [hcj] at R
    rw [hlj] at HJ
    have OB := Lib.hid (fun r hr => Wire.owns_lt O.out (r := r) hr)
    have hcap : j ≤ cap := by
      rcases O.out.2 with ⟨e1, e2⟩ | ⟨gg, cap', cur, e1, _, _, e4, _⟩
      · injection e1 with _ e5 e6; omega
      · injection e1 with _ e5 e6; omega
    have HFR := Lib.hid (show From w.heap.size v from fun x hx => by have := (O.out.lt x.block (by rw [hx]; rfl)).1; have := HBB.out; omega)
    clear hcj hlj
    obtain ⟨⟨t1, t2, t3⟩, _, _, _⟩ := r3_cells R.out
    by_cases hlt : j < n
    · have hlt' : (j : Int) < (n : Int) := by omega
      by_cases hcz : cj = 0
      · subst hcz
        obtain ⟨⟨k1, d1, m1⟩, q1⟩ : ∃ t, (textC 33 (by decide)).rd 0 lj = t := ⟨_, rfl⟩
        obtain ⟨⟨k2, d2, m2⟩, q2⟩ : ∃ t, (textC 16 (by decide)).rd d1 m1 = t := ⟨_, rfl⟩
        have q : labelC.rd 0 lj = (⟨k1, k2⟩, d2, m2) := by
          show ((⟨(pairR (textC 33 _).rd (textC 16 _).rd 0 lj).1.1, (pairR (textC 33 _).rd (textC 16 _).rd 0 lj).1.2⟩ : Lbl), (pairR (textC 33 _).rd (textC 16 _).rd 0 lj).2) = _
          simp only [pairR, q1, q2]
        have HSJ := Lib.hid (show repS labelC.rd c1 l1 (j + 1) = (d2, m2) by show (labelC.rd _ _).2 = _; rw [HSJ0.out, q])
        have HXJ := Lib.hid (show flatL (repX labelC.rd c1 l1 (j + 1)) = flatL (repX labelC.rd c1 l1 j) ++ [.string k1, .string k2] by
          show flatL (repX labelC.rd c1 l1 j ++ [(labelC.rd _ _).1]) = _
          rw [HSJ0.out, q, flatL_snoc])
        have HXL := Lib.hid (show (flatL (repX labelC.rd c1 l1 j)).length = j * 2 by rw [flatL_length, repX_len])
        have K1 := Lib.hid q1
        have K2 := Lib.hid q2
        clear q q1 q2
        have GB := Lib.hid (show b + 2 ≤ wr.heap.size by have := lt_of_block P.out; omega)
        have HB2 := Lib.hid (show 2 ≤ 2 from Nat.le_refl _)
        obtain ⟨u0, hu0⟩ : ∃ v, wr.alloc (.cells #[.string ⟨#[]⟩, .string ⟨#[]⟩] 131) = v := ⟨_, rfl⟩
        have al := fun j (hj : j < wr.heap.size) => ((Below.refl wr.heap.size wr).alloc (Nat.le_refl _) (.cells #[.string ⟨#[]⟩, .string ⟨#[]⟩] 131)).block j hj
        have gn := heap_alloc_new wr (.cells #[.string ⟨#[]⟩, .string ⟨#[]⟩] 131)
        rw [hu0] at al gn
        have GN := Lib.hid gn
        clear gn
        have R_z := Lib.hid ((al (b) (lt_of_block R.out)).trans R.out)
        have P_z := Lib.hid ((al (b + 1) (lt_of_block P.out)).trans P.out)
        have O_z := Lib.hid (Wire.owns_of O.out (w' := u0) (fun r hr => al r (Wire.owns_lt O.out hr).2))
        have B_z := Lib.hid (show Below w.heap.size w u0 by rw [← hu0]; exact B.out.alloc B.out.size _)
        clear al
        clear B R P O
        have B := B_z
        have R := R_z
        have P := P_z
        have O := O_z
        clear B_z R_z P_z O_z
        have L := GN
        clear GN
        obtain ⟨⟨t4, t5, t6⟩, _, _, _⟩ := r3_cells R.out
        go_wp2_with fail
        refine (text_ref S HS.out 33 (by decide) 33 (by decide) (by decide) Aj 0 lj HJ.out k1 d1 m1 K1.out _).mono ?_
        rintro e w2 ⟨A2, rfl, h2, hb2⟩
        have H2 := Lib.hid h2
        clear h2
        have B_z := Lib.hid (B.out.trans (hb2.mono B.out.size))
        have R_z := Lib.hid ((hb2.block (b) (lt_of_block R.out)).trans R.out)
        have P_z := Lib.hid ((hb2.block (b + 1) (lt_of_block P.out)).trans P.out)
        have O_z := Lib.hid (Wire.owns_of O.out (w' := w2) (fun r hr => hb2.block r (Wire.owns_lt O.out hr).2))
        have L_z := Lib.hid ((hb2.block (wr.heap.size) (lt_of_block L.out)).trans L.out)
        clear hb2
        clear B R P O L
        have B := B_z
        have R := R_z
        have P := P_z
        have O := O_z
        have L := L_z
        clear B_z R_z P_z O_z L_z
        obtain ⟨u2, hu2⟩ : ∃ v, w2.alloc (.cells #[.string S, .int .i64 A2, .int .i64 d1] 31) = v := ⟨_, rfl⟩
        have al := fun j (hj : j < w2.heap.size) => ((Below.refl w2.heap.size w2).alloc (Nat.le_refl _) (.cells #[.string S, .int .i64 A2, .int .i64 d1] 31)).block j hj
        have gn := heap_alloc_new w2 (.cells #[.string S, .int .i64 A2, .int .i64 d1] 31)
        rw [hu2] at al gn
        obtain ⟨⟨gn1u2, gn2u2, gn3u2⟩, _, _, _⟩ := r3_cells gn
        clear gn
        have R_z := Lib.hid ((al (b) (lt_of_block R.out)).trans R.out)
        have P_z := Lib.hid ((al (b + 1) (lt_of_block P.out)).trans P.out)
        have O_z := Lib.hid (Wire.owns_of O.out (w' := u2) (fun r hr => al r (Wire.owns_lt O.out hr).2))
        have L_z := Lib.hid ((al (wr.heap.size) (lt_of_block L.out)).trans L.out)
        have B_z := Lib.hid (show Below w.heap.size w u2 by rw [← hu2]; exact B.out.alloc B.out.size _)
        clear al
        clear B R P O L
        have B := B_z
        have R := R_z
        have P := P_z
        have O := O_z
        have L := L_z
        clear B_z R_z P_z O_z L_z
        obtain ⟨⟨s4a, s4b, s4c⟩, s4d, s4e, s4f⟩ := r3_cells R.out
        have R_z := Lib.hid (r3_set0 R.out (.string S))
        have P_z := Lib.hid ((Below.heap_setCell u2 ⟨b, 0, none⟩ (.string S) (b + 1) (by show b + 1 ≠ b; have := GB.out; omega)).trans P.out)
        have O_z := Lib.hid (Wire.owns_of O.out (w' := u2.setCell ⟨b, 0, none⟩ (.string S)) (fun r hr => Below.heap_setCell u2 ⟨b, 0, none⟩ (.string S) r (by show r ≠ b; have := OB.out r hr; omega)))
        have L_z := Lib.hid ((Below.heap_setCell u2 ⟨b, 0, none⟩ (.string S) (wr.heap.size) (by show wr.heap.size ≠ b; have := GB.out; omega)).trans L.out)
        have B_z := Lib.hid (B.out.setCell (p := ⟨b, 0, none⟩) (by show w.heap.size ≤ b; have := HBB.out; have := GB.out; omega) (.string S))
        obtain ⟨v2a, hv2a⟩ : ∃ v, u2.setCell ⟨b, 0, none⟩ (.string S) = v := ⟨_, rfl⟩
        rw [hv2a] at B_z R_z P_z O_z L_z
        clear B R P O L
        have B := B_z
        have R := R_z
        have P := P_z
        have O := O_z
        have L := L_z
        clear B_z R_z P_z O_z L_z
        obtain ⟨⟨s5a, s5b, s5c⟩, s5d, s5e, s5f⟩ := r3_cells R.out
        have R_z := Lib.hid (r3_set1 R.out (.int .i64 A2))
        have P_z := Lib.hid ((Below.heap_setCell v2a ⟨b, 1, none⟩ (.int .i64 A2) (b + 1) (by show b + 1 ≠ b; have := GB.out; omega)).trans P.out)
        have O_z := Lib.hid (Wire.owns_of O.out (w' := v2a.setCell ⟨b, 1, none⟩ (.int .i64 A2)) (fun r hr => Below.heap_setCell v2a ⟨b, 1, none⟩ (.int .i64 A2) r (by show r ≠ b; have := OB.out r hr; omega)))
        have L_z := Lib.hid ((Below.heap_setCell v2a ⟨b, 1, none⟩ (.int .i64 A2) (wr.heap.size) (by show wr.heap.size ≠ b; have := GB.out; omega)).trans L.out)
        have B_z := Lib.hid (B.out.setCell (p := ⟨b, 1, none⟩) (by show w.heap.size ≤ b; have := HBB.out; have := GB.out; omega) (.int .i64 A2))
        obtain ⟨v2b, hv2b⟩ : ∃ v, v2a.setCell ⟨b, 1, none⟩ (.int .i64 A2) = v := ⟨_, rfl⟩
        rw [hv2b] at B_z R_z P_z O_z L_z
        clear B R P O L
        have B := B_z
        have R := R_z
        have P := P_z
        have O := O_z
        have L := L_z
        clear B_z R_z P_z O_z L_z
        obtain ⟨⟨s6a, s6b, s6c⟩, s6d, s6e, s6f⟩ := r3_cells R.out
        have R_z := Lib.hid (r3_set2 R.out (.int .i64 d1))
        have P_z := Lib.hid ((Below.heap_setCell v2b ⟨b, 2, none⟩ (.int .i64 d1) (b + 1) (by show b + 1 ≠ b; have := GB.out; omega)).trans P.out)
        have O_z := Lib.hid (Wire.owns_of O.out (w' := v2b.setCell ⟨b, 2, none⟩ (.int .i64 d1)) (fun r hr => Below.heap_setCell v2b ⟨b, 2, none⟩ (.int .i64 d1) r (by show r ≠ b; have := OB.out r hr; omega)))
        have L_z := Lib.hid ((Below.heap_setCell v2b ⟨b, 2, none⟩ (.int .i64 d1) (wr.heap.size) (by show wr.heap.size ≠ b; have := GB.out; omega)).trans L.out)
        have B_z := Lib.hid (B.out.setCell (p := ⟨b, 2, none⟩) (by show w.heap.size ≤ b; have := HBB.out; have := GB.out; omega) (.int .i64 d1))
        obtain ⟨v2c, hv2c⟩ : ∃ v, v2b.setCell ⟨b, 2, none⟩ (.int .i64 d1) = v := ⟨_, rfl⟩
        rw [hv2c] at B_z R_z P_z O_z L_z
        clear B R P O L
        have B := B_z
        have R := R_z
        have P := P_z
        have O := O_z
        have L := L_z
        clear B_z R_z P_z O_z L_z
        obtain ⟨s7a, s7b, s7d, s7e⟩ := Wire.two_cells L.out
        have L_z := Lib.hid (Wire.two_set0 L.out (.string k1))
        have R_z := Lib.hid ((Below.heap_setCell v2c ⟨wr.heap.size, 0, none⟩ (.string k1) (b) (by show b ≠ wr.heap.size; have := GB.out; omega)).trans R.out)
        have P_z := Lib.hid ((Below.heap_setCell v2c ⟨wr.heap.size, 0, none⟩ (.string k1) (b + 1) (by show b + 1 ≠ wr.heap.size; have := GB.out; omega)).trans P.out)
        have O_z := Lib.hid (Wire.owns_of O.out (w' := v2c.setCell ⟨wr.heap.size, 0, none⟩ (.string k1)) (fun r hr => Below.heap_setCell v2c ⟨wr.heap.size, 0, none⟩ (.string k1) r (by show r ≠ wr.heap.size; have := OB.out r hr; omega)))
        have B_z := Lib.hid (B.out.setCell (p := ⟨wr.heap.size, 0, none⟩) (by show w.heap.size ≤ wr.heap.size; have := HBB.out; have := GB.out; omega) (.string k1))
        obtain ⟨v2d, hv2d⟩ : ∃ v, v2c.setCell ⟨wr.heap.size, 0, none⟩ (.string k1) = v := ⟨_, rfl⟩
        rw [hv2d] at B_z R_z P_z O_z L_z
        clear B R P O L
        have B := B_z
        have R := R_z
        have P := P_z
        have O := O_z
        have L := L_z
        clear B_z R_z P_z O_z L_z
        obtain ⟨⟨t7, t8, t9⟩, _, _, _⟩ := r3_cells R.out
        go_wp2_with fail
        refine (text_ref S HS.out 16 (by decide) 16 (by decide) (by decide) A2 d1 m1 H2.out k2 d2 m2 K2.out _).mono ?_
        rintro e w3 ⟨A3, rfl, h3, hb3⟩
        have H3 := Lib.hid h3
        clear h3
        have B_z := Lib.hid (B.out.trans (hb3.mono B.out.size))
        have R_z := Lib.hid ((hb3.block (b) (lt_of_block R.out)).trans R.out)
        have P_z := Lib.hid ((hb3.block (b + 1) (lt_of_block P.out)).trans P.out)
        have O_z := Lib.hid (Wire.owns_of O.out (w' := w3) (fun r hr => hb3.block r (Wire.owns_lt O.out hr).2))
        have L_z := Lib.hid ((hb3.block (wr.heap.size) (lt_of_block L.out)).trans L.out)
        clear hb3
        clear B R P O L
        have B := B_z
        have R := R_z
        have P := P_z
        have O := O_z
        have L := L_z
        clear B_z R_z P_z O_z L_z
        obtain ⟨u3, hu3⟩ : ∃ v, w3.alloc (.cells #[.string S, .int .i64 A3, .int .i64 d2] 31) = v := ⟨_, rfl⟩
        have al := fun j (hj : j < w3.heap.size) => ((Below.refl w3.heap.size w3).alloc (Nat.le_refl _) (.cells #[.string S, .int .i64 A3, .int .i64 d2] 31)).block j hj
        have gn := heap_alloc_new w3 (.cells #[.string S, .int .i64 A3, .int .i64 d2] 31)
        rw [hu3] at al gn
        obtain ⟨⟨gn1u3, gn2u3, gn3u3⟩, _, _, _⟩ := r3_cells gn
        clear gn
        have R_z := Lib.hid ((al (b) (lt_of_block R.out)).trans R.out)
        have P_z := Lib.hid ((al (b + 1) (lt_of_block P.out)).trans P.out)
        have O_z := Lib.hid (Wire.owns_of O.out (w' := u3) (fun r hr => al r (Wire.owns_lt O.out hr).2))
        have L_z := Lib.hid ((al (wr.heap.size) (lt_of_block L.out)).trans L.out)
        have B_z := Lib.hid (show Below w.heap.size w u3 by rw [← hu3]; exact B.out.alloc B.out.size _)
        clear al
        clear B R P O L
        have B := B_z
        have R := R_z
        have P := P_z
        have O := O_z
        have L := L_z
        clear B_z R_z P_z O_z L_z
        obtain ⟨⟨s8a, s8b, s8c⟩, s8d, s8e, s8f⟩ := r3_cells R.out
        have R_z := Lib.hid (r3_set0 R.out (.string S))
        have P_z := Lib.hid ((Below.heap_setCell u3 ⟨b, 0, none⟩ (.string S) (b + 1) (by show b + 1 ≠ b; have := GB.out; omega)).trans P.out)
        have O_z := Lib.hid (Wire.owns_of O.out (w' := u3.setCell ⟨b, 0, none⟩ (.string S)) (fun r hr => Below.heap_setCell u3 ⟨b, 0, none⟩ (.string S) r (by show r ≠ b; have := OB.out r hr; omega)))
        have L_z := Lib.hid ((Below.heap_setCell u3 ⟨b, 0, none⟩ (.string S) (wr.heap.size) (by show wr.heap.size ≠ b; have := GB.out; omega)).trans L.out)
        have B_z := Lib.hid (B.out.setCell (p := ⟨b, 0, none⟩) (by show w.heap.size ≤ b; have := HBB.out; have := GB.out; omega) (.string S))
        obtain ⟨v3a, hv3a⟩ : ∃ v, u3.setCell ⟨b, 0, none⟩ (.string S) = v := ⟨_, rfl⟩
        rw [hv3a] at B_z R_z P_z O_z L_z
        clear B R P O L
        have B := B_z
        have R := R_z
        have P := P_z
        have O := O_z
        have L := L_z
        clear B_z R_z P_z O_z L_z
        obtain ⟨⟨s9a, s9b, s9c⟩, s9d, s9e, s9f⟩ := r3_cells R.out
        have R_z := Lib.hid (r3_set1 R.out (.int .i64 A3))
        have P_z := Lib.hid ((Below.heap_setCell v3a ⟨b, 1, none⟩ (.int .i64 A3) (b + 1) (by show b + 1 ≠ b; have := GB.out; omega)).trans P.out)
        have O_z := Lib.hid (Wire.owns_of O.out (w' := v3a.setCell ⟨b, 1, none⟩ (.int .i64 A3)) (fun r hr => Below.heap_setCell v3a ⟨b, 1, none⟩ (.int .i64 A3) r (by show r ≠ b; have := OB.out r hr; omega)))
        have L_z := Lib.hid ((Below.heap_setCell v3a ⟨b, 1, none⟩ (.int .i64 A3) (wr.heap.size) (by show wr.heap.size ≠ b; have := GB.out; omega)).trans L.out)
        have B_z := Lib.hid (B.out.setCell (p := ⟨b, 1, none⟩) (by show w.heap.size ≤ b; have := HBB.out; have := GB.out; omega) (.int .i64 A3))
        obtain ⟨v3b, hv3b⟩ : ∃ v, v3a.setCell ⟨b, 1, none⟩ (.int .i64 A3) = v := ⟨_, rfl⟩
        rw [hv3b] at B_z R_z P_z O_z L_z
        clear B R P O L
        have B := B_z
        have R := R_z
        have P := P_z
        have O := O_z
        have L := L_z
        clear B_z R_z P_z O_z L_z
        obtain ⟨⟨s10a, s10b, s10c⟩, s10d, s10e, s10f⟩ := r3_cells R.out
        have R_z := Lib.hid (r3_set2 R.out (.int .i64 d2))
        have P_z := Lib.hid ((Below.heap_setCell v3b ⟨b, 2, none⟩ (.int .i64 d2) (b + 1) (by show b + 1 ≠ b; have := GB.out; omega)).trans P.out)
        have O_z := Lib.hid (Wire.owns_of O.out (w' := v3b.setCell ⟨b, 2, none⟩ (.int .i64 d2)) (fun r hr => Below.heap_setCell v3b ⟨b, 2, none⟩ (.int .i64 d2) r (by show r ≠ b; have := OB.out r hr; omega)))
        have L_z := Lib.hid ((Below.heap_setCell v3b ⟨b, 2, none⟩ (.int .i64 d2) (wr.heap.size) (by show wr.heap.size ≠ b; have := GB.out; omega)).trans L.out)
        have B_z := Lib.hid (B.out.setCell (p := ⟨b, 2, none⟩) (by show w.heap.size ≤ b; have := HBB.out; have := GB.out; omega) (.int .i64 d2))
        obtain ⟨v3c, hv3c⟩ : ∃ v, v3b.setCell ⟨b, 2, none⟩ (.int .i64 d2) = v := ⟨_, rfl⟩
        rw [hv3c] at B_z R_z P_z O_z L_z
        clear B R P O L
        have B := B_z
        have R := R_z
        have P := P_z
        have O := O_z
        have L := L_z
        clear B_z R_z P_z O_z L_z
        obtain ⟨s11a, s11b, s11d, s11e⟩ := Wire.two_cells L.out
        have L_z := Lib.hid (Wire.two_set1 L.out (.string k2))
        have R_z := Lib.hid ((Below.heap_setCell v3c ⟨wr.heap.size, 1, none⟩ (.string k2) (b) (by show b ≠ wr.heap.size; have := GB.out; omega)).trans R.out)
        have P_z := Lib.hid ((Below.heap_setCell v3c ⟨wr.heap.size, 1, none⟩ (.string k2) (b + 1) (by show b + 1 ≠ wr.heap.size; have := GB.out; omega)).trans P.out)
        have O_z := Lib.hid (Wire.owns_of O.out (w' := v3c.setCell ⟨wr.heap.size, 1, none⟩ (.string k2)) (fun r hr => Below.heap_setCell v3c ⟨wr.heap.size, 1, none⟩ (.string k2) r (by show r ≠ wr.heap.size; have := OB.out r hr; omega)))
        have B_z := Lib.hid (B.out.setCell (p := ⟨wr.heap.size, 1, none⟩) (by show w.heap.size ≤ wr.heap.size; have := HBB.out; have := GB.out; omega) (.string k2))
        obtain ⟨v3d, hv3d⟩ : ∃ v, v3c.setCell ⟨wr.heap.size, 1, none⟩ (.string k2) = v := ⟨_, rfl⟩
        rw [hv3d] at B_z R_z P_z O_z L_z
        clear B R P O L
        have B := B_z
        have R := R_z
        have P := P_z
        have O := O_z
        have L := L_z
        clear B_z R_z P_z O_z L_z
        obtain ⟨t10, t11, _, _⟩ := Wire.two_cells L.out
        have HOWN := Lib.hid (O.out.alloc (.cells #[.string k1, .string k2] 131))
        go_wp2_with (at_builtin; refine wpList_append_own _ rfl _ _ 25 rfl (b + 2) 131 i0 _ 2 32 Tryz.underlying25 hi0 hz0 hz1 hz2 rfl (by decide) _ j (flatL (repX labelC.rd c1 l1 j)) rfl HOWN.out ⟨v3d.heap.size, 0, none⟩ 1 1 [.string k1, .string k2] rfl rfl ?c1 ?c2 ?c3 ?c4 ?c5 ?_)
        case c1 => exact (World.ownsRow_lit (base := 0) (size := 2) (e := 131) v3d ([.string k1, .string k2] : List Value).toArray 1 (Nat.zero_le _) (by decide) rfl).cells rfl
        case c2 =>
          intro u hu
          simp only [List.mem_cons, List.not_mem_nil, or_false] at hu
          rcases hu with rfl | rfl <;> rfl
        case c3 => unfold maxLen; omega
        case c4 => omega
        case c5 => have := lt_of_block P.out; simp; omega
        intro v' w7 hown' hgrow _
        have HO7 := Lib.hid (show w7.ownsRow (b + 2) 131 2 v' (j + 1) (flatL (repX labelC.rd c1 l1 (j + 1))) by rw [HXJ.out]; exact hown')
        have hsz : b + 2 ≤ v3d.heap.size := by have := lt_of_block P.out; omega
        have hbw : Below (b + 2) v3d w7 := ((Below.refl (b + 2) v3d).alloc hsz _).grown hgrow (by simp; omega) (fun r hr => (HOWN.out.lt r hr).1)
        have R7 := Lib.hid ((hbw.block b (by omega)).trans R.out)
        have P7 := Lib.hid ((hbw.block (b + 1) (by omega)).trans P.out)
        have B7 := Lib.hid (show Below w.heap.size w w7 from B.out.trans (hbw.mono (by have := HBB.out; omega)))
        have H7 := Lib.hid (show At S A3 (repS labelC.rd c1 l1 (j + 1)).2 by rw [HSJ.out]; exact H3.out)
        clear hown' hgrow hbw HOWN
        go_wp2
        go_roundw
        case rel => exact ⟨j + 1, A3, by omega, by go_num, HO7.out, H7.out, by rw [HSJ.out]; exact R7.out, P7.out, B7.out⟩
        case measure => simp [RowKit.intOf]; omega
      · have HE := Lib.hid (show (cj, lj) = (c', l') by
          have hst := repS_stay labelC (c := c1) (l := l1) (k := j) (by rw [HSJ0.out]; exact hcz) (n - j)
          rw [show j + (n - j) = n by omega, HQ2.out, HSJ0.out] at hst
          exact hst.symm)
        have HCZ := Lib.hid hcz
        have hcz' : (cj == 0) = false := by simpa using hcz
        have GB := Lib.hid (show b ≤ b from Nat.le_refl _)
        obtain ⟨⟨t1a, t1b, t1c⟩, _, _, _⟩ := r3_cells R.out
        obtain ⟨⟨s12a, s12b, s12c⟩, s12d, s12e, s12f⟩ := r3_cells P.out
        have P_z := Lib.hid (r3_set0 P.out (.string S))
        have R_z := Lib.hid ((Below.heap_setCell wr ⟨b + 1, 0, none⟩ (.string S) (b) (by show b ≠ b + 1; have := GB.out; omega)).trans R.out)
        have O_z := Lib.hid (Wire.owns_of O.out (w' := wr.setCell ⟨b + 1, 0, none⟩ (.string S)) (fun r hr => Below.heap_setCell wr ⟨b + 1, 0, none⟩ (.string S) r (by show r ≠ b + 1; have := OB.out r hr; omega)))
        have B_z := Lib.hid (B.out.setCell (p := ⟨b + 1, 0, none⟩) (by show w.heap.size ≤ b + 1; have := HBB.out; have := GB.out; omega) (.string S))
        obtain ⟨z0, hz0⟩ : ∃ v, wr.setCell ⟨b + 1, 0, none⟩ (.string S) = v := ⟨_, rfl⟩
        rw [hz0] at B_z R_z P_z O_z
        clear B R P O
        have B := B_z
        have R := R_z
        have P := P_z
        have O := O_z
        clear B_z R_z P_z O_z
        obtain ⟨⟨s13a, s13b, s13c⟩, s13d, s13e, s13f⟩ := r3_cells P.out
        have P_z := Lib.hid (r3_set1 P.out (.int .i64 Aj))
        have R_z := Lib.hid ((Below.heap_setCell z0 ⟨b + 1, 1, none⟩ (.int .i64 Aj) (b) (by show b ≠ b + 1; have := GB.out; omega)).trans R.out)
        have O_z := Lib.hid (Wire.owns_of O.out (w' := z0.setCell ⟨b + 1, 1, none⟩ (.int .i64 Aj)) (fun r hr => Below.heap_setCell z0 ⟨b + 1, 1, none⟩ (.int .i64 Aj) r (by show r ≠ b + 1; have := OB.out r hr; omega)))
        have B_z := Lib.hid (B.out.setCell (p := ⟨b + 1, 1, none⟩) (by show w.heap.size ≤ b + 1; have := HBB.out; have := GB.out; omega) (.int .i64 Aj))
        obtain ⟨z1, hz1⟩ : ∃ v, z0.setCell ⟨b + 1, 1, none⟩ (.int .i64 Aj) = v := ⟨_, rfl⟩
        rw [hz1] at B_z R_z P_z O_z
        clear B R P O
        have B := B_z
        have R := R_z
        have P := P_z
        have O := O_z
        clear B_z R_z P_z O_z
        obtain ⟨⟨s14a, s14b, s14c⟩, s14d, s14e, s14f⟩ := r3_cells P.out
        have P_z := Lib.hid (r3_set2 P.out (.int .i64 cj))
        have R_z := Lib.hid ((Below.heap_setCell z1 ⟨b + 1, 2, none⟩ (.int .i64 cj) (b) (by show b ≠ b + 1; have := GB.out; omega)).trans R.out)
        have O_z := Lib.hid (Wire.owns_of O.out (w' := z1.setCell ⟨b + 1, 2, none⟩ (.int .i64 cj)) (fun r hr => Below.heap_setCell z1 ⟨b + 1, 2, none⟩ (.int .i64 cj) r (by show r ≠ b + 1; have := OB.out r hr; omega)))
        have B_z := Lib.hid (B.out.setCell (p := ⟨b + 1, 2, none⟩) (by show w.heap.size ≤ b + 1; have := HBB.out; have := GB.out; omega) (.int .i64 cj))
        obtain ⟨z2, hz2⟩ : ∃ v, z1.setCell ⟨b + 1, 2, none⟩ (.int .i64 cj) = v := ⟨_, rfl⟩
        rw [hz2] at B_z R_z P_z O_z
        clear B R P O
        have B := B_z
        have R := R_z
        have P := P_z
        have O := O_z
        clear B_z R_z P_z O_z
        obtain ⟨⟨y1, y2, y3⟩, _, _, _⟩ := r3_cells P.out
        go_wp2_with fail
        refine bodyPost_ret (v := .tuple #[.agg #[.string S, .int .i64 Aj, .int .i64 cj], .slice v j cap]) ?hres rfl ?_
        case hres => simp [results, Tryz.results42, go_sem, y1, y2, y3]
        have hE := HE.out
        injection hE with hE1 hE2
        exact ⟨Aj, v, j, cap, by rw [hE1], by rw [← hE2]; exact HJ.out, hcap, HFR.out, fun h0 => absurd (hE1.trans h0) HCZ.out, B.out⟩
    · obtain rfl : j = n := by omega
      have hlt' : ¬ (j : Int) < (j : Int) := by omega
      have HE := Lib.hid (show (cj, lj) = (c', l') by rw [← HQ2.out, HSJ0.out])
      have GB := Lib.hid (show b ≤ b from Nat.le_refl _)
      obtain ⟨⟨t1a, t1b, t1c⟩, _, _, _⟩ := r3_cells R.out
      obtain ⟨⟨s15a, s15b, s15c⟩, s15d, s15e, s15f⟩ := r3_cells P.out
      have P_z := Lib.hid (r3_set0 P.out (.string S))
      have R_z := Lib.hid ((Below.heap_setCell wr ⟨b + 1, 0, none⟩ (.string S) (b) (by show b ≠ b + 1; have := GB.out; omega)).trans R.out)
      have O_z := Lib.hid (Wire.owns_of O.out (w' := wr.setCell ⟨b + 1, 0, none⟩ (.string S)) (fun r hr => Below.heap_setCell wr ⟨b + 1, 0, none⟩ (.string S) r (by show r ≠ b + 1; have := OB.out r hr; omega)))
      have B_z := Lib.hid (B.out.setCell (p := ⟨b + 1, 0, none⟩) (by show w.heap.size ≤ b + 1; have := HBB.out; have := GB.out; omega) (.string S))
      obtain ⟨z0, hz0⟩ : ∃ v, wr.setCell ⟨b + 1, 0, none⟩ (.string S) = v := ⟨_, rfl⟩
      rw [hz0] at B_z R_z P_z O_z
      clear B R P O
      have B := B_z
      have R := R_z
      have P := P_z
      have O := O_z
      clear B_z R_z P_z O_z
      obtain ⟨⟨s16a, s16b, s16c⟩, s16d, s16e, s16f⟩ := r3_cells P.out
      have P_z := Lib.hid (r3_set1 P.out (.int .i64 Aj))
      have R_z := Lib.hid ((Below.heap_setCell z0 ⟨b + 1, 1, none⟩ (.int .i64 Aj) (b) (by show b ≠ b + 1; have := GB.out; omega)).trans R.out)
      have O_z := Lib.hid (Wire.owns_of O.out (w' := z0.setCell ⟨b + 1, 1, none⟩ (.int .i64 Aj)) (fun r hr => Below.heap_setCell z0 ⟨b + 1, 1, none⟩ (.int .i64 Aj) r (by show r ≠ b + 1; have := OB.out r hr; omega)))
      have B_z := Lib.hid (B.out.setCell (p := ⟨b + 1, 1, none⟩) (by show w.heap.size ≤ b + 1; have := HBB.out; have := GB.out; omega) (.int .i64 Aj))
      obtain ⟨z1, hz1⟩ : ∃ v, z0.setCell ⟨b + 1, 1, none⟩ (.int .i64 Aj) = v := ⟨_, rfl⟩
      rw [hz1] at B_z R_z P_z O_z
      clear B R P O
      have B := B_z
      have R := R_z
      have P := P_z
      have O := O_z
      clear B_z R_z P_z O_z
      obtain ⟨⟨s17a, s17b, s17c⟩, s17d, s17e, s17f⟩ := r3_cells P.out
      have P_z := Lib.hid (r3_set2 P.out (.int .i64 cj))
      have R_z := Lib.hid ((Below.heap_setCell z1 ⟨b + 1, 2, none⟩ (.int .i64 cj) (b) (by show b ≠ b + 1; have := GB.out; omega)).trans R.out)
      have O_z := Lib.hid (Wire.owns_of O.out (w' := z1.setCell ⟨b + 1, 2, none⟩ (.int .i64 cj)) (fun r hr => Below.heap_setCell z1 ⟨b + 1, 2, none⟩ (.int .i64 cj) r (by show r ≠ b + 1; have := OB.out r hr; omega)))
      have B_z := Lib.hid (B.out.setCell (p := ⟨b + 1, 2, none⟩) (by show w.heap.size ≤ b + 1; have := HBB.out; have := GB.out; omega) (.int .i64 cj))
      obtain ⟨z2, hz2⟩ : ∃ v, z1.setCell ⟨b + 1, 2, none⟩ (.int .i64 cj) = v := ⟨_, rfl⟩
      rw [hz2] at B_z R_z P_z O_z
      clear B R P O
      have B := B_z
      have R := R_z
      have P := P_z
      have O := O_z
      clear B_z R_z P_z O_z
      obtain ⟨⟨y1, y2, y3⟩, _, _, _⟩ := r3_cells P.out
      go_wp2_with fail
      refine bodyPost_ret (v := .tuple #[.agg #[.string S, .int .i64 Aj, .int .i64 cj], .slice v j cap]) ?hres rfl ?_
      case hres => simp [results, Tryz.results42, go_sem, y1, y2, y3]
      have hE := HE.out
      injection hE with hE1 hE2
      refine ⟨Aj, v, j, cap, by rw [hE1], by rw [← hE2]; exact HJ.out, hcap, HFR.out, fun h0 => ?_, B.out⟩
      have hxs : xs = repX labelC.rd c1 l1 j := by rw [← HQ1.out, HSJ0.out, if_pos (hE1.trans h0)]
      have hxl : xs.length = j := by rw [hxs, repX_len]
      refine ⟨hxl.symm, ?_⟩
      have ho := O.out
      rw [← hxs, ← hxl] at ho
      exact (lbls_own ho).1
end Pk
end Go.Proofs.YtmeilidjomjocaaGreatDoor
