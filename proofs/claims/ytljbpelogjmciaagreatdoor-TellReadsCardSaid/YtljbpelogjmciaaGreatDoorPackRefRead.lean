/-
 The document's readings of numbers and texts by contract: its Reader (a text, a place, an error) stands for an error and the bytes left, and turns as the plain readings say. Conditions: the text has at most 2^46 bytes, the place lies in it. And what follows of it, part by part, each with its conditions.
-/
import Derived.Test.YtljbpelogjmciaaGreatDoorPackAll
import Derived.Test.YtljbpelogjmciaaGreatDoorNumRefTake
set_option maxHeartbeats 4000000
set_option linter.unusedVariables false
set_option linter.unusedSimpArgs false
namespace Go.Proofs.YtljbpelogjmciaaGreatDoor
open Go.ChangeShapes Go.WideShapes Go.ChangeAt Go.RowKit Go.Lib
open LebMath WirePure Sd Wire
namespace Pk
set_option maxRecDepth 20000 in
theorem rfail_ref (S : ByteArray) (A : Int) (c d : Int) (w : World) :
 Calls Tryz.prog 96 #[.agg #[.string S, .int .i64 A, .int .i64 c], .int .i64 d] w fun e w' => e = .returned (.agg #[.string S, .int .i64 A, .int .i64 (fst c d)]) ∧ Below w.heap.size w w' := by
 by_cases hc : c = 0
 · subst hc
   rw [fst_no]
   go_enter Tryz.func96, Tryz.ntmps96
   go_wp2_with fail
   refine bodyPost_ret (v := .agg #[.string S, .int .i64 A, .int .i64 d]) ?hres rfl ?_
   case hres => simp [results, Tryz.results96, go_sem]
   exact ⟨rfl, ((Below.refl _ _).alloc (Nat.le_refl _) _).alloc (by simp) _⟩
 · rw [fst_yes hc]
   go_enter Tryz.func96, Tryz.ntmps96
   go_wp2_with fail
   refine bodyPost_ret (v := .agg #[.string S, .int .i64 A, .int .i64 c]) ?hres rfl ?_
   case hres => simp [results, Tryz.results96, go_sem]
   exact ⟨rfl, ((Below.refl _ _).alloc (Nat.le_refl _) _).alloc (by simp) _⟩
theorem r3_cells {w : World} {g : Nat} {u v x : Value} {t : TypeId} (h : w.heap[g]? = some (.cells #[u, v, x] t (0, 0))) :
 (w.cell? ⟨g, 0, none⟩ = some u ∧ w.cell? ⟨g, 1, none⟩ = some v ∧ w.cell? ⟨g, 2, none⟩ = some x) ∧ w.frozen? ⟨g, 0, none⟩ = false ∧ w.frozen? ⟨g, 1, none⟩ = false ∧ w.frozen? ⟨g, 2, none⟩ = false := by
 refine ⟨⟨?_, ?_, ?_⟩, ?_, ?_, ?_⟩ <;> simp [World.cell?, World.frozen?, h]
theorem r3_set0 {w : World} {g : Nat} {u v x : Value} {t : TypeId} (h : w.heap[g]? = some (.cells #[u, v, x] t (0, 0))) (y : Value) : (w.setCell ⟨g, 0, none⟩ y).heap[g]? = some (.cells #[y, v, x] t (0, 0)) := by
 simpa using heap_setCell_same w g 0 _ _ y h
theorem r3_set2 {w : World} {g : Nat} {u v x : Value} {t : TypeId} (h : w.heap[g]? = some (.cells #[u, v, x] t (0, 0))) (y : Value) : (w.setCell ⟨g, 2, none⟩ y).heap[g]? = some (.cells #[u, v, y] t (0, 0)) := by
 simpa using heap_setCell_same w g 2 _ _ y h
theorem r3_set1 {w : World} {g : Nat} {u v x : Value} {t : TypeId} (h : w.heap[g]? = some (.cells #[u, v, x] t (0, 0))) (y : Value) : (w.setCell ⟨g, 1, none⟩ y).heap[g]? = some (.cells #[u, y, x] t (0, 0)) := by
 simpa using heap_setCell_same w g 1 _ _ y h
def bigE (c : Int) (l : List UInt8) : Int := if (takeV l).2 = 0 then fst c (why l) else c
def bigV (c : Int) (l : List UInt8) : Nat := if bigE c l = 0 then (takeV l).1 else 0
def bigK (c : Int) (l : List UInt8) : Nat := if bigE c l = 0 then (takeV l).2 else 0
theorem big_short {l : List UInt8} {k : Nat} (hk : l.length ≤ k) (h9 : l.length < 10) (h : false = (l.take k).any fun x => decide (x.toNat < 128)) : bigE 0 l = 40 ∧ bigV 0 l = 0 ∧ bigK 0 l = 0 := by
 rw [List.take_of_length_le hk] at h
 have hz : (takeV l).2 = 0 := by
  rw [takeV_all (fun j hj => ?_)]
  by_cases hb : 128 ≤ (l.getD j 0).toNat
  · exact hb
  · exfalso
    have e : l.getD j 0 = l[j] := by simp [List.getD, hj]
    have : (l.any fun x => decide (x.toNat < 128)) = true := List.any_eq_true.2 ⟨l[j], List.getElem_mem _, by rw [← e]; exact decide_eq_true (by omega)⟩
    rw [← h] at this
    exact absurd this (by simp)
 have hw : bigE 0 l = 40 := by
  unfold bigE why
  rw [if_pos hz, fst_no, if_neg (by omega), if_neg (by rw [← h]; simp)]
 refine ⟨hw, ?_, ?_⟩
 · unfold bigV; rw [hw]; rfl
 · unfold bigK; rw [hw]; rfl
theorem why_form {l : List UInt8} {k : Nat} (h : 10 ≤ l.length ∨ true = (l.take k).any fun x => decide (x.toNat < 128)) : why l = 3 := by
 unfold why
 rcases h with h | h
 · rw [if_pos h]
 · split
   · rfl
   · rw [if_pos]
     obtain ⟨x, hx, hb⟩ := List.any_eq_true.1 h.symm
     exact List.any_eq_true.2 ⟨x, List.mem_of_mem_take hx, hb⟩
theorem big_form {l : List UInt8} (hw : why l = 3) (hz : (takeV l).2 = 0) : bigE 0 l = 3 ∧ bigV 0 l = 0 ∧ bigK 0 l = 0 := by
 have e : bigE 0 l = 3 := by unfold bigE; rw [if_pos hz, fst_no, hw]
 refine ⟨e, ?_, ?_⟩
 · unfold bigV; rw [e]; rfl
 · unfold bigK; rw [e]; rfl
theorem big_good {l : List UInt8} (hz : (takeV l).2 ≠ 0) : bigE 0 l = 0 ∧ bigV 0 l = (takeV l).1 ∧ bigK 0 l = (takeV l).2 := by
 have e : bigE 0 l = 0 := by unfold bigE; rw [if_neg hz]
 refine ⟨e, ?_, ?_⟩
 · unfold bigV; rw [e]; rfl
 · unfold bigK; rw [e]; rfl
theorem bigE_err {c : Int} (h : c ≠ 0) (l : List UInt8) : bigE c l = c := by
 unfold bigE
 split
 · exact fst_yes h _
 · rfl
theorem bigV_err {c : Int} (h : c ≠ 0) (l : List UInt8) : bigV c l = 0 := by unfold bigV; rw [bigE_err h, if_neg h]
theorem bigK_err {c : Int} (h : c ≠ 0) (l : List UInt8) : bigK c l = 0 := by unfold bigK; rw [bigE_err h, if_neg h]
set_option maxRecDepth 20000 in
theorem rbig_ref (S : ByteArray) (A : Nat) (c : Int) (hS : S.size ≤ 70368744177664) (hA : A ≤ S.size) (l : List UInt8) (hl : S.data.toList.drop A = l) (w : World) :
 Calls Tryz.prog 77 #[.agg #[.string S, .int .i64 A, .int .i64 c]] w fun e w' => e = .returned (.tuple #[.agg #[.string S, .int .i64 (A + bigK c l : Nat), .int .i64 (bigE c l)], .int .u64 (bigV c l : Nat)]) ∧ Below w.heap.size w w' := by
 by_cases hc : c = 0
 · subst hc
   have hr : (S.extract A S.size).data.toList = l := by
    rw [← hl]
    have e : S.data.toList.length = S.size := Array.length_toList
    simp
    rw [List.take_of_length_le (by rw [List.length_drop, e]; exact Nat.le_refl _)]
   obtain ⟨R, hR⟩ : ∃ R, S.extract A S.size = R := ⟨_, rfl⟩
   rw [hR] at hr
   have hlen : l.length = R.size := by rw [← hr]; exact Array.length_toList
   have hRs : R.size ≤ 70368744177664 := by rw [← hR]; simp; omega
   go_enter Tryz.func77, Tryz.ntmps77
   go_wp2_with fail
   go_loop [5, 6] (fun sm i => ∃ k : Nat, k ≤ R.size ∧ k ≤ 10 ∧ i = .int .i64 k ∧ ∃ b : Bool, sm = .bool b ∧ Hid (b = (R.data.toList.take k).any fun x => decide (x.toNat < 128))) (fun _ i => 10 - (RowKit.intOf i).toNat)
   case atStart => exact ⟨0, Nat.zero_le _, by omega, rfl, false, rfl, rfl⟩
   case round =>
    obtain ⟨k, hk, hk10, rfl, b, rfl, HB⟩ := hrel
    by_cases hlt : k < R.size
    · have hb : (R[k].toNat : Int) < 256 := by have := R[k].toNat_lt; omega
      by_cases h10 : k < 10
      · have HN : Hid ((b || decide ((R[k].toNat : Int) < 128)) = (R.data.toList.take (k + 1)).any fun x => decide (x.toNat < 128)) := by
         show _ = _
         have e : R.data.toList.length = R.size := Array.length_toList
         have ek : R.data.toList[k]'(by omega) = R[k] := by rw [Array.getElem_toList]; rfl
         rw [List.take_succ_eq_append_getElem (by omega : k < R.data.toList.length), List.any_append, ← HB.out, ek]
         have e2 : ((R[k].toNat : Int) < 128) ↔ R[k].toNat < 128 := by omega
         simp [e2]
        cases b
        · by_cases hs : (R[k].toNat : Int) < 128
          · go_wp2_with fail
            go_round
            case rel => exact ⟨k + 1, by omega, by omega, by go_num, true, rfl, by show _ = _; rw [← HN.out]; simp [hs]⟩
            case measure => simp [RowKit.intOf]; omega
          · go_wp2_with fail
            go_round
            case rel => exact ⟨k + 1, by omega, by omega, by go_num, false, rfl, by show _ = _; rw [← HN.out]; simp [hs]⟩
            case measure => simp [RowKit.intOf]; omega
        · go_wp2_with fail
          go_round
          case rel => exact ⟨k + 1, by omega, by omega, by go_num, true, rfl, by show _ = _; rw [← HN.out]; simp⟩
          case measure => simp [RowKit.intOf]; omega
      · obtain rfl : k = 10 := by omega
        cases b
        · have HW := hid (why_form (l := l) (k := 10) (Or.inl (by omega)))
          go_wp2_with fail
          obtain ⟨w0, hw0⟩ : ∃ v, (w.alloc (.cells #[.string S, .int .i64 A, .int .i64 0] 31)).alloc (.cells #[.string ⟨#[]⟩, .int .i64 0, .int .i64 0] 31) = v := ⟨_, rfl⟩
          have Z0 := hid (show w0.heap[w.heap.size]? = some (.cells #[.string S, .int .i64 A, .int .i64 0] 31 (0, 0)) by
           rw [← hw0]
           have hx := ((Below.refl (w.heap.size + 1) (w.alloc (.cells #[.string S, .int .i64 A, .int .i64 0] 31))).alloc (by simp) (.cells #[.string ⟨#[]⟩, .int .i64 0, .int .i64 0] 31)).block w.heap.size (by omega)
           exact hx.trans (heap_alloc_new w _))
          have Y0 := hid (show w0.heap[w.heap.size + 1]? = some (.cells #[.string ⟨#[]⟩, .int .i64 0, .int .i64 0] 31 (0, 0)) by
           rw [← hw0]
           have hx := heap_alloc_new (w.alloc (.cells #[.string S, .int .i64 A, .int .i64 0] 31)) (.cells #[.string ⟨#[]⟩, .int .i64 0, .int .i64 0] 31)
           simpa using hx)
          have B0 := hid (show Below w.heap.size w w0 by rw [← hw0]; exact ((Below.refl _ _).alloc (Nat.le_refl _) _).alloc (by simp) _); rw [hw0]; clear hw0
          refine (NumRefTake.refTake_any R w0 (by show _ ≤ _; unfold maxLen; omega)).mono ?_
          rw [hr]; rintro e w1 ⟨rfl, hb1⟩; have B1 := hid (B0.out.trans (hb1.mono B0.out.size)); have Y1 := hid ((hb1.block (w.heap.size + 1) (lt_of_block Y0.out)).trans Y0.out); have Z1 := hid ((hb1.block w.heap.size (lt_of_block Z0.out)).trans Z0.out); clear hb1
          obtain ⟨⟨c0, c1, c2⟩, f0, f1, f2⟩ := r3_cells Z1.out
          by_cases hz : (takeV l).2 = 0
          · have HX := hid (big_form HW.out hz)
            rw [hz]; go_wp2_with fail
            refine (rfail_ref S A 0 3 w1).mono ?_
            rintro e w2 ⟨rfl, hb2⟩; have B2 := hid (B1.out.trans (hb2.mono B1.out.size)); have Y2 := hid ((hb2.block (w.heap.size + 1) (lt_of_block Y1.out)).trans Y1.out); have Z2 := hid ((hb2.block w.heap.size (lt_of_block Z1.out)).trans Z1.out); clear hb2; clear c0 c1 c2 f0 f1 f2
            have y1 := r3_set0 Y2.out (.string S)
            obtain ⟨v1, hv1⟩ : ∃ v, w2.setCell ⟨w.heap.size + 1, 0, none⟩ (.string S) = v := ⟨_, rfl⟩
            rw [hv1] at y1
            obtain ⟨⟨p0, p1, p2⟩, q0, q1, q2⟩ := r3_cells Y2.out
            obtain ⟨⟨d0, d1, d2⟩, g0, g1, g2⟩ := r3_cells y1
            have y2 := r3_set1 y1 (.int .i64 A)
            obtain ⟨v2, hv2⟩ : ∃ v, v1.setCell ⟨w.heap.size + 1, 1, none⟩ (.int .i64 A) = v := ⟨_, rfl⟩
            rw [hv2] at y2
            obtain ⟨⟨d3, d4, d5⟩, g3, g4, g5⟩ := r3_cells y2
            have y3 := r3_set2 y2 (.int .i64 (fst 0 3))
            obtain ⟨v3, hv3⟩ : ∃ v, v2.setCell ⟨w.heap.size + 1, 2, none⟩ (.int .i64 (fst 0 3)) = v := ⟨_, rfl⟩
            rw [hv3] at y3
            obtain ⟨⟨d6, d7, d8⟩, g6, g7, g8⟩ := r3_cells y3
            have BZ := hid (show Below w.heap.size w v3 by
             rw [← hv3, ← hv2, ← hv1]
             exact ((B2.out.setCell (p := ⟨w.heap.size + 1, 0, none⟩) (by show _ ≤ _ + _; omega) _).setCell (p := ⟨w.heap.size + 1, 1, none⟩) (by show _ ≤ _ + _; omega) _).setCell (p := ⟨w.heap.size + 1, 2, none⟩) (by show _ ≤ _ + _; omega) _)
            clear y1 y2 y3; go_wp2_with fail
            refine bodyPost_ret (v := .tuple #[.agg #[.string S, .int .i64 A, .int .i64 (fst 0 3)], .int .u64 0]) ?hres rfl ?_
            case hres => simp [results, Tryz.results77, go_sem, d6, d7, d8]
            exact ⟨by rw [HX.out.1, HX.out.2.1, HX.out.2.2]; rfl, BZ.out⟩
          · have HX := hid (big_good hz)
            have h10 := takeV_le l
            obtain ⟨⟨V, K⟩, hVK⟩ : ∃ t, takeV l = t := ⟨_, rfl⟩
            rw [hVK] at hz h10 HX ⊢
            clear hVK
            have x1 := r3_set1 Z1.out (.int .i64 ((A : Int) + (K : Int)))
            obtain ⟨u1, hu1⟩ : ∃ v, w1.setCell ⟨w.heap.size, 1, none⟩ (.int .i64 ((A : Int) + (K : Int))) = v := ⟨_, rfl⟩
            rw [hu1] at x1
            obtain ⟨⟨e0, e1, e2⟩, _, _, _⟩ := r3_cells x1
            have B2 := hid (show Below w.heap.size w u1 by
             rw [← hu1]
             exact B1.out.setCell (Nat.le_refl _) _)
            have Y2 := hid (show u1.heap[w.heap.size + 1]? = some (.cells #[.string ⟨#[]⟩, .int .i64 0, .int .i64 0] 31 (0, 0)) by
             rw [← hu1]
             exact (Below.heap_setCell _ _ _ _ (by show w.heap.size + 1 ≠ w.heap.size; omega)).trans Y1.out)
            clear x1
            have y1 := r3_set0 Y2.out (.string S)
            obtain ⟨v1, hv1⟩ : ∃ v, u1.setCell ⟨w.heap.size + 1, 0, none⟩ (.string S) = v := ⟨_, rfl⟩
            rw [hv1] at y1
            obtain ⟨⟨p0, p1, p2⟩, q0, q1, q2⟩ := r3_cells Y2.out
            obtain ⟨⟨d0, d1, d2⟩, g0, g1, g2⟩ := r3_cells y1
            have y2 := r3_set1 y1 (.int .i64 ((A : Int) + (K : Int)))
            obtain ⟨v2, hv2⟩ : ∃ v, v1.setCell ⟨w.heap.size + 1, 1, none⟩ (.int .i64 ((A : Int) + (K : Int))) = v := ⟨_, rfl⟩
            rw [hv2] at y2
            obtain ⟨⟨d3, d4, d5⟩, g3, g4, g5⟩ := r3_cells y2
            have y3 := r3_set2 y2 (.int .i64 0)
            obtain ⟨v3, hv3⟩ : ∃ v, v2.setCell ⟨w.heap.size + 1, 2, none⟩ (.int .i64 0) = v := ⟨_, rfl⟩
            rw [hv3] at y3
            obtain ⟨⟨d6, d7, d8⟩, g6, g7, g8⟩ := r3_cells y3
            have BZ := hid (show Below w.heap.size w v3 by
             rw [← hv3, ← hv2, ← hv1]
             exact ((B2.out.setCell (p := ⟨w.heap.size + 1, 0, none⟩) (by show _ ≤ _ + _; omega) _).setCell (p := ⟨w.heap.size + 1, 1, none⟩) (by show _ ≤ _ + _; omega) _).setCell (p := ⟨w.heap.size + 1, 2, none⟩) (by show _ ≤ _ + _; omega) _)
            clear y1 y2 y3; go_wp2_with fail
            refine bodyPost_ret (v := .tuple #[.agg #[.string S, .int .i64 ((A : Int) + (K : Int)), .int .i64 0], .int .u64 (V : Nat)]) ?hres rfl ?_
            case hres => simp [results, Tryz.results77, go_sem, d6, d7, d8]
            exact ⟨by rw [HX.out.1, HX.out.2.1, HX.out.2.2]; rfl, BZ.out⟩
        · have HW := hid (why_form (l := l) (k := 10) (Or.inl (by omega)))
          go_wp2_with fail
          obtain ⟨w0, hw0⟩ : ∃ v, (w.alloc (.cells #[.string S, .int .i64 A, .int .i64 0] 31)).alloc (.cells #[.string ⟨#[]⟩, .int .i64 0, .int .i64 0] 31) = v := ⟨_, rfl⟩
          have Z0 := hid (show w0.heap[w.heap.size]? = some (.cells #[.string S, .int .i64 A, .int .i64 0] 31 (0, 0)) by
           rw [← hw0]
           have hx := ((Below.refl (w.heap.size + 1) (w.alloc (.cells #[.string S, .int .i64 A, .int .i64 0] 31))).alloc (by simp) (.cells #[.string ⟨#[]⟩, .int .i64 0, .int .i64 0] 31)).block w.heap.size (by omega)
           exact hx.trans (heap_alloc_new w _))
          have Y0 := hid (show w0.heap[w.heap.size + 1]? = some (.cells #[.string ⟨#[]⟩, .int .i64 0, .int .i64 0] 31 (0, 0)) by
           rw [← hw0]
           have hx := heap_alloc_new (w.alloc (.cells #[.string S, .int .i64 A, .int .i64 0] 31)) (.cells #[.string ⟨#[]⟩, .int .i64 0, .int .i64 0] 31)
           simpa using hx)
          have B0 := hid (show Below w.heap.size w w0 by rw [← hw0]; exact ((Below.refl _ _).alloc (Nat.le_refl _) _).alloc (by simp) _); rw [hw0]; clear hw0
          refine (NumRefTake.refTake_any R w0 (by show _ ≤ _; unfold maxLen; omega)).mono ?_
          rw [hr]; rintro e w1 ⟨rfl, hb1⟩; have B1 := hid (B0.out.trans (hb1.mono B0.out.size)); have Y1 := hid ((hb1.block (w.heap.size + 1) (lt_of_block Y0.out)).trans Y0.out); have Z1 := hid ((hb1.block w.heap.size (lt_of_block Z0.out)).trans Z0.out); clear hb1
          obtain ⟨⟨c0, c1, c2⟩, f0, f1, f2⟩ := r3_cells Z1.out
          by_cases hz : (takeV l).2 = 0
          · have HX := hid (big_form HW.out hz)
            rw [hz]; go_wp2_with fail
            refine (rfail_ref S A 0 3 w1).mono ?_
            rintro e w2 ⟨rfl, hb2⟩; have B2 := hid (B1.out.trans (hb2.mono B1.out.size)); have Y2 := hid ((hb2.block (w.heap.size + 1) (lt_of_block Y1.out)).trans Y1.out); have Z2 := hid ((hb2.block w.heap.size (lt_of_block Z1.out)).trans Z1.out); clear hb2; clear c0 c1 c2 f0 f1 f2
            have y1 := r3_set0 Y2.out (.string S)
            obtain ⟨v1, hv1⟩ : ∃ v, w2.setCell ⟨w.heap.size + 1, 0, none⟩ (.string S) = v := ⟨_, rfl⟩
            rw [hv1] at y1
            obtain ⟨⟨p0, p1, p2⟩, q0, q1, q2⟩ := r3_cells Y2.out
            obtain ⟨⟨d0, d1, d2⟩, g0, g1, g2⟩ := r3_cells y1
            have y2 := r3_set1 y1 (.int .i64 A)
            obtain ⟨v2, hv2⟩ : ∃ v, v1.setCell ⟨w.heap.size + 1, 1, none⟩ (.int .i64 A) = v := ⟨_, rfl⟩
            rw [hv2] at y2
            obtain ⟨⟨d3, d4, d5⟩, g3, g4, g5⟩ := r3_cells y2
            have y3 := r3_set2 y2 (.int .i64 (fst 0 3))
            obtain ⟨v3, hv3⟩ : ∃ v, v2.setCell ⟨w.heap.size + 1, 2, none⟩ (.int .i64 (fst 0 3)) = v := ⟨_, rfl⟩
            rw [hv3] at y3
            obtain ⟨⟨d6, d7, d8⟩, g6, g7, g8⟩ := r3_cells y3
            have BZ := hid (show Below w.heap.size w v3 by
             rw [← hv3, ← hv2, ← hv1]
             exact ((B2.out.setCell (p := ⟨w.heap.size + 1, 0, none⟩) (by show _ ≤ _ + _; omega) _).setCell (p := ⟨w.heap.size + 1, 1, none⟩) (by show _ ≤ _ + _; omega) _).setCell (p := ⟨w.heap.size + 1, 2, none⟩) (by show _ ≤ _ + _; omega) _)
            clear y1 y2 y3; go_wp2_with fail
            refine bodyPost_ret (v := .tuple #[.agg #[.string S, .int .i64 A, .int .i64 (fst 0 3)], .int .u64 0]) ?hres rfl ?_
            case hres => simp [results, Tryz.results77, go_sem, d6, d7, d8]
            exact ⟨by rw [HX.out.1, HX.out.2.1, HX.out.2.2]; rfl, BZ.out⟩
          · have HX := hid (big_good hz)
            have h10 := takeV_le l
            obtain ⟨⟨V, K⟩, hVK⟩ : ∃ t, takeV l = t := ⟨_, rfl⟩
            rw [hVK] at hz h10 HX ⊢
            clear hVK
            have x1 := r3_set1 Z1.out (.int .i64 ((A : Int) + (K : Int)))
            obtain ⟨u1, hu1⟩ : ∃ v, w1.setCell ⟨w.heap.size, 1, none⟩ (.int .i64 ((A : Int) + (K : Int))) = v := ⟨_, rfl⟩
            rw [hu1] at x1
            obtain ⟨⟨e0, e1, e2⟩, _, _, _⟩ := r3_cells x1
            have B2 := hid (show Below w.heap.size w u1 by
             rw [← hu1]
             exact B1.out.setCell (Nat.le_refl _) _)
            have Y2 := hid (show u1.heap[w.heap.size + 1]? = some (.cells #[.string ⟨#[]⟩, .int .i64 0, .int .i64 0] 31 (0, 0)) by
             rw [← hu1]
             exact (Below.heap_setCell _ _ _ _ (by show w.heap.size + 1 ≠ w.heap.size; omega)).trans Y1.out)
            clear x1
            have y1 := r3_set0 Y2.out (.string S)
            obtain ⟨v1, hv1⟩ : ∃ v, u1.setCell ⟨w.heap.size + 1, 0, none⟩ (.string S) = v := ⟨_, rfl⟩
            rw [hv1] at y1
            obtain ⟨⟨p0, p1, p2⟩, q0, q1, q2⟩ := r3_cells Y2.out
            obtain ⟨⟨d0, d1, d2⟩, g0, g1, g2⟩ := r3_cells y1
            have y2 := r3_set1 y1 (.int .i64 ((A : Int) + (K : Int)))
            obtain ⟨v2, hv2⟩ : ∃ v, v1.setCell ⟨w.heap.size + 1, 1, none⟩ (.int .i64 ((A : Int) + (K : Int))) = v := ⟨_, rfl⟩
            rw [hv2] at y2
            obtain ⟨⟨d3, d4, d5⟩, g3, g4, g5⟩ := r3_cells y2
            have y3 := r3_set2 y2 (.int .i64 0)
            obtain ⟨v3, hv3⟩ : ∃ v, v2.setCell ⟨w.heap.size + 1, 2, none⟩ (.int .i64 0) = v := ⟨_, rfl⟩
            rw [hv3] at y3
            obtain ⟨⟨d6, d7, d8⟩, g6, g7, g8⟩ := r3_cells y3
            have BZ := hid (show Below w.heap.size w v3 by
             rw [← hv3, ← hv2, ← hv1]
             exact ((B2.out.setCell (p := ⟨w.heap.size + 1, 0, none⟩) (by show _ ≤ _ + _; omega) _).setCell (p := ⟨w.heap.size + 1, 1, none⟩) (by show _ ≤ _ + _; omega) _).setCell (p := ⟨w.heap.size + 1, 2, none⟩) (by show _ ≤ _ + _; omega) _)
            clear y1 y2 y3; go_wp2_with fail
            refine bodyPost_ret (v := .tuple #[.agg #[.string S, .int .i64 ((A : Int) + (K : Int)), .int .i64 0], .int .u64 (V : Nat)]) ?hres rfl ?_
            case hres => simp [results, Tryz.results77, go_sem, d6, d7, d8]
            exact ⟨by rw [HX.out.1, HX.out.2.1, HX.out.2.2]; rfl, BZ.out⟩
    · cases b
      · by_cases h9 : R.size < 10
        · have HX := hid (big_short (l := l) (k := k) (by omega) (by omega) (by rw [← hr]; exact HB.out))
          go_wp2_with fail
          obtain ⟨w0, hw0⟩ : ∃ v, (w.alloc (.cells #[.string S, .int .i64 A, .int .i64 0] 31)).alloc (.cells #[.string ⟨#[]⟩, .int .i64 0, .int .i64 0] 31) = v := ⟨_, rfl⟩
          have Z0 := hid (show w0.heap[w.heap.size]? = some (.cells #[.string S, .int .i64 A, .int .i64 0] 31 (0, 0)) by
           rw [← hw0]
           have hx := ((Below.refl (w.heap.size + 1) (w.alloc (.cells #[.string S, .int .i64 A, .int .i64 0] 31))).alloc (by simp) (.cells #[.string ⟨#[]⟩, .int .i64 0, .int .i64 0] 31)).block w.heap.size (by omega)
           exact hx.trans (heap_alloc_new w _))
          have Y0 := hid (show w0.heap[w.heap.size + 1]? = some (.cells #[.string ⟨#[]⟩, .int .i64 0, .int .i64 0] 31 (0, 0)) by
           rw [← hw0]
           have hx := heap_alloc_new (w.alloc (.cells #[.string S, .int .i64 A, .int .i64 0] 31)) (.cells #[.string ⟨#[]⟩, .int .i64 0, .int .i64 0] 31)
           simpa using hx)
          have B0 := hid (show Below w.heap.size w w0 by rw [← hw0]; exact ((Below.refl _ _).alloc (Nat.le_refl _) _).alloc (by simp) _); rw [hw0]; clear hw0
          obtain ⟨⟨c0, c1, c2⟩, f0, f1, f2⟩ := r3_cells Z0.out
          go_wp2_with fail
          refine (rfail_ref S A 0 40 w0).mono ?_
          rintro e w1 ⟨rfl, hb1⟩; have B1 := hid (B0.out.trans (hb1.mono B0.out.size)); have Y1 := hid ((hb1.block (w.heap.size + 1) (lt_of_block Y0.out)).trans Y0.out); have Z1 := hid ((hb1.block w.heap.size (lt_of_block Z0.out)).trans Z0.out); clear hb1; clear c0 c1 c2 f0 f1 f2
          have y1 := r3_set0 Y1.out (.string S)
          obtain ⟨v1, hv1⟩ : ∃ v, w1.setCell ⟨w.heap.size + 1, 0, none⟩ (.string S) = v := ⟨_, rfl⟩
          rw [hv1] at y1
          obtain ⟨⟨p0, p1, p2⟩, q0, q1, q2⟩ := r3_cells Y1.out
          obtain ⟨⟨d0, d1, d2⟩, g0, g1, g2⟩ := r3_cells y1
          have y2 := r3_set1 y1 (.int .i64 A)
          obtain ⟨v2, hv2⟩ : ∃ v, v1.setCell ⟨w.heap.size + 1, 1, none⟩ (.int .i64 A) = v := ⟨_, rfl⟩
          rw [hv2] at y2
          obtain ⟨⟨d3, d4, d5⟩, g3, g4, g5⟩ := r3_cells y2
          have y3 := r3_set2 y2 (.int .i64 (fst 0 40))
          obtain ⟨v3, hv3⟩ : ∃ v, v2.setCell ⟨w.heap.size + 1, 2, none⟩ (.int .i64 (fst 0 40)) = v := ⟨_, rfl⟩
          rw [hv3] at y3
          obtain ⟨⟨d6, d7, d8⟩, g6, g7, g8⟩ := r3_cells y3
          have BZ := hid (show Below w.heap.size w v3 by
           rw [← hv3, ← hv2, ← hv1]
           exact ((B1.out.setCell (p := ⟨w.heap.size + 1, 0, none⟩) (by show _ ≤ _ + _; omega) _).setCell (p := ⟨w.heap.size + 1, 1, none⟩) (by show _ ≤ _ + _; omega) _).setCell (p := ⟨w.heap.size + 1, 2, none⟩) (by show _ ≤ _ + _; omega) _)
          clear y1 y2 y3; go_wp2_with fail
          refine bodyPost_ret (v := .tuple #[.agg #[.string S, .int .i64 A, .int .i64 (fst 0 40)], .int .u64 0]) ?hres rfl ?_
          case hres => simp [results, Tryz.results77, go_sem, d6, d7, d8]
          exact ⟨by rw [HX.out.1, HX.out.2.1, HX.out.2.2]; rfl, BZ.out⟩
        · have HW := hid (why_form (l := l) (k := k) (Or.inl (by omega)))
          go_wp2_with fail
          obtain ⟨w0, hw0⟩ : ∃ v, (w.alloc (.cells #[.string S, .int .i64 A, .int .i64 0] 31)).alloc (.cells #[.string ⟨#[]⟩, .int .i64 0, .int .i64 0] 31) = v := ⟨_, rfl⟩
          have Z0 := hid (show w0.heap[w.heap.size]? = some (.cells #[.string S, .int .i64 A, .int .i64 0] 31 (0, 0)) by
           rw [← hw0]
           have hx := ((Below.refl (w.heap.size + 1) (w.alloc (.cells #[.string S, .int .i64 A, .int .i64 0] 31))).alloc (by simp) (.cells #[.string ⟨#[]⟩, .int .i64 0, .int .i64 0] 31)).block w.heap.size (by omega)
           exact hx.trans (heap_alloc_new w _))
          have Y0 := hid (show w0.heap[w.heap.size + 1]? = some (.cells #[.string ⟨#[]⟩, .int .i64 0, .int .i64 0] 31 (0, 0)) by
           rw [← hw0]
           have hx := heap_alloc_new (w.alloc (.cells #[.string S, .int .i64 A, .int .i64 0] 31)) (.cells #[.string ⟨#[]⟩, .int .i64 0, .int .i64 0] 31)
           simpa using hx)
          have B0 := hid (show Below w.heap.size w w0 by rw [← hw0]; exact ((Below.refl _ _).alloc (Nat.le_refl _) _).alloc (by simp) _); rw [hw0]; clear hw0
          refine (NumRefTake.refTake_any R w0 (by show _ ≤ _; unfold maxLen; omega)).mono ?_
          rw [hr]; rintro e w1 ⟨rfl, hb1⟩; have B1 := hid (B0.out.trans (hb1.mono B0.out.size)); have Y1 := hid ((hb1.block (w.heap.size + 1) (lt_of_block Y0.out)).trans Y0.out); have Z1 := hid ((hb1.block w.heap.size (lt_of_block Z0.out)).trans Z0.out); clear hb1
          obtain ⟨⟨c0, c1, c2⟩, f0, f1, f2⟩ := r3_cells Z1.out
          by_cases hz : (takeV l).2 = 0
          · have HX := hid (big_form HW.out hz)
            rw [hz]; go_wp2_with fail
            refine (rfail_ref S A 0 3 w1).mono ?_
            rintro e w2 ⟨rfl, hb2⟩; have B2 := hid (B1.out.trans (hb2.mono B1.out.size)); have Y2 := hid ((hb2.block (w.heap.size + 1) (lt_of_block Y1.out)).trans Y1.out); have Z2 := hid ((hb2.block w.heap.size (lt_of_block Z1.out)).trans Z1.out); clear hb2; clear c0 c1 c2 f0 f1 f2
            have y1 := r3_set0 Y2.out (.string S)
            obtain ⟨v1, hv1⟩ : ∃ v, w2.setCell ⟨w.heap.size + 1, 0, none⟩ (.string S) = v := ⟨_, rfl⟩
            rw [hv1] at y1
            obtain ⟨⟨p0, p1, p2⟩, q0, q1, q2⟩ := r3_cells Y2.out
            obtain ⟨⟨d0, d1, d2⟩, g0, g1, g2⟩ := r3_cells y1
            have y2 := r3_set1 y1 (.int .i64 A)
            obtain ⟨v2, hv2⟩ : ∃ v, v1.setCell ⟨w.heap.size + 1, 1, none⟩ (.int .i64 A) = v := ⟨_, rfl⟩
            rw [hv2] at y2
            obtain ⟨⟨d3, d4, d5⟩, g3, g4, g5⟩ := r3_cells y2
            have y3 := r3_set2 y2 (.int .i64 (fst 0 3))
            obtain ⟨v3, hv3⟩ : ∃ v, v2.setCell ⟨w.heap.size + 1, 2, none⟩ (.int .i64 (fst 0 3)) = v := ⟨_, rfl⟩
            rw [hv3] at y3
            obtain ⟨⟨d6, d7, d8⟩, g6, g7, g8⟩ := r3_cells y3
            have BZ := hid (show Below w.heap.size w v3 by
             rw [← hv3, ← hv2, ← hv1]
             exact ((B2.out.setCell (p := ⟨w.heap.size + 1, 0, none⟩) (by show _ ≤ _ + _; omega) _).setCell (p := ⟨w.heap.size + 1, 1, none⟩) (by show _ ≤ _ + _; omega) _).setCell (p := ⟨w.heap.size + 1, 2, none⟩) (by show _ ≤ _ + _; omega) _)
            clear y1 y2 y3; go_wp2_with fail
            refine bodyPost_ret (v := .tuple #[.agg #[.string S, .int .i64 A, .int .i64 (fst 0 3)], .int .u64 0]) ?hres rfl ?_
            case hres => simp [results, Tryz.results77, go_sem, d6, d7, d8]
            exact ⟨by rw [HX.out.1, HX.out.2.1, HX.out.2.2]; rfl, BZ.out⟩
          · have HX := hid (big_good hz)
            have h10 := takeV_le l
            obtain ⟨⟨V, K⟩, hVK⟩ : ∃ t, takeV l = t := ⟨_, rfl⟩
            rw [hVK] at hz h10 HX ⊢
            clear hVK
            have x1 := r3_set1 Z1.out (.int .i64 ((A : Int) + (K : Int)))
            obtain ⟨u1, hu1⟩ : ∃ v, w1.setCell ⟨w.heap.size, 1, none⟩ (.int .i64 ((A : Int) + (K : Int))) = v := ⟨_, rfl⟩
            rw [hu1] at x1
            obtain ⟨⟨e0, e1, e2⟩, _, _, _⟩ := r3_cells x1
            have B2 := hid (show Below w.heap.size w u1 by
             rw [← hu1]
             exact B1.out.setCell (Nat.le_refl _) _)
            have Y2 := hid (show u1.heap[w.heap.size + 1]? = some (.cells #[.string ⟨#[]⟩, .int .i64 0, .int .i64 0] 31 (0, 0)) by
             rw [← hu1]
             exact (Below.heap_setCell _ _ _ _ (by show w.heap.size + 1 ≠ w.heap.size; omega)).trans Y1.out)
            clear x1
            have y1 := r3_set0 Y2.out (.string S)
            obtain ⟨v1, hv1⟩ : ∃ v, u1.setCell ⟨w.heap.size + 1, 0, none⟩ (.string S) = v := ⟨_, rfl⟩
            rw [hv1] at y1
            obtain ⟨⟨p0, p1, p2⟩, q0, q1, q2⟩ := r3_cells Y2.out
            obtain ⟨⟨d0, d1, d2⟩, g0, g1, g2⟩ := r3_cells y1
            have y2 := r3_set1 y1 (.int .i64 ((A : Int) + (K : Int)))
            obtain ⟨v2, hv2⟩ : ∃ v, v1.setCell ⟨w.heap.size + 1, 1, none⟩ (.int .i64 ((A : Int) + (K : Int))) = v := ⟨_, rfl⟩
            rw [hv2] at y2
            obtain ⟨⟨d3, d4, d5⟩, g3, g4, g5⟩ := r3_cells y2
            have y3 := r3_set2 y2 (.int .i64 0)
            obtain ⟨v3, hv3⟩ : ∃ v, v2.setCell ⟨w.heap.size + 1, 2, none⟩ (.int .i64 0) = v := ⟨_, rfl⟩
            rw [hv3] at y3
            obtain ⟨⟨d6, d7, d8⟩, g6, g7, g8⟩ := r3_cells y3
            have BZ := hid (show Below w.heap.size w v3 by
             rw [← hv3, ← hv2, ← hv1]
             exact ((B2.out.setCell (p := ⟨w.heap.size + 1, 0, none⟩) (by show _ ≤ _ + _; omega) _).setCell (p := ⟨w.heap.size + 1, 1, none⟩) (by show _ ≤ _ + _; omega) _).setCell (p := ⟨w.heap.size + 1, 2, none⟩) (by show _ ≤ _ + _; omega) _)
            clear y1 y2 y3; go_wp2_with fail
            refine bodyPost_ret (v := .tuple #[.agg #[.string S, .int .i64 ((A : Int) + (K : Int)), .int .i64 0], .int .u64 (V : Nat)]) ?hres rfl ?_
            case hres => simp [results, Tryz.results77, go_sem, d6, d7, d8]
            exact ⟨by rw [HX.out.1, HX.out.2.1, HX.out.2.2]; rfl, BZ.out⟩
      · have HW := hid (why_form (l := l) (k := k) (Or.inr (by rw [← hr]; exact HB.out)))
        go_wp2_with fail
        obtain ⟨w0, hw0⟩ : ∃ v, (w.alloc (.cells #[.string S, .int .i64 A, .int .i64 0] 31)).alloc (.cells #[.string ⟨#[]⟩, .int .i64 0, .int .i64 0] 31) = v := ⟨_, rfl⟩
        have Z0 := hid (show w0.heap[w.heap.size]? = some (.cells #[.string S, .int .i64 A, .int .i64 0] 31 (0, 0)) by
         rw [← hw0]
         have hx := ((Below.refl (w.heap.size + 1) (w.alloc (.cells #[.string S, .int .i64 A, .int .i64 0] 31))).alloc (by simp) (.cells #[.string ⟨#[]⟩, .int .i64 0, .int .i64 0] 31)).block w.heap.size (by omega)
         exact hx.trans (heap_alloc_new w _))
        have Y0 := hid (show w0.heap[w.heap.size + 1]? = some (.cells #[.string ⟨#[]⟩, .int .i64 0, .int .i64 0] 31 (0, 0)) by
         rw [← hw0]
         have hx := heap_alloc_new (w.alloc (.cells #[.string S, .int .i64 A, .int .i64 0] 31)) (.cells #[.string ⟨#[]⟩, .int .i64 0, .int .i64 0] 31)
         simpa using hx)
        have B0 := hid (show Below w.heap.size w w0 by rw [← hw0]; exact ((Below.refl _ _).alloc (Nat.le_refl _) _).alloc (by simp) _); rw [hw0]; clear hw0
        refine (NumRefTake.refTake_any R w0 (by show _ ≤ _; unfold maxLen; omega)).mono ?_
        rw [hr]; rintro e w1 ⟨rfl, hb1⟩; have B1 := hid (B0.out.trans (hb1.mono B0.out.size)); have Y1 := hid ((hb1.block (w.heap.size + 1) (lt_of_block Y0.out)).trans Y0.out); have Z1 := hid ((hb1.block w.heap.size (lt_of_block Z0.out)).trans Z0.out); clear hb1
        obtain ⟨⟨c0, c1, c2⟩, f0, f1, f2⟩ := r3_cells Z1.out
        by_cases hz : (takeV l).2 = 0
        · have HX := hid (big_form HW.out hz)
          rw [hz]; go_wp2_with fail
          refine (rfail_ref S A 0 3 w1).mono ?_
          rintro e w2 ⟨rfl, hb2⟩; have B2 := hid (B1.out.trans (hb2.mono B1.out.size)); have Y2 := hid ((hb2.block (w.heap.size + 1) (lt_of_block Y1.out)).trans Y1.out); have Z2 := hid ((hb2.block w.heap.size (lt_of_block Z1.out)).trans Z1.out); clear hb2; clear c0 c1 c2 f0 f1 f2
          have y1 := r3_set0 Y2.out (.string S)
          obtain ⟨v1, hv1⟩ : ∃ v, w2.setCell ⟨w.heap.size + 1, 0, none⟩ (.string S) = v := ⟨_, rfl⟩
          rw [hv1] at y1
          obtain ⟨⟨p0, p1, p2⟩, q0, q1, q2⟩ := r3_cells Y2.out
          obtain ⟨⟨d0, d1, d2⟩, g0, g1, g2⟩ := r3_cells y1
          have y2 := r3_set1 y1 (.int .i64 A)
          obtain ⟨v2, hv2⟩ : ∃ v, v1.setCell ⟨w.heap.size + 1, 1, none⟩ (.int .i64 A) = v := ⟨_, rfl⟩
          rw [hv2] at y2
          obtain ⟨⟨d3, d4, d5⟩, g3, g4, g5⟩ := r3_cells y2
          have y3 := r3_set2 y2 (.int .i64 (fst 0 3))
          obtain ⟨v3, hv3⟩ : ∃ v, v2.setCell ⟨w.heap.size + 1, 2, none⟩ (.int .i64 (fst 0 3)) = v := ⟨_, rfl⟩
          rw [hv3] at y3
          obtain ⟨⟨d6, d7, d8⟩, g6, g7, g8⟩ := r3_cells y3
          have BZ := hid (show Below w.heap.size w v3 by
           rw [← hv3, ← hv2, ← hv1]
           exact ((B2.out.setCell (p := ⟨w.heap.size + 1, 0, none⟩) (by show _ ≤ _ + _; omega) _).setCell (p := ⟨w.heap.size + 1, 1, none⟩) (by show _ ≤ _ + _; omega) _).setCell (p := ⟨w.heap.size + 1, 2, none⟩) (by show _ ≤ _ + _; omega) _)
          clear y1 y2 y3; go_wp2_with fail
          refine bodyPost_ret (v := .tuple #[.agg #[.string S, .int .i64 A, .int .i64 (fst 0 3)], .int .u64 0]) ?hres rfl ?_
          case hres => simp [results, Tryz.results77, go_sem, d6, d7, d8]
          exact ⟨by rw [HX.out.1, HX.out.2.1, HX.out.2.2]; rfl, BZ.out⟩
        · have HX := hid (big_good hz)
          have h10 := takeV_le l
          obtain ⟨⟨V, K⟩, hVK⟩ : ∃ t, takeV l = t := ⟨_, rfl⟩
          rw [hVK] at hz h10 HX ⊢
          clear hVK
          have x1 := r3_set1 Z1.out (.int .i64 ((A : Int) + (K : Int)))
          obtain ⟨u1, hu1⟩ : ∃ v, w1.setCell ⟨w.heap.size, 1, none⟩ (.int .i64 ((A : Int) + (K : Int))) = v := ⟨_, rfl⟩
          rw [hu1] at x1
          obtain ⟨⟨e0, e1, e2⟩, _, _, _⟩ := r3_cells x1
          have B2 := hid (show Below w.heap.size w u1 by
           rw [← hu1]
           exact B1.out.setCell (Nat.le_refl _) _)
          have Y2 := hid (show u1.heap[w.heap.size + 1]? = some (.cells #[.string ⟨#[]⟩, .int .i64 0, .int .i64 0] 31 (0, 0)) by
           rw [← hu1]
           exact (Below.heap_setCell _ _ _ _ (by show w.heap.size + 1 ≠ w.heap.size; omega)).trans Y1.out)
          clear x1
          have y1 := r3_set0 Y2.out (.string S)
          obtain ⟨v1, hv1⟩ : ∃ v, u1.setCell ⟨w.heap.size + 1, 0, none⟩ (.string S) = v := ⟨_, rfl⟩
          rw [hv1] at y1
          obtain ⟨⟨p0, p1, p2⟩, q0, q1, q2⟩ := r3_cells Y2.out
          obtain ⟨⟨d0, d1, d2⟩, g0, g1, g2⟩ := r3_cells y1
          have y2 := r3_set1 y1 (.int .i64 ((A : Int) + (K : Int)))
          obtain ⟨v2, hv2⟩ : ∃ v, v1.setCell ⟨w.heap.size + 1, 1, none⟩ (.int .i64 ((A : Int) + (K : Int))) = v := ⟨_, rfl⟩
          rw [hv2] at y2
          obtain ⟨⟨d3, d4, d5⟩, g3, g4, g5⟩ := r3_cells y2
          have y3 := r3_set2 y2 (.int .i64 0)
          obtain ⟨v3, hv3⟩ : ∃ v, v2.setCell ⟨w.heap.size + 1, 2, none⟩ (.int .i64 0) = v := ⟨_, rfl⟩
          rw [hv3] at y3
          obtain ⟨⟨d6, d7, d8⟩, g6, g7, g8⟩ := r3_cells y3
          have BZ := hid (show Below w.heap.size w v3 by
           rw [← hv3, ← hv2, ← hv1]
           exact ((B2.out.setCell (p := ⟨w.heap.size + 1, 0, none⟩) (by show _ ≤ _ + _; omega) _).setCell (p := ⟨w.heap.size + 1, 1, none⟩) (by show _ ≤ _ + _; omega) _).setCell (p := ⟨w.heap.size + 1, 2, none⟩) (by show _ ≤ _ + _; omega) _)
          clear y1 y2 y3; go_wp2_with fail
          refine bodyPost_ret (v := .tuple #[.agg #[.string S, .int .i64 ((A : Int) + (K : Int)), .int .i64 0], .int .u64 (V : Nat)]) ?hres rfl ?_
          case hres => simp [results, Tryz.results77, go_sem, d6, d7, d8]
          exact ⟨by rw [HX.out.1, HX.out.2.1, HX.out.2.2]; rfl, BZ.out⟩
 · rw [bigE_err hc, bigV_err hc, bigK_err hc]
   go_enter Tryz.func77, Tryz.ntmps77
   go_wp2_with fail
   refine bodyPost_ret (v := .tuple #[.agg #[.string S, .int .i64 A, .int .i64 c], .int .u64 0]) ?hres rfl ?_
   case hres => simp [results, Tryz.results77, go_sem]
   exact ⟨rfl, ((Below.refl _ _).alloc (Nat.le_refl _) _).alloc (by simp) _⟩
def numK (m : Nat) (c : Int) (l : List UInt8) : Nat := if numE m c l = 0 then (takeV l).2 else 0
theorem num_far (m : Nat) (c : Int) (l : List UInt8) (h : bigE c l ≠ 0) : numE m c l = bigE c l ∧ numV m c l = 0 ∧ numK m c l = 0 ∧ bigK c l = 0 := by
 have e : numE m c l = bigE c l := by
  by_cases hc : c = 0
  · subst hc
    unfold bigE at h ⊢
    unfold numE
    by_cases hz : (takeV l).2 = 0
    · rw [if_pos hz, if_pos hz]
    · rw [if_neg hz] at h; exact absurd rfl h
  · rw [numE_err hc, bigE_err hc]
 refine ⟨e, ?_, ?_, ?_⟩
 · unfold WirePure.numV; rw [e, if_neg h]
 · unfold numK; rw [e, if_neg h]
 · unfold bigK; rw [if_neg h]
theorem num_none (c : Int) (l : List UInt8) (h : bigE c l = 0) : c = 0 ∧ (takeV l).2 ≠ 0 ∧ bigV c l = (takeV l).1 ∧ bigK c l = (takeV l).2 := by
 have hc : c = 0 := by
  by_cases hc : c = 0
  · exact hc
  · rw [bigE_err hc] at h; exact absurd h hc
 subst hc
 refine ⟨rfl, ?_, ?_, ?_⟩
 · intro hz
   unfold bigE at h
   rw [if_pos hz, fst_no] at h
   exact why_ne l h
 · unfold bigV; rw [if_pos h]
 · unfold bigK; rw [if_pos h]
theorem num_big (m : Nat) (l : List UInt8) (h : (takeV l).2 ≠ 0) (hm : m < (takeV l).1) : numE m 0 l = 2 ∧ numV m 0 l = 0 ∧ numK m 0 l = 0 := by
 have e : numE m 0 l = 2 := by unfold numE; rw [if_neg h, if_pos hm, fst_no]
 exact ⟨e, by unfold WirePure.numV; rw [e]; rfl, by unfold numK; rw [e]; rfl⟩
theorem num_fits (m : Nat) (l : List UInt8) (h : (takeV l).2 ≠ 0) (hm : ¬ m < (takeV l).1) : numE m 0 l = 0 ∧ numV m 0 l = (takeV l).1 ∧ numK m 0 l = (takeV l).2 := by
 have e : numE m 0 l = 0 := by unfold numE; rw [if_neg h, if_neg hm]
 exact ⟨e, by unfold WirePure.numV; rw [e]; rfl, by unfold numK; rw [e]; rfl⟩
set_option maxRecDepth 20000 in
theorem rnum_ref (S : ByteArray) (A : Nat) (c : Int) (hS : S.size ≤ 70368744177664) (hA : A ≤ S.size) (l : List UInt8) (hl : S.data.toList.drop A = l) (m : Nat) (hm : m ≤ 9223372036854775807) (w : World) :
 Calls Tryz.prog 45 #[.agg #[.string S, .int .i64 A, .int .i64 c], .int .i64 m] w fun e w' => e = .returned (.tuple #[.agg #[.string S, .int .i64 (A + numK m c l : Nat), .int .i64 (numE m c l)], .int .i64 (WirePure.numV m c l : Nat)]) ∧ Below w.heap.size w w' := by
 have HBIG := fun wx => rbig_ref S A c hS hA l hl wx
 have HBIG := hid HBIG
 have h10 := takeV_le l
 by_cases hy : bigE c l = 0
 · obtain ⟨rfl, h1, h2, h3⟩ := num_none c l hy
   rw [hy, h2, h3] at HBIG
   clear h2 h3 hy
   have hlt := takeV_lt l
   by_cases hV : m < (takeV l).1
   · have HX := hid (num_big m l h1 hV)
     obtain ⟨⟨V, K⟩, hVK⟩ : ∃ t, takeV l = t := ⟨_, rfl⟩
     rw [hVK] at HBIG h10 hV hlt
     clear hVK h1 hl
     go_enter Tryz.func45, Tryz.ntmps45
     go_wp2_with fail
     obtain ⟨w0, hw0⟩ : ∃ v, (w.alloc (.cells #[.string S, .int .i64 A, .int .i64 0] 31)).alloc (.cells #[.string ⟨#[]⟩, .int .i64 0, .int .i64 0] 31) = v := ⟨_, rfl⟩
     have Z0 := hid (show w0.heap[w.heap.size]? = some (.cells #[.string S, .int .i64 A, .int .i64 0] 31 (0, 0)) by
      rw [← hw0]
      have hx := ((Below.refl (w.heap.size + 1) (w.alloc (.cells #[.string S, .int .i64 A, .int .i64 0] 31))).alloc (by simp) (.cells #[.string ⟨#[]⟩, .int .i64 0, .int .i64 0] 31)).block w.heap.size (by omega)
      exact hx.trans (heap_alloc_new w _))
     have Y0 := hid (show w0.heap[w.heap.size + 1]? = some (.cells #[.string ⟨#[]⟩, .int .i64 0, .int .i64 0] 31 (0, 0)) by
      rw [← hw0]
      have hx := heap_alloc_new (w.alloc (.cells #[.string S, .int .i64 A, .int .i64 0] 31)) (.cells #[.string ⟨#[]⟩, .int .i64 0, .int .i64 0] 31)
      simpa using hx)
     have B0 := hid (show Below w.heap.size w w0 by rw [← hw0]; exact ((Below.refl _ _).alloc (Nat.le_refl _) _).alloc (by simp) _); rw [hw0]; clear hw0
     refine (HBIG.out w0).mono ?_
     rintro e w1 ⟨rfl, hb1⟩; have B1 := hid (B0.out.trans (hb1.mono B0.out.size)); have Y1 := hid ((hb1.block (w.heap.size + 1) (lt_of_block Y0.out)).trans Y0.out); have Z1 := hid ((hb1.block w.heap.size (lt_of_block Z0.out)).trans Z0.out); clear hb1
     have FZ := fun o => r3_cells (w := w1.alloc o) (((Below.refl w1.heap.size w1).alloc (Nat.le_refl _) o).block w.heap.size (lt_of_block Z1.out) |>.trans Z1.out)
     have c0 := fun o => (FZ o).1.1
     have c1 := fun o => (FZ o).1.2.1
     have c2 := fun o => (FZ o).1.2.2
     have f0 := fun o => (FZ o).2.1
     have f1 := fun o => (FZ o).2.2.1
     have f2 := fun o => (FZ o).2.2.2
     clear FZ; go_wp2_with fail
     refine (rfail_ref S A 0 2 _).mono ?_
     rintro e w2 ⟨rfl, hb2⟩; have BQ := hid (show Below w.heap.size w (w1.alloc (.cells #[.string S, .int .i64 ((A : Int) + (K : Int)), .int .i64 0] 31)) from B1.out.alloc B1.out.size _); have YQ := hid (((Below.refl w1.heap.size w1).alloc (Nat.le_refl _) (.cells #[.string S, .int .i64 ((A : Int) + (K : Int)), .int .i64 0] 31)).block (w.heap.size + 1) (lt_of_block Y1.out) |>.trans Y1.out); have B2 := hid (BQ.out.trans (hb2.mono BQ.out.size)); have Y2 := hid ((hb2.block (w.heap.size + 1) (lt_of_block YQ.out)).trans YQ.out); clear hb2 c0 c1 c2 f0 f1 f2
     have y1 := r3_set0 Y2.out (.string S)
     obtain ⟨v1, hv1⟩ : ∃ v, w2.setCell ⟨w.heap.size + 1, 0, none⟩ (.string S) = v := ⟨_, rfl⟩
     rw [hv1] at y1
     obtain ⟨⟨p0, p1, p2⟩, q0, q1, q2⟩ := r3_cells Y2.out
     obtain ⟨⟨d0, d1, d2⟩, g0, g1, g2⟩ := r3_cells y1
     have y2 := r3_set1 y1 (.int .i64 A)
     obtain ⟨v2, hv2⟩ : ∃ v, v1.setCell ⟨w.heap.size + 1, 1, none⟩ (.int .i64 A) = v := ⟨_, rfl⟩
     rw [hv2] at y2
     obtain ⟨⟨d3, d4, d5⟩, g3, g4, g5⟩ := r3_cells y2
     have y3 := r3_set2 y2 (.int .i64 (fst 0 2))
     obtain ⟨v3, hv3⟩ : ∃ v, v2.setCell ⟨w.heap.size + 1, 2, none⟩ (.int .i64 (fst 0 2)) = v := ⟨_, rfl⟩
     rw [hv3] at y3
     obtain ⟨⟨d6, d7, d8⟩, g6, g7, g8⟩ := r3_cells y3
     have BZ := hid (show Below w.heap.size w v3 by
      rw [← hv3, ← hv2, ← hv1]
      exact ((B2.out.setCell (p := ⟨w.heap.size + 1, 0, none⟩) (by show _ ≤ _ + _; omega) _).setCell (p := ⟨w.heap.size + 1, 1, none⟩) (by show _ ≤ _ + _; omega) _).setCell (p := ⟨w.heap.size + 1, 2, none⟩) (by show _ ≤ _ + _; omega) _)
     clear y1 y2 y3; go_wp2_with fail
     refine bodyPost_ret (v := .tuple #[.agg #[.string S, .int .i64 A, .int .i64 (fst 0 2)], .int .i64 0]) ?hres rfl ?_
     case hres => simp [results, Tryz.results45, go_sem, d6, d7, d8]
     exact ⟨by rw [HX.out.1, HX.out.2.1, HX.out.2.2]; rfl, BZ.out⟩
   · have HX := hid (num_fits m l h1 hV)
     obtain ⟨⟨V, K⟩, hVK⟩ : ∃ t, takeV l = t := ⟨_, rfl⟩
     rw [hVK] at HBIG h10 hV hlt HX
     clear hVK h1 hl
     have hwr : IntKind.i64.wrap (V : Int) = V := IntWalk.i64_in _ (by omega)
     go_enter Tryz.func45, Tryz.ntmps45
     go_wp2_with fail
     obtain ⟨w0, hw0⟩ : ∃ v, (w.alloc (.cells #[.string S, .int .i64 A, .int .i64 0] 31)).alloc (.cells #[.string ⟨#[]⟩, .int .i64 0, .int .i64 0] 31) = v := ⟨_, rfl⟩
     have Z0 := hid (show w0.heap[w.heap.size]? = some (.cells #[.string S, .int .i64 A, .int .i64 0] 31 (0, 0)) by
      rw [← hw0]
      have hx := ((Below.refl (w.heap.size + 1) (w.alloc (.cells #[.string S, .int .i64 A, .int .i64 0] 31))).alloc (by simp) (.cells #[.string ⟨#[]⟩, .int .i64 0, .int .i64 0] 31)).block w.heap.size (by omega)
      exact hx.trans (heap_alloc_new w _))
     have Y0 := hid (show w0.heap[w.heap.size + 1]? = some (.cells #[.string ⟨#[]⟩, .int .i64 0, .int .i64 0] 31 (0, 0)) by
      rw [← hw0]
      have hx := heap_alloc_new (w.alloc (.cells #[.string S, .int .i64 A, .int .i64 0] 31)) (.cells #[.string ⟨#[]⟩, .int .i64 0, .int .i64 0] 31)
      simpa using hx)
     have B0 := hid (show Below w.heap.size w w0 by rw [← hw0]; exact ((Below.refl _ _).alloc (Nat.le_refl _) _).alloc (by simp) _); rw [hw0]; clear hw0
     refine (HBIG.out w0).mono ?_
     rintro e w1 ⟨rfl, hb1⟩; have B1 := hid (B0.out.trans (hb1.mono B0.out.size)); have Y1 := hid ((hb1.block (w.heap.size + 1) (lt_of_block Y0.out)).trans Y0.out); have Z1 := hid ((hb1.block w.heap.size (lt_of_block Z0.out)).trans Z0.out); clear hb1
     have FZ := fun o => r3_cells (w := w1.alloc o) (((Below.refl w1.heap.size w1).alloc (Nat.le_refl _) o).block w.heap.size (lt_of_block Z1.out) |>.trans Z1.out)
     have c0 := fun o => (FZ o).1.1
     have c1 := fun o => (FZ o).1.2.1
     have c2 := fun o => (FZ o).1.2.2
     have f0 := fun o => (FZ o).2.1
     have f1 := fun o => (FZ o).2.2.1
     have f2 := fun o => (FZ o).2.2.2
     clear FZ; have BQ := hid (show Below w.heap.size w (w1.alloc (.cells #[.string S, .int .i64 ((A : Int) + (K : Int)), .int .i64 0] 31)) from B1.out.alloc B1.out.size _); have YQ := hid (((Below.refl w1.heap.size w1).alloc (Nat.le_refl _) (.cells #[.string S, .int .i64 ((A : Int) + (K : Int)), .int .i64 0] 31)).block (w.heap.size + 1) (lt_of_block Y1.out) |>.trans Y1.out)
     have y1 := r3_set0 YQ.out (.string S)
     obtain ⟨v1, hv1⟩ : ∃ v, (w1.alloc (.cells #[.string S, .int .i64 ((A : Int) + (K : Int)), .int .i64 0] 31)).setCell ⟨w.heap.size + 1, 0, none⟩ (.string S) = v := ⟨_, rfl⟩
     rw [hv1] at y1
     obtain ⟨⟨p0, p1, p2⟩, q0, q1, q2⟩ := r3_cells YQ.out
     obtain ⟨⟨d0, d1, d2⟩, g0, g1, g2⟩ := r3_cells y1
     have y2 := r3_set1 y1 (.int .i64 ((A : Int) + (K : Int)))
     obtain ⟨v2, hv2⟩ : ∃ v, v1.setCell ⟨w.heap.size + 1, 1, none⟩ (.int .i64 ((A : Int) + (K : Int))) = v := ⟨_, rfl⟩
     rw [hv2] at y2
     obtain ⟨⟨d3, d4, d5⟩, g3, g4, g5⟩ := r3_cells y2
     have y3 := r3_set2 y2 (.int .i64 0)
     obtain ⟨v3, hv3⟩ : ∃ v, v2.setCell ⟨w.heap.size + 1, 2, none⟩ (.int .i64 0) = v := ⟨_, rfl⟩
     rw [hv3] at y3
     obtain ⟨⟨d6, d7, d8⟩, g6, g7, g8⟩ := r3_cells y3
     have BZ := hid (show Below w.heap.size w v3 by
      rw [← hv3, ← hv2, ← hv1]
      exact ((BQ.out.setCell (p := ⟨w.heap.size + 1, 0, none⟩) (by show _ ≤ _ + _; omega) _).setCell (p := ⟨w.heap.size + 1, 1, none⟩) (by show _ ≤ _ + _; omega) _).setCell (p := ⟨w.heap.size + 1, 2, none⟩) (by show _ ≤ _ + _; omega) _)
     clear y1 y2 y3; go_wp2_with fail
     refine bodyPost_ret (v := .tuple #[.agg #[.string S, .int .i64 ((A : Int) + (K : Int)), .int .i64 0], .int .i64 V]) ?hres rfl ?_
     case hres => simp [results, Tryz.results45, go_sem, d6, d7, d8]
     exact ⟨by rw [HX.out.1, HX.out.2.1, HX.out.2.2], BZ.out⟩
 · obtain ⟨h1, h2, h3, h4⟩ := num_far m c l hy
   obtain ⟨y, hY⟩ : ∃ y, bigE c l = y := ⟨_, rfl⟩
   have hv : bigV c l = 0 := by unfold bigV; rw [if_neg hy]
   rw [h1, h2, h3, hY]
   rw [h4, hY, hv] at HBIG
   rw [hY] at hy
   clear h1 h2 h3 h4 hY hv
   go_enter Tryz.func45, Tryz.ntmps45
   go_wp2_with fail
   obtain ⟨w0, hw0⟩ : ∃ v, (w.alloc (.cells #[.string S, .int .i64 A, .int .i64 c] 31)).alloc (.cells #[.string ⟨#[]⟩, .int .i64 0, .int .i64 0] 31) = v := ⟨_, rfl⟩
   have Z0 := hid (show w0.heap[w.heap.size]? = some (.cells #[.string S, .int .i64 A, .int .i64 c] 31 (0, 0)) by
    rw [← hw0]
    have hx := ((Below.refl (w.heap.size + 1) (w.alloc (.cells #[.string S, .int .i64 A, .int .i64 c] 31))).alloc (by simp) (.cells #[.string ⟨#[]⟩, .int .i64 0, .int .i64 0] 31)).block w.heap.size (by omega)
    exact hx.trans (heap_alloc_new w _))
   have Y0 := hid (show w0.heap[w.heap.size + 1]? = some (.cells #[.string ⟨#[]⟩, .int .i64 0, .int .i64 0] 31 (0, 0)) by
    rw [← hw0]
    have hx := heap_alloc_new (w.alloc (.cells #[.string S, .int .i64 A, .int .i64 c] 31)) (.cells #[.string ⟨#[]⟩, .int .i64 0, .int .i64 0] 31)
    simpa using hx)
   have B0 := hid (show Below w.heap.size w w0 by rw [← hw0]; exact ((Below.refl _ _).alloc (Nat.le_refl _) _).alloc (by simp) _); rw [hw0]; clear hw0
   refine (HBIG.out w0).mono ?_
   rintro e w1 ⟨rfl, hb1⟩; have B1 := hid (B0.out.trans (hb1.mono B0.out.size)); have Y1 := hid ((hb1.block (w.heap.size + 1) (lt_of_block Y0.out)).trans Y0.out); have Z1 := hid ((hb1.block w.heap.size (lt_of_block Z0.out)).trans Z0.out); clear hb1
   have FZ := fun o => r3_cells (w := w1.alloc o) (((Below.refl w1.heap.size w1).alloc (Nat.le_refl _) o).block w.heap.size (lt_of_block Z1.out) |>.trans Z1.out)
   have c0 := fun o => (FZ o).1.1
   have c1 := fun o => (FZ o).1.2.1
   have c2 := fun o => (FZ o).1.2.2
   have f0 := fun o => (FZ o).2.1
   have f1 := fun o => (FZ o).2.2.1
   have f2 := fun o => (FZ o).2.2.2
   clear FZ; have BQ := hid (show Below w.heap.size w (w1.alloc (.cells #[.string S, .int .i64 A, .int .i64 y] 31)) from B1.out.alloc B1.out.size _); have YQ := hid (((Below.refl w1.heap.size w1).alloc (Nat.le_refl _) (.cells #[.string S, .int .i64 A, .int .i64 y] 31)).block (w.heap.size + 1) (lt_of_block Y1.out) |>.trans Y1.out)
   have y1 := r3_set0 YQ.out (.string S)
   obtain ⟨v1, hv1⟩ : ∃ v, (w1.alloc (.cells #[.string S, .int .i64 A, .int .i64 y] 31)).setCell ⟨w.heap.size + 1, 0, none⟩ (.string S) = v := ⟨_, rfl⟩
   rw [hv1] at y1
   obtain ⟨⟨p0, p1, p2⟩, q0, q1, q2⟩ := r3_cells YQ.out
   obtain ⟨⟨d0, d1, d2⟩, g0, g1, g2⟩ := r3_cells y1
   have y2 := r3_set1 y1 (.int .i64 A)
   obtain ⟨v2, hv2⟩ : ∃ v, v1.setCell ⟨w.heap.size + 1, 1, none⟩ (.int .i64 A) = v := ⟨_, rfl⟩
   rw [hv2] at y2
   obtain ⟨⟨d3, d4, d5⟩, g3, g4, g5⟩ := r3_cells y2
   have y3 := r3_set2 y2 (.int .i64 y)
   obtain ⟨v3, hv3⟩ : ∃ v, v2.setCell ⟨w.heap.size + 1, 2, none⟩ (.int .i64 y) = v := ⟨_, rfl⟩
   rw [hv3] at y3
   obtain ⟨⟨d6, d7, d8⟩, g6, g7, g8⟩ := r3_cells y3
   have BZ := hid (show Below w.heap.size w v3 by
    rw [← hv3, ← hv2, ← hv1]
    exact ((BQ.out.setCell (p := ⟨w.heap.size + 1, 0, none⟩) (by show _ ≤ _ + _; omega) _).setCell (p := ⟨w.heap.size + 1, 1, none⟩) (by show _ ≤ _ + _; omega) _).setCell (p := ⟨w.heap.size + 1, 2, none⟩) (by show _ ≤ _ + _; omega) _)
   clear y1 y2 y3; go_wp2_with fail
   refine bodyPost_ret (v := .tuple #[.agg #[.string S, .int .i64 A, .int .i64 y], .int .i64 0]) ?hres rfl ?_
   case hres => simp [results, Tryz.results45, go_sem, d6, d7, d8]
   exact ⟨rfl, BZ.out⟩
theorem numL_drop (m : Nat) (c : Int) (l : List UInt8) : numL m c l = l.drop (numK m c l) := by
 unfold numL numK
 split
 · rfl
 · rfl
theorem numK_le (m : Nat) (c : Int) (l : List UInt8) : numK m c l ≤ l.length ∧ numK m c l ≤ 10 := by
 unfold numK
 split
 · by_cases hz : (takeV l).2 = 0
   · rw [hz]; omega
   · have := takeV_some hz; exact ⟨this.1, this.2.1⟩
 · omega
def textK (m : Nat) (c : Int) (l : List UInt8) : Nat := numK m c l + if textE m c l = 0 then WirePure.numV m c l else 0
theorem text_far {m : Nat} {c : Int} {l : List UInt8} (h : numE m c l ≠ 0) : textE m c l = numE m c l ∧ textS m c l = [] ∧ textK m c l = numK m c l := by
 have e : textE m c l = numE m c l := takeE_err h _ _
 refine ⟨e, takeS_err h _ _, ?_⟩
 unfold textK
 rw [e, if_neg h]; rfl
theorem text_less {m : Nat} {c : Int} {l : List UInt8} (h : numE m c l = 0) (hs : l.length - numK m c l < WirePure.numV m c l) : textE m c l = 40 ∧ textS m c l = [] ∧ textK m c l = numK m c l := by
 have e : textE m c l = 40 := by
  unfold textE takeE
  rw [numL_drop, List.length_drop, if_pos hs, h, fst_no]
 refine ⟨e, ?_, ?_⟩
 · unfold textE at e
   unfold textS takeS
   rw [e]; rfl
 · unfold textK
   rw [e]; rfl
theorem text_fits {m : Nat} {c : Int} {l : List UInt8} (h : numE m c l = 0) (hs : ¬ l.length - numK m c l < WirePure.numV m c l) : textE m c l = 0 ∧ textS m c l = (l.drop (numK m c l)).take (WirePure.numV m c l) ∧ textK m c l = numK m c l + WirePure.numV m c l := by
 have e : textE m c l = 0 := by
  unfold textE takeE
  rw [numL_drop, List.length_drop, if_neg hs, h]
 refine ⟨e, ?_, ?_⟩
 · unfold textE at e
   unfold textS takeS
   rw [e, numL_drop]; rfl
 · unfold textK
   rw [e]; rfl
set_option maxRecDepth 20000 in
theorem rtext_ref (S : ByteArray) (A : Nat) (c : Int) (hS : S.size ≤ 70368744177664) (hA : A ≤ S.size) (l : List UInt8) (hl : S.data.toList.drop A = l) (m : Nat) (hm : m ≤ 9223372036854775807) (w : World) :
 Calls Tryz.prog 42 #[.agg #[.string S, .int .i64 A, .int .i64 c], .int .i64 m] w fun e w' => e = .returned (.tuple #[.agg #[.string S, .int .i64 (A + textK m c l : Nat), .int .i64 (textE m c l)], .string ⟨(textS m c l).toArray⟩]) ∧ Below w.heap.size w w' := by
 have HNUM := fun wx => rnum_ref S A c hS hA l hl m hm wx
 have HNUM := hid HNUM
 obtain ⟨k1, k2⟩ := numK_le m c l
 have k3 := numV_le m c l
 have hll : l.length = S.size - A := by rw [← hl, List.length_drop]; congr 1
 have hby : ∀ k n : Nat, (S.extract (A + k) (A + k + n)) = ⟨((l.drop k).take n).toArray⟩ := by
  intro k n
  apply ByteArray.ext
  apply Array.ext'
  rw [← hl, List.drop_drop]
  simp [List.extract_eq_take_drop]
 have HBY := hid (hby (numK m c l) (WirePure.numV m c l))
 clear hby
 by_cases hy : numE m c l = 0
 · by_cases hV : l.length - numK m c l < WirePure.numV m c l
   · have HX := hid (text_less hy hV)
     rw [hy] at HNUM
     obtain ⟨V, hVV⟩ : ∃ t, WirePure.numV m c l = t := ⟨_, rfl⟩; obtain ⟨K, hK⟩ : ∃ t, numK m c l = t := ⟨_, rfl⟩
     rw [hVV, hK] at HNUM hV
     rw [hVV] at k3
     rw [hK] at k1 k2 HX
     clear hVV hK HBY hy hl
     have hcmp : (S.size : Int) - ((A : Int) + (K : Int)) < (V : Int) := by omega
     go_enter Tryz.func42, Tryz.ntmps42
     go_wp2_with fail
     obtain ⟨w0, hw0⟩ : ∃ v, (w.alloc (.cells #[.string S, .int .i64 A, .int .i64 c] 31)).alloc (.cells #[.string ⟨#[]⟩, .int .i64 0, .int .i64 0] 31) = v := ⟨_, rfl⟩
     have Z0 := hid (show w0.heap[w.heap.size]? = some (.cells #[.string S, .int .i64 A, .int .i64 c] 31 (0, 0)) by
      rw [← hw0]
      have hx := ((Below.refl (w.heap.size + 1) (w.alloc (.cells #[.string S, .int .i64 A, .int .i64 c] 31))).alloc (by simp) (.cells #[.string ⟨#[]⟩, .int .i64 0, .int .i64 0] 31)).block w.heap.size (by omega)
      exact hx.trans (heap_alloc_new w _))
     have Y0 := hid (show w0.heap[w.heap.size + 1]? = some (.cells #[.string ⟨#[]⟩, .int .i64 0, .int .i64 0] 31 (0, 0)) by
      rw [← hw0]
      have hx := heap_alloc_new (w.alloc (.cells #[.string S, .int .i64 A, .int .i64 c] 31)) (.cells #[.string ⟨#[]⟩, .int .i64 0, .int .i64 0] 31)
      simpa using hx)
     have B0 := hid (show Below w.heap.size w w0 by rw [← hw0]; exact ((Below.refl _ _).alloc (Nat.le_refl _) _).alloc (by simp) _); rw [hw0]; clear hw0
     refine (HNUM.out w0).mono ?_
     rintro e w1 ⟨rfl, hb1⟩; have B1 := hid (B0.out.trans (hb1.mono B0.out.size)); have Y1 := hid ((hb1.block (w.heap.size + 1) (lt_of_block Y0.out)).trans Y0.out); have Z1 := hid ((hb1.block w.heap.size (lt_of_block Z0.out)).trans Z0.out); clear hb1
     have FZ := fun o => r3_cells (w := w1.alloc o) (((Below.refl w1.heap.size w1).alloc (Nat.le_refl _) o).block w.heap.size (lt_of_block Z1.out) |>.trans Z1.out)
     have c0 := fun o => (FZ o).1.1
     have c1 := fun o => (FZ o).1.2.1
     have c2 := fun o => (FZ o).1.2.2
     have f0 := fun o => (FZ o).2.1
     have f1 := fun o => (FZ o).2.2.1
     have f2 := fun o => (FZ o).2.2.2
     clear FZ; go_wp2_with fail
     refine (rfail_ref S ((A : Int) + (K : Int)) 0 40 _).mono ?_
     rintro e w2 ⟨rfl, hb2⟩; have BQ := hid (show Below w.heap.size w (w1.alloc (.cells #[.string S, .int .i64 ((A : Int) + (K : Int)), .int .i64 0] 31)) from B1.out.alloc B1.out.size _); have YQ := hid (((Below.refl w1.heap.size w1).alloc (Nat.le_refl _) (.cells #[.string S, .int .i64 ((A : Int) + (K : Int)), .int .i64 0] 31)).block (w.heap.size + 1) (lt_of_block Y1.out) |>.trans Y1.out); have B2 := hid (BQ.out.trans (hb2.mono BQ.out.size)); have Y2 := hid ((hb2.block (w.heap.size + 1) (lt_of_block YQ.out)).trans YQ.out); clear hb2 c0 c1 c2 f0 f1 f2
     have y1 := r3_set0 Y2.out (.string S)
     obtain ⟨v1, hv1⟩ : ∃ v, w2.setCell ⟨w.heap.size + 1, 0, none⟩ (.string S) = v := ⟨_, rfl⟩
     rw [hv1] at y1
     obtain ⟨⟨p0, p1, p2⟩, q0, q1, q2⟩ := r3_cells Y2.out
     obtain ⟨⟨d0, d1, d2⟩, g0, g1, g2⟩ := r3_cells y1
     have y2 := r3_set1 y1 (.int .i64 ((A : Int) + (K : Int)))
     obtain ⟨v2, hv2⟩ : ∃ v, v1.setCell ⟨w.heap.size + 1, 1, none⟩ (.int .i64 ((A : Int) + (K : Int))) = v := ⟨_, rfl⟩
     rw [hv2] at y2
     obtain ⟨⟨d3, d4, d5⟩, g3, g4, g5⟩ := r3_cells y2
     have y3 := r3_set2 y2 (.int .i64 (fst 0 40))
     obtain ⟨v3, hv3⟩ : ∃ v, v2.setCell ⟨w.heap.size + 1, 2, none⟩ (.int .i64 (fst 0 40)) = v := ⟨_, rfl⟩
     rw [hv3] at y3
     obtain ⟨⟨d6, d7, d8⟩, g6, g7, g8⟩ := r3_cells y3
     have BZ := hid (show Below w.heap.size w v3 by
      rw [← hv3, ← hv2, ← hv1]
      exact ((B2.out.setCell (p := ⟨w.heap.size + 1, 0, none⟩) (by show _ ≤ _ + _; omega) _).setCell (p := ⟨w.heap.size + 1, 1, none⟩) (by show _ ≤ _ + _; omega) _).setCell (p := ⟨w.heap.size + 1, 2, none⟩) (by show _ ≤ _ + _; omega) _)
     clear y1 y2 y3; go_wp2_with fail
     refine bodyPost_ret (v := .tuple #[.agg #[.string S, .int .i64 ((A : Int) + (K : Int)), .int .i64 (fst 0 40)], .string ⟨#[]⟩]) ?hres rfl ?_
     case hres => simp [results, Tryz.results42, go_sem, d6, d7, d8]
     exact ⟨by rw [HX.out.1, HX.out.2.1, HX.out.2.2]; rfl, BZ.out⟩
   · have HX := hid (text_fits hy hV)
     rw [hy] at HNUM
     obtain ⟨V, hVV⟩ : ∃ t, WirePure.numV m c l = t := ⟨_, rfl⟩; obtain ⟨K, hK⟩ : ∃ t, numK m c l = t := ⟨_, rfl⟩
     rw [hVV, hK] at HNUM hV HX HBY
     rw [hVV] at k3
     rw [hK] at k1 k2
     clear hVV hK hy hl
     have hcmp : ¬ (S.size : Int) - ((A : Int) + (K : Int)) < (V : Int) := by omega
     have ht1 : ((A : Int) + (K : Int)).toNat = A + K := by omega
     have ht2 : ((A : Int) + (K : Int) + (V : Int)).toNat = A + K + V := by omega
     have hrun : ∀ v, (Instr.slice 9 (.string S) (some (.int .i64 ((A : Int) + (K : Int)))) (some (.int .i64 ((A : Int) + (K : Int) + (V : Int)))) none).run Tryz.prog v = .ok (.string (S.extract (A + K) (A + K + V))) v := by
      intro v
      have := run_slice_string (P := Tryz.prog) v 9 S .i64 .i64 ((A : Int) + (K : Int)) ((A : Int) + (K : Int) + (V : Int)) Tryz.underlying9 (by omega) (by omega) (by omega)
      rw [ht1, ht2] at this
      exact this
     go_enter Tryz.func42, Tryz.ntmps42
     go_wp2_with fail
     obtain ⟨w0, hw0⟩ : ∃ v, (w.alloc (.cells #[.string S, .int .i64 A, .int .i64 c] 31)).alloc (.cells #[.string ⟨#[]⟩, .int .i64 0, .int .i64 0] 31) = v := ⟨_, rfl⟩
     have Z0 := hid (show w0.heap[w.heap.size]? = some (.cells #[.string S, .int .i64 A, .int .i64 c] 31 (0, 0)) by
      rw [← hw0]
      have hx := ((Below.refl (w.heap.size + 1) (w.alloc (.cells #[.string S, .int .i64 A, .int .i64 c] 31))).alloc (by simp) (.cells #[.string ⟨#[]⟩, .int .i64 0, .int .i64 0] 31)).block w.heap.size (by omega)
      exact hx.trans (heap_alloc_new w _))
     have Y0 := hid (show w0.heap[w.heap.size + 1]? = some (.cells #[.string ⟨#[]⟩, .int .i64 0, .int .i64 0] 31 (0, 0)) by
      rw [← hw0]
      have hx := heap_alloc_new (w.alloc (.cells #[.string S, .int .i64 A, .int .i64 c] 31)) (.cells #[.string ⟨#[]⟩, .int .i64 0, .int .i64 0] 31)
      simpa using hx)
     have B0 := hid (show Below w.heap.size w w0 by rw [← hw0]; exact ((Below.refl _ _).alloc (Nat.le_refl _) _).alloc (by simp) _); rw [hw0]; clear hw0
     refine (HNUM.out w0).mono ?_
     rintro e w1 ⟨rfl, hb1⟩; have B1 := hid (B0.out.trans (hb1.mono B0.out.size)); have Y1 := hid ((hb1.block (w.heap.size + 1) (lt_of_block Y0.out)).trans Y0.out); have Z1 := hid ((hb1.block w.heap.size (lt_of_block Z0.out)).trans Z0.out); clear hb1
     have FZ := fun o => r3_cells (w := w1.alloc o) (((Below.refl w1.heap.size w1).alloc (Nat.le_refl _) o).block w.heap.size (lt_of_block Z1.out) |>.trans Z1.out)
     have c0 := fun o => (FZ o).1.1
     have c1 := fun o => (FZ o).1.2.1
     have c2 := fun o => (FZ o).1.2.2
     have f0 := fun o => (FZ o).2.1
     have f1 := fun o => (FZ o).2.2.1
     have f2 := fun o => (FZ o).2.2.2
     clear FZ; have BQ := hid (show Below w.heap.size w (w1.alloc (.cells #[.string S, .int .i64 ((A : Int) + (K : Int) + (V : Int)), .int .i64 0] 31)) from B1.out.alloc B1.out.size _); have YQ := hid (((Below.refl w1.heap.size w1).alloc (Nat.le_refl _) (.cells #[.string S, .int .i64 ((A : Int) + (K : Int) + (V : Int)), .int .i64 0] 31)).block (w.heap.size + 1) (lt_of_block Y1.out) |>.trans Y1.out)
     have y1 := r3_set0 YQ.out (.string S)
     obtain ⟨v1, hv1⟩ : ∃ v, (w1.alloc (.cells #[.string S, .int .i64 ((A : Int) + (K : Int) + (V : Int)), .int .i64 0] 31)).setCell ⟨w.heap.size + 1, 0, none⟩ (.string S) = v := ⟨_, rfl⟩
     rw [hv1] at y1
     obtain ⟨⟨p0, p1, p2⟩, q0, q1, q2⟩ := r3_cells YQ.out
     obtain ⟨⟨d0, d1, d2⟩, g0, g1, g2⟩ := r3_cells y1
     have y2 := r3_set1 y1 (.int .i64 ((A : Int) + (K : Int) + (V : Int)))
     obtain ⟨v2, hv2⟩ : ∃ v, v1.setCell ⟨w.heap.size + 1, 1, none⟩ (.int .i64 ((A : Int) + (K : Int) + (V : Int))) = v := ⟨_, rfl⟩
     rw [hv2] at y2
     obtain ⟨⟨d3, d4, d5⟩, g3, g4, g5⟩ := r3_cells y2
     have y3 := r3_set2 y2 (.int .i64 0)
     obtain ⟨v3, hv3⟩ : ∃ v, v2.setCell ⟨w.heap.size + 1, 2, none⟩ (.int .i64 0) = v := ⟨_, rfl⟩
     rw [hv3] at y3
     obtain ⟨⟨d6, d7, d8⟩, g6, g7, g8⟩ := r3_cells y3
     have BZ := hid (show Below w.heap.size w v3 by
      rw [← hv3, ← hv2, ← hv1]
      exact ((BQ.out.setCell (p := ⟨w.heap.size + 1, 0, none⟩) (by show _ ≤ _ + _; omega) _).setCell (p := ⟨w.heap.size + 1, 1, none⟩) (by show _ ≤ _ + _; omega) _).setCell (p := ⟨w.heap.size + 1, 2, none⟩) (by show _ ≤ _ + _; omega) _)
     clear y1 y2 y3; go_wp2_with fail
     refine bodyPost_ret (v := .tuple #[.agg #[.string S, .int .i64 ((A : Int) + (K : Int) + (V : Int)), .int .i64 0], .string (S.extract (A + K) (A + K + V))]) ?hres rfl ?_
     case hres => simp [results, Tryz.results42, go_sem, d6, d7, d8]
     exact ⟨by rw [HX.out.1, HX.out.2.1, HX.out.2.2, ← HBY.out, ← Nat.add_assoc]; rfl, BZ.out⟩
 · have HX := hid (text_far hy)
   have hv : WirePure.numV m c l = 0 := by unfold WirePure.numV; rw [if_neg hy]
   have hk : numK m c l = 0 := by unfold numK; rw [if_neg hy]
   obtain ⟨y, hY⟩ : ∃ y, numE m c l = y := ⟨_, rfl⟩
   rw [hk, hY] at HX
   rw [hk, hY, hv] at HNUM
   rw [hY] at hy
   clear hv hk hY HBY hl
   go_enter Tryz.func42, Tryz.ntmps42
   go_wp2_with fail
   obtain ⟨w0, hw0⟩ : ∃ v, (w.alloc (.cells #[.string S, .int .i64 A, .int .i64 c] 31)).alloc (.cells #[.string ⟨#[]⟩, .int .i64 0, .int .i64 0] 31) = v := ⟨_, rfl⟩
   have Z0 := hid (show w0.heap[w.heap.size]? = some (.cells #[.string S, .int .i64 A, .int .i64 c] 31 (0, 0)) by
    rw [← hw0]
    have hx := ((Below.refl (w.heap.size + 1) (w.alloc (.cells #[.string S, .int .i64 A, .int .i64 c] 31))).alloc (by simp) (.cells #[.string ⟨#[]⟩, .int .i64 0, .int .i64 0] 31)).block w.heap.size (by omega)
    exact hx.trans (heap_alloc_new w _))
   have Y0 := hid (show w0.heap[w.heap.size + 1]? = some (.cells #[.string ⟨#[]⟩, .int .i64 0, .int .i64 0] 31 (0, 0)) by
    rw [← hw0]
    have hx := heap_alloc_new (w.alloc (.cells #[.string S, .int .i64 A, .int .i64 c] 31)) (.cells #[.string ⟨#[]⟩, .int .i64 0, .int .i64 0] 31)
    simpa using hx)
   have B0 := hid (show Below w.heap.size w w0 by rw [← hw0]; exact ((Below.refl _ _).alloc (Nat.le_refl _) _).alloc (by simp) _); rw [hw0]; clear hw0
   refine (HNUM.out w0).mono ?_
   rintro e w1 ⟨rfl, hb1⟩; have B1 := hid (B0.out.trans (hb1.mono B0.out.size)); have Y1 := hid ((hb1.block (w.heap.size + 1) (lt_of_block Y0.out)).trans Y0.out); have Z1 := hid ((hb1.block w.heap.size (lt_of_block Z0.out)).trans Z0.out); clear hb1
   have FZ := fun o => r3_cells (w := w1.alloc o) (((Below.refl w1.heap.size w1).alloc (Nat.le_refl _) o).block w.heap.size (lt_of_block Z1.out) |>.trans Z1.out)
   have c0 := fun o => (FZ o).1.1
   have c1 := fun o => (FZ o).1.2.1
   have c2 := fun o => (FZ o).1.2.2
   have f0 := fun o => (FZ o).2.1
   have f1 := fun o => (FZ o).2.2.1
   have f2 := fun o => (FZ o).2.2.2
   clear FZ; have BQ := hid (show Below w.heap.size w (w1.alloc (.cells #[.string S, .int .i64 A, .int .i64 y] 31)) from B1.out.alloc B1.out.size _); have YQ := hid (((Below.refl w1.heap.size w1).alloc (Nat.le_refl _) (.cells #[.string S, .int .i64 A, .int .i64 y] 31)).block (w.heap.size + 1) (lt_of_block Y1.out) |>.trans Y1.out)
   have y1 := r3_set0 YQ.out (.string S)
   obtain ⟨v1, hv1⟩ : ∃ v, (w1.alloc (.cells #[.string S, .int .i64 A, .int .i64 y] 31)).setCell ⟨w.heap.size + 1, 0, none⟩ (.string S) = v := ⟨_, rfl⟩
   rw [hv1] at y1
   obtain ⟨⟨p0, p1, p2⟩, q0, q1, q2⟩ := r3_cells YQ.out
   obtain ⟨⟨d0, d1, d2⟩, g0, g1, g2⟩ := r3_cells y1
   have y2 := r3_set1 y1 (.int .i64 A)
   obtain ⟨v2, hv2⟩ : ∃ v, v1.setCell ⟨w.heap.size + 1, 1, none⟩ (.int .i64 A) = v := ⟨_, rfl⟩
   rw [hv2] at y2
   obtain ⟨⟨d3, d4, d5⟩, g3, g4, g5⟩ := r3_cells y2
   have y3 := r3_set2 y2 (.int .i64 y)
   obtain ⟨v3, hv3⟩ : ∃ v, v2.setCell ⟨w.heap.size + 1, 2, none⟩ (.int .i64 y) = v := ⟨_, rfl⟩
   rw [hv3] at y3
   obtain ⟨⟨d6, d7, d8⟩, g6, g7, g8⟩ := r3_cells y3
   have BZ := hid (show Below w.heap.size w v3 by
    rw [← hv3, ← hv2, ← hv1]
    exact ((BQ.out.setCell (p := ⟨w.heap.size + 1, 0, none⟩) (by show _ ≤ _ + _; omega) _).setCell (p := ⟨w.heap.size + 1, 1, none⟩) (by show _ ≤ _ + _; omega) _).setCell (p := ⟨w.heap.size + 1, 2, none⟩) (by show _ ≤ _ + _; omega) _)
   clear y1 y2 y3; go_wp2_with fail
   refine bodyPost_ret (v := .tuple #[.agg #[.string S, .int .i64 A, .int .i64 y], .string ⟨#[]⟩]) ?hres rfl ?_
   case hres => simp [results, Tryz.results42, go_sem, d6, d7, d8]
   exact ⟨by rw [HX.out.1, HX.out.2.1, HX.out.2.2]; rfl, BZ.out⟩
theorem textL_drop (m : Nat) (c : Int) (l : List UInt8) : textL m c l = l.drop (textK m c l) := by
 by_cases h : numE m c l = 0
 · by_cases hs : l.length - numK m c l < WirePure.numV m c l
   · obtain ⟨h1, h2, h3⟩ := text_less h hs
     rw [h3]
     unfold textE at h1
     unfold textL takeL
     rw [h1, numL_drop]; rfl
   · obtain ⟨h1, h2, h3⟩ := text_fits h hs
     rw [h3]
     unfold textE at h1
     unfold textL takeL
     rw [h1, numL_drop, if_pos rfl, List.drop_drop]
 · obtain ⟨h1, h2, h3⟩ := text_far h
   rw [h3]
   unfold textL
   rw [takeL_err h, numL_drop]
theorem textK_le (m : Nat) (c : Int) (l : List UInt8) : textK m c l ≤ l.length := by
 have hk := (numK_le m c l).1
 by_cases h : numE m c l = 0
 · by_cases hs : l.length - numK m c l < WirePure.numV m c l
   · rw [(text_less h hs).2.2]; exact hk
   · rw [(text_fits h hs).2.2]; omega
 · rw [(text_far h).2.2]; exact hk
def At (S : ByteArray) (A : Nat) (l : List UInt8) : Prop := A ≤ S.size ∧ S.data.toList.drop A = l
theorem At.len {S : ByteArray} {A : Nat} {l : List UInt8} (h : At S A l) : l.length = S.size - A := by
 rw [← h.2, List.length_drop]; congr 1
theorem At.more {S : ByteArray} {A k : Nat} {l : List UInt8} (h : At S A l) (hk : k ≤ l.length) : At S (A + k) (l.drop k) := by
 have := h.len
 have h1 := h.1
 exact ⟨by omega, by rw [← h.2, List.drop_drop]⟩
theorem num_ref (S : ByteArray) (hS : S.size ≤ 70368744177664) (k : Nat) (hk : k < 18446744073709551616) (m : Int) (hm : m = k) (hm2 : k ≤ 9223372036854775807) (A : Nat) (c : Int) (l : List UInt8) (hA : At S A l) (x c' : Int) (l' : List UInt8) (hq : (intC k hk).rd c l = (x, c', l')) (w : World) :
 Calls Tryz.prog 45 #[.agg #[.string S, .int .i64 A, .int .i64 c], .int .i64 m] w fun e w' => ∃ A' : Nat, e = .returned (.tuple #[.agg #[.string S, .int .i64 A', .int .i64 c'], .int .i64 x]) ∧ At S A' l' ∧ Below w.heap.size w w' := by
 subst hm
 have e : (((WirePure.numV k c l : Nat) : Int), numE k c l, numL k c l) = (x, c', l') := hq
 injection e with e1 e2
 injection e2 with e2 e3
 rw [← e1, ← e2, ← e3]
 refine (rnum_ref S A c hS hA.1 l hA.2 k hm2 w).mono ?_
 rintro e w1 ⟨rfl, hb⟩
 exact ⟨A + numK k c l, rfl, by rw [numL_drop]; exact hA.more (numK_le k c l).1, hb⟩
theorem text_ref (S : ByteArray) (hS : S.size ≤ 70368744177664) (k : Nat) (hk : k < 18446744073709551616) (m : Int) (hm : m = k) (hm2 : k ≤ 9223372036854775807) (A : Nat) (c : Int) (l : List UInt8) (hA : At S A l) (x : ByteArray) (c' : Int) (l' : List UInt8) (hq : (textC k hk).rd c l = (x, c', l')) (w : World) :
 Calls Tryz.prog 42 #[.agg #[.string S, .int .i64 A, .int .i64 c], .int .i64 m] w fun e w' => ∃ A' : Nat, e = .returned (.tuple #[.agg #[.string S, .int .i64 A', .int .i64 c'], .string x]) ∧ At S A' l' ∧ Below w.heap.size w w' := by
 subst hm
 have e : ((⟨(textS k c l).toArray⟩ : ByteArray), textE k c l, textL k c l) = (x, c', l') := hq
 injection e with e1 e2
 injection e2 with e2 e3
 rw [← e1, ← e2, ← e3]
 refine (rtext_ref S A c hS hA.1 l hA.2 k hm2 w).mono ?_
 rintro e w1 ⟨rfl, hb⟩
 exact ⟨A + textK k c l, rfl, by rw [textL_drop]; exact hA.more (textK_le k c l), hb⟩
end Pk
end Go.Proofs.YtljbpelogjmciaaGreatDoor
namespace Go.Proofs.YtljbpelogjmciaaGreatDoor
open Go.ChangeShapes Go.WideShapes Go.ChangeAt Go.RowKit Go.Lib
open LebMath WirePure Sd Wire SpecOwn
namespace Pk
theorem box_cell {w : World} {g : Nat} {A : Array Value} {t : TypeId} (h : w.heap[g]? = some (.cells A t (0, 0))) (k : Nat) {v : Value} (hv : A[k]? = some v) : w.cell? ⟨g, k, none⟩ = some v := by
 simp [World.cell?, h, hv]
theorem box_free {w : World} {g : Nat} {A : Array Value} {t : TypeId} (h : w.heap[g]? = some (.cells A t (0, 0))) (k : Nat) : w.frozen? ⟨g, k, none⟩ = false := by
 simp [World.frozen?, h]
theorem box_set {w : World} {g : Nat} {A : Array Value} {t : TypeId} (h : w.heap[g]? = some (.cells A t (0, 0))) (k : Nat) (v : Value) {B : Array Value} (hB : A.setIfInBounds k v = B) : (w.setCell ⟨g, k, none⟩ v).heap[g]? = some (.cells B t (0, 0)) := by
 rw [← hB]; exact heap_setCell_same w g k _ _ v h
theorem own_cap {w : World} {base : Nat} {t : TypeId} {size n cap : Nat} {A : Option Addr} {xs : List Value} (h : w.ownsRow base t size (.slice A n cap) n xs) : n ≤ cap := by
 rcases h.2 with ⟨e1, e2⟩ | ⟨gg, cap', cur, e1, _, _, e4, _⟩
 · injection e1 with _ e5 e6; omega
 · injection e1 with _ e5 e6; omega
theorem rd_zero {α : Type} {C : Codec α} {c : Int} {l : List UInt8} {x : α} {c' : Int} {l' : List UInt8} (h : C.rd c l = (x, c', l')) (h0 : c' = 0) : c = 0 := by
 by_cases hc : c = 0
 · exact hc
 · have := C.keeps c l hc
   rw [h] at this
   injection this with this _
   rw [← this]; exact h0
end Pk
end Go.Proofs.YtljbpelogjmciaaGreatDoor
