/-
  The chapter's example of package res holds. Condition: strconv's table of powers holds what the program's text lays.
-/
import Derived.Test.YtpllcnpmjnmcfaaDoorResOps
import Derived.Test.YtpllcnpmjnmcfaaDoorResText
import Derived.Deep.QuietTactic
set_option linter.unusedVariables false
set_option linter.unusedSimpArgs false
namespace Go.Proofs.YtpllcnpmjnmcfaaDoor
open Go.ChangeShapes Go.WideShapes Go.ChangeAt Go.RowKit Go.Lib
open NumMath
namespace Re
theorem tx5 : textR ⟨5, 7, 9⟩ = ⟨#[53, 47, 55, 47, 57]⟩ := by
  have h (a b : ByteArray) (h : a.data.toList = b.data.toList) : a = b := ByteArray.ext (Array.toList_inj.1 h)
  exact h _ _ (by decide +kernel)
theorem ok_lit (a : Rx) (h : (fits a.c && fits a.m && fits a.p) = true) : a.Ok := by
  simp only [Bool.and_eq_true] at h
  exact ⟨h.1.1, h.1.2, h.2⟩
set_option maxRecDepth 100000 in
set_option maxHeartbeats 4000000 in
theorem works_any (w : World) (hT : NumText.Tab w) : Calls Tryd.prog 19 #[] w fun e w' => e = .returned (.bool true) ∧ Below w.heap.size w w' := by
  have HT := Lib.hid hT
  clear hT
  have HA := Lib.hid (add_any ⟨1, 2, 3⟩ ⟨4, 5, 6⟩ (ok_lit _ rfl) (ok_lit _ rfl) w)
  have HS := Lib.hid (fun u => sub_any ⟨1, 0, 0⟩ ⟨2, 0, 0⟩ (ok_lit _ rfl) (ok_lit _ rfl) u)
  have HF := Lib.hid (fun u => fits_any ⟨1, 0, 0⟩ ⟨5, 7, 9⟩ u)
  have HG := Lib.hid (fun u => fits_any ⟨5, 7, 9⟩ ⟨99, 0, 0⟩ u)
  have HX := Lib.hid (fun u (h : NumText.Tab u) => text_any ⟨5, 7, 9⟩ (ok_lit _ rfl) u h)
  rw [show addR ⟨1, 2, 3⟩ ⟨4, 5, 6⟩ = (⟨5, 7, 9⟩, true) from by rfl] at HA
  rw [show subR ⟨1, 0, 0⟩ ⟨2, 0, 0⟩ = (⟨0, 0, 0⟩, false) from by rfl] at HS
  rw [show fitsR ⟨1, 0, 0⟩ ⟨5, 7, 9⟩ = true by decide] at HF
  rw [show fitsR ⟨5, 7, 9⟩ ⟨99, 0, 0⟩ = false by decide] at HG
  rw [tx5] at HX
  go_enter Tryd.func19, Tryd.ntmps19
  have B := Lib.hid (Below.refl w.heap.size w)
  go_wp2_with fail
  refine (HA.out).mono ?_
  rintro e w1 ⟨rfl, hb1⟩
  obtain ⟨u1, hu1⟩ : ∃ v, w1.alloc (.cells #[.int .i64 0, .int .i64 0, .int .i64 0] 23) = v := ⟨_, rfl⟩
  have ZB := Lib.hid (show u1.heap[w1.heap.size]? = some (.cells #[.int .i64 0, .int .i64 0, .int .i64 0] 23 (0, 0)) by rw [← hu1]; exact heap_alloc_new _ _)
  have BU := Lib.hid (show Below w1.heap.size w1 u1 by rw [← hu1]; exact (Below.refl _ _).alloc (Nat.le_refl _) _)
  obtain ⟨v1, hv1⟩ : ∃ v, u1.setCells (w1.heap.size) 0 [.int .i64 5, .int .i64 7, .int .i64 9] = v := ⟨_, rfl⟩
  have THz := Lib.hid (show u1.there (w1.heap.size) 0 3 from Back.th ZB.out rfl)
  have ONEz := Lib.hid (show ([.int .i64 5, .int .i64 7, .int .i64 9] : List Value).toArray.all (·.oneCell') = true by simp [Value.oneCell'])
  have HVz := Lib.hid hv1
  have NX := Lib.hid (show v1.heap[w1.heap.size]? = some (.cells ([.int .i64 5, .int .i64 7, .int .i64 9] : List Value).toArray 23 (0, 0)) by rw [← hv1]; exact Back.st ZB.out rfl)
  have BV := Lib.hid (show Below w1.heap.size w1 v1 by rw [← hv1]; exact bel_set BU.out (Nat.le_refl _))
  have BH := hb1.trans (BV.out.mono hb1.size)
  clear hv1
  have NB := Lib.hid (B.out.trans (BH.mono B.out.size))
  clear B 
  have B := Lib.hid NB.out
  clear NB 
  have X1 := Lib.hid NX.out
  have RX1 := Lib.hid (range_box (cs := [.int .i64 5, .int .i64 7, .int .i64 9]) X1.out)
  clear BH BV NX ZB BU hb1
  go_wp2_with (first | (refine wpList_store_at rfl 23 _ _ rfl _ _ _ rfl rfl THz.out (by kernel_rfl) ONEz.out HVz.out ?_))
  refine (HS.out _).mono ?_
  rintro e w2 ⟨rfl, hb2⟩
  obtain ⟨u2, hu2⟩ : ∃ v, w2.alloc (.cells #[.int .i64 0, .int .i64 0, .int .i64 0] 23) = v := ⟨_, rfl⟩
  have ZB := Lib.hid (show u2.heap[w2.heap.size]? = some (.cells #[.int .i64 0, .int .i64 0, .int .i64 0] 23 (0, 0)) by rw [← hu2]; exact heap_alloc_new _ _)
  have BU := Lib.hid (show Below w2.heap.size w2 u2 by rw [← hu2]; exact (Below.refl _ _).alloc (Nat.le_refl _) _)
  obtain ⟨v2, hv2⟩ : ∃ v, u2.setCells (w2.heap.size) 0 [.int .i64 0, .int .i64 0, .int .i64 0] = v := ⟨_, rfl⟩
  have THz := Lib.hid (show u2.there (w2.heap.size) 0 3 from Back.th ZB.out rfl)
  have ONEz := Lib.hid (show ([.int .i64 0, .int .i64 0, .int .i64 0] : List Value).toArray.all (·.oneCell') = true by simp [Value.oneCell'])
  have HVz := Lib.hid hv2
  have NX := Lib.hid (show v2.heap[w2.heap.size]? = some (.cells ([.int .i64 0, .int .i64 0, .int .i64 0] : List Value).toArray 23 (0, 0)) by rw [← hv2]; exact Back.st ZB.out rfl)
  have BV := Lib.hid (show Below w2.heap.size w2 v2 by rw [← hv2]; exact bel_set BU.out (Nat.le_refl _))
  have BH := hb2.trans (BV.out.mono hb2.size)
  clear hv2
  have NX1 := Lib.hid ((BH.block _ (lt_of_at X1.out)).trans X1.out)
  have NB := Lib.hid (B.out.trans (BH.mono B.out.size))
  clear B X1 RX1
  have X1 := Lib.hid NX1.out
  have RX1 := Lib.hid (range_box (cs := [.int .i64 5, .int .i64 7, .int .i64 9]) X1.out)
  have B := Lib.hid NB.out
  clear NB NX1
  have X2 := Lib.hid NX.out
  have RX2 := Lib.hid (range_box (cs := [.int .i64 0, .int .i64 0, .int .i64 0]) X2.out)
  clear BH BV NX ZB BU hb2
  clear HA HS
  have c0 : v2.cell? ⟨w1.heap.size, 0, none⟩ = some (.int .i64 5) := cell_of X1.out 0 rfl
  have c1 : v2.cell? ⟨w1.heap.size, 1, none⟩ = some (.int .i64 7) := cell_of X1.out 1 rfl
  have c2 : v2.cell? ⟨w1.heap.size, 2, none⟩ = some (.int .i64 9) := cell_of X1.out 2 rfl
  go_wp2_with (first | (refine wpList_store_at rfl 23 _ _ rfl _ _ _ rfl rfl THz.out (by kernel_rfl) ONEz.out HVz.out ?_))
  refine (HX.out _ (HT.out.below B.out)).mono ?_
  rintro e w3 ⟨rfl, hb3⟩
  clear c0 c1 c2
  have NX1 := Lib.hid ((hb3.block _ (lt_of_at X1.out)).trans X1.out)
  have NX2 := Lib.hid ((hb3.block _ (lt_of_at X2.out)).trans X2.out)
  have NB := Lib.hid (B.out.trans (hb3.mono B.out.size))
  clear B X1 RX1 X2 RX2
  have X1 := Lib.hid NX1.out
  have RX1 := Lib.hid (range_box (cs := [.int .i64 5, .int .i64 7, .int .i64 9]) X1.out)
  have X2 := Lib.hid NX2.out
  have RX2 := Lib.hid (range_box (cs := [.int .i64 0, .int .i64 0, .int .i64 0]) X2.out)
  have B := Lib.hid NB.out
  clear NB NX1 NX2
  clear hb3
  have c0 : w3.cell? ⟨w1.heap.size, 0, none⟩ = some (.int .i64 5) := cell_of X1.out 0 rfl
  have c1 : w3.cell? ⟨w1.heap.size, 1, none⟩ = some (.int .i64 7) := cell_of X1.out 1 rfl
  have c2 : w3.cell? ⟨w1.heap.size, 2, none⟩ = some (.int .i64 9) := cell_of X1.out 2 rfl
  go_wp2_with fail
  refine (HF.out _).mono ?_
  rintro e w4 ⟨rfl, hb4⟩
  clear c0 c1 c2
  have NX1 := Lib.hid ((hb4.block _ (lt_of_at X1.out)).trans X1.out)
  have NX2 := Lib.hid ((hb4.block _ (lt_of_at X2.out)).trans X2.out)
  have NB := Lib.hid (B.out.trans (hb4.mono B.out.size))
  clear B X1 RX1 X2 RX2
  have X1 := Lib.hid NX1.out
  have RX1 := Lib.hid (range_box (cs := [.int .i64 5, .int .i64 7, .int .i64 9]) X1.out)
  have X2 := Lib.hid NX2.out
  have RX2 := Lib.hid (range_box (cs := [.int .i64 0, .int .i64 0, .int .i64 0]) X2.out)
  have B := Lib.hid NB.out
  clear NB NX1 NX2
  clear hb4
  have c0 : w4.cell? ⟨w1.heap.size, 0, none⟩ = some (.int .i64 5) := cell_of X1.out 0 rfl
  have c1 : w4.cell? ⟨w1.heap.size, 1, none⟩ = some (.int .i64 7) := cell_of X1.out 1 rfl
  have c2 : w4.cell? ⟨w1.heap.size, 2, none⟩ = some (.int .i64 9) := cell_of X1.out 2 rfl
  go_wp2_with fail
  refine (HG.out _).mono ?_
  rintro e w5 ⟨rfl, hb5⟩
  clear c0 c1 c2
  have NX1 := Lib.hid ((hb5.block _ (lt_of_at X1.out)).trans X1.out)
  have NX2 := Lib.hid ((hb5.block _ (lt_of_at X2.out)).trans X2.out)
  have NB := Lib.hid (B.out.trans (hb5.mono B.out.size))
  clear B X1 RX1 X2 RX2
  have X1 := Lib.hid NX1.out
  have RX1 := Lib.hid (range_box (cs := [.int .i64 5, .int .i64 7, .int .i64 9]) X1.out)
  have X2 := Lib.hid NX2.out
  have RX2 := Lib.hid (range_box (cs := [.int .i64 0, .int .i64 0, .int .i64 0]) X2.out)
  have B := Lib.hid NB.out
  clear NB NX1 NX2
  clear hb5
  go_wp2_with fail
  go_ret
  exact ⟨rfl, B.out⟩
end Re
end Go.Proofs.YtpllcnpmjnmcfaaDoor
