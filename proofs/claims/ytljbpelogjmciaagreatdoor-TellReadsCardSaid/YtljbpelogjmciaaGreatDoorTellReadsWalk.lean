/-
 The walk of the law TellReads: it returns true, and leaves all that was there as it was. Condition: the listed variables hold what the program's text lays (Laid).
-/
import Derived.Test.YtljbpelogjmciaaGreatDoorTellRefOf
import Derived.Test.YtljbpelogjmciaaGreatDoorTellC
import Derived.Test.YtljbpelogjmciaaGreatDoorTellD
set_option linter.unusedVariables false
set_option linter.unusedSimpArgs false
namespace Go.Proofs.YtljbpelogjmciaaGreatDoor.TellReadsWalk
open Go.ChangeShapes Go.WideShapes Go.ChangeAt Go.RowKit Go.Lib
open Tl LebMath WirePure Sd Wire SpecOwn SpecRef Book Pk
set_option maxRecDepth 100000 in
set_option maxHeartbeats 4000000 in
theorem walk (s : ByteArray) (w : World) (hL : Laid w) :
 Calls Tryz.prog 6 #[.string s] w fun e w' => e = .returned (.bool true) ∧ Below w.heap.size w w' := by
 have HL := hid hL
 go_enter Tryz.func6, Tryz.ntmps6
 by_cases h3 : 3000 < s.size
 · have h3' : (3000 : Int) < (s.size : Int) := by omega
   go_wp2_with fail
   refine (works_any w HL.out).mono ?_
   rintro e wz ⟨rfl, hbz⟩
   have HZZ := hid hbz
   clear hbz; go_wp2
   go_ret
   exact ⟨rfl, HZZ.out⟩
 · have h3' : ¬ (3000 : Int) < (s.size : Int) := by omega
   have HF := hid (show Few s.data.toList from by show s.data.toList.length ≤ 281474976710656; rw [Array.length_toList]; show s.size ≤ _; omega); have HSZ := hid (show s.size ≤ 70368744177664 by omega); go_wp2_with fail
   refine (of_any s HF.out w HL.out.spec).mono ?_
   rintro e w1 ⟨u, PAu, pcu, UAu, ucu, LAu, lcu, IAu, icu, MAu, mcu, RAu, rcu, rfl, hyes, hno, hin, hb1⟩
   have HIN := hid hin
   have HYES := hid hyes
   have HNO := hid hno
   have B1 := hid hb1
   clear hin hyes hno hb1 h3; obtain ⟨z, hz⟩ : ∃ z, ofM s.data.toList = z := ⟨_, rfl⟩; rw [hz]
   have HZ := hid hz
   clear hz
   have hx_ := heap_alloc_new w1 (.cells Z24.toArray 50)
   obtain ⟨wa1, hwa⟩ : ∃ v, w1.alloc (.cells Z24.toArray 50) = v := ⟨_, rfl⟩
   rw [hwa] at hx_
   have hba_ : Below w1.heap.size w1 wa1 := by rw [← hwa]; exact (Below.refl _ _).alloc (Nat.le_refl _) _
   obtain ⟨w2, hwb⟩ : ∃ v, wa1.setCells w1.heap.size 0 (M24 u PAu pcu UAu ucu LAu lcu IAu icu MAu mcu RAu rcu) = v := ⟨_, rfl⟩; have X2 := hid (show w2.heap[w1.heap.size]? = some (.cells (M24 u PAu pcu UAu ucu LAu lcu IAu icu MAu mcu RAu rcu).toArray 50 (0, 0)) by rw [← hwb]; exact box_into hx_ 0 _ (over_24 _ _ _ _ _ _ _ _ _ _ _ _ _ _ _ _ _ _ _ _ _ _ _ _ _ _ _ _ _ _ _ _ _ _ _ _ _ _ _ _ _ _ _ _ _ _ _ _))
   have hb2 : Below w1.heap.size w1 w2 := by rw [← hwb]; exact below_cells (Nat.le_refl _) _ 0 hba_
   have THx := hid (show wa1.there w1.heap.size 0 24 from box_there hx_ 0 24 (by decide)); have ONEx := hid (show ((M24 u PAu pcu UAu ucu LAu lcu IAu icu MAu mcu RAu rcu).toArray : Array Value).all (·.oneCell') = true by simp [Value.oneCell'])
   have HVx := hid hwb
   have HWx := hid hwa
   have B2 := hid (B1.out.trans (hb2.mono B1.out.size)); clear hwb hx_ hwa hba_; have HIN2 := hid (HIN.out.below hb2); clear hb2 HIN
   go_wp2_with (refine wpList_store_to rfl 50 _ _ rfl _ _ _ rfl rfl ?th1 (by kernel_rfl) ?one1 (v := w2) ?hv1 ?_)
   case th1 => rw [HWx.out]; exact THx.out
   case one1 => exact ONEx.out
   case hv1 => rw [HWx.out]; exact HVx.out
   clear THx ONEx HVx HWx
   refine (refof_any s HSZ.out w2 (HL.out.below B2.out).spec).mono ?_
   rintro e w3 ⟨u2, PAv, pcv, UAv, ucv, LAv, lcv, IAv, icv, MAv, mcv, RAv, rcv, rfl, hyes2, hno2, hin2, hb3⟩
   have HEQ : u2 = u := by
    by_cases h0 : ofM s.data.toList = 0
    · rw [hyes2 h0, HYES.out h0]
    · rw [hno2 h0, HNO.out h0]
   subst HEQ; have HIN3 := hid (HIN2.out.below hb3)
   have HINB := hid hin2
   have X3 := hid ((hb3.block w1.heap.size (lt_of_block X2.out)).trans X2.out); have B3 := hid (B2.out.trans (hb3.mono B2.out.size)); clear hb3 hin2 hyes2 hno2 HIN2 X2 HYES HNO; rw [HZ.out]
   have hx_ := heap_alloc_new w3 (.cells Z24.toArray 50)
   obtain ⟨wa3, hwa⟩ : ∃ v, w3.alloc (.cells Z24.toArray 50) = v := ⟨_, rfl⟩
   rw [hwa] at hx_
   have hba_ : Below w3.heap.size w3 wa3 := by rw [← hwa]; exact (Below.refl _ _).alloc (Nat.le_refl _) _
   obtain ⟨w4, hwb⟩ : ∃ v, wa3.setCells w3.heap.size 0 (M24 u2 PAv pcv UAv ucv LAv lcv IAv icv MAv mcv RAv rcv) = v := ⟨_, rfl⟩; have Y4 := hid (show w4.heap[w3.heap.size]? = some (.cells (M24 u2 PAv pcv UAv ucv LAv lcv IAv icv MAv mcv RAv rcv).toArray 50 (0, 0)) by rw [← hwb]; exact box_into hx_ 0 _ (over_24 _ _ _ _ _ _ _ _ _ _ _ _ _ _ _ _ _ _ _ _ _ _ _ _ _ _ _ _ _ _ _ _ _ _ _ _ _ _ _ _ _ _ _ _ _ _ _ _))
   have hb4 : Below w3.heap.size w3 w4 := by rw [← hwb]; exact below_cells (Nat.le_refl _) _ 0 hba_
   have THx := hid (show wa3.there w3.heap.size 0 24 from box_there hx_ 0 24 (by decide)); have ONEx := hid (show ((M24 u2 PAv pcv UAv ucv LAv lcv IAv icv MAv mcv RAv rcv).toArray : Array Value).all (·.oneCell') = true by simp [Value.oneCell'])
   have HVx := hid hwb
   have HWx := hid hwa
   have B4 := hid (B3.out.trans (hb4.mono B3.out.size)); clear hwb hx_ hwa hba_; have HIN4 := hid (HIN3.out.below hb4); have HINB4 := hid (HINB.out.below hb4); have X4 := hid ((hb4.block w1.heap.size (lt_of_block X3.out)).trans X3.out); have RGx := hid (range_at X4.out 0 (M24 u2 PAu pcu UAu ucu LAu lcu IAu icu MAu mcu RAu rcu) rfl); have RGy := hid (range_at Y4.out 0 (M24 u2 PAv pcv UAv ucv LAv lcv IAv icv MAv mcv RAv rcv) rfl); clear hb4 HIN3 HINB X3
   go_wp2_with (first | (refine wpList_load_mid rfl 50 _ rfl _ _ rfl _ _ RGx.out Tryz.underlying50 rfl (by kernel_rfl) ?_) | (refine wpList_load_mid rfl 50 _ rfl _ _ rfl _ _ RGy.out Tryz.underlying50 rfl (by kernel_rfl) ?_) | (refine wpList_store_to rfl 50 _ _ rfl _ _ _ rfl rfl ?th3 (by kernel_rfl) ?one3 (v := w4) ?hv3 ?_))
   case th3 => rw [HWx.out]; exact THx.out
   case one3 => exact ONEx.out
   case hv3 => rw [HWx.out]; exact HVx.out
   clear THx ONEx HVx HWx
   refine (sameMsg_any u2 u2 PAu pcu UAu ucu LAu lcu IAu icu MAu mcu RAu rcu PAv pcv UAv ucv LAv lcv IAv icv MAv mcv RAv rcv w4 HIN4.out HINB4.out).mono ?_
   rw [(sameMB_iff u2 u2).2 rfl]; rintro e w5 ⟨rfl, hb5⟩; have B5 := hid (B4.out.trans (hb5.mono B4.out.size)); clear hb5 RGx RGy X4 Y4; go_wp2_with fail
   refine (works_any w5 (HL.out.below B5.out)).mono ?_
   rintro e wz ⟨rfl, hbz⟩; have HZZ := hid (show Below w.heap.size w wz from B5.out.trans (hbz.mono B5.out.size)); clear hbz; go_wp2
   go_ret
   exact ⟨rfl, HZZ.out⟩
end Go.Proofs.YtljbpelogjmciaaGreatDoor.TellReadsWalk
