/-
 The example of chapter 9 holds (provostlaw09.works). Condition: the listed variables hold what the program's text lays (Laid).
-/
import Derived.Test.YtalnncgomlibbaaGreatDoorTellLine2
import Derived.Test.YtalnncgomlibbaaGreatDoorTellOf
import Derived.Test.YtalnncgomlibbaaGreatDoorTellBytes
set_option linter.unusedVariables false
set_option linter.unusedSimpArgs false
namespace Go.Proofs.YtalnncgomlibbaaGreatDoor
open Go.ChangeShapes Go.WideShapes Go.ChangeAt Go.RowKit Go.Lib
open LebMath WirePure Sd Wire SpecOwn SpecRef Book Pk
namespace Tl
def M0 : Mg := ⟨1, 3, ⟨6, 0, 0, 0, ⟨#[]⟩, [], []⟩, zeroE⟩
theorem m0_fine : msgB M0 = true := by decide +kernel
theorem m0_put : msgC.put M0 = [1, 3, 6, 0, 0, 0, 0, 0, 0] := by decide +kernel
theorem m0_line : lineM M0 = [114, 101, 112, 108, 121, 32, 51, 32, 54] := by decide +kernel
theorem m0_revs : revsM M0 := by unfold revsM; simp [M0, zeroE, zeroP, revsR]
theorem m0_light : LightM M0 := msg_light (msg_ok m0_fine m0_revs)
theorem zm_light : LightM zeroM := ⟨⟨by decide, by decide, by decide, fun p hp => by cases hp⟩, m0_light.pod⟩
theorem zm_not : msgB zeroM = false := by decide +kernel
theorem m0_up (B : Nat) (w : World) : MgUp B M0 w none none none none none none := ⟨⟨PodsUp.nil _ _ _, UsesUp.nil _ _ _, by decide, by decide, by decide⟩, pod_zero _ _, by decide⟩
theorem m0_fit : FitM M0 := ⟨by decide, ⟨by decide, by decide, by decide, by decide, by decide, by decide, by decide⟩, by decide, by decide⟩
theorem bytes_0 (w : World) (hL : SLaid w) : Calls Tryz.prog 26 #[.agg #[.int .i64 1, .int .i64 3, .int .i64 6, .int .i64 0, .int .i64 0, .int .u64 0, .string ⟨#[]⟩, .slice none 0 0, .slice none 0 0, .int .i64 0, .int .u64 0, .int .i64 0, .int .u64 0, .string ⟨#[]⟩, .slice none 0 0, .slice none 0 0, .slice none 0 0, .int .i64 0, .int .i64 0, .int .i64 0, .int .i64 0, .slice none 0 0, .int .i64 0, .int .i64 0]] w fun e w' => e = .returned (.tuple #[.string ⟨#[1, 3, 6, 0, 0, 0, 0, 0, 0]⟩, .int .i64 0]) ∧ Below w.heap.size w w' := by
 refine (bytes_any M0 none 0 none 0 none 0 none 0 none 0 none 0 w m0_light hL (m0_up 0 w).in).mono ?_
 rintro e w' ⟨hb, ⟨_, rfl⟩ | ⟨hno, _⟩⟩
 · exact ⟨by rw [m0_put], hb⟩
 · rw [m0_fine] at hno; cases hno
theorem of_m0 (w : World) (hL : SLaid w) : Calls Tryz.prog 30 #[.string ⟨#[1, 3, 6, 0, 0, 0, 0, 0, 0]⟩] w fun e w' => ∃ (PA : Option Addr) (pc : Nat) (UA : Option Addr) (uc : Nat) (LA : Option Addr) (lc : Nat) (IA : Option Addr) (ic : Nat) (MA : Option Addr) (mc : Nat) (RA : Option Addr) (rc : Nat),
 e = .returned (.tuple #[.agg #[.int .i64 1, .int .i64 3, .int .i64 6, .int .i64 0, .int .i64 0, .int .u64 0, .string ⟨#[]⟩, .slice PA 0 pc, .slice UA 0 uc, .int .i64 0, .int .u64 0, .int .i64 0, .int .u64 0, .string ⟨#[]⟩, .slice LA 0 lc, .slice IA 0 ic, .slice MA 0 mc, .int .i64 0, .int .i64 0, .int .i64 0, .int .i64 0, .slice RA 0 rc, .int .i64 0, .int .i64 0], .int .i64 0]) ∧ Below w.heap.size w w' := by
 have h1 : (⟨#[1, 3, 6, 0, 0, 0, 0, 0, 0]⟩ : ByteArray).data.toList = msgC.put M0 := by rw [m0_put]
 have h2 := ofM_back m0_fine m0_revs
 refine (of_any ⟨#[1, 3, 6, 0, 0, 0, 0, 0, 0]⟩ (by rw [h1, m0_put]; show (9 : Nat) ≤ 281474976710656; decide) w hL).mono ?_
 rintro e w' ⟨m, PA, pc, UA, uc, LA, lc, IA, ic, MA, mc, RA, rc, rfl, h3, _, _, hb⟩
 rw [h1] at h3
 have h4 := h3 h2.2
 rw [h2.1] at h4
 subst h4
 refine ⟨PA, pc, UA, uc, LA, lc, IA, ic, MA, mc, RA, rc, ?_, hb⟩
 rw [h1, h2.2]
 rfl
theorem line_0 (w : World) (hL : Laid w) : Calls Tryz.prog 27 #[.agg #[.int .i64 1, .int .i64 3, .int .i64 6, .int .i64 0, .int .i64 0, .int .u64 0, .string ⟨#[]⟩, .slice none 0 0, .slice none 0 0, .int .i64 0, .int .u64 0, .int .i64 0, .int .u64 0, .string ⟨#[]⟩, .slice none 0 0, .slice none 0 0, .slice none 0 0, .int .i64 0, .int .i64 0, .int .i64 0, .int .i64 0, .slice none 0 0, .int .i64 0, .int .i64 0]] w fun e w' => e = .returned (.string ⟨#[114, 101, 112, 108, 121, 32, 51, 32, 54]⟩) ∧ Below w.heap.size w w' := by
 refine (line_any M0 m0_fit none 0 none 0 none 0 none 0 none 0 none 0 w hL).mono ?_
 rintro e w' ⟨rfl, hb⟩
 exact ⟨by rw [m0_line], hb⟩
theorem check_0 (w : World) (hL : SLaid w) : Calls Tryz.prog 24 #[.agg #[.int .i64 0, .int .i64 0, .int .i64 0, .int .i64 0, .int .i64 0, .int .u64 0, .string ⟨#[]⟩, .slice none 0 0, .slice none 0 0, .int .i64 0, .int .u64 0, .int .i64 0, .int .u64 0, .string ⟨#[]⟩, .slice none 0 0, .slice none 0 0, .slice none 0 0, .int .i64 0, .int .i64 0, .int .i64 0, .int .i64 0, .slice none 0 0, .int .i64 0, .int .i64 0]] w fun e w' => e = .returned (.int .i64 4) ∧ Below w.heap.size w w' := by
 refine (check_code zeroM none 0 none 0 none 0 none 0 none 0 none 0 w zm_light hL (mg_zero 0 w).in).mono ?_
 rintro e w' ⟨rfl, hb⟩
 exact ⟨by rw [zm_not]; rfl, hb⟩
set_option maxRecDepth 100000 in
set_option maxHeartbeats 4000000 in
theorem works_any (w : World) (hL : Laid w) :
 Calls Tryz.prog 17 #[] w fun e w' => e = .returned (.bool true) ∧ Below w.heap.size w w' := by
 have HL := Lib.hid hL
 clear hL
 have hx_ := heap_alloc_new w (.cells #[.int .i64 0, .int .i64 0, .int .i64 0, .int .i64 0, .int .i64 0, .int .u64 0, .string ⟨#[]⟩, .slice none 0 0, .slice none 0 0, .int .i64 0, .int .u64 0, .int .i64 0, .int .u64 0, .string ⟨#[]⟩, .slice none 0 0, .slice none 0 0, .slice none 0 0, .int .i64 0, .int .i64 0, .int .i64 0, .int .i64 0, .slice none 0 0, .int .i64 0, .int .i64 0] 50)
 obtain ⟨wa, hwa⟩ : ∃ v, w.alloc (.cells #[.int .i64 0, .int .i64 0, .int .i64 0, .int .i64 0, .int .i64 0, .int .u64 0, .string ⟨#[]⟩, .slice none 0 0, .slice none 0 0, .int .i64 0, .int .u64 0, .int .i64 0, .int .u64 0, .string ⟨#[]⟩, .slice none 0 0, .slice none 0 0, .slice none 0 0, .int .i64 0, .int .i64 0, .int .i64 0, .int .i64 0, .slice none 0 0, .int .i64 0, .int .i64 0] 50) = v := ⟨_, rfl⟩
 rw [hwa] at hx_
 have hba_ : Below w.heap.size w wa := by rw [← hwa]; exact (Below.refl _ _).alloc (Nat.le_refl _) _
 obtain ⟨w2, hw2⟩ : ∃ v, wa.setCells w.heap.size 0 [.int .i64 1, .int .i64 3, .int .i64 6, .int .i64 0, .int .i64 0, .int .u64 0, .string ⟨#[]⟩, .slice none 0 0, .slice none 0 0, .int .i64 0, .int .u64 0, .int .i64 0, .int .u64 0, .string ⟨#[]⟩, .slice none 0 0, .slice none 0 0, .slice none 0 0, .int .i64 0, .int .i64 0, .int .i64 0, .int .i64 0, .slice none 0 0, .int .i64 0, .int .i64 0] = v := ⟨_, rfl⟩
 have X2 := Lib.hid (show w2.heap[w.heap.size]? = some (.cells #[.int .i64 1, .int .i64 3, .int .i64 6, .int .i64 0, .int .i64 0, .int .u64 0, .string ⟨#[]⟩, .slice none 0 0, .slice none 0 0, .int .i64 0, .int .u64 0, .int .i64 0, .int .u64 0, .string ⟨#[]⟩, .slice none 0 0, .slice none 0 0, .slice none 0 0, .int .i64 0, .int .i64 0, .int .i64 0, .int .i64 0, .slice none 0 0, .int .i64 0, .int .i64 0] 50 (0, 0)) by rw [← hw2]; exact box_into hx_ 0 _ (over_24 _ _ _ _ _ _ _ _ _ _ _ _ _ _ _ _ _ _ _ _ _ _ _ _ _ _ _ _ _ _ _ _ _ _ _ _ _ _ _ _ _ _ _ _ _ _ _ _))
 have hb_ : Below w.heap.size w w2 := by rw [← hw2]; exact below_cells (Nat.le_refl _) _ 0 hba_
 have THw2 := Lib.hid (show wa.there w.heap.size 0 24 from box_there hx_ 0 24 (by decide))
 have ONEw2 := Lib.hid (show (#[.int .i64 1, .int .i64 3, .int .i64 6, .int .i64 0, .int .i64 0, .int .u64 0, .string ⟨#[]⟩, .slice none 0 0, .slice none 0 0, .int .i64 0, .int .u64 0, .int .i64 0, .int .u64 0, .string ⟨#[]⟩, .slice none 0 0, .slice none 0 0, .slice none 0 0, .int .i64 0, .int .i64 0, .int .i64 0, .int .i64 0, .slice none 0 0, .int .i64 0, .int .i64 0] : Array Value).all (·.oneCell') = true by simp [Value.oneCell'])
 have HVw2 := Lib.hid hw2
 have HWw2 := Lib.hid hwa
 clear hw2 hx_ hwa hba_
 have B2 := Lib.hid hb_
 clear hb_
 have HLT := Lib.hid (HL.out.below B2.out)
 go_enter Tryz.func17, Tryz.ntmps17
 have RG := Lib.hid (range_at X2.out 0 [.int .i64 1, .int .i64 3, .int .i64 6, .int .i64 0, .int .i64 0, .int .u64 0, .string ⟨#[]⟩, .slice none 0 0, .slice none 0 0, .int .i64 0, .int .u64 0, .int .i64 0, .int .u64 0, .string ⟨#[]⟩, .slice none 0 0, .slice none 0 0, .slice none 0 0, .int .i64 0, .int .i64 0, .int .i64 0, .int .i64 0, .slice none 0 0, .int .i64 0, .int .i64 0] rfl)
 go_wp2_with (first | (refine wpList_load_mid rfl _ _ rfl _ _ rfl _ _ RG.out Tryz.underlying50 rfl (by kernel_rfl) ?_) | (refine wpList_store_to rfl _ _ _ rfl _ _ _ rfl rfl ?th (by kernel_rfl) ?one (v := w2) ?hv ?_))
 case th => rw [HWw2.out]; exact THw2.out
 case one => exact ONEw2.out
 case hv => rw [HWw2.out]; exact HVw2.out
 clear THw2 ONEw2 HVw2 HWw2
 refine (bytes_0 w2 HLT.out.spec).mono ?_
 rintro e w3 ⟨rfl, hb3⟩
 have X3 := Lib.hid ((hb3.block w.heap.size (lt_of_block X2.out)).trans X2.out)
 have B3 := Lib.hid (B2.out.trans (hb3.mono B2.out.size))
 clear hb3 RG HLT X2
 go_wp2_with fail
 refine (of_m0 w3 (HL.out.below B3.out).spec).mono ?_
 rintro e w4 ⟨PA, pc, UA, uc, LA, lc, IA, ic, MA, mc, RA, rc, rfl, hb4⟩
 have X4 := Lib.hid ((hb4.block w.heap.size (lt_of_block X3.out)).trans X3.out)
 have B4 := Lib.hid (B3.out.trans (hb4.mono B3.out.size))
 clear hb4 X3
 have hx_ := heap_alloc_new w4 (.cells #[.int .i64 0, .int .i64 0, .int .i64 0, .int .i64 0, .int .i64 0, .int .u64 0, .string ⟨#[]⟩, .slice none 0 0, .slice none 0 0, .int .i64 0, .int .u64 0, .int .i64 0, .int .u64 0, .string ⟨#[]⟩, .slice none 0 0, .slice none 0 0, .slice none 0 0, .int .i64 0, .int .i64 0, .int .i64 0, .int .i64 0, .slice none 0 0, .int .i64 0, .int .i64 0] 50)
 obtain ⟨wc, hwc⟩ : ∃ v, w4.alloc (.cells #[.int .i64 0, .int .i64 0, .int .i64 0, .int .i64 0, .int .i64 0, .int .u64 0, .string ⟨#[]⟩, .slice none 0 0, .slice none 0 0, .int .i64 0, .int .u64 0, .int .i64 0, .int .u64 0, .string ⟨#[]⟩, .slice none 0 0, .slice none 0 0, .slice none 0 0, .int .i64 0, .int .i64 0, .int .i64 0, .int .i64 0, .slice none 0 0, .int .i64 0, .int .i64 0] 50) = v := ⟨_, rfl⟩
 rw [hwc] at hx_
 have hba_ : Below w4.heap.size w4 wc := by rw [← hwc]; exact (Below.refl _ _).alloc (Nat.le_refl _) _
 obtain ⟨w5, hw5⟩ : ∃ v, wc.setCells w4.heap.size 0 [.int .i64 1, .int .i64 3, .int .i64 6, .int .i64 0, .int .i64 0, .int .u64 0, .string ⟨#[]⟩, .slice PA 0 pc, .slice UA 0 uc, .int .i64 0, .int .u64 0, .int .i64 0, .int .u64 0, .string ⟨#[]⟩, .slice LA 0 lc, .slice IA 0 ic, .slice MA 0 mc, .int .i64 0, .int .i64 0, .int .i64 0, .int .i64 0, .slice RA 0 rc, .int .i64 0, .int .i64 0] = v := ⟨_, rfl⟩
 have Y5 := Lib.hid (show w5.heap[w4.heap.size]? = some (.cells #[.int .i64 1, .int .i64 3, .int .i64 6, .int .i64 0, .int .i64 0, .int .u64 0, .string ⟨#[]⟩, .slice PA 0 pc, .slice UA 0 uc, .int .i64 0, .int .u64 0, .int .i64 0, .int .u64 0, .string ⟨#[]⟩, .slice LA 0 lc, .slice IA 0 ic, .slice MA 0 mc, .int .i64 0, .int .i64 0, .int .i64 0, .int .i64 0, .slice RA 0 rc, .int .i64 0, .int .i64 0] 50 (0, 0)) by rw [← hw5]; exact box_into hx_ 0 _ (over_24 _ _ _ _ _ _ _ _ _ _ _ _ _ _ _ _ _ _ _ _ _ _ _ _ _ _ _ _ _ _ _ _ _ _ _ _ _ _ _ _ _ _ _ _ _ _ _ _))
 have hb_ : Below w4.heap.size w4 w5 := by rw [← hw5]; exact below_cells (Nat.le_refl _) _ 0 hba_
 have THw5 := Lib.hid (show wc.there w4.heap.size 0 24 from box_there hx_ 0 24 (by decide))
 have ONEw5 := Lib.hid (show (#[.int .i64 1, .int .i64 3, .int .i64 6, .int .i64 0, .int .i64 0, .int .u64 0, .string ⟨#[]⟩, .slice PA 0 pc, .slice UA 0 uc, .int .i64 0, .int .u64 0, .int .i64 0, .int .u64 0, .string ⟨#[]⟩, .slice LA 0 lc, .slice IA 0 ic, .slice MA 0 mc, .int .i64 0, .int .i64 0, .int .i64 0, .int .i64 0, .slice RA 0 rc, .int .i64 0, .int .i64 0] : Array Value).all (·.oneCell') = true by simp [Value.oneCell'])
 have HVw5 := Lib.hid hw5
 have HWw5 := Lib.hid hwc
 clear hw5 hx_ hwc hba_
 have B5 := Lib.hid (B4.out.trans (hb_.mono B4.out.size))
 have X5 := Lib.hid ((hb_.block w.heap.size (lt_of_block X4.out)).trans X4.out)
 clear hb_ X4
 have RG := Lib.hid (range_at X5.out 0 [.int .i64 1, .int .i64 3, .int .i64 6, .int .i64 0, .int .i64 0, .int .u64 0, .string ⟨#[]⟩, .slice none 0 0, .slice none 0 0, .int .i64 0, .int .u64 0, .int .i64 0, .int .u64 0, .string ⟨#[]⟩, .slice none 0 0, .slice none 0 0, .slice none 0 0, .int .i64 0, .int .i64 0, .int .i64 0, .int .i64 0, .slice none 0 0, .int .i64 0, .int .i64 0] rfl)
 go_wp2_with (first | (refine wpList_load_mid rfl _ _ rfl _ _ rfl _ _ RG.out Tryz.underlying50 rfl (by kernel_rfl) ?_) | (refine wpList_store_to rfl _ _ _ rfl _ _ _ rfl rfl ?th (by kernel_rfl) ?one (v := w5) ?hv ?_))
 case th => rw [HWw5.out]; exact THw5.out
 case one => exact ONEw5.out
 case hv => rw [HWw5.out]; exact HVw5.out
 clear THw5 ONEw5 HVw5 HWw5
 refine (line_0 w5 (HL.out.below B5.out)).mono ?_
 rintro e w6 ⟨rfl, hb6⟩
 have Y6 := Lib.hid ((hb6.block w4.heap.size (lt_of_block Y5.out)).trans Y5.out)
 have B6 := Lib.hid (B5.out.trans (hb6.mono B5.out.size))
 clear hb6 RG X5 Y5
 have hc_ := box_cell Y6.out 1 rfl
 go_wp2_with fail
 refine (check_0 w6 (HL.out.below B6.out).spec).mono ?_
 rintro e w7 ⟨rfl, hb7⟩
 go_wp2_with fail
 go_ret
 exact ⟨rfl, B6.out.trans (hb7.mono B6.out.size)⟩

end Tl
end Go.Proofs.YtalnncgomlibbaaGreatDoor
