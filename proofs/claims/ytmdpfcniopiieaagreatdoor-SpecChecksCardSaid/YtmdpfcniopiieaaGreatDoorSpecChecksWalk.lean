/-
  The walk of the law SpecChecks: it returns true, and leaves all that was there as it was. Condition: as SpecStep.
-/
import Derived.Test.YtmdpfcniopiieaaGreatDoorSpecWorks
namespace Go.Proofs.YtmdpfcniopiieaaGreatDoor.SpecChecksWalk
open Go.ChangeShapes Go.WideShapes Go.ChangeAt Go.RowKit Go.Lib
open Sd Lists SpecRef SpecOwn Book

set_option maxRecDepth 100000 in
set_option maxHeartbeats 4000000 in
theorem walk (S : Spc) (LA : Option Addr) (lc : Nat) (IA : Option Addr) (ic : Nat) (MA : Option Addr) (mc : Nat) (w : World) (hL : SLaid w) (h : S.In w LA lc IA ic MA mc) :
    Calls Tryz.prog 3 #[.agg #[.string S.name, .slice LA S.labels.length lc, .slice IA S.init.length ic, .slice MA S.main.length mc, .int .i64 S.restart, .int .i64 S.grace, .int .i64 S.prio]] w fun e w' => e = .returned (.bool true) ∧ Below w.heap.size w w' := by
  have HL := Lib.hid hL
  have H := Lib.hid h
  clear hL h
  go_enter Tryz.func3, Tryz.ntmps3
  go_wp2_with fail
  obtain ⟨w1, hw1⟩ : ∃ w1, w.alloc (.cells #[.string S.name, .slice LA S.labels.length lc, .slice IA S.init.length ic, .slice MA S.main.length mc, .int .i64 S.restart, .int .i64 S.grace, .int .i64 S.prio] 25) = w1 := ⟨_, rfl⟩
  have B1 := Lib.hid (show Below w.heap.size w w1 by rw [← hw1]; exact (Below.refl _ _).alloc (Nat.le_refl _) _)
  have SB1 := Lib.hid (show SBox S LA lc IA ic MA mc w1 w.heap.size by rw [← hw1]; exact heap_alloc_new w _)
  rw [hw1]
  obtain ⟨b, hb⟩ : ∃ b, w.heap.size = b := ⟨_, rfl⟩
  rw [hb] at SB1 ⊢
  clear hw1 hb
  refine (light_any S LA lc IA ic MA mc w1 (H.out.below B1.out)).mono ?_
  rintro e w2 ⟨rfl, hb2⟩
  have B2 := Lib.hid (B1.out.trans (hb2.mono B1.out.size))
  have SB2 := Lib.hid (SB1.out.below hb2)
  clear hb2
  cases hlt : LightB S with
  | false =>
    go_wp2_with fail
    refine (works_any w2 (HL.out.below B2.out)).mono ?_
    rintro e w3 ⟨rfl, hb3⟩
    go_wp2
    go_ret
    exact ⟨rfl, B2.out.trans (hb3.mono B2.out.size)⟩
  | true =>
    have HLT := Lib.hid (LightB_iff.1 hlt)
    clear hlt
    obtain ⟨c0, c1, c2, c3, c4, c5, c6⟩ := SB2.out.cells
    go_wp2_with fail
    refine (check_any S LA lc IA ic MA mc HLT.out w2 (HL.out.below B2.out) (H.out.below B2.out)).mono ?_
    rintro e w3 ⟨E, rfl, hE, hb3⟩
    have B3 := Lib.hid (B2.out.trans (hb3.mono B2.out.size))
    have SB3 := Lib.hid (SB2.out.below hb3)
    have E3 := Lib.hid hE
    have hform := hE.form
    have hnil := hE.nil_iff
    clear hE hb3 c0 c1 c2 c3 c4 c5 c6
    obtain ⟨c0, c1, c2, c3, c4, c5, c6⟩ := SB3.out.cells
    go_wp2_with fail
    refine (check_ref S LA lc IA ic MA mc HLT.out w3 (H.out.below B3.out)).mono ?_
    rintro e w4 ⟨rfl, hb4⟩
    have B4 := Lib.hid (B3.out.trans (hb4.mono B3.out.size))
    have E4 := Lib.hid (E3.out.below hb4)
    obtain ⟨y, hy⟩ : ∃ y, checkV S = y := ⟨_, rfl⟩
    rw [hy] at E4 hnil ⊢
    clear hb4 hy c0 c1 c2 c3 c4 c5 c6
    have hcode : ∀ wx, Below w4.heap.size w4 wx → Calls Tryz.prog 12 #[E] wx _ := fun wx hbx => code_says (E4.out.below hbx) (HL.out.below (B4.out.trans (hbx.mono B4.out.size))).err
    have HCODE := Lib.hid hcode
    clear hcode
    rcases hform with rfl | ⟨uu, xx, rfl⟩
    · have hz : (y.1 == 0) = true := by simpa using hnil.1 rfl
      clear hnil
      go_wp2_with fail
      refine (HCODE.out w4 (Below.refl _ _)).mono ?_
      rintro e w5 ⟨rfl, hb5⟩
      have B5 := Lib.hid (B4.out.trans (hb5.mono B4.out.size))
      have E5 := Lib.hid (E4.out.below hb5)
      clear hb5
      go_wp2_with fail
      refine (text_says E5.out).mono ?_
      rintro e w6 ⟨rfl, hb6⟩
      have B6 := Lib.hid (B5.out.trans (hb6.mono B5.out.size))
      clear hb6
      go_wp2_with fail
      refine (works_any w6 (HL.out.below B6.out)).mono ?_
      rintro e w7 ⟨rfl, hb7⟩
      go_wp2
      go_ret
      exact ⟨rfl, B6.out.trans (hb7.mono B6.out.size)⟩
    · have hz : (y.1 == 0) = false := by
        have : ¬ y.1 = 0 := fun h => by have := hnil.2 h; cases this
        simpa using this
      clear hnil
      go_wp2_with fail
      refine (HCODE.out w4 (Below.refl _ _)).mono ?_
      rintro e w5 ⟨rfl, hb5⟩
      have B5 := Lib.hid (B4.out.trans (hb5.mono B4.out.size))
      have E5 := Lib.hid (E4.out.below hb5)
      clear hb5
      go_wp2_with fail
      refine (text_says E5.out).mono ?_
      rintro e w6 ⟨rfl, hb6⟩
      have B6 := Lib.hid (B5.out.trans (hb6.mono B5.out.size))
      clear hb6
      go_wp2_with fail
      refine (works_any w6 (HL.out.below B6.out)).mono ?_
      rintro e w7 ⟨rfl, hb7⟩
      go_wp2
      go_ret
      exact ⟨rfl, B6.out.trans (hb7.mono B6.out.size)⟩
end Go.Proofs.YtmdpfcniopiieaaGreatDoor.SpecChecksWalk
