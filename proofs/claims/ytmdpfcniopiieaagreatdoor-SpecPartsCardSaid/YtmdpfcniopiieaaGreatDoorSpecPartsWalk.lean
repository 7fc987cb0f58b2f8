/-
  The walk of the law SpecParts: it returns true, and leaves all that was there as it was. Conditions: as SpecStep; the lists have room for their members.
-/
import Derived.Test.YtmdpfcniopiieaaGreatDoorSpecWorks
import Derived.Test.YtmdpfcniopiieaaGreatDoorSpecPartsPure
import Derived.RegionTactic
import Derived.ChangeAlike
import Derived.BigRegion
namespace Go.Proofs.YtmdpfcniopiieaaGreatDoor.SpecPartsWalk
open Go.ChangeShapes Go.WideShapes Go.ChangeAt Go.RowKit Go.Lib
open Sd Lists SpecRef SpecOwn Book

theorem cutL_len (S : Spc) : (cutL S).labels.length = S.labels.length - 1 := by show (S.labels.take _).length = _; rw [List.length_take]; omega
theorem cutI_len (S : Spc) : (cutI S).init.length = S.init.length - 1 := by show (S.init.take _).length = _; rw [List.length_take]; omega
theorem cutM_len (S : Spc) : (cutM S).main.length = S.main.length - 1 := by show (S.main.take _).length = _; rw [List.length_take]; omega
theorem take_get {α : Type} {l : List α} {n k : Nat} {x : α} (h : (l.take n)[k]? = some x) : l[k]? = some x := by
  rw [List.getElem?_take] at h
  split at h
  · exact h
  · cases h
theorem cutL_light {S : Spc} (h : Light S) : Light (cutL S) :=
  ⟨⟨h.1.1, by rw [cutL_len]; have := h.1.2.1; omega, h.1.2.2⟩, fun x hx => h.2.1 x (List.mem_of_mem_take hx), h.2.2⟩
theorem cutI_light {S : Spc} (h : Light S) : Light (cutI S) :=
  ⟨⟨h.1.1, h.1.2.1, by rw [cutI_len]; have := h.1.2.2.1; omega, h.1.2.2.2⟩, h.2.1, fun x hx => h.2.2.1 x (List.mem_of_mem_take hx), h.2.2.2⟩
theorem cutM_light {S : Spc} (h : Light S) : Light (cutM S) :=
  ⟨⟨h.1.1, h.1.2.1, h.1.2.2.1, by rw [cutM_len]; have := h.1.2.2.2; omega⟩, h.2.1, h.2.2.1, fun x hx => h.2.2.2 x (List.mem_of_mem_take hx)⟩
section
variable {S : Spc} {w : World} {LA : Option Addr} {lc : Nat} {IA : Option Addr} {ic : Nat} {MA : Option Addr} {mc : Nat}
theorem cutL_in (h : S.In w LA lc IA ic MA mc) : (cutL S).In w LA lc IA ic MA mc :=
  ⟨fun k x hk => h.labels k x (take_get hk), h.init, h.main, by rw [cutL_len]; have := h.nl; omega, h.ni, h.nm, h.restart, h.grace, h.prio⟩
theorem cutI_in (h : S.In w LA lc IA ic MA mc) : (cutI S).In w LA lc IA ic MA mc :=
  ⟨h.labels, fun k x hk => h.init k x (take_get hk), h.main, h.nl, by rw [cutI_len]; have := h.ni; omega, h.nm, h.restart, h.grace, h.prio⟩
theorem cutM_in (h : S.In w LA lc IA ic MA mc) : (cutM S).In w LA lc IA ic MA mc :=
  ⟨h.labels, h.init, fun k x hk => h.main k x (take_get hk), h.nl, h.ni, by rw [cutM_len]; have := h.nm; omega, h.restart, h.grace, h.prio⟩
end

/-- three copies of a spec, in boxes of their own -/
structure Three (S : Spc) (LA : Option Addr) (lc : Nat) (IA : Option Addr) (ic : Nat) (MA : Option Addr) (mc : Nat) (w4 w5 : World) (g3 g4 g5 : Nat) : Prop where
  below : Below w4.heap.size w4 w5
  s3 : SBox S LA lc IA ic MA mc w5 g3
  s4 : SBox S LA lc IA ic MA mc w5 g4
  s5 : SBox S LA lc IA ic MA mc w5 g5
  n34 : g3 ≠ g4
  n35 : g3 ≠ g5
  n45 : g4 ≠ g5
  l3 : w4.heap.size ≤ g3
  l4 : w4.heap.size ≤ g4
  l5 : w4.heap.size ≤ g5
section
variable {S : Spc} {w4 w5 : World} {LA : Option Addr} {lc : Nat} {IA : Option Addr} {ic : Nat} {MA : Option Addr} {mc a b c : Nat}
theorem Three.p132 (h : Three S LA lc IA ic MA mc w4 w5 a b c) : Three S LA lc IA ic MA mc w4 w5 a c b := ⟨h.below, h.s3, h.s5, h.s4, h.n35, h.n34, h.n45.symm, h.l3, h.l5, h.l4⟩
theorem Three.p213 (h : Three S LA lc IA ic MA mc w4 w5 a b c) : Three S LA lc IA ic MA mc w4 w5 b a c := ⟨h.below, h.s4, h.s3, h.s5, h.n34.symm, h.n45, h.n35, h.l4, h.l3, h.l5⟩
theorem Three.p231 (h : Three S LA lc IA ic MA mc w4 w5 a b c) : Three S LA lc IA ic MA mc w4 w5 b c a := h.p213.p132
theorem Three.p312 (h : Three S LA lc IA ic MA mc w4 w5 a b c) : Three S LA lc IA ic MA mc w4 w5 c a b := h.p132.p213
theorem Three.p321 (h : Three S LA lc IA ic MA mc w4 w5 a b c) : Three S LA lc IA ic MA mc w4 w5 c b a := h.p231.p213
end
theorem three_in (S : Spc) (LA : Option Addr) (lc : Nat) (IA : Option Addr) (ic : Nat) (MA : Option Addr) (mc : Nat) (w : World) :
    Three S LA lc IA ic MA mc w (((w.alloc (.cells #[.string S.name, .slice LA S.labels.length lc, .slice IA S.init.length ic, .slice MA S.main.length mc, .int .i64 S.restart, .int .i64 S.grace, .int .i64 S.prio] 25)).alloc (.cells #[.string S.name, .slice LA S.labels.length lc, .slice IA S.init.length ic, .slice MA S.main.length mc, .int .i64 S.restart, .int .i64 S.grace, .int .i64 S.prio] 25)).alloc
      (.cells #[.string S.name, .slice LA S.labels.length lc, .slice IA S.init.length ic, .slice MA S.main.length mc, .int .i64 S.restart, .int .i64 S.grace, .int .i64 S.prio] 25)).drew w.heap.size (w.heap.size + 1) (w.heap.size + 1 + 1) := by
  refine ⟨((((Below.refl _ _).alloc (Nat.le_refl _) _).alloc (by simp) _).alloc (by simp; omega) _).drew, ?_, ?_, ?_, by omega, by omega, by omega, by omega, by omega, by omega⟩
  · show (((w.alloc _).alloc _).alloc _).heap[w.heap.size]? = _
    rw [Below.heap_alloc _ _ _ (by simp; omega), Below.heap_alloc _ _ _ (by simp)]
    exact heap_alloc_new _ _
  · exact heap_one w _ _ _
  · exact heap_two w _ _ _
theorem sub_one {n : Nat} (h : 0 < n) (h2 : n ≤ 9223372036854775807) : IntKind.i64.wrap ((n : Int) - 1) = (n : Int) - 1 := IntWalk.i64_in _ (by omega)

set_option maxRecDepth 100000 in
set_option maxHeartbeats 4000000 in
theorem walk (S : Spc) (LA : Option Addr) (lc : Nat) (IA : Option Addr) (ic : Nat) (MA : Option Addr) (mc : Nat) (hcL : S.labels.length ≤ lc ∧ lc ≤ 9223372036854775807) (hcI : S.init.length ≤ ic ∧ ic ≤ 9223372036854775807) (hcM : S.main.length ≤ mc ∧ mc ≤ 9223372036854775807)
    (w : World) (hL : SLaid w) (h : S.In w LA lc IA ic MA mc) :
    Calls Tryz.prog 7 #[.agg #[.string S.name, .slice LA S.labels.length lc, .slice IA S.init.length ic, .slice MA S.main.length mc, .int .i64 S.restart, .int .i64 S.grace, .int .i64 S.prio]] w fun e w' => e = .returned (.bool true) ∧ Below w.heap.size w w' := by
  have HL := Lib.hid hL
  have H := Lib.hid h
  clear hL h
  go_enter Tryz.func7, Tryz.ntmps7
  go_wp2_with fail
  obtain ⟨w1, hw1⟩ : ∃ w1, w.alloc (.cells #[.string S.name, .slice LA S.labels.length lc, .slice IA S.init.length ic, .slice MA S.main.length mc, .int .i64 S.restart, .int .i64 S.grace, .int .i64 S.prio] 25) = w1 := ⟨_, rfl⟩
  have B1 := Lib.hid (show Below w.heap.size w w1 by rw [← hw1]; exact (Below.refl _ _).alloc (Nat.le_refl _) _)
  have SB1 := Lib.hid (show SBox S LA lc IA ic MA mc w1 w.heap.size by rw [← hw1]; exact heap_alloc_new w _)
  rw [hw1]
  obtain ⟨b, hb⟩ : ∃ b, w.heap.size = b := ⟨_, rfl⟩
  rw [hb] at SB1 ⊢
  clear hw1 hb
  refine (works_any w1 (HL.out.below B1.out)).mono ?_
  rintro e w2 ⟨rfl, hb2⟩
  have B2 := Lib.hid (B1.out.trans (hb2.mono B1.out.size))
  have SB2 := Lib.hid (SB1.out.below hb2)
  clear hb2
  obtain ⟨c0, c1, c2, c3, c4, c5, c6⟩ := SB2.out.cells
  go_wp2_with fail
  refine (light_any S LA lc IA ic MA mc w2 (H.out.below B2.out)).mono ?_
  rintro e w3 ⟨rfl, hb3⟩
  have B3 := Lib.hid (B2.out.trans (hb3.mono B2.out.size))
  have SB3 := Lib.hid (SB2.out.below hb3)
  clear hb3 c0 c1 c2 c3 c4 c5 c6
  cases hlt : LightB S with
  | false =>
    go_wp2
    go_ret
    exact ⟨rfl, B3.out⟩
  | true =>
    have HLT := Lib.hid (LightB_iff.1 hlt)
    clear hlt
    obtain ⟨c0, c1, c2, c3, c4, c5, c6⟩ := SB3.out.cells
    go_wp2_with fail
    refine (check_any S LA lc IA ic MA mc HLT.out w3 (HL.out.below B3.out) (H.out.below B3.out)).mono ?_
    rintro e w4 ⟨E, rfl, hE, hb4⟩
    have B4 := Lib.hid (B3.out.trans (hb4.mono B3.out.size))
    have SB4 := Lib.hid (SB3.out.below hb4)
    have hform := hE.form
    have hnil := hE.nil_iff
    clear hE hb4 c0 c1 c2 c3 c4 c5 c6
    rcases hform with rfl | ⟨uu, xx, rfl⟩
    rotate_left
    · clear hnil
      go_wp2
      go_ret
      exact ⟨rfl, B4.out⟩
    · have HZ := Lib.hid (hnil.1 rfl)
      clear hnil
      obtain ⟨c0, c1, c2, c3, c4, c5, c6⟩ := SB4.out.cells
      have hbl := SB4.out.lt
      have hbn : b ≠ w4.heap.size := by omega
      have hbl1 : b < w4.heap.size + 1 := by omega
      have hbl2 : b < w4.heap.size + 1 + 1 := by omega
      have hbn1 : b ≠ w4.heap.size + 1 := by omega
      have hbn2 : b ≠ w4.heap.size + 1 + 1 := by omega
      go_wp2_with fail
      rename_i K hK
      have key : ∀ (g3 g4 g5 : Nat) (w5 : World), Three S LA lc IA ic MA mc w4 w5 g3 g4 g5 → K { tmps := #[.agg #[.string S.name, .slice LA S.labels.length lc, .slice IA S.init.length ic, .slice MA S.main.length mc, .int .i64 S.restart, .int .i64 S.grace, .int .i64 S.prio], .pointer (some ⟨b, 0, none⟩), .bool false, .pointer (some ⟨g3, 0, none⟩), .pointer (some ⟨g4, 0, none⟩), .pointer (some ⟨g5, 0, none⟩), .bool true, .bool false, .agg #[.string S.name, .slice LA S.labels.length lc, .slice IA S.init.length ic, .slice MA S.main.length mc, .int .i64 S.restart, .int .i64 S.grace, .int .i64 S.prio], .bool true, .bool false, .bool false, .agg #[.string S.name, .slice LA S.labels.length lc, .slice IA S.init.length ic, .slice MA S.main.length mc, .int .i64 S.restart, .int .i64 S.grace, .int .i64 S.prio], .nilIface, .bool false, .bool false, .agg #[.string S.name, .slice LA S.labels.length lc, .slice IA S.init.length ic, .slice MA S.main.length mc, .int .i64 S.restart, .int .i64 S.grace, .int .i64 S.prio], .agg #[.string S.name, .slice LA S.labels.length lc, .slice IA S.init.length ic, .slice MA S.main.length mc, .int .i64 S.restart, .int .i64 S.grace, .int .i64 S.prio], .agg #[.string S.name, .slice LA S.labels.length lc, .slice IA S.init.length ic, .slice MA S.main.length mc, .int .i64 S.restart, .int .i64 S.grace, .int .i64 S.prio], undef, undef, undef, undef, undef, undef, undef, undef, undef, undef, undef, undef, undef, undef, undef, undef, undef, undef, undef, undef, undef, undef, undef, undef, undef, undef, undef, undef, undef, undef, undef, undef, undef, undef, undef, undef, undef, undef, undef, undef, undef, undef, undef, undef, undef, undef, undef, undef, undef], defers := [] } w5 := by
        intro g3 g4 g5 w5 hT
        refine hK _ _ ?_
        have HT := Lib.hid hT
        have n34 := hT.n34
        have n35 := hT.n35
        have n45 := hT.n45
        have n43 := n34.symm
        have n53 := n35.symm
        have n54 := n45.symm
        have nb3 : b ≠ g3 := by have := hT.l3; omega
        have nb4 : b ≠ g4 := by have := hT.l4; omega
        have nb5 : b ≠ g5 := by have := hT.l5; omega
        have B5 := Lib.hid (B4.out.trans (hT.below.mono B4.out.size))
        have SB5 := Lib.hid (SB4.out.below hT.below)
        obtain ⟨a0, a1, a2, a3, a4, a5, a6⟩ := hT.s3.cells
        obtain ⟨d0, d1, d2, d3, d4, d5, d6⟩ := hT.s4.cells
        obtain ⟨e0, e1, e2, e3, e4, e5, e6⟩ := hT.s5.cells
        obtain ⟨c0, c1, c2, c3, c4, c5, c6⟩ := SB5.out.cells
        have fz3 : ∀ k, w5.frozen? ⟨g3, k, none⟩ = false := fun k => by have h := hT.s3; unfold SBox at h; simp [World.frozen?, h]
        have fz4 : ∀ k, w5.frozen? ⟨g4, k, none⟩ = false := fun k => by have h := hT.s4; unfold SBox at h; simp [World.frozen?, h]
        have fz5 : ∀ k, w5.frozen? ⟨g5, k, none⟩ = false := fun k => by have h := hT.s5; unfold SBox at h; simp [World.frozen?, h]
        have hml := (check_ok S).1 HZ.out
        obtain ⟨_, _, _, _, ⟨hm0, _⟩, _, _⟩ := hml
        clear hT hbl hbn hbl1 hbl2 hbn1 hbn2
        by_cases hA : 0 < (S.labels.length : Int)
        · by_cases hI : 0 < (S.init.length : Int)
          · by_cases hM : 1 < (S.main.length : Int)
            · have hl1 := sub_one (n := S.labels.length) (by omega) (by omega)
              have hl2 : (S.labels.length : Int) - 1 ≤ (lc : Int) := by omega
              have hl3 : (0 : Int) ≤ (S.labels.length : Int) - 1 := by omega
              have hl4 : ((S.labels.length : Int) - 1).toNat = S.labels.length - 1 := by omega
              have hi1 := sub_one (n := S.init.length) (by omega) (by omega)
              have hi2 : (S.init.length : Int) - 1 ≤ (ic : Int) := by omega
              have hi3 : (0 : Int) ≤ (S.init.length : Int) - 1 := by omega
              have hi4 : ((S.init.length : Int) - 1).toNat = S.init.length - 1 := by omega
              have hm1 := sub_one (n := S.main.length) (by omega) (by omega)
              have hm2 : (S.main.length : Int) - 1 ≤ (mc : Int) := by omega
              have hm3 : (0 : Int) ≤ (S.main.length : Int) - 1 := by omega
              have hm4 : ((S.main.length : Int) - 1).toNat = S.main.length - 1 := by omega
              go_wp2_with fail
              obtain ⟨w8, hw8⟩ : ∃ w8, (((w5.setCell ⟨g3, 1, none⟩ (.slice LA (S.labels.length - 1) lc)).setCell ⟨g4, 2, none⟩ (.slice IA (S.init.length - 1) ic)).setCell ⟨g5, 3, none⟩ (.slice MA (S.main.length - 1) mc)) = w8 := ⟨_, rfl⟩
              have B8 := Lib.hid (show Below w.heap.size w w8 by rw [← hw8]; exact (((B5.out.setCell (p := ⟨g3, 1, none⟩) (Nat.le_trans B4.out.size HT.out.l3) (.slice LA (S.labels.length - 1) lc)).setCell (p := ⟨g4, 2, none⟩) (Nat.le_trans B4.out.size HT.out.l4) (.slice IA (S.init.length - 1) ic)).setCell (p := ⟨g5, 3, none⟩) (Nat.le_trans B4.out.size HT.out.l5) (.slice MA (S.main.length - 1) mc)))
              have HG4 := Lib.hid (show w8.heap[g4]? = some (.cells #[.string S.name, .slice LA S.labels.length lc, .slice IA (S.init.length - 1) ic, .slice MA S.main.length mc, .int .i64 S.restart, .int .i64 S.grace, .int .i64 S.prio] 25 (0, 0)) by
                rw [← hw8]
                rw [Below.heap_setCell _ _ _ _ (show g4 ≠ g5 by assumption)]
                have h0 := HT.out.s4
                unfold SBox at h0
                have h1 : (w5.setCell ⟨g3, 1, none⟩ (.slice LA (S.labels.length - 1) lc)).heap[g4]? = some (.cells #[.string S.name, .slice LA S.labels.length lc, .slice IA S.init.length ic, .slice MA S.main.length mc, .int .i64 S.restart, .int .i64 S.grace, .int .i64 S.prio] 25 (0, 0)) := by
                  rw [Below.heap_setCell _ _ _ _ (show g4 ≠ g3 by assumption)]
                  exact h0
                simpa using heap_setCell_same _ g4 2 _ _ (.slice IA (S.init.length - 1) ic) h1)
              have HG5 := Lib.hid (show w8.heap[g5]? = some (.cells #[.string S.name, .slice LA S.labels.length lc, .slice IA S.init.length ic, .slice MA (S.main.length - 1) mc, .int .i64 S.restart, .int .i64 S.grace, .int .i64 S.prio] 25 (0, 0)) by
                rw [← hw8]
                have h0 := HT.out.s5
                unfold SBox at h0
                have h1 : ((w5.setCell ⟨g3, 1, none⟩ (.slice LA (S.labels.length - 1) lc)).setCell ⟨g4, 2, none⟩ (.slice IA (S.init.length - 1) ic)).heap[g5]? = some (.cells #[.string S.name, .slice LA S.labels.length lc, .slice IA S.init.length ic, .slice MA S.main.length mc, .int .i64 S.restart, .int .i64 S.grace, .int .i64 S.prio] 25 (0, 0)) := by
                  rw [Below.heap_setCell _ _ _ _ (show g5 ≠ g4 by assumption)]
                  rw [Below.heap_setCell _ _ _ _ (show g5 ≠ g3 by assumption)]
                  exact h0
                simpa using heap_setCell_same _ g5 3 _ _ (.slice MA (S.main.length - 1) mc) h1)
              have r3 : ∀ wx, Below w.heap.size w wx → Calls Tryz.prog 10 #[.agg #[.string S.name, .slice LA (S.labels.length - 1) lc, .slice IA S.init.length ic, .slice MA S.main.length mc, .int .i64 S.restart, .int .i64 S.grace, .int .i64 S.prio]] wx (TellsA (checkV (cutL S)) wx) := fun wx hx => by
                have ht := check_any (cutL S) LA lc IA ic MA mc (cutL_light HLT.out) wx (HL.out.below hx) (cutL_in (H.out.below hx))
                rw [show (cutL S).labels.length = S.labels.length - 1 from cutL_len S] at ht
                exact ht
              have r4 : ∀ wx, Below w.heap.size w wx → Calls Tryz.prog 10 #[.agg #[.string S.name, .slice LA S.labels.length lc, .slice IA (S.init.length - 1) ic, .slice MA S.main.length mc, .int .i64 S.restart, .int .i64 S.grace, .int .i64 S.prio]] wx (TellsA (checkV (cutI S)) wx) := fun wx hx => by
                have ht := check_any (cutI S) LA lc IA ic MA mc (cutI_light HLT.out) wx (HL.out.below hx) (cutI_in (H.out.below hx))
                rw [show (cutI S).init.length = S.init.length - 1 from cutI_len S] at ht
                exact ht
              have r5 : ∀ wx, Below w.heap.size w wx → Calls Tryz.prog 10 #[.agg #[.string S.name, .slice LA S.labels.length lc, .slice IA S.init.length ic, .slice MA (S.main.length - 1) mc, .int .i64 S.restart, .int .i64 S.grace, .int .i64 S.prio]] wx (TellsA (checkV (cutM S)) wx) := fun wx hx => by
                have ht := check_any (cutM S) LA lc IA ic MA mc (cutM_light HLT.out) wx (HL.out.below hx) (cutM_in (H.out.below hx))
                rw [show (cutM S).main.length = S.main.length - 1 from cutM_len S] at ht
                exact ht
              have R3 := Lib.hid r3
              have R4 := Lib.hid r4
              have R5 := Lib.hid r5
              rw [hw8]
              clear r3 r4 r5 hw8 a0 a1 a2 a3 a4 a5 a6 d0 d1 d2 d3 d4 d5 d6 e0 e1 e2 e3 e4 e5 e6 c0 c1 c2 c3 c4 c5 c6 fz3 fz4 fz5
              refine (R3.out w8 B8.out).mono ?_
              rintro e w9 ⟨E1, rfl, hE1, hb9⟩
              obtain rfl : E1 = .nilIface := hE1.nil_iff.2 (cutL_ok HZ.out)
              have B9 := Lib.hid (B8.out.trans (hb9.mono B8.out.size))
              have HH4 := Lib.hid ((hb9.block g4 (SpecOwn.lt_of_block HG4.out)).trans HG4.out)
              have HH5x := Lib.hid ((hb9.block g5 (SpecOwn.lt_of_block HG5.out)).trans HG5.out)
              clear hE1 hb9
              have hh := HH4.out
              have p0 : w9.cell? ⟨g4, 0, none⟩ = some (.string S.name) := by simp [World.cell?, hh]
              have p1 : w9.cell? ⟨g4, 1, none⟩ = some (.slice LA S.labels.length lc) := by simp [World.cell?, hh]
              have p2 : w9.cell? ⟨g4, 2, none⟩ = some (.slice IA (S.init.length - 1) ic) := by simp [World.cell?, hh]
              have p3 : w9.cell? ⟨g4, 3, none⟩ = some (.slice MA S.main.length mc) := by simp [World.cell?, hh]
              have p4 : w9.cell? ⟨g4, 4, none⟩ = some (.int .i64 S.restart) := by simp [World.cell?, hh]
              have p5 : w9.cell? ⟨g4, 5, none⟩ = some (.int .i64 S.grace) := by simp [World.cell?, hh]
              have p6 : w9.cell? ⟨g4, 6, none⟩ = some (.int .i64 S.prio) := by simp [World.cell?, hh]
              clear hh
              go_wp2_with fail
              refine (R4.out w9 B9.out).mono ?_
              rintro e w10 ⟨E2, rfl, hE2, hb10⟩
              obtain rfl : E2 = .nilIface := hE2.nil_iff.2 (cutI_ok HZ.out)
              have B10 := Lib.hid (B9.out.trans (hb10.mono B9.out.size))
              have HH5 := Lib.hid ((hb10.block g5 (SpecOwn.lt_of_block HH5x.out)).trans HH5x.out)
              clear hE2 hb10 p0 p1 p2 p3 p4 p5 p6
              have hh := HH5.out
              have q0 : w10.cell? ⟨g5, 0, none⟩ = some (.string S.name) := by simp [World.cell?, hh]
              have q1 : w10.cell? ⟨g5, 1, none⟩ = some (.slice LA S.labels.length lc) := by simp [World.cell?, hh]
              have q2 : w10.cell? ⟨g5, 2, none⟩ = some (.slice IA S.init.length ic) := by simp [World.cell?, hh]
              have q3 : w10.cell? ⟨g5, 3, none⟩ = some (.slice MA (S.main.length - 1) mc) := by simp [World.cell?, hh]
              have q4 : w10.cell? ⟨g5, 4, none⟩ = some (.int .i64 S.restart) := by simp [World.cell?, hh]
              have q5 : w10.cell? ⟨g5, 5, none⟩ = some (.int .i64 S.grace) := by simp [World.cell?, hh]
              have q6 : w10.cell? ⟨g5, 6, none⟩ = some (.int .i64 S.prio) := by simp [World.cell?, hh]
              clear hh
              go_wp2_with fail
              refine (R5.out w10 B10.out).mono ?_
              rintro e w11 ⟨E3, rfl, hE3, hb11⟩
              obtain rfl : E3 = .nilIface := hE3.nil_iff.2 (cutM_ok HZ.out (by omega))
              have B11 := Lib.hid (B10.out.trans (hb11.mono B10.out.size))
              clear hE3 hb11 q0 q1 q2 q3 q4 q5 q6
              go_wp2
              go_ret
              exact ⟨rfl, B11.out⟩
            · have hl1 := sub_one (n := S.labels.length) (by omega) (by omega)
              have hl2 : (S.labels.length : Int) - 1 ≤ (lc : Int) := by omega
              have hl3 : (0 : Int) ≤ (S.labels.length : Int) - 1 := by omega
              have hl4 : ((S.labels.length : Int) - 1).toNat = S.labels.length - 1 := by omega
              have hi1 := sub_one (n := S.init.length) (by omega) (by omega)
              have hi2 : (S.init.length : Int) - 1 ≤ (ic : Int) := by omega
              have hi3 : (0 : Int) ≤ (S.init.length : Int) - 1 := by omega
              have hi4 : ((S.init.length : Int) - 1).toNat = S.init.length - 1 := by omega
              go_wp2_with fail
              obtain ⟨w8, hw8⟩ : ∃ w8, ((w5.setCell ⟨g3, 1, none⟩ (.slice LA (S.labels.length - 1) lc)).setCell ⟨g4, 2, none⟩ (.slice IA (S.init.length - 1) ic)) = w8 := ⟨_, rfl⟩
              have B8 := Lib.hid (show Below w.heap.size w w8 by rw [← hw8]; exact ((B5.out.setCell (p := ⟨g3, 1, none⟩) (Nat.le_trans B4.out.size HT.out.l3) (.slice LA (S.labels.length - 1) lc)).setCell (p := ⟨g4, 2, none⟩) (Nat.le_trans B4.out.size HT.out.l4) (.slice IA (S.init.length - 1) ic)))
              have HG4 := Lib.hid (show w8.heap[g4]? = some (.cells #[.string S.name, .slice LA S.labels.length lc, .slice IA (S.init.length - 1) ic, .slice MA S.main.length mc, .int .i64 S.restart, .int .i64 S.grace, .int .i64 S.prio] 25 (0, 0)) by
                rw [← hw8]
                have h0 := HT.out.s4
                unfold SBox at h0
                have h1 : (w5.setCell ⟨g3, 1, none⟩ (.slice LA (S.labels.length - 1) lc)).heap[g4]? = some (.cells #[.string S.name, .slice LA S.labels.length lc, .slice IA S.init.length ic, .slice MA S.main.length mc, .int .i64 S.restart, .int .i64 S.grace, .int .i64 S.prio] 25 (0, 0)) := by
                  rw [Below.heap_setCell _ _ _ _ (show g4 ≠ g3 by assumption)]
                  exact h0
                simpa using heap_setCell_same _ g4 2 _ _ (.slice IA (S.init.length - 1) ic) h1)
              have HG5 := Lib.hid (show w8.heap[g5]? = some (.cells #[.string S.name, .slice LA S.labels.length lc, .slice IA S.init.length ic, .slice MA S.main.length mc, .int .i64 S.restart, .int .i64 S.grace, .int .i64 S.prio] 25 (0, 0)) by
                rw [← hw8]
                rw [Below.heap_setCell _ _ _ _ (show g5 ≠ g4 by assumption)]
                rw [Below.heap_setCell _ _ _ _ (show g5 ≠ g3 by assumption)]
                exact HT.out.s5)
              have r3 : ∀ wx, Below w.heap.size w wx → Calls Tryz.prog 10 #[.agg #[.string S.name, .slice LA (S.labels.length - 1) lc, .slice IA S.init.length ic, .slice MA S.main.length mc, .int .i64 S.restart, .int .i64 S.grace, .int .i64 S.prio]] wx (TellsA (checkV (cutL S)) wx) := fun wx hx => by
                have ht := check_any (cutL S) LA lc IA ic MA mc (cutL_light HLT.out) wx (HL.out.below hx) (cutL_in (H.out.below hx))
                rw [show (cutL S).labels.length = S.labels.length - 1 from cutL_len S] at ht
                exact ht
              have r4 : ∀ wx, Below w.heap.size w wx → Calls Tryz.prog 10 #[.agg #[.string S.name, .slice LA S.labels.length lc, .slice IA (S.init.length - 1) ic, .slice MA S.main.length mc, .int .i64 S.restart, .int .i64 S.grace, .int .i64 S.prio]] wx (TellsA (checkV (cutI S)) wx) := fun wx hx => by
                have ht := check_any (cutI S) LA lc IA ic MA mc (cutI_light HLT.out) wx (HL.out.below hx) (cutI_in (H.out.below hx))
                rw [show (cutI S).init.length = S.init.length - 1 from cutI_len S] at ht
                exact ht
              have r5 : ∀ wx, Below w.heap.size w wx → Calls Tryz.prog 10 #[.agg #[.string S.name, .slice LA S.labels.length lc, .slice IA S.init.length ic, .slice MA S.main.length mc, .int .i64 S.restart, .int .i64 S.grace, .int .i64 S.prio]] wx (TellsA (checkV S) wx) := fun wx hx => check_any S LA lc IA ic MA mc HLT.out wx (HL.out.below hx) (H.out.below hx)
              have R3 := Lib.hid r3
              have R4 := Lib.hid r4
              have R5 := Lib.hid r5
              rw [hw8]
              clear r3 r4 r5 hw8 a0 a1 a2 a3 a4 a5 a6 d0 d1 d2 d3 d4 d5 d6 e0 e1 e2 e3 e4 e5 e6 c0 c1 c2 c3 c4 c5 c6 fz3 fz4 fz5
              refine (R3.out w8 B8.out).mono ?_
              rintro e w9 ⟨E1, rfl, hE1, hb9⟩
              obtain rfl : E1 = .nilIface := hE1.nil_iff.2 (cutL_ok HZ.out)
              have B9 := Lib.hid (B8.out.trans (hb9.mono B8.out.size))
              have HH4 := Lib.hid ((hb9.block g4 (SpecOwn.lt_of_block HG4.out)).trans HG4.out)
              have HH5x := Lib.hid ((hb9.block g5 (SpecOwn.lt_of_block HG5.out)).trans HG5.out)
              clear hE1 hb9
              have hh := HH4.out
              have p0 : w9.cell? ⟨g4, 0, none⟩ = some (.string S.name) := by simp [World.cell?, hh]
              have p1 : w9.cell? ⟨g4, 1, none⟩ = some (.slice LA S.labels.length lc) := by simp [World.cell?, hh]
              have p2 : w9.cell? ⟨g4, 2, none⟩ = some (.slice IA (S.init.length - 1) ic) := by simp [World.cell?, hh]
              have p3 : w9.cell? ⟨g4, 3, none⟩ = some (.slice MA S.main.length mc) := by simp [World.cell?, hh]
              have p4 : w9.cell? ⟨g4, 4, none⟩ = some (.int .i64 S.restart) := by simp [World.cell?, hh]
              have p5 : w9.cell? ⟨g4, 5, none⟩ = some (.int .i64 S.grace) := by simp [World.cell?, hh]
              have p6 : w9.cell? ⟨g4, 6, none⟩ = some (.int .i64 S.prio) := by simp [World.cell?, hh]
              clear hh
              go_wp2_with fail
              refine (R4.out w9 B9.out).mono ?_
              rintro e w10 ⟨E2, rfl, hE2, hb10⟩
              obtain rfl : E2 = .nilIface := hE2.nil_iff.2 (cutI_ok HZ.out)
              have B10 := Lib.hid (B9.out.trans (hb10.mono B9.out.size))
              have HH5 := Lib.hid ((hb10.block g5 (SpecOwn.lt_of_block HH5x.out)).trans HH5x.out)
              clear hE2 hb10 p0 p1 p2 p3 p4 p5 p6
              have hh := HH5.out
              have q0 : w10.cell? ⟨g5, 0, none⟩ = some (.string S.name) := by simp [World.cell?, hh]
              have q1 : w10.cell? ⟨g5, 1, none⟩ = some (.slice LA S.labels.length lc) := by simp [World.cell?, hh]
              have q2 : w10.cell? ⟨g5, 2, none⟩ = some (.slice IA S.init.length ic) := by simp [World.cell?, hh]
              have q3 : w10.cell? ⟨g5, 3, none⟩ = some (.slice MA S.main.length mc) := by simp [World.cell?, hh]
              have q4 : w10.cell? ⟨g5, 4, none⟩ = some (.int .i64 S.restart) := by simp [World.cell?, hh]
              have q5 : w10.cell? ⟨g5, 5, none⟩ = some (.int .i64 S.grace) := by simp [World.cell?, hh]
              have q6 : w10.cell? ⟨g5, 6, none⟩ = some (.int .i64 S.prio) := by simp [World.cell?, hh]
              clear hh
              go_wp2_with fail
              refine (R5.out w10 B10.out).mono ?_
              rintro e w11 ⟨E3, rfl, hE3, hb11⟩
              obtain rfl : E3 = .nilIface := hE3.nil_iff.2 (HZ.out)
              have B11 := Lib.hid (B10.out.trans (hb11.mono B10.out.size))
              clear hE3 hb11 q0 q1 q2 q3 q4 q5 q6
              go_wp2
              go_ret
              exact ⟨rfl, B11.out⟩
          · by_cases hM : 1 < (S.main.length : Int)
            · have hl1 := sub_one (n := S.labels.length) (by omega) (by omega)
              have hl2 : (S.labels.length : Int) - 1 ≤ (lc : Int) := by omega
              have hl3 : (0 : Int) ≤ (S.labels.length : Int) - 1 := by omega
              have hl4 : ((S.labels.length : Int) - 1).toNat = S.labels.length - 1 := by omega
              have hm1 := sub_one (n := S.main.length) (by omega) (by omega)
              have hm2 : (S.main.length : Int) - 1 ≤ (mc : Int) := by omega
              have hm3 : (0 : Int) ≤ (S.main.length : Int) - 1 := by omega
              have hm4 : ((S.main.length : Int) - 1).toNat = S.main.length - 1 := by omega
              go_wp2_with fail
              obtain ⟨w8, hw8⟩ : ∃ w8, ((w5.setCell ⟨g3, 1, none⟩ (.slice LA (S.labels.length - 1) lc)).setCell ⟨g5, 3, none⟩ (.slice MA (S.main.length - 1) mc)) = w8 := ⟨_, rfl⟩
              have B8 := Lib.hid (show Below w.heap.size w w8 by rw [← hw8]; exact ((B5.out.setCell (p := ⟨g3, 1, none⟩) (Nat.le_trans B4.out.size HT.out.l3) (.slice LA (S.labels.length - 1) lc)).setCell (p := ⟨g5, 3, none⟩) (Nat.le_trans B4.out.size HT.out.l5) (.slice MA (S.main.length - 1) mc)))
              have HG4 := Lib.hid (show w8.heap[g4]? = some (.cells #[.string S.name, .slice LA S.labels.length lc, .slice IA S.init.length ic, .slice MA S.main.length mc, .int .i64 S.restart, .int .i64 S.grace, .int .i64 S.prio] 25 (0, 0)) by
                rw [← hw8]
                rw [Below.heap_setCell _ _ _ _ (show g4 ≠ g5 by assumption)]
                rw [Below.heap_setCell _ _ _ _ (show g4 ≠ g3 by assumption)]
                exact HT.out.s4)
              have HG5 := Lib.hid (show w8.heap[g5]? = some (.cells #[.string S.name, .slice LA S.labels.length lc, .slice IA S.init.length ic, .slice MA (S.main.length - 1) mc, .int .i64 S.restart, .int .i64 S.grace, .int .i64 S.prio] 25 (0, 0)) by
                rw [← hw8]
                have h0 := HT.out.s5
                unfold SBox at h0
                have h1 : (w5.setCell ⟨g3, 1, none⟩ (.slice LA (S.labels.length - 1) lc)).heap[g5]? = some (.cells #[.string S.name, .slice LA S.labels.length lc, .slice IA S.init.length ic, .slice MA S.main.length mc, .int .i64 S.restart, .int .i64 S.grace, .int .i64 S.prio] 25 (0, 0)) := by
                  rw [Below.heap_setCell _ _ _ _ (show g5 ≠ g3 by assumption)]
                  exact h0
                simpa using heap_setCell_same _ g5 3 _ _ (.slice MA (S.main.length - 1) mc) h1)
              have r3 : ∀ wx, Below w.heap.size w wx → Calls Tryz.prog 10 #[.agg #[.string S.name, .slice LA (S.labels.length - 1) lc, .slice IA S.init.length ic, .slice MA S.main.length mc, .int .i64 S.restart, .int .i64 S.grace, .int .i64 S.prio]] wx (TellsA (checkV (cutL S)) wx) := fun wx hx => by
                have ht := check_any (cutL S) LA lc IA ic MA mc (cutL_light HLT.out) wx (HL.out.below hx) (cutL_in (H.out.below hx))
                rw [show (cutL S).labels.length = S.labels.length - 1 from cutL_len S] at ht
                exact ht
              have r4 : ∀ wx, Below w.heap.size w wx → Calls Tryz.prog 10 #[.agg #[.string S.name, .slice LA S.labels.length lc, .slice IA S.init.length ic, .slice MA S.main.length mc, .int .i64 S.restart, .int .i64 S.grace, .int .i64 S.prio]] wx (TellsA (checkV S) wx) := fun wx hx => check_any S LA lc IA ic MA mc HLT.out wx (HL.out.below hx) (H.out.below hx)
              have r5 : ∀ wx, Below w.heap.size w wx → Calls Tryz.prog 10 #[.agg #[.string S.name, .slice LA S.labels.length lc, .slice IA S.init.length ic, .slice MA (S.main.length - 1) mc, .int .i64 S.restart, .int .i64 S.grace, .int .i64 S.prio]] wx (TellsA (checkV (cutM S)) wx) := fun wx hx => by
                have ht := check_any (cutM S) LA lc IA ic MA mc (cutM_light HLT.out) wx (HL.out.below hx) (cutM_in (H.out.below hx))
                rw [show (cutM S).main.length = S.main.length - 1 from cutM_len S] at ht
                exact ht
              have R3 := Lib.hid r3
              have R4 := Lib.hid r4
              have R5 := Lib.hid r5
              rw [hw8]
              clear r3 r4 r5 hw8 a0 a1 a2 a3 a4 a5 a6 d0 d1 d2 d3 d4 d5 d6 e0 e1 e2 e3 e4 e5 e6 c0 c1 c2 c3 c4 c5 c6 fz3 fz4 fz5
              refine (R3.out w8 B8.out).mono ?_
              rintro e w9 ⟨E1, rfl, hE1, hb9⟩
              obtain rfl : E1 = .nilIface := hE1.nil_iff.2 (cutL_ok HZ.out)
              have B9 := Lib.hid (B8.out.trans (hb9.mono B8.out.size))
              have HH4 := Lib.hid ((hb9.block g4 (SpecOwn.lt_of_block HG4.out)).trans HG4.out)
              have HH5x := Lib.hid ((hb9.block g5 (SpecOwn.lt_of_block HG5.out)).trans HG5.out)
              clear hE1 hb9
              have hh := HH4.out
              have p0 : w9.cell? ⟨g4, 0, none⟩ = some (.string S.name) := by simp [World.cell?, hh]
              have p1 : w9.cell? ⟨g4, 1, none⟩ = some (.slice LA S.labels.length lc) := by simp [World.cell?, hh]
              have p2 : w9.cell? ⟨g4, 2, none⟩ = some (.slice IA S.init.length ic) := by simp [World.cell?, hh]
              have p3 : w9.cell? ⟨g4, 3, none⟩ = some (.slice MA S.main.length mc) := by simp [World.cell?, hh]
              have p4 : w9.cell? ⟨g4, 4, none⟩ = some (.int .i64 S.restart) := by simp [World.cell?, hh]
              have p5 : w9.cell? ⟨g4, 5, none⟩ = some (.int .i64 S.grace) := by simp [World.cell?, hh]
              have p6 : w9.cell? ⟨g4, 6, none⟩ = some (.int .i64 S.prio) := by simp [World.cell?, hh]
              clear hh
              go_wp2_with fail
              refine (R4.out w9 B9.out).mono ?_
              rintro e w10 ⟨E2, rfl, hE2, hb10⟩
              obtain rfl : E2 = .nilIface := hE2.nil_iff.2 (HZ.out)
              have B10 := Lib.hid (B9.out.trans (hb10.mono B9.out.size))
              have HH5 := Lib.hid ((hb10.block g5 (SpecOwn.lt_of_block HH5x.out)).trans HH5x.out)
              clear hE2 hb10 p0 p1 p2 p3 p4 p5 p6
              have hh := HH5.out
              have q0 : w10.cell? ⟨g5, 0, none⟩ = some (.string S.name) := by simp [World.cell?, hh]
              have q1 : w10.cell? ⟨g5, 1, none⟩ = some (.slice LA S.labels.length lc) := by simp [World.cell?, hh]
              have q2 : w10.cell? ⟨g5, 2, none⟩ = some (.slice IA S.init.length ic) := by simp [World.cell?, hh]
              have q3 : w10.cell? ⟨g5, 3, none⟩ = some (.slice MA (S.main.length - 1) mc) := by simp [World.cell?, hh]
              have q4 : w10.cell? ⟨g5, 4, none⟩ = some (.int .i64 S.restart) := by simp [World.cell?, hh]
              have q5 : w10.cell? ⟨g5, 5, none⟩ = some (.int .i64 S.grace) := by simp [World.cell?, hh]
              have q6 : w10.cell? ⟨g5, 6, none⟩ = some (.int .i64 S.prio) := by simp [World.cell?, hh]
              clear hh
              go_wp2_with fail
              refine (R5.out w10 B10.out).mono ?_
              rintro e w11 ⟨E3, rfl, hE3, hb11⟩
              obtain rfl : E3 = .nilIface := hE3.nil_iff.2 (cutM_ok HZ.out (by omega))
              have B11 := Lib.hid (B10.out.trans (hb11.mono B10.out.size))
              clear hE3 hb11 q0 q1 q2 q3 q4 q5 q6
              go_wp2
              go_ret
              exact ⟨rfl, B11.out⟩
            · have hl1 := sub_one (n := S.labels.length) (by omega) (by omega)
              have hl2 : (S.labels.length : Int) - 1 ≤ (lc : Int) := by omega
              have hl3 : (0 : Int) ≤ (S.labels.length : Int) - 1 := by omega
              have hl4 : ((S.labels.length : Int) - 1).toNat = S.labels.length - 1 := by omega
              go_wp2_with fail
              obtain ⟨w8, hw8⟩ : ∃ w8, (w5.setCell ⟨g3, 1, none⟩ (.slice LA (S.labels.length - 1) lc)) = w8 := ⟨_, rfl⟩
              have B8 := Lib.hid (show Below w.heap.size w w8 by rw [← hw8]; exact (B5.out.setCell (p := ⟨g3, 1, none⟩) (Nat.le_trans B4.out.size HT.out.l3) (.slice LA (S.labels.length - 1) lc)))
              have HG4 := Lib.hid (show w8.heap[g4]? = some (.cells #[.string S.name, .slice LA S.labels.length lc, .slice IA S.init.length ic, .slice MA S.main.length mc, .int .i64 S.restart, .int .i64 S.grace, .int .i64 S.prio] 25 (0, 0)) by
                rw [← hw8]
                rw [Below.heap_setCell _ _ _ _ (show g4 ≠ g3 by assumption)]
                exact HT.out.s4)
              have HG5 := Lib.hid (show w8.heap[g5]? = some (.cells #[.string S.name, .slice LA S.labels.length lc, .slice IA S.init.length ic, .slice MA S.main.length mc, .int .i64 S.restart, .int .i64 S.grace, .int .i64 S.prio] 25 (0, 0)) by
                rw [← hw8]
                rw [Below.heap_setCell _ _ _ _ (show g5 ≠ g3 by assumption)]
                exact HT.out.s5)
              have r3 : ∀ wx, Below w.heap.size w wx → Calls Tryz.prog 10 #[.agg #[.string S.name, .slice LA (S.labels.length - 1) lc, .slice IA S.init.length ic, .slice MA S.main.length mc, .int .i64 S.restart, .int .i64 S.grace, .int .i64 S.prio]] wx (TellsA (checkV (cutL S)) wx) := fun wx hx => by
                have ht := check_any (cutL S) LA lc IA ic MA mc (cutL_light HLT.out) wx (HL.out.below hx) (cutL_in (H.out.below hx))
                rw [show (cutL S).labels.length = S.labels.length - 1 from cutL_len S] at ht
                exact ht
              have r4 : ∀ wx, Below w.heap.size w wx → Calls Tryz.prog 10 #[.agg #[.string S.name, .slice LA S.labels.length lc, .slice IA S.init.length ic, .slice MA S.main.length mc, .int .i64 S.restart, .int .i64 S.grace, .int .i64 S.prio]] wx (TellsA (checkV S) wx) := fun wx hx => check_any S LA lc IA ic MA mc HLT.out wx (HL.out.below hx) (H.out.below hx)
              have r5 : ∀ wx, Below w.heap.size w wx → Calls Tryz.prog 10 #[.agg #[.string S.name, .slice LA S.labels.length lc, .slice IA S.init.length ic, .slice MA S.main.length mc, .int .i64 S.restart, .int .i64 S.grace, .int .i64 S.prio]] wx (TellsA (checkV S) wx) := fun wx hx => check_any S LA lc IA ic MA mc HLT.out wx (HL.out.below hx) (H.out.below hx)
              have R3 := Lib.hid r3
              have R4 := Lib.hid r4
              have R5 := Lib.hid r5
              rw [hw8]
              clear r3 r4 r5 hw8 a0 a1 a2 a3 a4 a5 a6 d0 d1 d2 d3 d4 d5 d6 e0 e1 e2 e3 e4 e5 e6 c0 c1 c2 c3 c4 c5 c6 fz3 fz4 fz5
              refine (R3.out w8 B8.out).mono ?_
              rintro e w9 ⟨E1, rfl, hE1, hb9⟩
              obtain rfl : E1 = .nilIface := hE1.nil_iff.2 (cutL_ok HZ.out)
              have B9 := Lib.hid (B8.out.trans (hb9.mono B8.out.size))
              have HH4 := Lib.hid ((hb9.block g4 (SpecOwn.lt_of_block HG4.out)).trans HG4.out)
              have HH5x := Lib.hid ((hb9.block g5 (SpecOwn.lt_of_block HG5.out)).trans HG5.out)
              clear hE1 hb9
              have hh := HH4.out
              have p0 : w9.cell? ⟨g4, 0, none⟩ = some (.string S.name) := by simp [World.cell?, hh]
              have p1 : w9.cell? ⟨g4, 1, none⟩ = some (.slice LA S.labels.length lc) := by simp [World.cell?, hh]
              have p2 : w9.cell? ⟨g4, 2, none⟩ = some (.slice IA S.init.length ic) := by simp [World.cell?, hh]
              have p3 : w9.cell? ⟨g4, 3, none⟩ = some (.slice MA S.main.length mc) := by simp [World.cell?, hh]
              have p4 : w9.cell? ⟨g4, 4, none⟩ = some (.int .i64 S.restart) := by simp [World.cell?, hh]
              have p5 : w9.cell? ⟨g4, 5, none⟩ = some (.int .i64 S.grace) := by simp [World.cell?, hh]
              have p6 : w9.cell? ⟨g4, 6, none⟩ = some (.int .i64 S.prio) := by simp [World.cell?, hh]
              clear hh
              go_wp2_with fail
              refine (R4.out w9 B9.out).mono ?_
              rintro e w10 ⟨E2, rfl, hE2, hb10⟩
              obtain rfl : E2 = .nilIface := hE2.nil_iff.2 (HZ.out)
              have B10 := Lib.hid (B9.out.trans (hb10.mono B9.out.size))
              have HH5 := Lib.hid ((hb10.block g5 (SpecOwn.lt_of_block HH5x.out)).trans HH5x.out)
              clear hE2 hb10 p0 p1 p2 p3 p4 p5 p6
              have hh := HH5.out
              have q0 : w10.cell? ⟨g5, 0, none⟩ = some (.string S.name) := by simp [World.cell?, hh]
              have q1 : w10.cell? ⟨g5, 1, none⟩ = some (.slice LA S.labels.length lc) := by simp [World.cell?, hh]
              have q2 : w10.cell? ⟨g5, 2, none⟩ = some (.slice IA S.init.length ic) := by simp [World.cell?, hh]
              have q3 : w10.cell? ⟨g5, 3, none⟩ = some (.slice MA S.main.length mc) := by simp [World.cell?, hh]
              have q4 : w10.cell? ⟨g5, 4, none⟩ = some (.int .i64 S.restart) := by simp [World.cell?, hh]
              have q5 : w10.cell? ⟨g5, 5, none⟩ = some (.int .i64 S.grace) := by simp [World.cell?, hh]
              have q6 : w10.cell? ⟨g5, 6, none⟩ = some (.int .i64 S.prio) := by simp [World.cell?, hh]
              clear hh
              go_wp2_with fail
              refine (R5.out w10 B10.out).mono ?_
              rintro e w11 ⟨E3, rfl, hE3, hb11⟩
              obtain rfl : E3 = .nilIface := hE3.nil_iff.2 (HZ.out)
              have B11 := Lib.hid (B10.out.trans (hb11.mono B10.out.size))
              clear hE3 hb11 q0 q1 q2 q3 q4 q5 q6
              go_wp2
              go_ret
              exact ⟨rfl, B11.out⟩
        · by_cases hI : 0 < (S.init.length : Int)
          · by_cases hM : 1 < (S.main.length : Int)
            · have hi1 := sub_one (n := S.init.length) (by omega) (by omega)
              have hi2 : (S.init.length : Int) - 1 ≤ (ic : Int) := by omega
              have hi3 : (0 : Int) ≤ (S.init.length : Int) - 1 := by omega
              have hi4 : ((S.init.length : Int) - 1).toNat = S.init.length - 1 := by omega
              have hm1 := sub_one (n := S.main.length) (by omega) (by omega)
              have hm2 : (S.main.length : Int) - 1 ≤ (mc : Int) := by omega
              have hm3 : (0 : Int) ≤ (S.main.length : Int) - 1 := by omega
              have hm4 : ((S.main.length : Int) - 1).toNat = S.main.length - 1 := by omega
              go_wp2_with fail
              obtain ⟨w8, hw8⟩ : ∃ w8, ((w5.setCell ⟨g4, 2, none⟩ (.slice IA (S.init.length - 1) ic)).setCell ⟨g5, 3, none⟩ (.slice MA (S.main.length - 1) mc)) = w8 := ⟨_, rfl⟩
              have B8 := Lib.hid (show Below w.heap.size w w8 by rw [← hw8]; exact ((B5.out.setCell (p := ⟨g4, 2, none⟩) (Nat.le_trans B4.out.size HT.out.l4) (.slice IA (S.init.length - 1) ic)).setCell (p := ⟨g5, 3, none⟩) (Nat.le_trans B4.out.size HT.out.l5) (.slice MA (S.main.length - 1) mc)))
              have HG4 := Lib.hid (show w8.heap[g4]? = some (.cells #[.string S.name, .slice LA S.labels.length lc, .slice IA (S.init.length - 1) ic, .slice MA S.main.length mc, .int .i64 S.restart, .int .i64 S.grace, .int .i64 S.prio] 25 (0, 0)) by
                rw [← hw8]
                rw [Below.heap_setCell _ _ _ _ (show g4 ≠ g5 by assumption)]
                have h0 := HT.out.s4
                unfold SBox at h0
                have h1 : w5.heap[g4]? = some (.cells #[.string S.name, .slice LA S.labels.length lc, .slice IA S.init.length ic, .slice MA S.main.length mc, .int .i64 S.restart, .int .i64 S.grace, .int .i64 S.prio] 25 (0, 0)) := by
                  exact h0
                simpa using heap_setCell_same _ g4 2 _ _ (.slice IA (S.init.length - 1) ic) h1)
              have HG5 := Lib.hid (show w8.heap[g5]? = some (.cells #[.string S.name, .slice LA S.labels.length lc, .slice IA S.init.length ic, .slice MA (S.main.length - 1) mc, .int .i64 S.restart, .int .i64 S.grace, .int .i64 S.prio] 25 (0, 0)) by
                rw [← hw8]
                have h0 := HT.out.s5
                unfold SBox at h0
                have h1 : (w5.setCell ⟨g4, 2, none⟩ (.slice IA (S.init.length - 1) ic)).heap[g5]? = some (.cells #[.string S.name, .slice LA S.labels.length lc, .slice IA S.init.length ic, .slice MA S.main.length mc, .int .i64 S.restart, .int .i64 S.grace, .int .i64 S.prio] 25 (0, 0)) := by
                  rw [Below.heap_setCell _ _ _ _ (show g5 ≠ g4 by assumption)]
                  exact h0
                simpa using heap_setCell_same _ g5 3 _ _ (.slice MA (S.main.length - 1) mc) h1)
              have r3 : ∀ wx, Below w.heap.size w wx → Calls Tryz.prog 10 #[.agg #[.string S.name, .slice LA S.labels.length lc, .slice IA S.init.length ic, .slice MA S.main.length mc, .int .i64 S.restart, .int .i64 S.grace, .int .i64 S.prio]] wx (TellsA (checkV S) wx) := fun wx hx => check_any S LA lc IA ic MA mc HLT.out wx (HL.out.below hx) (H.out.below hx)
              have r4 : ∀ wx, Below w.heap.size w wx → Calls Tryz.prog 10 #[.agg #[.string S.name, .slice LA S.labels.length lc, .slice IA (S.init.length - 1) ic, .slice MA S.main.length mc, .int .i64 S.restart, .int .i64 S.grace, .int .i64 S.prio]] wx (TellsA (checkV (cutI S)) wx) := fun wx hx => by
                have ht := check_any (cutI S) LA lc IA ic MA mc (cutI_light HLT.out) wx (HL.out.below hx) (cutI_in (H.out.below hx))
                rw [show (cutI S).init.length = S.init.length - 1 from cutI_len S] at ht
                exact ht
              have r5 : ∀ wx, Below w.heap.size w wx → Calls Tryz.prog 10 #[.agg #[.string S.name, .slice LA S.labels.length lc, .slice IA S.init.length ic, .slice MA (S.main.length - 1) mc, .int .i64 S.restart, .int .i64 S.grace, .int .i64 S.prio]] wx (TellsA (checkV (cutM S)) wx) := fun wx hx => by
                have ht := check_any (cutM S) LA lc IA ic MA mc (cutM_light HLT.out) wx (HL.out.below hx) (cutM_in (H.out.below hx))
                rw [show (cutM S).main.length = S.main.length - 1 from cutM_len S] at ht
                exact ht
              have R3 := Lib.hid r3
              have R4 := Lib.hid r4
              have R5 := Lib.hid r5
              rw [hw8]
              clear r3 r4 r5 hw8 a0 a1 a2 a3 a4 a5 a6 d0 d1 d2 d3 d4 d5 d6 e0 e1 e2 e3 e4 e5 e6 c0 c1 c2 c3 c4 c5 c6 fz3 fz4 fz5
              refine (R3.out w8 B8.out).mono ?_
              rintro e w9 ⟨E1, rfl, hE1, hb9⟩
              obtain rfl : E1 = .nilIface := hE1.nil_iff.2 (HZ.out)
              have B9 := Lib.hid (B8.out.trans (hb9.mono B8.out.size))
              have HH4 := Lib.hid ((hb9.block g4 (SpecOwn.lt_of_block HG4.out)).trans HG4.out)
              have HH5x := Lib.hid ((hb9.block g5 (SpecOwn.lt_of_block HG5.out)).trans HG5.out)
              clear hE1 hb9
              have hh := HH4.out
              have p0 : w9.cell? ⟨g4, 0, none⟩ = some (.string S.name) := by simp [World.cell?, hh]
              have p1 : w9.cell? ⟨g4, 1, none⟩ = some (.slice LA S.labels.length lc) := by simp [World.cell?, hh]
              have p2 : w9.cell? ⟨g4, 2, none⟩ = some (.slice IA (S.init.length - 1) ic) := by simp [World.cell?, hh]
              have p3 : w9.cell? ⟨g4, 3, none⟩ = some (.slice MA S.main.length mc) := by simp [World.cell?, hh]
              have p4 : w9.cell? ⟨g4, 4, none⟩ = some (.int .i64 S.restart) := by simp [World.cell?, hh]
              have p5 : w9.cell? ⟨g4, 5, none⟩ = some (.int .i64 S.grace) := by simp [World.cell?, hh]
              have p6 : w9.cell? ⟨g4, 6, none⟩ = some (.int .i64 S.prio) := by simp [World.cell?, hh]
              clear hh
              go_wp2_with fail
              refine (R4.out w9 B9.out).mono ?_
              rintro e w10 ⟨E2, rfl, hE2, hb10⟩
              obtain rfl : E2 = .nilIface := hE2.nil_iff.2 (cutI_ok HZ.out)
              have B10 := Lib.hid (B9.out.trans (hb10.mono B9.out.size))
              have HH5 := Lib.hid ((hb10.block g5 (SpecOwn.lt_of_block HH5x.out)).trans HH5x.out)
              clear hE2 hb10 p0 p1 p2 p3 p4 p5 p6
              have hh := HH5.out
              have q0 : w10.cell? ⟨g5, 0, none⟩ = some (.string S.name) := by simp [World.cell?, hh]
              have q1 : w10.cell? ⟨g5, 1, none⟩ = some (.slice LA S.labels.length lc) := by simp [World.cell?, hh]
              have q2 : w10.cell? ⟨g5, 2, none⟩ = some (.slice IA S.init.length ic) := by simp [World.cell?, hh]
              have q3 : w10.cell? ⟨g5, 3, none⟩ = some (.slice MA (S.main.length - 1) mc) := by simp [World.cell?, hh]
              have q4 : w10.cell? ⟨g5, 4, none⟩ = some (.int .i64 S.restart) := by simp [World.cell?, hh]
              have q5 : w10.cell? ⟨g5, 5, none⟩ = some (.int .i64 S.grace) := by simp [World.cell?, hh]
              have q6 : w10.cell? ⟨g5, 6, none⟩ = some (.int .i64 S.prio) := by simp [World.cell?, hh]
              clear hh
              go_wp2_with fail
              refine (R5.out w10 B10.out).mono ?_
              rintro e w11 ⟨E3, rfl, hE3, hb11⟩
              obtain rfl : E3 = .nilIface := hE3.nil_iff.2 (cutM_ok HZ.out (by omega))
              have B11 := Lib.hid (B10.out.trans (hb11.mono B10.out.size))
              clear hE3 hb11 q0 q1 q2 q3 q4 q5 q6
              go_wp2
              go_ret
              exact ⟨rfl, B11.out⟩
            · have hi1 := sub_one (n := S.init.length) (by omega) (by omega)
              have hi2 : (S.init.length : Int) - 1 ≤ (ic : Int) := by omega
              have hi3 : (0 : Int) ≤ (S.init.length : Int) - 1 := by omega
              have hi4 : ((S.init.length : Int) - 1).toNat = S.init.length - 1 := by omega
              go_wp2_with fail
              obtain ⟨w8, hw8⟩ : ∃ w8, (w5.setCell ⟨g4, 2, none⟩ (.slice IA (S.init.length - 1) ic)) = w8 := ⟨_, rfl⟩
              have B8 := Lib.hid (show Below w.heap.size w w8 by rw [← hw8]; exact (B5.out.setCell (p := ⟨g4, 2, none⟩) (Nat.le_trans B4.out.size HT.out.l4) (.slice IA (S.init.length - 1) ic)))
              have HG4 := Lib.hid (show w8.heap[g4]? = some (.cells #[.string S.name, .slice LA S.labels.length lc, .slice IA (S.init.length - 1) ic, .slice MA S.main.length mc, .int .i64 S.restart, .int .i64 S.grace, .int .i64 S.prio] 25 (0, 0)) by
                rw [← hw8]
                have h0 := HT.out.s4
                unfold SBox at h0
                have h1 : w5.heap[g4]? = some (.cells #[.string S.name, .slice LA S.labels.length lc, .slice IA S.init.length ic, .slice MA S.main.length mc, .int .i64 S.restart, .int .i64 S.grace, .int .i64 S.prio] 25 (0, 0)) := by
                  exact h0
                simpa using heap_setCell_same _ g4 2 _ _ (.slice IA (S.init.length - 1) ic) h1)
              have HG5 := Lib.hid (show w8.heap[g5]? = some (.cells #[.string S.name, .slice LA S.labels.length lc, .slice IA S.init.length ic, .slice MA S.main.length mc, .int .i64 S.restart, .int .i64 S.grace, .int .i64 S.prio] 25 (0, 0)) by
                rw [← hw8]
                rw [Below.heap_setCell _ _ _ _ (show g5 ≠ g4 by assumption)]
                exact HT.out.s5)
              have r3 : ∀ wx, Below w.heap.size w wx → Calls Tryz.prog 10 #[.agg #[.string S.name, .slice LA S.labels.length lc, .slice IA S.init.length ic, .slice MA S.main.length mc, .int .i64 S.restart, .int .i64 S.grace, .int .i64 S.prio]] wx (TellsA (checkV S) wx) := fun wx hx => check_any S LA lc IA ic MA mc HLT.out wx (HL.out.below hx) (H.out.below hx)
              have r4 : ∀ wx, Below w.heap.size w wx → Calls Tryz.prog 10 #[.agg #[.string S.name, .slice LA S.labels.length lc, .slice IA (S.init.length - 1) ic, .slice MA S.main.length mc, .int .i64 S.restart, .int .i64 S.grace, .int .i64 S.prio]] wx (TellsA (checkV (cutI S)) wx) := fun wx hx => by
                have ht := check_any (cutI S) LA lc IA ic MA mc (cutI_light HLT.out) wx (HL.out.below hx) (cutI_in (H.out.below hx))
                rw [show (cutI S).init.length = S.init.length - 1 from cutI_len S] at ht
                exact ht
              have r5 : ∀ wx, Below w.heap.size w wx → Calls Tryz.prog 10 #[.agg #[.string S.name, .slice LA S.labels.length lc, .slice IA S.init.length ic, .slice MA S.main.length mc, .int .i64 S.restart, .int .i64 S.grace, .int .i64 S.prio]] wx (TellsA (checkV S) wx) := fun wx hx => check_any S LA lc IA ic MA mc HLT.out wx (HL.out.below hx) (H.out.below hx)
              have R3 := Lib.hid r3
              have R4 := Lib.hid r4
              have R5 := Lib.hid r5
              rw [hw8]
              clear r3 r4 r5 hw8 a0 a1 a2 a3 a4 a5 a6 d0 d1 d2 d3 d4 d5 d6 e0 e1 e2 e3 e4 e5 e6 c0 c1 c2 c3 c4 c5 c6 fz3 fz4 fz5
              refine (R3.out w8 B8.out).mono ?_
              rintro e w9 ⟨E1, rfl, hE1, hb9⟩
              obtain rfl : E1 = .nilIface := hE1.nil_iff.2 (HZ.out)
              have B9 := Lib.hid (B8.out.trans (hb9.mono B8.out.size))
              have HH4 := Lib.hid ((hb9.block g4 (SpecOwn.lt_of_block HG4.out)).trans HG4.out)
              have HH5x := Lib.hid ((hb9.block g5 (SpecOwn.lt_of_block HG5.out)).trans HG5.out)
              clear hE1 hb9
              have hh := HH4.out
              have p0 : w9.cell? ⟨g4, 0, none⟩ = some (.string S.name) := by simp [World.cell?, hh]
              have p1 : w9.cell? ⟨g4, 1, none⟩ = some (.slice LA S.labels.length lc) := by simp [World.cell?, hh]
              have p2 : w9.cell? ⟨g4, 2, none⟩ = some (.slice IA (S.init.length - 1) ic) := by simp [World.cell?, hh]
              have p3 : w9.cell? ⟨g4, 3, none⟩ = some (.slice MA S.main.length mc) := by simp [World.cell?, hh]
              have p4 : w9.cell? ⟨g4, 4, none⟩ = some (.int .i64 S.restart) := by simp [World.cell?, hh]
              have p5 : w9.cell? ⟨g4, 5, none⟩ = some (.int .i64 S.grace) := by simp [World.cell?, hh]
              have p6 : w9.cell? ⟨g4, 6, none⟩ = some (.int .i64 S.prio) := by simp [World.cell?, hh]
              clear hh
              go_wp2_with fail
              refine (R4.out w9 B9.out).mono ?_
              rintro e w10 ⟨E2, rfl, hE2, hb10⟩
              obtain rfl : E2 = .nilIface := hE2.nil_iff.2 (cutI_ok HZ.out)
              have B10 := Lib.hid (B9.out.trans (hb10.mono B9.out.size))
              have HH5 := Lib.hid ((hb10.block g5 (SpecOwn.lt_of_block HH5x.out)).trans HH5x.out)
              clear hE2 hb10 p0 p1 p2 p3 p4 p5 p6
              have hh := HH5.out
              have q0 : w10.cell? ⟨g5, 0, none⟩ = some (.string S.name) := by simp [World.cell?, hh]
              have q1 : w10.cell? ⟨g5, 1, none⟩ = some (.slice LA S.labels.length lc) := by simp [World.cell?, hh]
              have q2 : w10.cell? ⟨g5, 2, none⟩ = some (.slice IA S.init.length ic) := by simp [World.cell?, hh]
              have q3 : w10.cell? ⟨g5, 3, none⟩ = some (.slice MA S.main.length mc) := by simp [World.cell?, hh]
              have q4 : w10.cell? ⟨g5, 4, none⟩ = some (.int .i64 S.restart) := by simp [World.cell?, hh]
              have q5 : w10.cell? ⟨g5, 5, none⟩ = some (.int .i64 S.grace) := by simp [World.cell?, hh]
              have q6 : w10.cell? ⟨g5, 6, none⟩ = some (.int .i64 S.prio) := by simp [World.cell?, hh]
              clear hh
              go_wp2_with fail
              refine (R5.out w10 B10.out).mono ?_
              rintro e w11 ⟨E3, rfl, hE3, hb11⟩
              obtain rfl : E3 = .nilIface := hE3.nil_iff.2 (HZ.out)
              have B11 := Lib.hid (B10.out.trans (hb11.mono B10.out.size))
              clear hE3 hb11 q0 q1 q2 q3 q4 q5 q6
              go_wp2
              go_ret
              exact ⟨rfl, B11.out⟩
          · by_cases hM : 1 < (S.main.length : Int)
            · have hm1 := sub_one (n := S.main.length) (by omega) (by omega)
              have hm2 : (S.main.length : Int) - 1 ≤ (mc : Int) := by omega
              have hm3 : (0 : Int) ≤ (S.main.length : Int) - 1 := by omega
              have hm4 : ((S.main.length : Int) - 1).toNat = S.main.length - 1 := by omega
              go_wp2_with fail
              obtain ⟨w8, hw8⟩ : ∃ w8, (w5.setCell ⟨g5, 3, none⟩ (.slice MA (S.main.length - 1) mc)) = w8 := ⟨_, rfl⟩
              have B8 := Lib.hid (show Below w.heap.size w w8 by rw [← hw8]; exact (B5.out.setCell (p := ⟨g5, 3, none⟩) (Nat.le_trans B4.out.size HT.out.l5) (.slice MA (S.main.length - 1) mc)))
              have HG4 := Lib.hid (show w8.heap[g4]? = some (.cells #[.string S.name, .slice LA S.labels.length lc, .slice IA S.init.length ic, .slice MA S.main.length mc, .int .i64 S.restart, .int .i64 S.grace, .int .i64 S.prio] 25 (0, 0)) by
                rw [← hw8]
                rw [Below.heap_setCell _ _ _ _ (show g4 ≠ g5 by assumption)]
                exact HT.out.s4)
              have HG5 := Lib.hid (show w8.heap[g5]? = some (.cells #[.string S.name, .slice LA S.labels.length lc, .slice IA S.init.length ic, .slice MA (S.main.length - 1) mc, .int .i64 S.restart, .int .i64 S.grace, .int .i64 S.prio] 25 (0, 0)) by
                rw [← hw8]
                have h0 := HT.out.s5
                unfold SBox at h0
                have h1 : w5.heap[g5]? = some (.cells #[.string S.name, .slice LA S.labels.length lc, .slice IA S.init.length ic, .slice MA S.main.length mc, .int .i64 S.restart, .int .i64 S.grace, .int .i64 S.prio] 25 (0, 0)) := by
                  exact h0
                simpa using heap_setCell_same _ g5 3 _ _ (.slice MA (S.main.length - 1) mc) h1)
              have r3 : ∀ wx, Below w.heap.size w wx → Calls Tryz.prog 10 #[.agg #[.string S.name, .slice LA S.labels.length lc, .slice IA S.init.length ic, .slice MA S.main.length mc, .int .i64 S.restart, .int .i64 S.grace, .int .i64 S.prio]] wx (TellsA (checkV S) wx) := fun wx hx => check_any S LA lc IA ic MA mc HLT.out wx (HL.out.below hx) (H.out.below hx)
              have r4 : ∀ wx, Below w.heap.size w wx → Calls Tryz.prog 10 #[.agg #[.string S.name, .slice LA S.labels.length lc, .slice IA S.init.length ic, .slice MA S.main.length mc, .int .i64 S.restart, .int .i64 S.grace, .int .i64 S.prio]] wx (TellsA (checkV S) wx) := fun wx hx => check_any S LA lc IA ic MA mc HLT.out wx (HL.out.below hx) (H.out.below hx)
              have r5 : ∀ wx, Below w.heap.size w wx → Calls Tryz.prog 10 #[.agg #[.string S.name, .slice LA S.labels.length lc, .slice IA S.init.length ic, .slice MA (S.main.length - 1) mc, .int .i64 S.restart, .int .i64 S.grace, .int .i64 S.prio]] wx (TellsA (checkV (cutM S)) wx) := fun wx hx => by
                have ht := check_any (cutM S) LA lc IA ic MA mc (cutM_light HLT.out) wx (HL.out.below hx) (cutM_in (H.out.below hx))
                rw [show (cutM S).main.length = S.main.length - 1 from cutM_len S] at ht
                exact ht
              have R3 := Lib.hid r3
              have R4 := Lib.hid r4
              have R5 := Lib.hid r5
              rw [hw8]
              clear r3 r4 r5 hw8 a0 a1 a2 a3 a4 a5 a6 d0 d1 d2 d3 d4 d5 d6 e0 e1 e2 e3 e4 e5 e6 c0 c1 c2 c3 c4 c5 c6 fz3 fz4 fz5
              refine (R3.out w8 B8.out).mono ?_
              rintro e w9 ⟨E1, rfl, hE1, hb9⟩
              obtain rfl : E1 = .nilIface := hE1.nil_iff.2 (HZ.out)
              have B9 := Lib.hid (B8.out.trans (hb9.mono B8.out.size))
              have HH4 := Lib.hid ((hb9.block g4 (SpecOwn.lt_of_block HG4.out)).trans HG4.out)
              have HH5x := Lib.hid ((hb9.block g5 (SpecOwn.lt_of_block HG5.out)).trans HG5.out)
              clear hE1 hb9
              have hh := HH4.out
              have p0 : w9.cell? ⟨g4, 0, none⟩ = some (.string S.name) := by simp [World.cell?, hh]
              have p1 : w9.cell? ⟨g4, 1, none⟩ = some (.slice LA S.labels.length lc) := by simp [World.cell?, hh]
              have p2 : w9.cell? ⟨g4, 2, none⟩ = some (.slice IA S.init.length ic) := by simp [World.cell?, hh]
              have p3 : w9.cell? ⟨g4, 3, none⟩ = some (.slice MA S.main.length mc) := by simp [World.cell?, hh]
              have p4 : w9.cell? ⟨g4, 4, none⟩ = some (.int .i64 S.restart) := by simp [World.cell?, hh]
              have p5 : w9.cell? ⟨g4, 5, none⟩ = some (.int .i64 S.grace) := by simp [World.cell?, hh]
              have p6 : w9.cell? ⟨g4, 6, none⟩ = some (.int .i64 S.prio) := by simp [World.cell?, hh]
              clear hh
              go_wp2_with fail
              refine (R4.out w9 B9.out).mono ?_
              rintro e w10 ⟨E2, rfl, hE2, hb10⟩
              obtain rfl : E2 = .nilIface := hE2.nil_iff.2 (HZ.out)
              have B10 := Lib.hid (B9.out.trans (hb10.mono B9.out.size))
              have HH5 := Lib.hid ((hb10.block g5 (SpecOwn.lt_of_block HH5x.out)).trans HH5x.out)
              clear hE2 hb10 p0 p1 p2 p3 p4 p5 p6
              have hh := HH5.out
              have q0 : w10.cell? ⟨g5, 0, none⟩ = some (.string S.name) := by simp [World.cell?, hh]
              have q1 : w10.cell? ⟨g5, 1, none⟩ = some (.slice LA S.labels.length lc) := by simp [World.cell?, hh]
              have q2 : w10.cell? ⟨g5, 2, none⟩ = some (.slice IA S.init.length ic) := by simp [World.cell?, hh]
              have q3 : w10.cell? ⟨g5, 3, none⟩ = some (.slice MA (S.main.length - 1) mc) := by simp [World.cell?, hh]
              have q4 : w10.cell? ⟨g5, 4, none⟩ = some (.int .i64 S.restart) := by simp [World.cell?, hh]
              have q5 : w10.cell? ⟨g5, 5, none⟩ = some (.int .i64 S.grace) := by simp [World.cell?, hh]
              have q6 : w10.cell? ⟨g5, 6, none⟩ = some (.int .i64 S.prio) := by simp [World.cell?, hh]
              clear hh
              go_wp2_with fail
              refine (R5.out w10 B10.out).mono ?_
              rintro e w11 ⟨E3, rfl, hE3, hb11⟩
              obtain rfl : E3 = .nilIface := hE3.nil_iff.2 (cutM_ok HZ.out (by omega))
              have B11 := Lib.hid (B10.out.trans (hb11.mono B10.out.size))
              clear hE3 hb11 q0 q1 q2 q3 q4 q5 q6
              go_wp2
              go_ret
              exact ⟨rfl, B11.out⟩
            · go_wp2_with fail
              obtain ⟨w8, hw8⟩ : ∃ w8, w5 = w8 := ⟨_, rfl⟩
              have B8 := Lib.hid (show Below w.heap.size w w8 by rw [← hw8]; exact B5.out)
              have HG4 := Lib.hid (show w8.heap[g4]? = some (.cells #[.string S.name, .slice LA S.labels.length lc, .slice IA S.init.length ic, .slice MA S.main.length mc, .int .i64 S.restart, .int .i64 S.grace, .int .i64 S.prio] 25 (0, 0)) by
                rw [← hw8]
                exact HT.out.s4)
              have HG5 := Lib.hid (show w8.heap[g5]? = some (.cells #[.string S.name, .slice LA S.labels.length lc, .slice IA S.init.length ic, .slice MA S.main.length mc, .int .i64 S.restart, .int .i64 S.grace, .int .i64 S.prio] 25 (0, 0)) by
                rw [← hw8]
                exact HT.out.s5)
              have r3 : ∀ wx, Below w.heap.size w wx → Calls Tryz.prog 10 #[.agg #[.string S.name, .slice LA S.labels.length lc, .slice IA S.init.length ic, .slice MA S.main.length mc, .int .i64 S.restart, .int .i64 S.grace, .int .i64 S.prio]] wx (TellsA (checkV S) wx) := fun wx hx => check_any S LA lc IA ic MA mc HLT.out wx (HL.out.below hx) (H.out.below hx)
              have r4 : ∀ wx, Below w.heap.size w wx → Calls Tryz.prog 10 #[.agg #[.string S.name, .slice LA S.labels.length lc, .slice IA S.init.length ic, .slice MA S.main.length mc, .int .i64 S.restart, .int .i64 S.grace, .int .i64 S.prio]] wx (TellsA (checkV S) wx) := fun wx hx => check_any S LA lc IA ic MA mc HLT.out wx (HL.out.below hx) (H.out.below hx)
              have r5 : ∀ wx, Below w.heap.size w wx → Calls Tryz.prog 10 #[.agg #[.string S.name, .slice LA S.labels.length lc, .slice IA S.init.length ic, .slice MA S.main.length mc, .int .i64 S.restart, .int .i64 S.grace, .int .i64 S.prio]] wx (TellsA (checkV S) wx) := fun wx hx => check_any S LA lc IA ic MA mc HLT.out wx (HL.out.below hx) (H.out.below hx)
              have R3 := Lib.hid r3
              have R4 := Lib.hid r4
              have R5 := Lib.hid r5
              rw [hw8]
              clear r3 r4 r5 hw8 a0 a1 a2 a3 a4 a5 a6 d0 d1 d2 d3 d4 d5 d6 e0 e1 e2 e3 e4 e5 e6 c0 c1 c2 c3 c4 c5 c6 fz3 fz4 fz5
              refine (R3.out w8 B8.out).mono ?_
              rintro e w9 ⟨E1, rfl, hE1, hb9⟩
              obtain rfl : E1 = .nilIface := hE1.nil_iff.2 (HZ.out)
              have B9 := Lib.hid (B8.out.trans (hb9.mono B8.out.size))
              have HH4 := Lib.hid ((hb9.block g4 (SpecOwn.lt_of_block HG4.out)).trans HG4.out)
              have HH5x := Lib.hid ((hb9.block g5 (SpecOwn.lt_of_block HG5.out)).trans HG5.out)
              clear hE1 hb9
              have hh := HH4.out
              have p0 : w9.cell? ⟨g4, 0, none⟩ = some (.string S.name) := by simp [World.cell?, hh]
              have p1 : w9.cell? ⟨g4, 1, none⟩ = some (.slice LA S.labels.length lc) := by simp [World.cell?, hh]
              have p2 : w9.cell? ⟨g4, 2, none⟩ = some (.slice IA S.init.length ic) := by simp [World.cell?, hh]
              have p3 : w9.cell? ⟨g4, 3, none⟩ = some (.slice MA S.main.length mc) := by simp [World.cell?, hh]
              have p4 : w9.cell? ⟨g4, 4, none⟩ = some (.int .i64 S.restart) := by simp [World.cell?, hh]
              have p5 : w9.cell? ⟨g4, 5, none⟩ = some (.int .i64 S.grace) := by simp [World.cell?, hh]
              have p6 : w9.cell? ⟨g4, 6, none⟩ = some (.int .i64 S.prio) := by simp [World.cell?, hh]
              clear hh
              go_wp2_with fail
              refine (R4.out w9 B9.out).mono ?_
              rintro e w10 ⟨E2, rfl, hE2, hb10⟩
              obtain rfl : E2 = .nilIface := hE2.nil_iff.2 (HZ.out)
              have B10 := Lib.hid (B9.out.trans (hb10.mono B9.out.size))
              have HH5 := Lib.hid ((hb10.block g5 (SpecOwn.lt_of_block HH5x.out)).trans HH5x.out)
              clear hE2 hb10 p0 p1 p2 p3 p4 p5 p6
              have hh := HH5.out
              have q0 : w10.cell? ⟨g5, 0, none⟩ = some (.string S.name) := by simp [World.cell?, hh]
              have q1 : w10.cell? ⟨g5, 1, none⟩ = some (.slice LA S.labels.length lc) := by simp [World.cell?, hh]
              have q2 : w10.cell? ⟨g5, 2, none⟩ = some (.slice IA S.init.length ic) := by simp [World.cell?, hh]
              have q3 : w10.cell? ⟨g5, 3, none⟩ = some (.slice MA S.main.length mc) := by simp [World.cell?, hh]
              have q4 : w10.cell? ⟨g5, 4, none⟩ = some (.int .i64 S.restart) := by simp [World.cell?, hh]
              have q5 : w10.cell? ⟨g5, 5, none⟩ = some (.int .i64 S.grace) := by simp [World.cell?, hh]
              have q6 : w10.cell? ⟨g5, 6, none⟩ = some (.int .i64 S.prio) := by simp [World.cell?, hh]
              clear hh
              go_wp2_with fail
              refine (R5.out w10 B10.out).mono ?_
              rintro e w11 ⟨E3, rfl, hE3, hb11⟩
              obtain rfl : E3 = .nilIface := hE3.nil_iff.2 (HZ.out)
              have B11 := Lib.hid (B10.out.trans (hb11.mono B10.out.size))
              clear hE3 hb11 q0 q1 q2 q3 q4 q5 q6
              go_wp2
              go_ret
              exact ⟨rfl, B11.out⟩
      have HT0 := Lib.hid (three_in S LA lc IA ic MA mc w4)
      go_region
      all_goals
        change K _ _
        first
          | exact key _ _ _ _ HT0.out
          | exact key _ _ _ _ HT0.out.p132
          | exact key _ _ _ _ HT0.out.p213
          | exact key _ _ _ _ HT0.out.p231
          | exact key _ _ _ _ HT0.out.p312
          | exact key _ _ _ _ HT0.out.p321
end Go.Proofs.YtmdpfcniopiieaaGreatDoor.SpecPartsWalk
