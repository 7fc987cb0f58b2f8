/-
  The walk of the law PackBack: it returns true, and leaves all that was there as it was. Condition: as SpecStep.
-/
import Derived.Test.YtefkaebdfkjkgaaGreatDoorPackAll
set_option linter.unusedVariables false
set_option linter.unusedSimpArgs false
namespace Go.Proofs.YtefkaebdfkjkgaaGreatDoor.PackBackWalk
open Go.ChangeShapes Go.WideShapes Go.ChangeAt Go.RowKit Go.Lib
open LebMath WirePure Sd Wire SpecOwn SpecRef Book Pk

set_option maxRecDepth 100000 in
set_option maxHeartbeats 4000000 in
theorem walk (S : Spc) (LA : Option Addr) (lc : Nat) (IA : Option Addr) (ic : Nat) (MA : Option Addr) (mc : Nat) (t : ByteArray) (ht : t.size ≤ 140737488351232) (w : World) (hL : SLaid w) (h : S.In w LA lc IA ic MA mc) :
    Calls Tryz.prog 9 #[.agg #[.string S.name, .slice LA S.labels.length lc, .slice IA S.init.length ic, .slice MA S.main.length mc, .int .i64 S.restart, .int .i64 S.grace, .int .i64 S.prio], .string t] w fun e w' => e = .returned (.bool true) ∧ Below w.heap.size w w' := by
  have HL := Lib.hid hL
  have H := Lib.hid h
  have HFT := Lib.hid (show Few t.data.toList by show t.data.toList.length ≤ 281474976710656; rw [Array.length_toList]; show t.size ≤ _; omega)
  obtain ⟨⟨T0, ct, lt⟩, hqt⟩ : ∃ q, specC.rd 0 t.data.toList = q := ⟨_, rfl⟩
  have hot := specC.okay 0 t.data.toList
  rw [hqt] at hot
  have HOT := Lib.hid hot
  have HQT := Lib.hid hqt
  clear hL h hot hqt
  obtain ⟨w1, hw1⟩ : ∃ v, w.alloc (.cells #[.string S.name, .slice LA S.labels.length lc, .slice IA S.init.length ic, .slice MA S.main.length mc, .int .i64 S.restart, .int .i64 S.grace, .int .i64 S.prio] 25) = v := ⟨_, rfl⟩
  have hb1 : Below w.heap.size w w1 := by rw [← hw1]; exact (Below.refl _ _).alloc (Nat.le_refl _) _
  have SB1 := Lib.hid (show SBox S LA lc IA ic MA mc w1 w.heap.size by rw [← hw1]; exact heap_alloc_new w _)
  have B1 := Lib.hid hb1
  clear hb1
  go_enter Tryz.func9, Tryz.ntmps9
  go_wp2_with fail
  refine (works_any w1 (HL.out.below B1.out)).mono ?_
  rintro e w2 ⟨rfl, hb2⟩
  have B2 := Lib.hid (B1.out.trans (hb2.mono B1.out.size))
  have SB2 := Lib.hid (SB1.out.below hb2)
  clear hb2 hw1
  obtain ⟨b, hb⟩ : ∃ b, w.heap.size = b := ⟨_, rfl⟩
  rw [hb] at SB2 ⊢
  clear hb SB1
  obtain ⟨c0, c1, c2, c3, c4, c5, c6⟩ := SB2.out.cells
  go_wp2_with fail
  refine (light_any S LA lc IA ic MA mc w2 (H.out.below B2.out)).mono ?_
  rintro e w3 ⟨rfl, hb3⟩
  have B3 := Lib.hid (B2.out.trans (hb3.mono B2.out.size))
  have SB3 := Lib.hid (SB2.out.below hb3)
  clear hb3 c0 c1 c2 c3 c4 c5 c6 SB2
  cases hlt : LightB S with
  | false =>
    go_wp2
    go_ret
    exact ⟨rfl, B3.out⟩
  | true =>
    have HLT := Lib.hid (LightB_iff.1 hlt)
    clear hlt
    by_cases hlen : 3000 < t.size
    · have hlen' : (3000 : Int) < (t.size : Int) := by omega
      go_wp2
      go_ret
      exact ⟨rfl, B3.out⟩
    · have hlen' : ¬ (3000 : Int) < (t.size : Int) := by omega
      obtain ⟨c0, c1, c2, c3, c4, c5, c6⟩ := SB3.out.cells
      go_wp2_with fail
      refine (bytes_any S LA lc IA ic MA mc HLT.out w3 (H.out.below B3.out) (HL.out.below B3.out)).mono ?_
      rintro e w4 ⟨hb4, hby⟩
      have B4 := Lib.hid (B3.out.trans (hb4.mono B3.out.size))
      have SB4 := Lib.hid (SB3.out.below hb4)
      clear hb4 c0 c1 c2 c3 c4 c5 c6 SB3
      rcases hby with ⟨hc, rfl⟩ | ⟨hc, rfl⟩
      · have HC := Lib.hid hc
        obtain ⟨c0, c1, c2, c3, c4, c5, c6⟩ := SB4.out.cells
        clear hc
        go_wp2_with fail
        refine (check_any S LA lc IA ic MA mc HLT.out w4 (HL.out.below B4.out) (H.out.below B4.out)).mono ?_
        rintro e w5 ⟨E5, rfl, hE5, hb5⟩
        obtain rfl : E5 = .nilIface := hE5.nil_iff.2 HC.out
        have B5 := Lib.hid (B4.out.trans (hb5.mono B4.out.size))
        have SB5 := Lib.hid (SB4.out.below hb5)
        clear hE5 hb5 c0 c1 c2 c3 c4 c5 c6 SB4
        have hbk := spec_back HC.out
        have hfewb : Few (⟨(specC.put S).toArray⟩ : ByteArray).data.toList := spec_few HC.out
        have HOF := Lib.hid (of_any ⟨(specC.put S).toArray⟩ hfewb S 0 [] hbk w5 (HL.out.below B5.out))
        obtain ⟨bs, hbs⟩ : ∃ bs : ByteArray, (⟨(specC.put S).toArray⟩ : ByteArray) = bs := ⟨_, rfl⟩
        rw [hbs] at HOF ⊢
        clear hbk hfewb hbs
        go_wp2_with fail
        refine HOF.out.mono ?_
        rintro e w6 ⟨E6, hE6, hb6, hcase⟩
        rw [of_fine HC.out] at hE6 hcase
        have B6 := Lib.hid (B5.out.trans (hb6.mono B5.out.size))
        have SB6 := Lib.hid (SB5.out.below hb6)
        clear hE6 hb6 HOF
        rcases hcase with ⟨_, LY, ly, IY, iy, MY, my, rfl, hup⟩ | ⟨hno, _⟩
        · have HIN := Lib.hid (SpcUp.in (lc := ly) (ic := iy) (mc := my) hup)
          clear hup
          obtain ⟨w7, hw7⟩ : ∃ v, w6.alloc (.cells #[.string S.name, .slice LY S.labels.length ly, .slice IY S.init.length iy, .slice MY S.main.length my, .int .i64 S.restart, .int .i64 S.grace, .int .i64 S.prio] 25) = v := ⟨_, rfl⟩
          have hb7 : Below w6.heap.size w6 w7 := by rw [← hw7]; exact (Below.refl _ _).alloc (Nat.le_refl _) _
          have YB7 := Lib.hid (show SBox S LY ly IY iy MY my w7 w6.heap.size by rw [← hw7]; exact heap_alloc_new w6 _)
          have B7 := Lib.hid (B6.out.trans (hb7.mono B6.out.size))
          have SB7 := Lib.hid (SB6.out.below hb7)
          have IN7 := Lib.hid (HIN.out.below hb7)
          clear hb7
          obtain ⟨c0, c1, c2, c3, c4, c5, c6⟩ := SB7.out.cells
          obtain ⟨d0, d1, d2, d3, d4, d5, d6⟩ := YB7.out.cells
          go_wp2_with fail
          have hrun := sameSpec_any S LY ly IY iy MY my S LA lc IA ic MA mc w7 IN7.out (H.out.below B7.out)
          rw [(sameS_iff S S).2 rfl] at hrun
          refine hrun.mono ?_
          rintro e w8 ⟨rfl, hb8⟩
          have B8 := Lib.hid (B7.out.trans (hb8.mono B7.out.size))
          clear hb8 hrun hw7 c0 c1 c2 c3 c4 c5 c6 d0 d1 d2 d3 d4 d5 d6
          have hTW := of_any t HFT.out T0 ct lt HQT.out w8 (HL.out.below B8.out)
          have HTW := Lib.hid hTW
          clear hTW
          go_wp2_with fail
          refine HTW.out.mono ?_
          rintro e u1 ⟨E, hE, hbu, hcase⟩
          have BU1 := Lib.hid (B8.out.trans (hbu.mono B8.out.size))
          have HE := Lib.hid hE
          clear hbu hE HTW
          rcases hcase with ⟨hy0, LX, lx, IX, ix, MX, mx, rfl, hup⟩ | ⟨hy0, rfl⟩
          · obtain ⟨hchk, hput⟩ := of_right HQT.out hy0
            have HCHK := Lib.hid hchk
            have HPUT := Lib.hid (bytes_back hput)
            have HIN := Lib.hid (SpcUp.in (lc := lx) (ic := ix) (mc := mx) hup)
            have hE0 : E = .nilIface := HE.out.nil_iff.2 hy0
            clear hup hchk hput hy0
            obtain ⟨u2, hu2⟩ : ∃ v, u1.alloc (.cells #[.string T0.name, .slice LX T0.labels.length lx, .slice IX T0.init.length ix, .slice MX T0.main.length mx, .int .i64 T0.restart, .int .i64 T0.grace, .int .i64 T0.prio] 25) = v := ⟨_, rfl⟩
            have hbu2 : Below u1.heap.size u1 u2 := by rw [← hu2]; exact (Below.refl _ _).alloc (Nat.le_refl _) _
            have XB2 := Lib.hid (show SBox T0 LX lx IX ix MX mx u2 u1.heap.size by rw [← hu2]; exact heap_alloc_new u1 _)
            have BU2 := Lib.hid (BU1.out.trans (hbu2.mono BU1.out.size))
            have IN2 := Lib.hid (HIN.out.below hbu2)
            clear hbu2
            obtain ⟨c0, c1, c2, c3, c4, c5, c6⟩ := XB2.out.cells
            go_wp2_with fail
            refine (bytes_any T0 LX lx IX ix MX mx (spec_light HOT.out) u2 IN2.out (HL.out.below BU2.out)).mono ?_
            rintro e u3 ⟨hbu3, hby⟩
            have BU3 := Lib.hid (BU2.out.trans (hbu3.mono BU2.out.size))
            have XB3 := Lib.hid (XB2.out.below hbu3)
            have IN3 := Lib.hid (IN2.out.below hbu3)
            clear hbu3 c0 c1 c2 c3 c4 c5 c6 hu2
            rcases hby with ⟨_, rfl⟩ | ⟨hno, _⟩
            · rw [HPUT.out]
              obtain ⟨c0, c1, c2, c3, c4, c5, c6⟩ := XB3.out.cells
              go_wp2_with fail
              refine (check_any T0 LX lx IX ix MX mx (spec_light HOT.out) u3 (HL.out.below BU3.out) IN3.out).mono ?_
              rintro e u4 ⟨E4, rfl, hE4, hbu4⟩
              obtain rfl : E4 = .nilIface := hE4.nil_iff.2 HCHK.out
              have BU4 := Lib.hid (BU3.out.trans (hbu4.mono BU3.out.size))
              clear hE4 hbu4
              go_wp2
              go_ret
              exact ⟨rfl, BU4.out⟩
            · exact absurd HCHK.out hno
          · obtain ⟨uu, xx, rfl⟩ : ∃ u x, E = .iface u x := by
              rcases HE.out.form with h | h
              · exact absurd (HE.out.nil_iff.1 h) hy0
              · exact h
            clear hy0
            go_wp2_with fail
            obtain ⟨u2, hu2⟩ : ∃ v, u1.alloc (.cells #[.string ⟨#[]⟩, .slice none 0 0, .slice none 0 0, .slice none 0 0, .int .i64 0, .int .i64 0, .int .i64 0] 25) = v := ⟨_, rfl⟩
            have hbu2 : Below u1.heap.size u1 u2 := by rw [← hu2]; exact (Below.refl _ _).alloc (Nat.le_refl _) _
            have BU2 := Lib.hid (BU1.out.trans (hbu2.mono BU1.out.size))
            rw [hu2]
            clear hbu2 hu2
            have hrun := sameSpec_any Z0 none 0 none 0 none 0 Z0 none 0 none 0 none 0 u2 (z0_in u2) (z0_in u2)
            rw [(sameS_iff Z0 Z0).2 rfl] at hrun
            refine hrun.mono ?_
            rintro e u3 ⟨rfl, hbu3⟩
            have BU3 := Lib.hid (BU2.out.trans (hbu3.mono BU2.out.size))
            clear hbu3 hrun
            go_wp2
            go_ret
            exact ⟨rfl, BU3.out⟩
        · exact absurd rfl hno
      · have HC := Lib.hid hc
        have hz' : ((checkV S).1 == 0) = false := by simpa using hc
        obtain ⟨y, hy⟩ : ∃ y, (checkV S).1 = y := ⟨_, rfl⟩
        obtain ⟨c0, c1, c2, c3, c4, c5, c6⟩ := SB4.out.cells
        rw [hy] at hz' ⊢
        clear hc hy
        go_wp2_with fail
        refine (check_any S LA lc IA ic MA mc HLT.out w4 (HL.out.below B4.out) (H.out.below B4.out)).mono ?_
        rintro e w5 ⟨E5, rfl, hE5, hb5⟩
        obtain ⟨uu5, xx5, rfl⟩ : ∃ u x, E5 = .iface u x := by
          rcases hE5.form with h | h
          · exact absurd (hE5.nil_iff.1 h) HC.out
          · exact h
        have B5 := Lib.hid (B4.out.trans (hb5.mono B4.out.size))
        clear hE5 hb5 c0 c1 c2 c3 c4 c5 c6 SB4
        have hTW := of_any t HFT.out T0 ct lt HQT.out w5 (HL.out.below B5.out)
        have HTW := Lib.hid hTW
        clear hTW
        go_wp2_with fail
        refine HTW.out.mono ?_
        rintro e u1 ⟨E, hE, hbu, hcase⟩
        have BU1 := Lib.hid (B5.out.trans (hbu.mono B5.out.size))
        have HE := Lib.hid hE
        clear hbu hE HTW
        rcases hcase with ⟨hy0, LX, lx, IX, ix, MX, mx, rfl, hup⟩ | ⟨hy0, rfl⟩
        · obtain ⟨hchk, hput⟩ := of_right HQT.out hy0
          have HCHK := Lib.hid hchk
          have HPUT := Lib.hid (bytes_back hput)
          have HIN := Lib.hid (SpcUp.in (lc := lx) (ic := ix) (mc := mx) hup)
          have hE0 : E = .nilIface := HE.out.nil_iff.2 hy0
          clear hup hchk hput hy0
          obtain ⟨u2, hu2⟩ : ∃ v, u1.alloc (.cells #[.string T0.name, .slice LX T0.labels.length lx, .slice IX T0.init.length ix, .slice MX T0.main.length mx, .int .i64 T0.restart, .int .i64 T0.grace, .int .i64 T0.prio] 25) = v := ⟨_, rfl⟩
          have hbu2 : Below u1.heap.size u1 u2 := by rw [← hu2]; exact (Below.refl _ _).alloc (Nat.le_refl _) _
          have XB2 := Lib.hid (show SBox T0 LX lx IX ix MX mx u2 u1.heap.size by rw [← hu2]; exact heap_alloc_new u1 _)
          have BU2 := Lib.hid (BU1.out.trans (hbu2.mono BU1.out.size))
          have IN2 := Lib.hid (HIN.out.below hbu2)
          clear hbu2
          obtain ⟨c0, c1, c2, c3, c4, c5, c6⟩ := XB2.out.cells
          go_wp2_with fail
          refine (bytes_any T0 LX lx IX ix MX mx (spec_light HOT.out) u2 IN2.out (HL.out.below BU2.out)).mono ?_
          rintro e u3 ⟨hbu3, hby⟩
          have BU3 := Lib.hid (BU2.out.trans (hbu3.mono BU2.out.size))
          have XB3 := Lib.hid (XB2.out.below hbu3)
          have IN3 := Lib.hid (IN2.out.below hbu3)
          clear hbu3 c0 c1 c2 c3 c4 c5 c6 hu2
          rcases hby with ⟨_, rfl⟩ | ⟨hno, _⟩
          · rw [HPUT.out]
            obtain ⟨c0, c1, c2, c3, c4, c5, c6⟩ := XB3.out.cells
            go_wp2_with fail
            refine (check_any T0 LX lx IX ix MX mx (spec_light HOT.out) u3 (HL.out.below BU3.out) IN3.out).mono ?_
            rintro e u4 ⟨E4, rfl, hE4, hbu4⟩
            obtain rfl : E4 = .nilIface := hE4.nil_iff.2 HCHK.out
            have BU4 := Lib.hid (BU3.out.trans (hbu4.mono BU3.out.size))
            clear hE4 hbu4
            go_wp2
            go_ret
            exact ⟨rfl, BU4.out⟩
          · exact absurd HCHK.out hno
        · obtain ⟨uu, xx, rfl⟩ : ∃ u x, E = .iface u x := by
            rcases HE.out.form with h | h
            · exact absurd (HE.out.nil_iff.1 h) hy0
            · exact h
          clear hy0
          go_wp2_with fail
          obtain ⟨u2, hu2⟩ : ∃ v, u1.alloc (.cells #[.string ⟨#[]⟩, .slice none 0 0, .slice none 0 0, .slice none 0 0, .int .i64 0, .int .i64 0, .int .i64 0] 25) = v := ⟨_, rfl⟩
          have hbu2 : Below u1.heap.size u1 u2 := by rw [← hu2]; exact (Below.refl _ _).alloc (Nat.le_refl _) _
          have BU2 := Lib.hid (BU1.out.trans (hbu2.mono BU1.out.size))
          rw [hu2]
          clear hbu2 hu2
          have hrun := sameSpec_any Z0 none 0 none 0 none 0 Z0 none 0 none 0 none 0 u2 (z0_in u2) (z0_in u2)
          rw [(sameS_iff Z0 Z0).2 rfl] at hrun
          refine hrun.mono ?_
          rintro e u3 ⟨rfl, hbu3⟩
          have BU3 := Lib.hid (BU2.out.trans (hbu3.mono BU2.out.size))
          clear hbu3 hrun
          go_wp2
          go_ret
          exact ⟨rfl, BU3.out⟩
end Go.Proofs.YtefkaebdfkjkgaaGreatDoor.PackBackWalk
