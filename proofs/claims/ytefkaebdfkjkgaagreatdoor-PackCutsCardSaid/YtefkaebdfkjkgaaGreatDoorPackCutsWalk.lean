/-
  The walk of the law PackCuts: it returns true, and leaves all that was there as it was. Condition: as SpecStep.
-/
import Derived.Test.YtefkaebdfkjkgaaGreatDoorPackAll
import Derived.Test.YtefkaebdfkjkgaaGreatDoorBookBelow
import Derived.Laws.Concat
set_option linter.unusedVariables false
set_option linter.unusedSimpArgs false
namespace Go.Proofs.YtefkaebdfkjkgaaGreatDoor.PackCutsWalk
open Go.ChangeShapes Go.WideShapes Go.ChangeAt Go.RowKit Go.Lib
open LebMath WirePure Sd Wire SpecOwn SpecRef Book Pk

theorem of_forty {S : Spc} {r : List UInt8} : firstV [newV (endE 40 r) t_wire, checkV S] = (40, t_wire) := by
  have h : endE 40 r = 40 := by
    unfold endE
    split
    · rfl
    · rfl
  rw [h]
  simp [firstV, newV]
theorem of_three {S : Spc} {r : List UInt8} (hr : r ≠ []) : firstV [newV (endE 0 r) t_wire, checkV S] = (3, t_wire) := by
  have h : endE 0 r = 3 := by
    unfold endE
    rw [if_neg hr]
    rfl
  rw [h]
  simp [firstV, newV]
theorem put_ne {S : Spc} : specC.put S ≠ [] := by
  rw [spec_put_eq]
  intro e
  rw [List.append_eq_nil_iff] at e
  have h1 := e.1
  unfold txB at h1
  have := leb_pos S.name.size
  rw [List.append_eq_nil_iff] at h1
  rw [h1.1] at this
  simp at this
theorem nonempty_isEmpty {z : ByteArray} {l : List UInt8} (h : z.data.toList = l) (hl : l ≠ []) : z.toList.isEmpty = false := by
  rw [ByteArray.toList_eq, h]
  cases l with
  | nil => exact absurd rfl hl
  | cons _ _ => rfl

set_option maxRecDepth 100000 in
set_option maxHeartbeats 2000000 in
theorem walk (S : Spc) (LA : Option Addr) (lc : Nat) (IA : Option Addr) (ic : Nat) (MA : Option Addr) (mc : Nat) (cut : Int) (more : ByteArray) (w : World) (hL : SLaid w) (h : S.In w LA lc IA ic MA mc) :
    Calls Tryz.prog 10 #[.agg #[.string S.name, .slice LA S.labels.length lc, .slice IA S.init.length ic, .slice MA S.main.length mc, .int .i64 S.restart, .int .i64 S.grace, .int .i64 S.prio], .int .i64 cut, .string more] w fun e w' => e = .returned (.bool true) ∧ Below w.heap.size w w' := by
  have HL := Lib.hid hL
  have H := Lib.hid h
  clear hL h
  obtain ⟨w1, hw1⟩ : ∃ v, w.alloc (.cells #[.string S.name, .slice LA S.labels.length lc, .slice IA S.init.length ic, .slice MA S.main.length mc, .int .i64 S.restart, .int .i64 S.grace, .int .i64 S.prio] 25) = v := ⟨_, rfl⟩
  have hb1 : Below w.heap.size w w1 := by rw [← hw1]; exact (Below.refl _ _).alloc (Nat.le_refl _) _
  have SB1 := Lib.hid (show SBox S LA lc IA ic MA mc w1 w.heap.size by rw [← hw1]; exact heap_alloc_new w _)
  have B1 := Lib.hid hb1
  clear hb1
  go_enter Tryz.func10, Tryz.ntmps10
  go_wp2_with fail
  refine (works_any w1 (HL.out.below B1.out)).mono ?_
  rintro e w2 ⟨rfl, hb2⟩
  have B2 := Lib.hid (B1.out.trans (hb2.mono B1.out.size))
  have SB2 := Lib.hid (SB1.out.below hb2)
  clear hb2 hw1
  obtain ⟨b, hb⟩ : ∃ b, w.heap.size = b := ⟨_, rfl⟩
  rw [hb] at SB2 ⊢
  clear hb SB1
  obtain ⟨c0, c1, c2, c3, c4, c5, c6⟩ := SB2.out.cells
  go_wp2_with fail
  refine (light_any S LA lc IA ic MA mc w2 (H.out.below B2.out)).mono ?_
  rintro e w3 ⟨rfl, hb3⟩
  have B3 := Lib.hid (B2.out.trans (hb3.mono B2.out.size))
  have SB3 := Lib.hid (SB2.out.below hb3)
  clear hb3 c0 c1 c2 c3 c4 c5 c6 SB2
  cases hlt : LightB S with
  | false =>
    go_wp2
    go_ret
    exact ⟨rfl, B3.out⟩
  | true =>
    have HLT := Lib.hid (LightB_iff.1 hlt)
    clear hlt
    obtain ⟨c0, c1, c2, c3, c4, c5, c6⟩ := SB3.out.cells
    go_wp2_with fail
    refine (check_any S LA lc IA ic MA mc HLT.out w3 (HL.out.below B3.out) (H.out.below B3.out)).mono ?_
    rintro e w4 ⟨E4, rfl, hE4, hb4⟩
    have B4 := Lib.hid (B3.out.trans (hb4.mono B3.out.size))
    have SB4 := Lib.hid (SB3.out.below hb4)
    have hform := hE4.form
    have hnil := hE4.nil_iff
    clear hE4 hb4 c0 c1 c2 c3 c4 c5 c6 SB3
    rcases hform with rfl | ⟨uu, xx, rfl⟩
    · have HC := Lib.hid (hnil.1 rfl)
      clear hnil
      by_cases hlen : 300 < more.size
      · have hlen' : (300 : Int) < (more.size : Int) := by omega
        go_wp2
        go_ret
        exact ⟨rfl, B4.out⟩
      · have hlen' : ¬ (300 : Int) < (more.size : Int) := by omega
        obtain ⟨c0, c1, c2, c3, c4, c5, c6⟩ := SB4.out.cells
        go_wp2_with fail
        refine (bytes_any S LA lc IA ic MA mc HLT.out w4 (H.out.below B4.out) (HL.out.below B4.out)).mono ?_
        rintro e w5 ⟨hb5, hby⟩
        rcases hby with ⟨_, rfl⟩ | ⟨hno, _⟩
        · have B5 := Lib.hid (B4.out.trans (hb5.mono B4.out.size))
          have hpl := spec_put_len (spec_ok HC.out)
          have hpn := put_ne (S := S)
          have hback := fun r => specC.back S r (spec_ok HC.out)
          have hcutp := fun p q hq e => specC.cut S p q (spec_ok HC.out) hq e
          obtain ⟨P, hP⟩ : ∃ P, specC.put S = P := ⟨_, rfl⟩
          rw [hP] at hpl hpn hback hcutp ⊢
          clear hP
          obtain ⟨bs, hbs⟩ : ∃ bs : ByteArray, (⟨P.toArray⟩ : ByteArray) = bs := ⟨_, rfl⟩
          have hbl : bs.data.toList = P := by rw [← hbs]
          have hbz : bs.size = P.length := by rw [← hbl]; exact Array.length_toList.symm
          have hpos : 0 < P.length := List.length_pos_iff.2 hpn
          have hemp := nonempty_isEmpty hbl hpn
          rw [hbs]
          have HBZ := Lib.hid hbz
          have HPL := Lib.hid hpl
          have HBACK := Lib.hid hback
          have HCUTP := Lib.hid hcutp
          clear hback hcutp
          have HBL := Lib.hid hbl
          clear hb5 hbs hpn c0 c1 c2 c3 c4 c5 c6 SB4
          have hn1 : 0 < bs.size := by rw [hbz]; exact hpos
          have hn2 : bs.size ≤ 1000000000 := by rw [hbz]; exact Nat.le_trans hpl (by decide)
          have hrun := below_any cut bs.size hn1 hn2 w5
          clear hn1 hn2 hbz hpos hpl
          go_wp2_with fail
          refine hrun.mono ?_
          rintro e w6 ⟨⟨k, hk, rfl⟩, rfl⟩
          have hks : (k : Int) ≤ (bs.size : Int) := by omega
          have hcl : (bs.extract 0 k).data.toList = P.take k := by
            rw [← HBL.out]; simp
          obtain ⟨⟨Sx, cx, rx⟩, hqx⟩ : ∃ q, specC.rd 0 (P.take k) = q := ⟨_, rfl⟩
          have hcut := HCUTP.out (P.take k) (P.drop k) (by
            intro e
            have := congrArg List.length e
            rw [List.length_drop] at this
            simp at this
            have hz := HBZ.out
            omega) (List.take_append_drop k _).symm
          rw [hqx] at hcut
          obtain rfl : cx = 40 := hcut
          have HOF := Lib.hid (of_any (bs.extract 0 k) (by rw [hcl]; show (P.take k).length ≤ 281474976710656; rw [List.length_take]; have hp := HPL.out; omega) Sx 40 rx (by rw [hcl]; exact hqx) w5 (HL.out.below B5.out))
          clear hqx hcl
          go_wp2_with fail
          refine HOF.out.mono ?_
          rintro e w6 ⟨E, hE, hb6, hcase⟩
          rw [of_forty] at hE hcase
          rcases hcase with ⟨hno, _⟩ | ⟨_, rfl⟩
          · exact absurd hno (by decide)
          · have HE6 := Lib.hid hE
            have B6 := Lib.hid (B5.out.trans (hb6.mono B5.out.size))
            clear hE hb6 HOF
            obtain ⟨uu, xx, rfl⟩ : ∃ u x, E = .iface u x := by
              rcases HE6.out.form with h | h
              · exact absurd (HE6.out.nil_iff.1 h) (by decide)
              · exact h
            by_cases hm : more = ⟨#[]⟩
            · subst hm
              have hadd : ∀ v, (Op.stringOp .add bs ⟨#[]⟩).run Tryz.prog v = .ok (.string bs) v := fun v => by
                have h := run_string_add_sum (P := Tryz.prog) v bs ⟨#[]⟩ (by show bs.size + 0 ≤ _; have hz := HBZ.out; have hp := HPL.out; omega)
                have e : bs ++ (⟨#[]⟩ : ByteArray) = bs := by apply ByteArray.ext; simp
                rw [e] at h
                exact h
              have hb0 : Few bs.data.toList := by rw [HBL.out]; show _ ≤ 281474976710656; have := HPL.out; omega
              have hbk : specC.rd 0 bs.data.toList = (S, 0, []) := by
                have h := HBACK.out []
                rw [List.append_nil] at h
                rw [HBL.out]; exact h
              have HOF := fun wx (hbx : Below w.heap.size w wx) => of_any bs hb0 S 0 [] hbk wx (HL.out.below hbx)
              have HOF := Lib.hid HOF
              clear hb0 hbk
              go_wp2_with fail
              obtain ⟨w7, hw7⟩ : ∃ v, w6.alloc (.cells #[.string ⟨#[]⟩, .slice none 0 0, .slice none 0 0, .slice none 0 0, .int .i64 0, .int .i64 0, .int .i64 0] 25) = v := ⟨_, rfl⟩
              have hb7 : Below w6.heap.size w6 w7 := by rw [← hw7]; exact (Below.refl _ _).alloc (Nat.le_refl _) _
              have HE7 := Lib.hid (HE6.out.below hb7)
              have B7 := Lib.hid (B6.out.trans (hb7.mono B6.out.size))
              rw [hw7]
              clear hb7 hw7
              refine (HOF.out w7 B7.out).mono ?_
              rintro e w8 ⟨E8, _, hb8, hcase⟩
              rw [of_fine HC.out] at hcase
              rcases hcase with ⟨_, LY, ly, IY, iy, MY, my, rfl, hup⟩ | ⟨hno, _⟩
              · have HE8 := Lib.hid (HE7.out.below hb8)
                have B8 := Lib.hid (B7.out.trans (hb8.mono B7.out.size))
                clear hb8 hup HOF
                go_wp2_with fail
                obtain ⟨w9, hw9⟩ : ∃ v, w8.alloc (.cells #[.string S.name, .slice LY S.labels.length ly, .slice IY S.init.length iy, .slice MY S.main.length my, .int .i64 S.restart, .int .i64 S.grace, .int .i64 S.prio] 25) = v := ⟨_, rfl⟩
                have hb9 : Below w8.heap.size w8 w9 := by rw [← hw9]; exact (Below.refl _ _).alloc (Nat.le_refl _) _
                have HE9 := Lib.hid (HE8.out.below hb9)
                have B9 := Lib.hid (B8.out.trans (hb9.mono B8.out.size))
                rw [hw9]
                clear hb9 hw9
                refine (code_says HE9.out (HL.out.below B9.out).err).mono ?_
                rintro e w10 ⟨rfl, hb10⟩
                have B10 := Lib.hid (B9.out.trans (hb10.mono B9.out.size))
                clear hb10
                go_wp2
                go_ret
                exact ⟨rfl, B10.out⟩
              · exact absurd rfl hno
            · have hml : more.data.toList ≠ [] := fun e => hm (by apply ByteArray.ext; exact Array.toList_inj.1 e)
              have hmemp := nonempty_isEmpty (z := more) rfl hml
              have hadd : ∀ v, (Op.stringOp .add bs more).run Tryz.prog v = .ok (.string (bs ++ more)) v := fun v => run_string_add_sum (P := Tryz.prog) v bs more (by have hz := HBZ.out; have hp := HPL.out; omega)
              have hal : (bs ++ more).data.toList = P ++ more.data.toList := by rw [← HBL.out]; simp
              have hmz : more.data.toList.length = more.size := Array.length_toList
              have hb0 : Few (bs ++ more).data.toList := by rw [hal]; show _ ≤ 281474976710656; rw [List.length_append]; have := HPL.out; omega
              have hbk : specC.rd 0 (bs ++ more).data.toList = (S, 0, more.data.toList) := by rw [hal]; exact HBACK.out _
              have HOF := fun wx (hbx : Below w.heap.size w wx) => of_any (bs ++ more) hb0 S 0 more.data.toList hbk wx (HL.out.below hbx)
              have HOF := Lib.hid HOF
              have HML := Lib.hid hml
              clear hb0 hbk hal hmz hml hm
              go_wp2_with fail
              obtain ⟨w7, hw7⟩ : ∃ v, w6.alloc (.cells #[.string ⟨#[]⟩, .slice none 0 0, .slice none 0 0, .slice none 0 0, .int .i64 0, .int .i64 0, .int .i64 0] 25) = v := ⟨_, rfl⟩
              have hb7 : Below w6.heap.size w6 w7 := by rw [← hw7]; exact (Below.refl _ _).alloc (Nat.le_refl _) _
              have HE7 := Lib.hid (HE6.out.below hb7)
              have B7 := Lib.hid (B6.out.trans (hb7.mono B6.out.size))
              rw [hw7]
              clear hb7 hw7
              refine (HOF.out w7 B7.out).mono ?_
              rintro e w8 ⟨E8, hE8, hb8, hcase⟩
              rw [of_three HML.out] at hE8 hcase
              rcases hcase with ⟨hno, _⟩ | ⟨_, rfl⟩
              · exact absurd hno (by decide)
              · have HE8 := Lib.hid (HE7.out.below hb8)
                have HF8 := Lib.hid hE8
                have B8 := Lib.hid (B7.out.trans (hb8.mono B7.out.size))
                clear hb8 HOF hE8
                obtain ⟨uu2, xx2, rfl⟩ : ∃ u x, E8 = .iface u x := by
                  rcases HF8.out.form with h | h
                  · exact absurd (HF8.out.nil_iff.1 h) (by decide)
                  · exact h
                go_wp2_with fail
                obtain ⟨w9, hw9⟩ : ∃ v, w8.alloc (.cells #[.string ⟨#[]⟩, .slice none 0 0, .slice none 0 0, .slice none 0 0, .int .i64 0, .int .i64 0, .int .i64 0] 25) = v := ⟨_, rfl⟩
                have hb9 : Below w8.heap.size w8 w9 := by rw [← hw9]; exact (Below.refl _ _).alloc (Nat.le_refl _) _
                have HE9 := Lib.hid (HE8.out.below hb9)
                have HF9 := Lib.hid (HF8.out.below hb9)
                have B9 := Lib.hid (B8.out.trans (hb9.mono B8.out.size))
                rw [hw9]
                clear hb9 hw9
                refine (code_says HE9.out (HL.out.below B9.out).err).mono ?_
                rintro e w10 ⟨rfl, hb10⟩
                have B10 := Lib.hid (B9.out.trans (hb10.mono B9.out.size))
                have HF10 := Lib.hid (HF9.out.below hb10)
                clear hb10
                go_wp2_with fail
                refine (code_says HF10.out (HL.out.below B10.out).err).mono ?_
                rintro e w11 ⟨rfl, hb11⟩
                have B11 := Lib.hid (B10.out.trans (hb11.mono B10.out.size))
                have HF11 := Lib.hid (HF10.out.below hb11)
                clear hb11
                go_wp2_with fail
                have htw : t_wire.toList = [119, 105, 114, 101] := by decide +kernel
                refine (text_says HF11.out).mono ?_
                rintro e w12 ⟨rfl, hb12⟩
                have B12 := Lib.hid (B11.out.trans (hb12.mono B11.out.size))
                clear hb12
                go_wp2
                go_ret
                exact ⟨rfl, B12.out⟩
        · exact absurd HC.out hno
    · clear hnil
      go_wp2
      go_ret
      exact ⟨rfl, B4.out⟩
end Go.Proofs.YtefkaebdfkjkgaaGreatDoor.PackCutsWalk
