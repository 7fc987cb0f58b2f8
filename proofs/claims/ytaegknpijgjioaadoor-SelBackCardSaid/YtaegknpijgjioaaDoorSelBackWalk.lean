/-
  The walk of the law SelBack: it returns true, and leaves all that was there as it was. Condition: the listed variables hold what the program's text lays (SLaid).
-/
import Derived.Test.YtaegknpijgjioaaDoorSelAll
import Derived.Test.YtaegknpijgjioaaDoorSpecDataAll
set_option linter.unusedVariables false
set_option linter.unusedSimpArgs false
namespace Go.Proofs.YtaegknpijgjioaaDoor.SelBackWalk
open Go.ChangeShapes Go.WideShapes Go.ChangeAt Go.RowKit Go.Lib
open Sd Lists SpecOwn Book Sl

theorem bytes_of (s : ByteArray) : (⟨s.data.toList.toArray⟩ : ByteArray) = s := by
  apply ByteArray.ext
  simp
set_option maxRecDepth 100000 in
set_option maxHeartbeats 4000000 in
theorem walk (A : Option Addr) (c : Nat) (l : List Lbl) (s : ByteArray) (hl : l.length ≤ 9223372036854775807) (w : World) (hL : SLaid w) (hA : Lbls w A l) :
    Calls Tryd.prog 4 #[.slice A l.length c, .string s] w fun e w' => e = .returned (.bool true) ∧ Below w.heap.size w w' := by
  have HL := Lib.hid hL
  have HA := Lib.hid hA
  clear hL hA
  go_enter Tryd.func4, Tryd.ntmps4
  go_wp2_with fail
  refine (works_any w HL.out).mono ?_
  rintro e w1 ⟨rfl, hb1⟩
  have B1 := Lib.hid hb1
  clear hb1
  go_wp2_with fail
  refine (right_any A c l hl w1 (HA.out.below B1.out)).mono ?_
  rintro e w2 ⟨rfl, hb2⟩
  have B2 := Lib.hid (B1.out.trans (hb2.mono B1.out.size))
  clear hb2
  cases gr : rightL l with
  | true =>
    have hr := right_yes gr
    have hsh := hr.short
    have hps : parseV (textL l) = (l, 0) := parse_text (n := ⟨#[115, 101, 108]⟩) (by simpa [rightL] using gr)
    obtain ⟨T, hT⟩ : ∃ T : ByteArray, (⟨(textL l).toArray⟩ : ByteArray) = T := ⟨_, rfl⟩
    have hTs : T.size ≤ 2000 := by
      rw [← hT]
      show (textL l).toArray.size ≤ _
      have h1 := hr.text_len
      simp
      omega
    have HTX := Lib.hid (text_any A c l hsh w2 (HA.out.below B2.out))
    rw [hT] at HTX
    have hpt : parseV T.data.toList = (l, 0) := by rw [← hT]; simpa using hps
    have HPT := Lib.hid hpt
    clear hr hsh hps hT gr hpt
    go_wp2_with fail
    refine HTX.out.mono ?_
    rintro e w3 ⟨rfl, hb3⟩
    have B3 := Lib.hid (B2.out.trans (hb3.mono B2.out.size))
    clear hb3
    go_wp2_with fail
    refine (parse_any T hTs w3 (HL.out.below B3.out)).mono ?_
    rintro e w4 ⟨A4, c4, rfl, hA4, _, hb4⟩
    rw [HPT.out] at hA4 ⊢
    have B4 := Lib.hid (B3.out.trans (hb4.mono B3.out.size))
    have HA4 := Lib.hid hA4
    clear hb4 hA4
    go_wp2_with fail
    refine (sameLabels_any A c l A4 c4 l hl hl w4 (HA.out.below B4.out) HA4.out).mono ?_
    rintro e w5 ⟨rfl, hb5⟩
    have B5 := Lib.hid (B4.out.trans (hb5.mono B4.out.size))
    rw [sameLs_iff.2 rfl]
    clear hb5
    by_cases hs : s.size ≤ 2000
    · have hs' : ¬ (2000 : Int) < (s.size : Int) := by omega
      go_wp2_with fail
      refine (parse_any s hs w5 (HL.out.below B5.out)).mono ?_
      rintro e w6 ⟨A6, c6, rfl, hA6, _, hb6⟩
      have B6 := Lib.hid (B5.out.trans (hb6.mono B5.out.size))
      have HA6 := Lib.hid hA6
      clear hb6 hA6
      have HPN := Lib.hid (fun h => parse_none (s := s.data.toList) h)
      have HTP := Lib.hid (fun h => text_parse (s := s.data.toList) h)
      obtain ⟨y, hy⟩ : ∃ y, parseV s.data.toList = y := ⟨_, rfl⟩
      rw [hy] at HA6 HPN HTP ⊢
      clear hy
      obtain ⟨m, z⟩ := y
      by_cases hz : z = 0
      · subst hz
        obtain ⟨ht, hr⟩ := HTP.out rfl
        have HR6 := Lib.hid (show rightL m = true by unfold rightL; rw [hr]; first | done | rfl)
        have HT6 := Lib.hid (show (⟨(textL m).toArray⟩ : ByteArray) = s by rw [show textL m = s.data.toList from ht]; first | done | exact bytes_of s)
        clear ht hr
        have hsh := (right_yes HR6.out).short
        have hm := hsh.few
        have HRA := Lib.hid (right_any A6 c6 m (by omega) w6 HA6.out)
        have HTA := Lib.hid (fun w' h => text_any A6 c6 m hsh w' (HA6.out.below h))
        rw [HR6.out] at HRA
        rw [HT6.out] at HTA
        clear hsh HR6 HT6
        go_wp2_with fail
        refine HRA.out.mono ?_
        rintro e w7 ⟨rfl, hb7⟩
        have B7 := Lib.hid (B6.out.trans (hb7.mono B6.out.size))
        have HTB := Lib.hid (HTA.out w7 hb7)
        clear hb7 HTA HRA
        go_wp2_with fail
        refine HTB.out.mono ?_
        rintro e w8 ⟨rfl, hb8⟩
        have B8 := Lib.hid (B7.out.trans (hb8.mono B7.out.size))
        clear hb8
        go_wp2_with fail
        go_ret
        exact ⟨rfl, B8.out⟩
      · obtain rfl : m = [] := HPN.out hz
        have hz1 : (z != 0) = true := bne_iff_ne.2 hz
        have hz2 : (z == 0) = false := beq_eq_false_iff_ne.2 hz
        clear HPN HTP
        go_wp2_with fail
        go_ret
        exact ⟨rfl, B6.out⟩
    · have hs' : (2000 : Int) < (s.size : Int) := by omega
      go_wp2_with fail
      go_ret
      exact ⟨rfl, B5.out⟩
  | false =>
    clear gr
    by_cases hs : s.size ≤ 2000
    · have hs' : ¬ (2000 : Int) < (s.size : Int) := by omega
      go_wp2_with fail
      refine (parse_any s hs w2 (HL.out.below B2.out)).mono ?_
      rintro e w6 ⟨A6, c6, rfl, hA6, _, hb6⟩
      have B6 := Lib.hid (B2.out.trans (hb6.mono B2.out.size))
      have HA6 := Lib.hid hA6
      clear hb6 hA6
      have HPN := Lib.hid (fun h => parse_none (s := s.data.toList) h)
      have HTP := Lib.hid (fun h => text_parse (s := s.data.toList) h)
      obtain ⟨y, hy⟩ : ∃ y, parseV s.data.toList = y := ⟨_, rfl⟩
      rw [hy] at HA6 HPN HTP ⊢
      clear hy
      obtain ⟨m, z⟩ := y
      by_cases hz : z = 0
      · subst hz
        obtain ⟨ht, hr⟩ := HTP.out rfl
        have HR6 := Lib.hid (show rightL m = true by unfold rightL; rw [hr]; first | done | rfl)
        have HT6 := Lib.hid (show (⟨(textL m).toArray⟩ : ByteArray) = s by rw [show textL m = s.data.toList from ht]; first | done | exact bytes_of s)
        clear ht hr
        have hsh := (right_yes HR6.out).short
        have hm := hsh.few
        have HRA := Lib.hid (right_any A6 c6 m (by omega) w6 HA6.out)
        have HTA := Lib.hid (fun w' h => text_any A6 c6 m hsh w' (HA6.out.below h))
        rw [HR6.out] at HRA
        rw [HT6.out] at HTA
        clear hsh HR6 HT6
        go_wp2_with fail
        refine HRA.out.mono ?_
        rintro e w7 ⟨rfl, hb7⟩
        have B7 := Lib.hid (B6.out.trans (hb7.mono B6.out.size))
        have HTB := Lib.hid (HTA.out w7 hb7)
        clear hb7 HTA HRA
        go_wp2_with fail
        refine HTB.out.mono ?_
        rintro e w8 ⟨rfl, hb8⟩
        have B8 := Lib.hid (B7.out.trans (hb8.mono B7.out.size))
        clear hb8
        go_wp2_with fail
        go_ret
        exact ⟨rfl, B8.out⟩
      · obtain rfl : m = [] := HPN.out hz
        have hz1 : (z != 0) = true := bne_iff_ne.2 hz
        have hz2 : (z == 0) = false := beq_eq_false_iff_ne.2 hz
        clear HPN HTP
        go_wp2_with fail
        go_ret
        exact ⟨rfl, B6.out⟩
    · have hs' : (2000 : Int) < (s.size : Int) := by omega
      go_wp2_with fail
      go_ret
      exact ⟨rfl, B2.out⟩
end Go.Proofs.YtaegknpijgjioaaDoor.SelBackWalk
