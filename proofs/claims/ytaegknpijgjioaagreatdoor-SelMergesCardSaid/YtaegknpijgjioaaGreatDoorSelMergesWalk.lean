/-
  The walk of the law SelMerges: it returns true, and leaves all that was there as it was. Condition: the listed variables hold what the program's text lays (SLaid).
-/
import Derived.Test.YtaegknpijgjioaaGreatDoorSelMergeRef
import Derived.Test.YtaegknpijgjioaaGreatDoorSelAll
import Derived.Test.YtaegknpijgjioaaGreatDoorSpecDataAll
set_option linter.unusedVariables false
set_option linter.unusedSimpArgs false
namespace Go.Proofs.YtaegknpijgjioaaGreatDoor.SelMergesWalk
open Go.ChangeShapes Go.WideShapes Go.ChangeAt Go.RowKit Go.Lib
open Sd Lists SpecOwn Book Sl

theorem short_two {a b : List Lbl} (ha : Right a) (hb : Right b) : ∀ x, x ∈ a ∨ x ∈ b → x.key.size ≤ 3000 ∧ x.val.size ≤ 3000 := by
  rintro x (hx | hx)
  · have h1 := ha.key_len hx
    have h2 := ha.val_len hx
    omega
  · have h1 := hb.key_len hx
    have h2 := hb.val_len hx
    omega
set_option maxRecDepth 100000 in
set_option maxHeartbeats 4000000 in
theorem walk (A : Option Addr) (c : Nat) (a : List Lbl) (B : Option Addr) (d : Nat) (b : List Lbl) (ha : a.length ≤ 9223372036854775807) (hb : b.length ≤ 9223372036854775807) (w : World) (hL : SLaid w) (hA : Lbls w A a) (hB : Lbls w B b) :
    Calls Tryz.prog 4 #[.slice A a.length c, .slice B b.length d] w fun e w' => e = .returned (.bool true) ∧ Below w.heap.size w w' := by
  have HL := Lib.hid hL
  have HA := Lib.hid hA
  have HB := Lib.hid hB
  clear hL hA hB
  go_enter Tryz.func4, Tryz.ntmps4
  go_wp2_with fail
  refine (right_any A c a ha w HA.out).mono ?_
  rintro e w2 ⟨rfl, hb2⟩
  have B2 := Lib.hid hb2
  clear hb2
  cases gr : rightL a with
  | false =>
    go_wp2_with fail
    refine (works_any w2 (HL.out.below B2.out)).mono ?_
    rintro e w3 ⟨rfl, hb3⟩
    have B3 := Lib.hid (B2.out.trans (hb3.mono B2.out.size))
    clear hb3
    go_wp2_with fail
    go_ret
    exact ⟨rfl, B3.out⟩
  | true =>
    have RA := Lib.hid (right_yes gr)
    clear gr
    go_wp2_with fail
    refine (right_any B d b hb w2 (HB.out.below B2.out)).mono ?_
    rintro e w3 ⟨rfl, hb3⟩
    have B3 := Lib.hid (B2.out.trans (hb3.mono B2.out.size))
    clear hb3
    cases gr : rightL b with
    | false =>
      go_wp2_with fail
      refine (works_any w3 (HL.out.below B3.out)).mono ?_
      rintro e w4 ⟨rfl, hb4⟩
      have B4 := Lib.hid (B3.out.trans (hb4.mono B3.out.size))
      clear hb4
      go_wp2_with fail
      go_ret
      exact ⟨rfl, B4.out⟩
    | true =>
      have RB := Lib.hid (right_yes gr)
      clear gr
      go_wp2_with fail
      refine (merge_any A c a B d b (by have := RA.out.few; omega) (by have := RB.out.few; omega) (short_two RA.out RB.out) w3 (HA.out.below B3.out) (HB.out.below B3.out)).mono ?_
      rintro e w5 ⟨C, cc, rfl, hM, hb5⟩
      have B5 := Lib.hid (B3.out.trans (hb5.mono B3.out.size))
      have HMR := Lib.hid (merge_ref A c a B d b (by have := RA.out.few; omega) (by have := RB.out.few; omega) w5 (HA.out.below B5.out) (HB.out.below B5.out))
      unfold MergedR at HMR
      rw [mergeR_eq RA.out.rise RB.out.rise] at HMR
      have HMB := Lib.hid (show (mergeV a b).1.length ≤ 9223372036854775807 by
        have h1 := compactL_len (sortL (a ++ b))
        rw [sortL_length, List.length_append] at h1
        have h2 := RA.out.few
        have h3 := RB.out.few
        unfold mergeV
        split
        · exact Nat.zero_le _
        · show (compactL (sortL (a ++ b))).length ≤ _
          omega)
      obtain ⟨y, hy⟩ : ∃ y, mergeV a b = y := ⟨_, rfl⟩
      rw [hy] at hM HMR HMB ⊢
      have HM := Lib.hid hM
      clear hb5 hM hy
      obtain ⟨m, ok⟩ := y
      have hml : m.length ≤ 9223372036854775807 := HMB.out
      have hok : (ok == ok) = true := by cases ok <;> rfl
      go_wp2_with fail
      refine HMR.out.mono ?_
      rintro e w6 ⟨D, dd, rfl, hR, hb6⟩
      have B6 := Lib.hid (B5.out.trans (hb6.mono B5.out.size))
      have HR := Lib.hid hR
      have HSM := Lib.hid (sameLabels_any C cc m D dd m hml hml w6 (HM.out.below hb6) HR.out)
      rw [sameLs_iff.2 rfl] at HSM
      clear hb6 hR HMR
      go_wp2_with fail
      refine HSM.out.mono ?_
      rintro e w7 ⟨rfl, hb7⟩
      have B7 := Lib.hid (B6.out.trans (hb7.mono B6.out.size))
      clear hb7 HSM
      go_wp2_with fail
      refine (works_any w7 (HL.out.below B7.out)).mono ?_
      rintro e w8 ⟨rfl, hb8⟩
      have B8 := Lib.hid (B7.out.trans (hb8.mono B7.out.size))
      clear hb8
      go_wp2_with fail
      go_ret
      exact ⟨rfl, B8.out⟩
end Go.Proofs.YtaegknpijgjioaaGreatDoor.SelMergesWalk
