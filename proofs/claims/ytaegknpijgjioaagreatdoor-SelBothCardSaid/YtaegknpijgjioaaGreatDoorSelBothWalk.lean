/-
  The walk of the law SelBoth: it returns true, and leaves all that was there as it was. Condition: the listed variables hold what the program's text lays (SLaid).
-/
import Derived.Test.YtaegknpijgjioaaGreatDoorSelMerge
import Derived.Test.YtaegknpijgjioaaGreatDoorSelAll
set_option linter.unusedVariables false
set_option linter.unusedSimpArgs false
namespace Go.Proofs.YtaegknpijgjioaaGreatDoor.SelBothWalk
open Go.ChangeShapes Go.WideShapes Go.ChangeAt Go.RowKit Go.Lib
open Sd Lists SpecOwn Book Sl

theorem short_two {a b : List Lbl} (ha : Right a) (hb : Right b) : ∀ x, x ∈ a ∨ x ∈ b → x.key.size ≤ 3000 ∧ x.val.size ≤ 3000 := by
  rintro x (hx | hx)
  · have h1 := ha.key_len hx
    have h2 := ha.val_len hx
    omega
  · have h1 := hb.key_len hx
    have h2 := hb.val_len hx
    omega
set_option maxRecDepth 100000 in
set_option maxHeartbeats 4000000 in
theorem walk (A : Option Addr) (c : Nat) (a : List Lbl) (B : Option Addr) (d : Nat) (b : List Lbl) (L : Option Addr) (k : Nat) (l : List Lbl) (ha : a.length ≤ 9223372036854775807) (hb : b.length ≤ 9223372036854775807) (hl : l.length ≤ 9223372036854775807) (w : World) (hL : SLaid w) (hA : Lbls w A a) (hB : Lbls w B b) (hC : Lbls w L l) :
    Calls Tryz.prog 6 #[.slice A a.length c, .slice B b.length d, .slice L l.length k] w fun e w' => e = .returned (.bool true) ∧ Below w.heap.size w w' := by
  have HL := Lib.hid hL
  have HA := Lib.hid hA
  have HB := Lib.hid hB
  have HC := Lib.hid hC
  clear hL hA hB hC
  go_enter Tryz.func6, Tryz.ntmps6
  go_wp2_with fail
  refine (works_any w HL.out).mono ?_
  rintro e w1 ⟨rfl, hb1⟩
  have B1 := Lib.hid hb1
  clear hb1
  go_wp2_with fail
  refine (right_any A c a ha w1 (HA.out.below B1.out)).mono ?_
  rintro e w2 ⟨rfl, hb2⟩
  have B2 := Lib.hid (B1.out.trans (hb2.mono B1.out.size))
  clear hb2
  cases gr : rightL a with
  | false =>
    go_wp2_with fail
    go_ret
    exact ⟨rfl, B2.out⟩
  | true =>
    have RA := Lib.hid (right_yes gr)
    clear gr
    go_wp2_with fail
    refine (right_any B d b hb w2 (HB.out.below B2.out)).mono ?_
    rintro e w3 ⟨rfl, hb3⟩
    have B3 := Lib.hid (B2.out.trans (hb3.mono B2.out.size))
    clear hb3
    cases gr : rightL b with
    | false =>
      go_wp2_with fail
      go_ret
      exact ⟨rfl, B3.out⟩
    | true =>
      have RB := Lib.hid (right_yes gr)
      clear gr
      go_wp2_with fail
      refine (right_any L k l hl w3 (HC.out.below B3.out)).mono ?_
      rintro e w4 ⟨rfl, hb4⟩
      have B4 := Lib.hid (B3.out.trans (hb4.mono B3.out.size))
      clear hb4
      cases gr : rightL l with
      | false =>
        go_wp2_with fail
        go_ret
        exact ⟨rfl, B4.out⟩
      | true =>
        have RC := Lib.hid (right_yes gr)
        clear gr
        go_wp2_with fail
        refine (merge_any A c a B d b (by have := RA.out.few; omega) (by have := RB.out.few; omega) (short_two RA.out RB.out) w4 (HA.out.below B4.out) (HB.out.below B4.out)).mono ?_
        rintro e w5 ⟨C, cc, rfl, hM, hb5⟩
        have B5 := Lib.hid (B4.out.trans (hb5.mono B4.out.size))
        have HF := Lib.hid (fun m h => both_fits (a := a) (b := b) (m := m) (l := l) h)
        have HN := Lib.hid (fun m h => both_none (a := a) (b := b) (m := m) (l := l) h RC.out.rise)
        have HMB := Lib.hid (show (mergeV a b).1.length ≤ 9223372036854775807 by
          have h1 := compactL_len (sortL (a ++ b))
          rw [sortL_length, List.length_append] at h1
          have h2 := RA.out.few
          have h3 := RB.out.few
          unfold mergeV
          split
          · exact Nat.zero_le _
          · show (compactL (sortL (a ++ b))).length ≤ _
            omega)
        obtain ⟨y, hy⟩ : ∃ y, mergeV a b = y := ⟨_, rfl⟩
        rw [hy] at hM HF HN HMB ⊢
        have HM := Lib.hid hM
        clear hb5 hM hy
        obtain ⟨m, ok⟩ := y
        have hml : m.length ≤ 9223372036854775807 := HMB.out
        have HFA := Lib.hid (fits_any A c a L k l ha hl w5 (HA.out.below B5.out) (HC.out.below B5.out))
        have HFB := Lib.hid (fun w' h => fits_any B d b L k l hb hl w' (HB.out.below h) (HC.out.below h))
        have HFM := Lib.hid (fun w' h => fits_any C cc m L k l hml hl w' (HM.out.below h) (HC.out.below (B5.out.trans (h.mono B5.out.size))))
        have HAM := Lib.hid (fun w' h => fits_any A c a C cc m ha hml w' (HA.out.below (B5.out.trans (h.mono B5.out.size))) (HM.out.below h))
        have HBM := Lib.hid (fun w' h => fits_any B d b C cc m hb hml w' (HB.out.below (B5.out.trans (h.mono B5.out.size))) (HM.out.below h))
        have HCM := Lib.hid (fun w' h => covers_any A c a C cc m ha hml w' (HA.out.below (B5.out.trans (h.mono B5.out.size))) (HM.out.below h))
        cases ok with
        | false =>
          obtain ⟨rfl, hno⟩ := HN.out m rfl
          cases hfa : fitsL a l with
          | false =>
            rw [hfa] at HFA
            clear hno
            go_wp2_with fail
            refine HFA.out.mono ?_
            rintro e w6 ⟨rfl, hb6⟩
            have B6 := Lib.hid (B5.out.trans (hb6.mono B5.out.size))
            clear hb6
            go_wp2_with fail
            go_ret
            exact ⟨rfl, B6.out⟩
          | true =>
            rw [hfa] at HFA hno
            have hfb : fitsL b l = false := by simpa using hno
            rw [hfb] at HFB
            clear hno hfa hfb
            go_wp2_with fail
            refine HFA.out.mono ?_
            rintro e w6 ⟨rfl, hb6⟩
            have B6 := Lib.hid (B5.out.trans (hb6.mono B5.out.size))
            clear hb6
            go_wp2_with fail
            refine (HFB.out w6 B6.out).mono ?_
            rintro e w7 ⟨rfl, hb7⟩
            have B7 := Lib.hid (B6.out.trans (hb7.mono B6.out.size))
            clear hb7
            go_wp2_with fail
            go_ret
            exact ⟨rfl, B7.out⟩
        | true =>
          obtain ⟨h1, h2, h3⟩ := HF.out m rfl
          rw [h1] at HFM
          rw [h2] at HAM HCM
          rw [h3] at HBM
          clear h1 h2 h3
          have T5 := Lib.hid (fun (w' : World) (r : Bool) (hr : (fitsL a l && fitsL b l) = r) (h : Below w5.heap.size w5 w') => (show Calls Tryz.prog 21 #[.slice C m.length cc, .slice L l.length k] w' fun e v => e = .returned (.bool r) ∧ Below w'.heap.size w' v from by rw [← hr]; exact HFM.out w' h))
          cases hfa : fitsL a l with
          | false =>
            rw [hfa] at HFA T5
            clear hfa
            go_wp2_with fail
            refine HFA.out.mono ?_
            rintro e w6 ⟨rfl, hb6⟩
            have Q6 := Lib.hid hb6
            clear hb6
            go_wp2_with fail
            refine (T5.out w6 false rfl Q6.out).mono ?_
            rintro e w7 ⟨rfl, hb7⟩
            have Q7 := Lib.hid (Q6.out.trans (hb7.mono Q6.out.size))
            clear hb7
            go_wp2_with fail
            refine (HAM.out w7 Q7.out).mono ?_
            rintro e w8 ⟨rfl, hb8⟩
            have Q8 := Lib.hid (Q7.out.trans (hb8.mono Q7.out.size))
            clear hb8
            go_wp2_with fail
            refine (HBM.out w8 Q8.out).mono ?_
            rintro e w9 ⟨rfl, hb9⟩
            have Q9 := Lib.hid (Q8.out.trans (hb9.mono Q8.out.size))
            clear hb9
            go_wp2_with fail
            refine (HCM.out w9 Q9.out).mono ?_
            rintro e w10 ⟨rfl, hb10⟩
            have Q10 := Lib.hid (Q9.out.trans (hb10.mono Q9.out.size))
            clear hb10
            go_wp2_with fail
            go_ret
            exact ⟨rfl, B5.out.trans (Q10.out.mono B5.out.size)⟩
          | true =>
            rw [hfa] at HFA T5
            obtain ⟨r, hr⟩ : ∃ r, fitsL b l = r := ⟨_, rfl⟩
            rw [hr] at HFB T5
            clear hfa hr
            go_wp2_with fail
            refine HFA.out.mono ?_
            rintro e w6 ⟨rfl, hb6⟩
            have Q6 := Lib.hid hb6
            clear hb6
            go_wp2_with fail
            refine (HFB.out w6 (B5.out.trans (Q6.out.mono B5.out.size))).mono ?_
            rintro e w7 ⟨rfl, hb7⟩
            have Q7 := Lib.hid (Q6.out.trans (hb7.mono Q6.out.size))
            clear hb7
            go_wp2_with fail
            refine (T5.out w7 r (by rw [Bool.true_and]) Q7.out).mono ?_
            rintro e w8 ⟨rfl, hb8⟩
            have Q8 := Lib.hid (Q7.out.trans (hb8.mono Q7.out.size))
            clear hb8
            have hrr : (r == r) = true := by cases r <;> rfl
            go_wp2_with fail
            refine (HAM.out w8 Q8.out).mono ?_
            rintro e w9 ⟨rfl, hb9⟩
            have Q9 := Lib.hid (Q8.out.trans (hb9.mono Q8.out.size))
            clear hb9
            go_wp2_with fail
            refine (HBM.out w9 Q9.out).mono ?_
            rintro e w10 ⟨rfl, hb10⟩
            have Q10 := Lib.hid (Q9.out.trans (hb10.mono Q9.out.size))
            clear hb10
            go_wp2_with fail
            refine (HCM.out w10 Q10.out).mono ?_
            rintro e w11 ⟨rfl, hb11⟩
            have Q11 := Lib.hid (Q10.out.trans (hb11.mono Q10.out.size))
            clear hb11
            go_wp2_with fail
            go_ret
            exact ⟨rfl, B5.out.trans (Q11.out.mono B5.out.size)⟩
end Go.Proofs.YtaegknpijgjioaaGreatDoor.SelBothWalk
