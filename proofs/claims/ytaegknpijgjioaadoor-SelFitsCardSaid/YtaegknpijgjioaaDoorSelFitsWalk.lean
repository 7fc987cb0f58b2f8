/-
  The walk of the law SelFits: it returns true, and leaves all that was there as it was. Condition: the listed variables hold what the program's text lays (SLaid).
-/
import Derived.Test.YtaegknpijgjioaaDoorSelAll
set_option linter.unusedVariables false
set_option linter.unusedSimpArgs false
namespace Go.Proofs.YtaegknpijgjioaaDoor.SelFitsWalk
open Go.ChangeShapes Go.WideShapes Go.ChangeAt Go.RowKit Go.Lib
open Sd Lists SpecOwn Book Sl

set_option maxRecDepth 100000 in
set_option maxHeartbeats 4000000 in
theorem walk (A : Option Addr) (c : Nat) (a : List Lbl) (B : Option Addr) (d : Nat) (b : List Lbl) (key : ByteArray) (ha : a.length ≤ 9223372036854775807) (hb : b.length ≤ 9223372036854775807) (w : World) (hL : SLaid w) (hA : Lbls w A a) (hB : Lbls w B b) :
    Calls Tryd.prog 3 #[.slice A a.length c, .slice B b.length d, .string key] w fun e w' => e = .returned (.bool true) ∧ Below w.heap.size w w' := by
  have HL := Lib.hid hL
  have HA := Lib.hid hA
  have HB := Lib.hid hB
  clear hL hA hB
  go_enter Tryd.func3, Tryd.ntmps3
  go_wp2_with fail
  refine (lightl_any A c a ha w HA.out).mono ?_
  rintro e w1 ⟨rfl, hb1⟩
  have B1 := Lib.hid hb1
  clear hb1
  cases ga : lightLL a with
  | false =>
    go_wp2_with fail
    refine (works_any w1 (HL.out.below B1.out)).mono ?_
    rintro e w2 ⟨rfl, hb2⟩
    have B2 := Lib.hid (B1.out.trans (hb2.mono B1.out.size))
    clear hb2
    go_wp2_with fail
    go_ret
    exact ⟨rfl, B2.out⟩
  | true =>
    have GA := Lib.hid ga
    clear ga
    go_wp2_with fail
    refine (lightl_any B d b hb w1 (HB.out.below B1.out)).mono ?_
    rintro e w2 ⟨rfl, hb2⟩
    have B2 := Lib.hid (B1.out.trans (hb2.mono B1.out.size))
    clear hb2
    cases gb : lightLL b with
    | false =>
      go_wp2_with fail
      refine (works_any w2 (HL.out.below B2.out)).mono ?_
      rintro e w3 ⟨rfl, hb3⟩
      have B3 := Lib.hid (B2.out.trans (hb3.mono B2.out.size))
      clear hb3
      go_wp2_with fail
      go_ret
      exact ⟨rfl, B3.out⟩
    | true =>
      clear gb
      go_wp2_with fail
      refine (get_any A c a key ha (fun x hx => by have := ((lightL_yes GA.out).2 x hx).2; omega) w2 (HA.out.below B2.out)).mono ?_
      rintro e w3 ⟨rfl, hb3⟩
      have B3 := Lib.hid (B2.out.trans (hb3.mono B2.out.size))
      clear hb3
      have hgr := get_ref A c a key ha w3 (HA.out.below B3.out)
      obtain ⟨v, hv⟩ : ∃ v, getV a key = v := ⟨_, rfl⟩
      obtain ⟨o, ho⟩ : ∃ o, getB a key = o := ⟨_, rfl⟩
      rw [hv, ho] at hgr ⊢
      have HGR := Lib.hid hgr
      clear hgr hv ho
      go_wp2_with fail
      refine HGR.out.mono ?_
      rintro e w4 ⟨rfl, rfl⟩
      clear HGR
      obtain ⟨r1, hr1⟩ : ∃ r, fitsL a b = r := ⟨_, rfl⟩
      obtain ⟨r2, hr2⟩ : ∃ r, fitsL b a = r := ⟨_, rfl⟩
      have F1 := Lib.hid (show ∀ w', Below w.heap.size w w' → Calls Tryd.prog 9 #[.slice A a.length c, .slice B b.length d] w' fun e w2 => e = .returned (.bool r1) ∧ Below w'.heap.size w' w2 from fun w' h => by have := fits_any A c a B d b ha hb w' (HA.out.below h) (HB.out.below h); rw [hr1] at this; exact this)
      have F2 := Lib.hid (show ∀ w', Below w.heap.size w w' → Calls Tryd.prog 10 #[.slice A a.length c, .slice B b.length d] w' fun e w2 => e = .returned (.bool r1) ∧ Below w'.heap.size w' w2 from fun w' h => by have := fits_ref A c a B d b ha hb w' (HA.out.below h) (HB.out.below h); rw [hr1] at this; exact this)
      have F3 := Lib.hid (show ∀ w', Below w.heap.size w w' → Calls Tryd.prog 11 #[.slice B b.length d, .slice A a.length c] w' fun e w2 => e = .returned (.bool r2) ∧ Below w'.heap.size w' w2 from fun w' h => by have := covers_any B d b A c a hb ha w' (HB.out.below h) (HA.out.below h); rw [hr2] at this; exact this)
      have F4 := Lib.hid (show ∀ w', Below w.heap.size w w' → Calls Tryd.prog 10 #[.slice B b.length d, .slice A a.length c] w' fun e w2 => e = .returned (.bool r2) ∧ Below w'.heap.size w' w2 from fun w' h => by have := fits_ref B d b A c a hb ha w' (HB.out.below h) (HA.out.below h); rw [hr2] at this; exact this)
      clear hr1 hr2
      go_wp2_with fail
      refine (F1.out _ B3.out).mono ?_
      rintro e w4 ⟨rfl, hb4⟩
      have B4 := Lib.hid (B3.out.trans (hb4.mono B3.out.size))
      clear hb4
      go_wp2_with fail
      refine (F2.out _ B4.out).mono ?_
      rintro e w5 ⟨rfl, hb5⟩
      have B5 := Lib.hid (B4.out.trans (hb5.mono B4.out.size))
      clear hb5
      go_wp2_with fail
      refine (F3.out _ B5.out).mono ?_
      rintro e w6 ⟨rfl, hb6⟩
      have B6 := Lib.hid (B5.out.trans (hb6.mono B5.out.size))
      clear hb6
      go_wp2_with fail
      refine (F4.out _ B6.out).mono ?_
      rintro e w7 ⟨rfl, hb7⟩
      have B7 := Lib.hid (B6.out.trans (hb7.mono B6.out.size))
      clear hb7
      go_wp2_with fail
      refine (works_any w7 (HL.out.below B7.out)).mono ?_
      rintro e w8 ⟨rfl, hb8⟩
      have B8 := Lib.hid (B7.out.trans (hb8.mono B7.out.size))
      clear hb8
      go_wp2_with fail
      go_ret
      exact ⟨rfl, B8.out⟩
end Go.Proofs.YtaegknpijgjioaaDoor.SelFitsWalk
