/-
  The walk of the law SpecLabels: it returns true, and leaves all that was there as it was. Condition: as SpecStep.
-/
import Derived.Test.YtmdpfcniopiieaaGreatDoorSpecWorks
namespace Go.Proofs.YtmdpfcniopiieaaGreatDoor.SpecLabelsWalk
open Go.ChangeShapes Go.WideShapes Go.ChangeAt Go.RowKit Go.Lib
open Sd Lists SpecRef SpecOwn Book

/-- a spec of labels alone -/
def LS (l : List Lbl) : Spc := ⟨⟨#[]⟩, l, [], [], 0, 0, 0⟩
theorem ls_in {w : World} {A : Option Addr} {c : Nat} {l : List Lbl} (h : Lbls w A l) (hn : l.length ≤ 9223372036854775807) : (LS l).In w A c none 0 none 0 :=
  ⟨h, fun k x hk => by simp [LS] at hk, fun k x hk => by simp [LS] at hk, hn, by simp [LS], by simp [LS], i64_0, i64_0, i64_0⟩
theorem ls_light {l : List Lbl} (h : LightB (LS l) = true) : ∀ x ∈ l, x.key.size ≤ 100 ∧ x.val.size ≤ 100 := (LightB_iff.1 h).2.1

theorem add_add (a : Addr) (m k : Nat) : (a.add (m * 2)).add (k * 2) = a.add ((m + k) * 2) := by
  unfold Addr.add
  by_cases h1 : m = 0
  · subst h1; simp
  · by_cases h2 : k = 0
    · subst h2; simp
    · rw [if_neg (by omega), if_neg (by omega), if_neg (by omega)]
      simp; omega

set_option maxRecDepth 100000 in
set_option maxHeartbeats 4000000 in
theorem walk (s : ByteArray) (A : Option Addr) (c : Nat) (l : List Lbl) (hlc : l.length ≤ c) (hc : c ≤ 9223372036854775807) (w : World) (hL : SLaid w) (h : Lbls w A l) :
    Calls Tryz.prog 4 #[.string s, .slice A l.length c] w fun e w' => e = .returned (.bool true) ∧ Below w.heap.size w w' := by
  have HL := Lib.hid hL
  have H := Lib.hid h
  have hn' : (l.length : Int) ≤ 9223372036854775807 := by omega
  clear hL h
  by_cases h1 : 20 < (l.length : Int)
  · go_enter Tryz.func4, Tryz.ntmps4
    go_wp2_with fail
    refine (works_any w HL.out).mono ?_
    rintro e w1 ⟨rfl, hb⟩
    go_wp2
    go_ret
    exact ⟨rfl, hb⟩
  · by_cases h2 : 100 < (s.size : Int)
    · go_enter Tryz.func4, Tryz.ntmps4
      go_wp2_with fail
      refine (works_any w HL.out).mono ?_
      rintro e w1 ⟨rfl, hb⟩
      go_wp2
      go_ret
      exact ⟨rfl, hb⟩
    · obtain ⟨m, hm⟩ : ∃ m : Nat, (min (l.length : Int) 10).toNat = m := ⟨_, rfl⟩
      have hmi : min (l.length : Int) 10 = (m : Int) := by omega
      have hml : m ≤ l.length := by omega
      have hmc : m ≤ c := by omega
      have hm10 : m ≤ 10 := by omega
      have e1 : (l.take m).length = m := by rw [List.length_take]; omega
      have e2 : (l.drop m).length = l.length - m := List.length_drop
      have HT1 := Lib.hid (show Lbls w A (l.take m) from fun k x hk => H.out k x (by
        rw [List.getElem?_take] at hk
        split at hk
        · exact hk
        · cases hk))
      go_enter Tryz.func4, Tryz.ntmps4
      go_wp2_with fail

      have hl1 := light_any (LS (l.take m)) A c none 0 none 0 w (ls_in HT1.out (by rw [e1]; omega))
      simp only [LS, e1] at hl1
      refine hl1.mono ?_
      rintro e w1 ⟨rfl, hb1⟩
      have B1 := Lib.hid hb1
      clear hb1 hl1
      cases g1 : LightB (LS (l.take m)) with
      | false =>
        have g1' : LightB ⟨⟨#[]⟩, l.take m, [], [], 0, 0, 0⟩ = false := g1
        rw [g1']
        go_wp2_with fail
        refine (works_any w1 (HL.out.below B1.out)).mono ?_
        rintro e w2 ⟨rfl, hb⟩
        go_wp2
        go_ret
        exact ⟨rfl, B1.out.trans (hb.mono B1.out.size)⟩
      | true =>
        have g1' : LightB ⟨⟨#[]⟩, l.take m, [], [], 0, 0, 0⟩ = true := g1
        rw [g1']
        have G1 := Lib.hid g1
        clear g1 g1'
        have HD := Lib.hid (show ∀ A2, (c = m ∨ A2 = Option.map (fun x => x.add (m * 2)) A) → Lbls w A2 (l.drop m) from fun A2 h k x hk => by
          rw [List.getElem?_drop] at hk
          rcases h with h | rfl
          · have := (List.getElem?_eq_some_iff.1 hk).1
            omega
          · obtain ⟨a, rfl, ha, hc⟩ := H.out (m + k) x hk
            have ea : (a.add (m * 2)).add (k * 2) = a.add ((m + k) * 2) := add_add a m k
            exact ⟨_, rfl, by rw [add_block]; exact ha, by rw [ea]; exact hc⟩)
        have hl2 : ∀ (cap : Nat) (A2 : Option Addr), Lbls w1 A2 (l.drop m) → Calls Tryz.prog 8 #[.agg #[.string ⟨#[]⟩, .slice A2 (l.length - m) cap, .slice none 0 0, .slice none 0 0, .int .i64 0, .int .i64 0, .int .i64 0]] w1 fun e w' => e = .returned (.bool (LightB (LS (l.drop m)))) ∧ Below w1.heap.size w1 w' := fun cap A2 h2 => by
          have ht := light_any (LS (l.drop m)) A2 cap none 0 none 0 w1 (ls_in h2 (by rw [e2]; omega))
          rw [show (LS (l.drop m)).labels.length = l.length - m from e2] at ht
          exact ht
        have HL2 := Lib.hid hl2
        clear hl2 e1 e2
        by_cases hcm : c = m
        · go_wp2_with fail
          refine (HL2.out 0 A ((HD.out A (.inl hcm)).below B1.out)).mono ?_
          rintro e w2 ⟨rfl, hb2⟩
          have B2 := Lib.hid (B1.out.trans (hb2.mono B1.out.size))
          clear hb2
          cases g2 : LightB (LS (l.drop m)) with
          | false =>
            go_wp2_with fail
            refine (works_any w2 (HL.out.below B2.out)).mono ?_
            rintro e w3 ⟨rfl, hb⟩
            go_wp2
            go_ret
            exact ⟨rfl, B2.out.trans (hb.mono B2.out.size)⟩
          | true =>
            have HLI := Lib.hid (show ∀ x ∈ l, x.key.size ≤ 100 ∧ x.val.size ≤ 100 from fun x hx => by
              rw [← List.take_append_drop m l] at hx
              rcases List.mem_append.1 hx with hx | hx
              · exact ls_light G1.out x hx
              · exact ls_light g2 x hx)
            clear g2
            go_wp2_with fail
            refine (labels_any s A _ l (by omega) (by omega) HLI.out w2 (HL.out.below B2.out) (H.out.below B2.out)).mono ?_
            rintro e w3 ⟨E, rfl, hE, hb3⟩
            have B3 := Lib.hid (B2.out.trans (hb3.mono B2.out.size))
            have E3 := Lib.hid hE
            have hform := hE.form
            have hnil := hE.nil_iff
            clear hE hb3
            go_wp2_with fail
            refine (labels_ref s A _ l (by omega) (by omega) HLI.out w3 (H.out.below B3.out)).mono ?_
            rintro e w4 ⟨rfl, hb4⟩
            have B4 := Lib.hid (B3.out.trans (hb4.mono B3.out.size))
            have E4 := Lib.hid (E3.out.below hb4)
            obtain ⟨y, hy⟩ : ∃ y, labelsV s l = y := ⟨_, rfl⟩
            rw [hy] at E4 hnil ⊢
            clear hb4 hy
            rcases hform with rfl | ⟨uu, xx, rfl⟩
            · have hz : (y.1 == 0) = true := by simpa using hnil.1 rfl
              clear hnil
              go_wp2_with fail
              refine (code_says E4.out (HL.out.below B4.out).err).mono ?_
              rintro e w5 ⟨rfl, hb5⟩
              have B5 := Lib.hid (B4.out.trans (hb5.mono B4.out.size))
              have E5 := Lib.hid (E4.out.below hb5)
              clear hb5
              go_wp2_with fail
              refine (text_says E5.out).mono ?_
              rintro e w6 ⟨rfl, hb6⟩
              have B6 := Lib.hid (B5.out.trans (hb6.mono B5.out.size))
              clear hb6
              go_wp2_with fail
              refine (works_any w6 (HL.out.below B6.out)).mono ?_
              rintro e w7 ⟨rfl, hb7⟩
              go_wp2
              go_ret
              exact ⟨rfl, B6.out.trans (hb7.mono B6.out.size)⟩
            · have hz : (y.1 == 0) = false := by
                have : ¬ y.1 = 0 := fun h => by have := hnil.2 h; cases this
                simpa using this
              clear hnil
              go_wp2_with fail
              refine (code_says E4.out (HL.out.below B4.out).err).mono ?_
              rintro e w5 ⟨rfl, hb5⟩
              have B5 := Lib.hid (B4.out.trans (hb5.mono B4.out.size))
              have E5 := Lib.hid (E4.out.below hb5)
              clear hb5
              go_wp2_with fail
              refine (text_says E5.out).mono ?_
              rintro e w6 ⟨rfl, hb6⟩
              have B6 := Lib.hid (B5.out.trans (hb6.mono B5.out.size))
              clear hb6
              go_wp2_with fail
              refine (works_any w6 (HL.out.below B6.out)).mono ?_
              rintro e w7 ⟨rfl, hb7⟩
              go_wp2
              go_ret
              exact ⟨rfl, B6.out.trans (hb7.mono B6.out.size)⟩
        · go_wp2_with fail
          have hd := Lbls.below (HD.out (Option.map (fun x => x.add (m * 2)) A) (.inr rfl)) B1.out
          generalize Option.map (fun x => x.add (m * 2)) A = A2 at *
          refine (HL2.out _ _ hd).mono ?_
          clear hd
          rintro e w2 ⟨rfl, hb2⟩
          have B2 := Lib.hid (B1.out.trans (hb2.mono B1.out.size))
          clear hb2
          cases g2 : LightB (LS (l.drop m)) with
          | false =>
            go_wp2_with fail
            refine (works_any w2 (HL.out.below B2.out)).mono ?_
            rintro e w3 ⟨rfl, hb⟩
            go_wp2
            go_ret
            exact ⟨rfl, B2.out.trans (hb.mono B2.out.size)⟩
          | true =>
            have HLI := Lib.hid (show ∀ x ∈ l, x.key.size ≤ 100 ∧ x.val.size ≤ 100 from fun x hx => by
              rw [← List.take_append_drop m l] at hx
              rcases List.mem_append.1 hx with hx | hx
              · exact ls_light G1.out x hx
              · exact ls_light g2 x hx)
            clear g2
            go_wp2_with fail
            refine (labels_any s A _ l (by omega) (by omega) HLI.out w2 (HL.out.below B2.out) (H.out.below B2.out)).mono ?_
            rintro e w3 ⟨E, rfl, hE, hb3⟩
            have B3 := Lib.hid (B2.out.trans (hb3.mono B2.out.size))
            have E3 := Lib.hid hE
            have hform := hE.form
            have hnil := hE.nil_iff
            clear hE hb3
            go_wp2_with fail
            refine (labels_ref s A _ l (by omega) (by omega) HLI.out w3 (H.out.below B3.out)).mono ?_
            rintro e w4 ⟨rfl, hb4⟩
            have B4 := Lib.hid (B3.out.trans (hb4.mono B3.out.size))
            have E4 := Lib.hid (E3.out.below hb4)
            obtain ⟨y, hy⟩ : ∃ y, labelsV s l = y := ⟨_, rfl⟩
            rw [hy] at E4 hnil ⊢
            clear hb4 hy
            rcases hform with rfl | ⟨uu, xx, rfl⟩
            · have hz : (y.1 == 0) = true := by simpa using hnil.1 rfl
              clear hnil
              go_wp2_with fail
              refine (code_says E4.out (HL.out.below B4.out).err).mono ?_
              rintro e w5 ⟨rfl, hb5⟩
              have B5 := Lib.hid (B4.out.trans (hb5.mono B4.out.size))
              have E5 := Lib.hid (E4.out.below hb5)
              clear hb5
              go_wp2_with fail
              refine (text_says E5.out).mono ?_
              rintro e w6 ⟨rfl, hb6⟩
              have B6 := Lib.hid (B5.out.trans (hb6.mono B5.out.size))
              clear hb6
              go_wp2_with fail
              refine (works_any w6 (HL.out.below B6.out)).mono ?_
              rintro e w7 ⟨rfl, hb7⟩
              go_wp2
              go_ret
              exact ⟨rfl, B6.out.trans (hb7.mono B6.out.size)⟩
            · have hz : (y.1 == 0) = false := by
                have : ¬ y.1 = 0 := fun h => by have := hnil.2 h; cases this
                simpa using this
              clear hnil
              go_wp2_with fail
              refine (code_says E4.out (HL.out.below B4.out).err).mono ?_
              rintro e w5 ⟨rfl, hb5⟩
              have B5 := Lib.hid (B4.out.trans (hb5.mono B4.out.size))
              have E5 := Lib.hid (E4.out.below hb5)
              clear hb5
              go_wp2_with fail
              refine (text_says E5.out).mono ?_
              rintro e w6 ⟨rfl, hb6⟩
              have B6 := Lib.hid (B5.out.trans (hb6.mono B5.out.size))
              clear hb6
              go_wp2_with fail
              refine (works_any w6 (HL.out.below B6.out)).mono ?_
              rintro e w7 ⟨rfl, hb7⟩
              go_wp2
              go_ret
              exact ⟨rfl, B6.out.trans (hb7.mono B6.out.size)⟩
end Go.Proofs.YtmdpfcniopiieaaGreatDoor.SpecLabelsWalk
