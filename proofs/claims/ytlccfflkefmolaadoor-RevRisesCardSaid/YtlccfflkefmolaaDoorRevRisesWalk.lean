/-
  The walk of the law RevRises: it returns true, and leaves all that was there as it was. Condition: strconv's table of powers holds what the program's text lays (Tab).
-/
import Derived.Test.YtlccfflkefmolaaDoorRevWorks
import Derived.Test.YtlccfflkefmolaaDoorLists
import Derived.BigQuiet
namespace Go.Proofs.YtlccfflkefmolaaDoor.RevRisesWalk
open Go.ChangeShapes Go.WideShapes Go.ChangeAt Go.RowKit
open Go.Lib Fu Rv Lists

theorem bounds_i64 {n : Int} (h : (Lit.int .i64 n).wf = true) : -9223372036854775808 ≤ n ∧ n ≤ 9223372036854775807 := by
  simp only [Lit.wf, IntKind.min, IntKind.max, Bool.and_eq_true] at h
  simp [IntKind.signed, IntKind.bits] at h
  omega

set_option maxRecDepth 20000 in
set_option maxHeartbeats 2000000 in
theorem walk (b : Nat) (A : Option Addr) (c : Nat) (zs : List Int) (hb : b < 18446744073709551616) (w : World) (hA : Nums .i64 w A zs) (hz : zs.length ≤ 9223372036854775807) (hT : Tab w) :
    Calls Tryd.prog 5 #[.int .u64 b, .slice A zs.length c] w fun e w' => e = .returned (.bool true) ∧ Below w.heap.size w w' := by
  have HT := Lib.hid hT
  have HA := Lib.hid hA
  clear hT hA
  go_enter Tryd.func5, Tryd.ntmps5
  go_wp2_with fail
  refine (works_any _ HT.out).mono ?_
  rintro e w0 ⟨rfl, hb0⟩
  have B0 := Lib.hid hb0
  have hs0 := hb0.size
  clear hb0
  go_wp2_with fail
  refine (new_any b _).mono ?_
  rintro e w1 ⟨rfl, hR1, hb1⟩
  have B1 := Lib.hid (B0.out.trans (hb1.mono B0.out.size))
  have R1 := Lib.hid hR1
  clear hR1 hb1
  generalize hg : w0.heap.size = g at *
  have HG := Lib.hid hg
  clear hg
  go_wp2_with fail
  go_loopw [6, 7, 8] (fun s p i wr => ∃ (a k : Nat) (sp : Bool), s = .int .u64 a ∧ p = .bool sp ∧ i = .int .i64 k ∧ k ≤ zs.length ∧ k ≤ 60 ∧ a ≤ b ∧ (sp = true → a = b) ∧ Hid (Rv wr g a b) ∧ Hid (Below w.heap.size w wr)) (fun _ _ i _ => 60 - (RowKit.intOf i).toNat)
  case atStart => exact ⟨0, 0, false, rfl, rfl, rfl, by omega, by omega, by omega, fun h => (by cases h), R1, B1⟩
  case round =>
    obtain ⟨a, k, sp, rfl, rfl, rfl, hk, hk60, ha, hsp, HR, HB⟩ := hrel
    by_cases hgo : k < zs.length ∧ k < 60
    · obtain ⟨hlt, hlt60⟩ := hgo
      obtain ⟨hwf, ad, rfl, hbl, hcell0⟩ := HA.out.at hlt
      obtain ⟨z, hz1⟩ : ∃ z, zs[k] = z := ⟨_, rfl⟩
      rw [hz1] at hwf hcell0
      have hbz := bounds_i64 hwf
      have hcell : wr.cell? (ad.add k) = some (.int .i64 z) := (HB.out.cell (by rw [add_block]; exact hbl)).trans hcell0
      have hltI : (k : Int) < (zs.length : Int) := by omega
      have hlt60I : (k : Int) < 60 := by omega
      have HC0 := Lib.hid hcell0
      clear hz1 hwf hcell0
      by_cases h1 : 1 < z
      · by_cases hc : (b : Int) - a < z
        · cases sp
          · clear hsp
            have eN : takeN a b (z) = 0 := by unfold takeN; rw [if_neg (by omega), if_pos hc]
            have eC : takeC a b (z) = 100 := by unfold takeC; rw [if_neg (by omega), if_pos hc]
            have eA : takeA a b (z) = a := by unfold takeA; rw [if_neg (by omega), if_pos hc]
            have EN := Lib.hid eN
            have EC := Lib.hid eC
            have EA := Lib.hid eA
            clear eN eC eA
            go_wp2_with fail
            refine (take_any _ _ a b z HR.out ha hb (by omega) (by omega)).mono ?_
            rw [EN.out, EC.out, EA.out]
            rintro e w2 ⟨rfl, hR2, hb2⟩
            have R2 := Lib.hid hR2
            have B2 := Lib.hid (HB.out.trans (hb2.mono hs0))
            clear hR2
            have hcell2 : w2.cell? (ad.add k) = some (.int .i64 z) := (B2.out.cell (by rw [add_block]; exact hbl)).trans HC0.out
            clear hb2
            have HN : Hid (∀ v, Rv v g a b → Calls Tryd.prog 9 #[.pointer (some ⟨g, 0, none⟩)] v fun e w' => e = .returned (.int .u64 (a : Int)) ∧ w' = v) := by intro v hv; exact now_any v g a b hv
            go_wp2_with fail
            go_quiet ((go_at_call 9; exact Calls.quiet_of_same (HN.out (w2.drewN _) R2.out)))
            go_wp2_with fail
            refine (HN.out (w2.drewN _) R2.out).mono ?_
            rintro e w3 ⟨rfl, rfl⟩
            go_wp2_with fail
            go_roundw
            case rel => exact ⟨a, k + 1, false, rfl, rfl, by go_num, by omega, by omega, by omega, (fun h => by cases h), R2.out, B2.out.trans (Kit.below_drewN _ _ _)⟩
            case measure => simp [RowKit.intOf]; omega

          · have HAB := Lib.hid (hsp rfl)
            clear hsp
            have eN : takeN a b (z) = 0 := by unfold takeN; rw [if_neg (by omega), if_pos hc]
            have eC : takeC a b (z) = 100 := by unfold takeC; rw [if_neg (by omega), if_pos hc]
            have eA : takeA a b (z) = a := by unfold takeA; rw [if_neg (by omega), if_pos hc]
            have EN := Lib.hid eN
            have EC := Lib.hid eC
            have EA := Lib.hid eA
            clear eN eC eA
            go_wp2_with fail
            refine (take_any _ _ a b z HR.out ha hb (by omega) (by omega)).mono ?_
            rw [EN.out, EC.out, EA.out]
            rintro e w2 ⟨rfl, hR2, hb2⟩
            have R2 := Lib.hid hR2
            have B2 := Lib.hid (HB.out.trans (hb2.mono hs0))
            clear hR2
            have hcell2 : w2.cell? (ad.add k) = some (.int .i64 z) := (B2.out.cell (by rw [add_block]; exact hbl)).trans HC0.out
            clear hb2
            have HN : Hid (∀ v, Rv v g a b → Calls Tryd.prog 9 #[.pointer (some ⟨g, 0, none⟩)] v fun e w' => e = .returned (.int .u64 (a : Int)) ∧ w' = v) := by intro v hv; exact now_any v g a b hv
            go_wp2_with fail
            go_quiet ((go_at_call 9; exact Calls.quiet_of_same (HN.out (w2.drewN _) R2.out)))
            go_wp2_with fail
            refine (HN.out (w2.drewN _) R2.out).mono ?_
            rintro e w3 ⟨rfl, rfl⟩
            go_wp2_with fail
            go_roundw
            case rel => exact ⟨a, k + 1, true, rfl, rfl, by go_num, by omega, by omega, by omega, (fun _ => HAB.out), R2.out, B2.out.trans (Kit.below_drewN _ _ _)⟩
            case measure => simp [RowKit.intOf]; omega

        · cases sp
          · clear hsp
            have eN : takeN a b (z) = a + 1 := by unfold takeN; rw [if_neg (by omega), if_neg (by omega)]
            have eC : takeC a b (z) = 0 := by unfold takeC; rw [if_neg (by omega), if_neg (by omega)]
            have eA : takeA a b (z) = (a + ((z : Int)).toNat) := by unfold takeA; rw [if_neg (by omega), if_neg (by omega)]
            have hle : (a + ((z : Int)).toNat) ≤ b := by omega
            have eI : ((((a + ((z : Int)).toNat) : Nat)) : Int) = (a : Int) + z := by omega
            have EI := Lib.hid eI
            clear eI
            have eS : ((a + 1 : Nat) : Int) = (a : Int) + 1 := by omega
            have EN := Lib.hid eN
            have EC := Lib.hid eC
            have EA := Lib.hid eA
            clear eN eC eA
            go_wp2_with fail
            refine (take_any _ _ a b z HR.out ha hb (by omega) (by omega)).mono ?_
            rw [EN.out, EC.out, EA.out]
            rintro e w2 ⟨rfl, hR2, hb2⟩
            have R2 := Lib.hid hR2
            have B2 := Lib.hid (HB.out.trans (hb2.mono hs0))
            clear hR2
            generalize hA2 : (a + ((z : Int)).toNat) = a2 at *
            have HA2 := Lib.hid hA2
            clear hA2
            have hi2 : (a2 : Int) = (a : Int) + z := EI.out
            have hcell2 : w2.cell? (ad.add k) = some (.int .i64 z) := (B2.out.cell (by rw [add_block]; exact hbl)).trans HC0.out
            have hwz : IntKind.u64.wrap z = z := by rw [IntKind.wrap_u64]; omega
            have hwz1 : IntKind.u64.wrap (z - 1) = z - 1 := by rw [IntKind.wrap_u64]; omega
            have hwd : IntKind.u64.wrap ((a : Int) + z - ((a : Int) + 1)) = z - 1 := by rw [IntKind.wrap_u64]; omega
            clear hb2
            have HN : Hid (∀ v, Rv v g a2 b → Calls Tryd.prog 9 #[.pointer (some ⟨g, 0, none⟩)] v fun e w' => e = .returned (.int .u64 ((a : Int) + z)) ∧ w' = v) := by intro v hv; rw [← hi2]; exact now_any v g a2 b hv
            go_wp2_with fail
            have d1 : decide ((a : Int) + 1 ≤ (a : Int)) = false := decide_eq_false (by omega)
            have d2 : decide ((b : Int) < (a : Int) + 1) = false := decide_eq_false (by omega)
            have d3 : decide (z < 1) = false := decide_eq_false (by omega)
            go_quiet ((go_at_call 9; exact Calls.quiet_of_same (HN.out (w2.drewN _) R2.out)))
            go_wp2_with fail
            refine (HN.out (w2.drewN _) R2.out).mono ?_
            rintro e w3 ⟨rfl, rfl⟩
            go_wp2_with fail
            go_roundw
            case rel => exact ⟨a2, k + 1, false, by rw [hi2], rfl, by go_num, by omega, by omega, by omega, (fun h => by cases h), R2.out, B2.out.trans (Kit.below_drewN _ _ _)⟩
            case measure => simp [RowKit.intOf]; omega

          · have := hsp rfl
            omega
      · by_cases hc : (b : Int) - a < 1
        · have hab : a = b := by omega
          have hne : ((a : Int) != (b : Int)) = false := by rw [hab]; simp
          have HAB := Lib.hid hab
          clear hab
          cases sp
          all_goals
            clear hsp
            have eN : takeN a b (1) = 0 := by unfold takeN; rw [if_neg (by omega), if_pos hc]
            have eC : takeC a b (1) = 100 := by unfold takeC; rw [if_neg (by omega), if_pos hc]
            have eA : takeA a b (1) = a := by unfold takeA; rw [if_neg (by omega), if_pos hc]
            have EN := Lib.hid eN
            have EC := Lib.hid eC
            have EA := Lib.hid eA
            clear eN eC eA
            go_wp2_with fail
            refine (next_any _ _ a b HR.out ha hb).mono ?_
            rw [EN.out, EC.out, EA.out]
            rintro e w2 ⟨rfl, hR2, hb2⟩
            have R2 := Lib.hid hR2
            have B2 := Lib.hid (HB.out.trans (hb2.mono hs0))
            clear hR2
            clear hb2
            have HN : Hid (∀ v, Rv v g a b → Calls Tryd.prog 9 #[.pointer (some ⟨g, 0, none⟩)] v fun e w' => e = .returned (.int .u64 (a : Int)) ∧ w' = v) := by intro v hv; exact now_any v g a b hv
            go_wp2_with fail
            refine (HN.out _ R2.out).mono ?_
            rintro e w3 ⟨rfl, rfl⟩
            go_wp2_with fail
            refine (HN.out _ R2.out).mono ?_
            rintro e w3 ⟨rfl, rfl⟩
            go_wp2_with fail
            go_roundw
            case rel => exact ⟨a, k + 1, true, rfl, rfl, by go_num, by omega, by omega, by omega, (fun _ => HAB.out), R2.out, B2.out⟩
            case measure => simp [RowKit.intOf]; omega

        · cases sp
          · clear hsp
            have eN : takeN a b (1) = a + 1 := by unfold takeN; rw [if_neg (by omega), if_neg (by omega)]
            have eC : takeC a b (1) = 0 := by unfold takeC; rw [if_neg (by omega), if_neg (by omega)]
            have eA : takeA a b (1) = (a + ((1 : Int)).toNat) := by unfold takeA; rw [if_neg (by omega), if_neg (by omega)]
            have hle : (a + ((1 : Int)).toNat) ≤ b := by omega
            have eI : ((((a + ((1 : Int)).toNat) : Nat)) : Int) = (a : Int) + 1 := by omega
            have EI := Lib.hid eI
            clear eI
            have eS : ((a + 1 : Nat) : Int) = (a : Int) + 1 := by omega
            have EN := Lib.hid eN
            have EC := Lib.hid eC
            have EA := Lib.hid eA
            clear eN eC eA
            go_wp2_with fail
            refine (next_any _ _ a b HR.out ha hb).mono ?_
            rw [EN.out, EC.out, EA.out]
            rintro e w2 ⟨rfl, hR2, hb2⟩
            have R2 := Lib.hid hR2
            have B2 := Lib.hid (HB.out.trans (hb2.mono hs0))
            clear hR2
            generalize hA2 : (a + ((1 : Int)).toNat) = a2 at *
            have HA2 := Lib.hid hA2
            clear hA2
            have hi2 : (a2 : Int) = (a : Int) + 1 := EI.out
            clear hb2
            have HN : Hid (∀ v, Rv v g a2 b → Calls Tryd.prog 9 #[.pointer (some ⟨g, 0, none⟩)] v fun e w' => e = .returned (.int .u64 ((a : Int) + 1)) ∧ w' = v) := by intro v hv; rw [← hi2]; exact now_any v g a2 b hv
            go_wp2_with fail
            refine (HN.out _ R2.out).mono ?_
            rintro e w3 ⟨rfl, rfl⟩
            go_wp2_with fail
            go_roundw
            case rel => exact ⟨a2, k + 1, false, by rw [hi2], rfl, by go_num, by omega, by omega, by omega, (fun h => by cases h), R2.out, B2.out⟩
            case measure => simp [RowKit.intOf]; omega

          · have := hsp rfl
            omega
    · have hgo' : ¬ (k : Int) < (zs.length : Int) ∨ ((k : Int) < (zs.length : Int) ∧ ¬ (k : Int) < 60) := by omega
      have haI : (a : Int) ≤ (b : Int) := by omega
      clear hgo
      rcases hgo' with hg | ⟨hg, hg2⟩
      all_goals
        go_wp2_with fail
        go_ret
        exact ⟨rfl, HB.out⟩


theorem bounds_u64 {n : Int} (h : (Lit.int .u64 n).wf = true) : 0 ≤ n ∧ n < 18446744073709551616 := by
  simp only [Lit.wf, IntKind.min, IntKind.max, Bool.and_eq_true] at h
  simp [IntKind.signed, IntKind.bits] at h
  omega

theorem walkz (n : Int) (w0 : (Lit.int .u64 n).wf = true) (A : Option Addr) (c : Nat) (zs : List Int) (w : World) (hA : Nums .i64 w A zs) (hz : zs.length ≤ 9223372036854775807) (hT : Tab w) :
    Calls Tryd.prog 5 #[.int .u64 n, .slice A zs.length c] w fun e w' => e = .returned (.bool true) ∧ Below w.heap.size w w' := by
  have hn := bounds_u64 w0
  obtain ⟨u, rfl⟩ : ∃ u : Nat, n = u := ⟨n.toNat, by omega⟩
  exact walk u A c zs (by omega) w hA hz hT
end Go.Proofs.YtlccfflkefmolaaDoor.RevRisesWalk
