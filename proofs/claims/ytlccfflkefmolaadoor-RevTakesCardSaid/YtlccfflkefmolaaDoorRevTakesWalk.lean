/-
  The walk of the law RevTakes: it returns true, and leaves all that was there as it was. Condition: strconv's table of powers holds what the program's text lays (Tab).
-/
import Derived.Test.YtlccfflkefmolaaDoorRevWorks
import Derived.Test.YtlccfflkefmolaaDoorLists
namespace Go.Proofs.YtlccfflkefmolaaDoor.RevTakesWalk
open Go.ChangeShapes Go.WideShapes Go.ChangeAt Go.RowKit
open Go.Lib Fu Rv Lists

theorem bounds_i64 {n : Int} (h : (Lit.int .i64 n).wf = true) : -9223372036854775808 ≤ n ∧ n ≤ 9223372036854775807 := by
  simp only [Lit.wf, IntKind.min, IntKind.max, Bool.and_eq_true] at h
  simp [IntKind.signed, IntKind.bits] at h
  omega

set_option maxRecDepth 20000 in
set_option maxHeartbeats 2000000 in
theorem walk (b : Nat) (A : Option Addr) (c : Nat) (zs : List Int) (hb : b < 18446744073709551616) (w : World) (hA : Nums .i64 w A zs) (hz : zs.length ≤ 9223372036854775807) (hT : Tab w) :
    Calls Tryd.prog 3 #[.int .u64 b, .slice A zs.length c] w fun e w' => e = .returned (.bool true) ∧ Below w.heap.size w w' := by
  have HT := Lib.hid hT
  have HA := Lib.hid hA
  clear hT hA
  go_enter Tryd.func3, Tryd.ntmps3
  go_wp2_with fail
  refine (new_any b _).mono ?_
  rintro e w1 ⟨rfl, hR1, hb1⟩
  have B1 := Lib.hid hb1
  have R1 := Lib.hid hR1
  clear hR1 hb1
  go_wp2_with fail
  go_loopw [6, 7] (fun s i wr => ∃ (a k : Nat), s = .int .u64 a ∧ i = .int .i64 k ∧ k ≤ zs.length ∧ k ≤ 60 ∧ a ≤ b ∧ Hid (Rv wr w.heap.size a b) ∧ Hid (Below w.heap.size w wr)) (fun _ i _ => 60 - (RowKit.intOf i).toNat)
  case atStart => exact ⟨0, 0, rfl, rfl, by omega, by omega, by omega, R1, B1⟩
  case round =>
    obtain ⟨a, k, rfl, rfl, hk, hk60, ha, HR, HB⟩ := hrel
    by_cases hgo : k < zs.length ∧ k < 60
    · obtain ⟨hlt, hlt60⟩ := hgo
      obtain ⟨hwf, ad, rfl, hbl, hcell0⟩ := HA.out.at hlt
      obtain ⟨z, hz1⟩ : ∃ z, zs[k] = z := ⟨_, rfl⟩
      rw [hz1] at hwf hcell0
      have hbz := bounds_i64 hwf
      have hcell : wr.cell? (ad.add k) = some (.int .i64 z) := (HB.out.cell (by rw [add_block]; exact hbl)).trans hcell0
      have hltI : (k : Int) < (zs.length : Int) := by omega
      have hlt60I : (k : Int) < 60 := by omega
      clear hz1 hwf hcell0
      by_cases h0 : z = 0
      · subst h0
        have hz0 : ((0 : Int) == 0) = true := rfl
        by_cases hc : (b : Int) - a < 1
        · have hwm : IntKind.u64.wrap (1) = 1 := by rw [IntKind.wrap_u64]; omega
          have hwd : IntKind.u64.wrap ((b : Int) - a) = (b : Int) - a := by rw [IntKind.wrap_u64]; omega
          have eN : takeN a b (1) = 0 := by unfold takeN; rw [if_neg (by omega), if_pos hc]
          have eC : takeC a b (1) = 100 := by unfold takeC; rw [if_neg (by omega), if_pos hc]
          have eA : takeA a b (1) = a := by unfold takeA; rw [if_neg (by omega), if_pos hc]
          have EN := Lib.hid eN
          have EC := Lib.hid eC
          have EA := Lib.hid eA
          clear eN eC eA
          go_wp2_with fail
          refine (next_any _ _ a b HR.out ha hb).mono ?_
          rw [EN.out, EC.out, EA.out]
          rintro e w2 ⟨rfl, hR2, hb2⟩
          have R2 := Lib.hid hR2
          have B2 := Lib.hid (HB.out.trans hb2)
          clear hR2 hb2
          go_wp2_with fail
          refine (now_any _ _ a b R2.out).mono ?_
          rintro e w3 ⟨rfl, rfl⟩
          go_wp2_with fail
          refine (left_any _ _ a b R2.out (by omega) hb).mono ?_
          rintro e w4 ⟨rfl, hb4⟩
          have R4 := Lib.hid (R2.out.below hb4)
          have B4 := Lib.hid (B2.out.trans (hb4.mono B2.out.size))
          clear hb4
          go_wp2_with fail
          go_roundw
          case rel => exact ⟨a, k + 1, rfl, by go_num, by omega, by omega, by omega, R4.out, B4.out⟩
          case measure => simp [RowKit.intOf]; omega

        · have hwm : IntKind.u64.wrap (1) = 1 := by rw [IntKind.wrap_u64]; omega
          have hwd : IntKind.u64.wrap ((b : Int) - a) = (b : Int) - a := by rw [IntKind.wrap_u64]; omega
          have hwa : IntKind.u64.wrap ((a : Int) + 1) = (a : Int) + 1 := by rw [IntKind.wrap_u64]; omega
          have hw1 : IntKind.u64.wrap ((a : Int) + 1) = (a : Int) + 1 := by rw [IntKind.wrap_u64]; omega
          have eN : takeN a b (1) = a + 1 := by unfold takeN; rw [if_neg (by omega), if_neg (by omega)]
          have eC : takeC a b (1) = 0 := by unfold takeC; rw [if_neg (by omega), if_neg (by omega)]
          have eA : takeA a b (1) = (a + ((1 : Int)).toNat) := by unfold takeA; rw [if_neg (by omega), if_neg (by omega)]
          have hle : (a + ((1 : Int)).toNat) ≤ b := by omega
          have eI : ((((a + ((1 : Int)).toNat) : Nat)) : Int) = (a : Int) + 1 := by omega
          have EN := Lib.hid eN
          have EC := Lib.hid eC
          have EA := Lib.hid eA
          clear eN eC eA
          have EI := Lib.hid eI
          clear eI
          go_wp2_with fail
          refine (next_any _ _ a b HR.out ha hb).mono ?_
          rw [EN.out, EC.out, EA.out]
          rintro e w2 ⟨rfl, hR2, hb2⟩
          have R2 := Lib.hid hR2
          have B2 := Lib.hid (HB.out.trans hb2)
          clear hR2 hb2
          generalize hA2 : (a + ((1 : Int)).toNat) = a2 at *
          have HA2 := Lib.hid hA2
          clear hA2
          have hi2 : (a2 : Int) = (a : Int) + 1 := EI.out
          have hwd2 : IntKind.u64.wrap ((b : Int) - ((a : Int) + 1)) = (b : Int) - ((a : Int) + 1) := by rw [IntKind.wrap_u64]; omega
          go_wp2_with fail
          refine (now_any _ _ a2 b R2.out).mono ?_
          rintro e w3 ⟨rfl, rfl⟩
          rw [hi2]
          go_wp2_with fail
          refine (left_any _ _ a2 b R2.out (by omega) hb).mono ?_
          rintro e w4 ⟨rfl, hb4⟩
          have R4 := Lib.hid (R2.out.below hb4)
          have B4 := Lib.hid (B2.out.trans (hb4.mono B2.out.size))
          clear hb4
          rw [hi2]
          go_wp2_with fail
          go_roundw
          case rel => exact ⟨a2, k + 1, by rw [hi2], by go_num, by omega, by omega, by omega, R4.out, B4.out⟩
          case measure => simp [RowKit.intOf]; omega

      · have hz0 : (z == 0) = false := beq_eq_false_iff_ne.2 h0
        by_cases hc : z < 1
        · have hwd : IntKind.u64.wrap ((b : Int) - a) = (b : Int) - a := by rw [IntKind.wrap_u64]; omega
          have eN : takeN a b (z) = 0 := by unfold takeN; rw [if_pos hc]
          have eC : takeC a b (z) = 1 := by unfold takeC; rw [if_pos hc]
          have eA : takeA a b (z) = a := by unfold takeA; rw [if_pos hc]
          have EN := Lib.hid eN
          have EC := Lib.hid eC
          have EA := Lib.hid eA
          clear eN eC eA
          go_wp2_with fail
          refine (take_any _ _ a b z HR.out ha hb (by omega) (by omega)).mono ?_
          rw [EN.out, EC.out, EA.out]
          rintro e w2 ⟨rfl, hR2, hb2⟩
          have R2 := Lib.hid hR2
          have B2 := Lib.hid (HB.out.trans hb2)
          clear hR2 hb2
          go_wp2_with fail
          refine (now_any _ _ a b R2.out).mono ?_
          rintro e w3 ⟨rfl, rfl⟩
          go_wp2_with fail
          refine (left_any _ _ a b R2.out (by omega) hb).mono ?_
          rintro e w4 ⟨rfl, hb4⟩
          have R4 := Lib.hid (R2.out.below hb4)
          have B4 := Lib.hid (B2.out.trans (hb4.mono B2.out.size))
          clear hb4
          go_wp2_with fail
          go_roundw
          case rel => exact ⟨a, k + 1, rfl, by go_num, by omega, by omega, by omega, R4.out, B4.out⟩
          case measure => simp [RowKit.intOf]; omega

        · by_cases hc : (b : Int) - a < z
          · have hwm : IntKind.u64.wrap (z) = z := by rw [IntKind.wrap_u64]; omega
            have hwd : IntKind.u64.wrap ((b : Int) - a) = (b : Int) - a := by rw [IntKind.wrap_u64]; omega
            have eN : takeN a b (z) = 0 := by unfold takeN; rw [if_neg (by omega), if_pos hc]
            have eC : takeC a b (z) = 100 := by unfold takeC; rw [if_neg (by omega), if_pos hc]
            have eA : takeA a b (z) = a := by unfold takeA; rw [if_neg (by omega), if_pos hc]
            have EN := Lib.hid eN
            have EC := Lib.hid eC
            have EA := Lib.hid eA
            clear eN eC eA
            go_wp2_with fail
            refine (take_any _ _ a b z HR.out ha hb (by omega) (by omega)).mono ?_
            rw [EN.out, EC.out, EA.out]
            rintro e w2 ⟨rfl, hR2, hb2⟩
            have R2 := Lib.hid hR2
            have B2 := Lib.hid (HB.out.trans hb2)
            clear hR2 hb2
            go_wp2_with fail
            refine (now_any _ _ a b R2.out).mono ?_
            rintro e w3 ⟨rfl, rfl⟩
            go_wp2_with fail
            refine (left_any _ _ a b R2.out (by omega) hb).mono ?_
            rintro e w4 ⟨rfl, hb4⟩
            have R4 := Lib.hid (R2.out.below hb4)
            have B4 := Lib.hid (B2.out.trans (hb4.mono B2.out.size))
            clear hb4
            go_wp2_with fail
            go_roundw
            case rel => exact ⟨a, k + 1, rfl, by go_num, by omega, by omega, by omega, R4.out, B4.out⟩
            case measure => simp [RowKit.intOf]; omega

          · have hwm : IntKind.u64.wrap (z) = z := by rw [IntKind.wrap_u64]; omega
            have hwd : IntKind.u64.wrap ((b : Int) - a) = (b : Int) - a := by rw [IntKind.wrap_u64]; omega
            have hwa : IntKind.u64.wrap ((a : Int) + z) = (a : Int) + z := by rw [IntKind.wrap_u64]; omega
            have hw1 : IntKind.u64.wrap ((a : Int) + 1) = (a : Int) + 1 := by rw [IntKind.wrap_u64]; omega
            have eN : takeN a b (z) = a + 1 := by unfold takeN; rw [if_neg (by omega), if_neg (by omega)]
            have eC : takeC a b (z) = 0 := by unfold takeC; rw [if_neg (by omega), if_neg (by omega)]
            have eA : takeA a b (z) = (a + ((z : Int)).toNat) := by unfold takeA; rw [if_neg (by omega), if_neg (by omega)]
            have hle : (a + ((z : Int)).toNat) ≤ b := by omega
            have eI : ((((a + ((z : Int)).toNat) : Nat)) : Int) = (a : Int) + z := by omega
            have EN := Lib.hid eN
            have EC := Lib.hid eC
            have EA := Lib.hid eA
            clear eN eC eA
            have EI := Lib.hid eI
            clear eI
            go_wp2_with fail
            refine (take_any _ _ a b z HR.out ha hb (by omega) (by omega)).mono ?_
            rw [EN.out, EC.out, EA.out]
            rintro e w2 ⟨rfl, hR2, hb2⟩
            have R2 := Lib.hid hR2
            have B2 := Lib.hid (HB.out.trans hb2)
            clear hR2 hb2
            generalize hA2 : (a + ((z : Int)).toNat) = a2 at *
            have HA2 := Lib.hid hA2
            clear hA2
            have hi2 : (a2 : Int) = (a : Int) + z := EI.out
            have hwd2 : IntKind.u64.wrap ((b : Int) - ((a : Int) + z)) = (b : Int) - ((a : Int) + z) := by rw [IntKind.wrap_u64]; omega
            go_wp2_with fail
            refine (now_any _ _ a2 b R2.out).mono ?_
            rintro e w3 ⟨rfl, rfl⟩
            rw [hi2]
            go_wp2_with fail
            refine (left_any _ _ a2 b R2.out (by omega) hb).mono ?_
            rintro e w4 ⟨rfl, hb4⟩
            have R4 := Lib.hid (R2.out.below hb4)
            have B4 := Lib.hid (B2.out.trans (hb4.mono B2.out.size))
            clear hb4
            rw [hi2]
            go_wp2_with fail
            go_roundw
            case rel => exact ⟨a2, k + 1, by rw [hi2], by go_num, by omega, by omega, by omega, R4.out, B4.out⟩
            case measure => simp [RowKit.intOf]; omega

    · have hgo' : ¬ (k : Int) < (zs.length : Int) ∨ ((k : Int) < (zs.length : Int) ∧ ¬ (k : Int) < 60) := by omega
      clear hgo
      rcases hgo' with hg | ⟨hg, hg2⟩
      all_goals
        go_wp2_with fail
        refine (now_any _ _ a b HR.out).mono ?_
        rintro e w3 ⟨rfl, rfl⟩
        go_wp2_with fail
        refine (works_any _ (HT.out.below HB.out)).mono ?_
        rintro e w4 ⟨rfl, hb4⟩
        go_wp2_with fail
        go_ret
        exact ⟨rfl, HB.out.trans (hb4.mono HB.out.size)⟩


theorem bounds_u64 {n : Int} (h : (Lit.int .u64 n).wf = true) : 0 ≤ n ∧ n < 18446744073709551616 := by
  simp only [Lit.wf, IntKind.min, IntKind.max, Bool.and_eq_true] at h
  simp [IntKind.signed, IntKind.bits] at h
  omega

theorem walkz (n : Int) (w0 : (Lit.int .u64 n).wf = true) (A : Option Addr) (c : Nat) (zs : List Int) (w : World) (hA : Nums .i64 w A zs) (hz : zs.length ≤ 9223372036854775807) (hT : Tab w) :
    Calls Tryd.prog 3 #[.int .u64 n, .slice A zs.length c] w fun e w' => e = .returned (.bool true) ∧ Below w.heap.size w w' := by
  have hn := bounds_u64 w0
  obtain ⟨u, rfl⟩ : ∃ u : Nat, n = u := ⟨n.toNat, by omega⟩
  exact walk u A c zs (by omega) w hA hz hT
end Go.Proofs.YtlccfflkefmolaaDoor.RevTakesWalk
