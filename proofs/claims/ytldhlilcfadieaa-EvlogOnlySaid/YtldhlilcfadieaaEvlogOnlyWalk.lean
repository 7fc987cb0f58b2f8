/-
  EvlogOnly: events come only above the last revision, and the bounds are kept. No condition.
-/
import Derived.Test.YtldhlilcfadieaaEgActs
set_option linter.unusedVariables false
set_option linter.unusedSimpArgs false
namespace Go.Proofs.Ytldhlilcfadieaa
open Go.ChangeShapes Go.WideShapes Go.ChangeAt Go.RowKit Go.Lib
open Lists
namespace EvlogOnlyWalk
open Eg

set_option maxRecDepth 100000 in
set_option maxHeartbeats 4000000 in
theorem walk (m : Int) (hm : -9223372036854775808 ≤ m ∧ m ≤ 9223372036854775807) (A : Option Addr) (c : Nat) (l : List Ac) (hlen : l.length ≤ 9223372036854775807) (w : World) (hA : Acts w A l) :
    Calls Try.prog 4 #[.int .i64 m, .slice A l.length c] w fun e w' => e = .returned (.bool true) ∧ Below w.heap.size w w' := by
  have HA := Lib.hid hA
  have HLE := Lib.hid hlen
  have HM := Lib.hid hm
  obtain ⟨mo, hmo⟩ : ∃ mo : Nat, (mo : Int) = min (max m 1) 64 := ⟨(min (max m 1) 64).toNat, by omega⟩
  have HMO := Lib.hid hmo
  have GM := Lib.hid (show Eg.Good 0 [] mo from ⟨up_nil 0, by decide, (fun r hr => by cases hr), by simp, by omega, by omega⟩)
  obtain ⟨K, hK1, hK2, hK3⟩ : ∃ K, K ≤ l.length ∧ K ≤ 100 ∧ (K = l.length ∨ (K = 100 ∧ K < l.length)) := by
    by_cases h : l.length ≤ 100
    · exact ⟨l.length, by omega, h, .inl rfl⟩
    · exact ⟨100, by omega, by omega, .inr ⟨rfl, by omega⟩⟩
  have HK := Lib.hid hK3
  clear hA hlen hm hmo hK3
  go_enter Try.func4, Try.ntmps4
  go_wp2_with fail
  refine (works_any w).mono ?_
  rintro e w1 ⟨rfl, hb1⟩
  have B1 := Lib.hid hb1
  clear hb1
  go_wp2_with fail
  refine (new_any m HM.out mo HMO.out w1).mono ?_
  rintro e w2 ⟨rfl, hl2, hb2⟩
  obtain ⟨g, hg⟩ : ∃ g, w1.heap.size = g := ⟨_, rfl⟩
  rw [hg] at hl2 ⊢
  have HG := Lib.hid (show w.heap.size ≤ g by have := B1.out.size; omega)
  have L2 := Lib.hid hl2
  have B2 := Lib.hid (B1.out.trans (hb2.mono B1.out.size))
  clear hg hl2 hb2
  go_wp2_with fail
  go_loopw [6] (fun i wr => ∃ (k : Nat) (rs : List Nat) (fl : Nat), k ≤ K ∧ i = .int .i64 k ∧ Hid (Eg.Good fl rs mo) ∧ Hid (Lg wr g (fun b => b < g) rs fl mo) ∧ Hid (Below w.heap.size w wr)) (fun i _ => K - (RowKit.intOf i).toNat)
  case atStart => exact ⟨0, [], 0, Nat.zero_le _, rfl, GM.out, L2.out, B2.out⟩
  case round =>
    obtain ⟨k, rs, fl, hk, rfl, HGD, HL, HB⟩ := hrel
    by_cases hlt : k < K
    · have hkl : k < l.length := by omega
      have hk60 : (k : Int) < 100 := by omega
      have hkn : (k : Int) < (l.length : Int) := by omega
      obtain ⟨x, hx⟩ : ∃ x, l[k]? = some x := ⟨l[k], List.getElem?_eq_getElem hkl⟩
      obtain ⟨hf, a, rfl, ha, hc⟩ := HA.out k x hx
      have HC := Lib.hid (fun (v : World) (hb : Below w.heap.size w v) => hc.keep (hb.block _ (by rw [add_block]; exact ha)))
      have HF := Lib.hid hf
      clear hx hf hc ha
      have h64 : rs.length ≤ 64 := Nat.le_trans HGD.out.len HGD.out.most
      obtain ⟨la, hla⟩ : ∃ la, lastN rs fl = la := ⟨_, rfl⟩
      have HLA := Lib.hid (fun (v : World) (hv : Lg v g (fun b => b < g) rs fl mo) => by have := last_any v hv h64; rw [hla] at this; exact this)
      have HLAE := Lib.hid hla
      clear hla h64
      go_wp2_with fail
      refine (HLA.out _ HL.out).mono ?_
      rintro e w3 ⟨rfl, q, rfl⟩
      have L3 := Lib.hid (HL.out.below (Kit.below_drewN _ _ q))
      have B3 := Lib.hid (HB.out.trans (Kit.below_drewN w.heap.size wr q))
      go_wp2_with fail
      refine (floor_any _ L3.out).mono ?_
      rintro e w4 ⟨rfl, rfl⟩
      obtain ⟨w4, hw4⟩ : ∃ v, wr.drewN q = v := ⟨_, rfl⟩
      rw [hw4] at L3 B3 ⊢
      clear hw4
      obtain ⟨c0, c1, c2⟩ := HC.out w4 B3.out
      by_cases q1 : x.kind = 1
      · have e1 : (x.kind == 1) = true := beq_iff_eq.2 q1
        clear q1
        have HCP := Lib.hid (compact_any x.rev w4 L3.out HGD.out)
        go_wp2_with fail
        refine HCP.out.mono ?_
        rintro e w5 ⟨rfl, hl5, hk5⟩
        have HD5 := Lib.hid (show ∀ b, b < g → b < w4.heap.size from fun b hb => Nat.lt_trans hb L3.out.lt)
        have B5 := Lib.hid (B3.out.trans (hk5.below B3.out.size (fun b hb => Nat.lt_of_lt_of_le hb HG.out)))
        have hgd := cp_good HGD.out x.rev
        obtain ⟨R, hR⟩ : ∃ R, cpR rs fl x.rev = R := ⟨_, rfl⟩
        obtain ⟨F, hFe⟩ : ∃ F, cpF rs fl x.rev = F := ⟨_, rfl⟩
        obtain ⟨N, hN⟩ : ∃ N, cpN rs fl x.rev = N := ⟨_, rfl⟩
        obtain ⟨lb, hlb⟩ : ∃ lb, la = lb := ⟨_, rfl⟩
        subst hlb
        have HQ := Lib.hid (show Eg.Good F R mo ∧ fl ≤ F ∧ F ≤ la ∧ lastN R F = la by
          have e := cp_last HGD.out.up x.rev
          rw [hR, hFe, HLAE.out] at e
          rw [hR, hFe] at hgd
          exact ⟨hgd, by rw [← hFe]; exact cp_floor x.rev, by rw [← e]; exact (le_lastN hgd.up).1, e⟩)
        have L5 := Lib.hid (show Lg w5 g (fun b => b < g) R F mo by rw [← hR, ← hFe]; exact hl5)
        rw [hN]
        clear hl5 hk5 hgd hR hFe hN c0 c1 c2
        have h64' : R.length ≤ 64 := Nat.le_trans HQ.out.1.len HQ.out.1.most
        have HLC := Lib.hid (fun (v : World) (hv : Lg v g (fun b => b < g) R F mo) => by have := last_any v hv h64'; rw [HQ.out.2.2.2] at this; exact this)
        clear h64'
        go_wp2_with fail
        refine (HLC.out _ L5.out).mono ?_
        rintro e w6 ⟨rfl, q5, rfl⟩
        have L5' := L5
        have B5' := B5
        clear L5 B5
        have L5 := Lib.hid (L5'.out.below (Kit.below_drewN _ _ q5))
        have B5 := Lib.hid (B5'.out.trans ((Kit.below_drewN _ _ q5).mono B5'.out.size))
        clear L5' B5'
        obtain ⟨w8, hw8⟩ : ∃ v, w5.drewN q5 = v := ⟨_, rfl⟩
        rw [hw8] at L5 B5 ⊢
        clear hw8
        have hF1 : ¬ (F : Int) < (fl : Int) := by have := HQ.out.2.1; omega
        have hF2 : ¬ (la : Int) < (F : Int) := by have := HQ.out.2.2.1; omega
        have hF3 : ¬ min (max m 1) 64 < (R.length : Int) := by have := HQ.out.1.len; have := HMO.out; omega
        have h64 : R.length ≤ 64 := Nat.le_trans HQ.out.1.len HQ.out.1.most
        have HLB := Lib.hid (fun (v : World) (hv : Lg v g (fun b => b < g) R F mo) => by have := last_any v hv h64; rw [HQ.out.2.2.2] at this; exact this)
        clear h64
        go_wp2_with fail
        refine (floor_any _ L5.out).mono ?_
        rintro e w6 ⟨rfl, rfl⟩
        go_wp2_with fail
        refine (floor_any _ L5.out).mono ?_
        rintro e w6 ⟨rfl, rfl⟩
        go_wp2_with fail
        refine (HLB.out _ L5.out).mono ?_
        rintro e w6 ⟨rfl, q6, rfl⟩
        have L6 := Lib.hid (L5.out.below (Kit.below_drewN _ _ q6))
        have B6 := Lib.hid (B5.out.trans ((Kit.below_drewN _ _ q6).mono B5.out.size))
        go_wp2_with fail
        refine (len_any _ L6.out).mono ?_
        rintro e w7 ⟨rfl, rfl⟩
        go_wp2_with fail
        go_roundw
        case rel => exact ⟨k + 1, R, F, by omega, by go_num, HQ.out.1, L6.out, B6.out⟩
        case measure => simp [RowKit.intOf]; omega
      · have e1 : (x.kind == 1) = false := beq_eq_false_iff_ne.2 q1
        clear q1
        by_cases hr : x.rev ≤ la
        · have CX := Lib.hid (HC.out w4 B3.out)
          have HD5 := Lib.hid (show ∀ b, b < g → b < w4.drew.heap.size from fun b hb => Nat.lt_trans hb L3.out.lt)
          have L4 := Lib.hid (L3.out.below (Kit.below_drewN _ _ 1))
          obtain ⟨R, hR⟩ : ∃ R, adR rs fl mo x.rev = R := ⟨_, rfl⟩
          obtain ⟨F, hFe⟩ : ∃ F, adF rs fl mo x.rev = F := ⟨_, rfl⟩
          have hgd := ad_good HGD.out HF.out.2.2.2.2
          obtain ⟨lb, hlb⟩ : ∃ lb, lastN R F = lb := ⟨_, rfl⟩
          have HQ := Lib.hid (show Eg.Good F R mo ∧ fl ≤ F ∧ F ≤ lb ∧ lastN R F = lb by
            rw [hR, hFe] at hgd
            exact ⟨hgd, by rw [← hFe]; exact ad_floor HGD.out, by rw [← hlb]; exact (le_lastN hgd.up).1, hlb⟩)
          have HAD := Lib.hid (fun (wn : World) (hb : Below w4.drew.heap.size w4.drew wn) (hn : Nums .i64 wn (some ⟨w4.drew.heap.size + 1 + 1, 0, none⟩) [x.n]) => by
            have := add_ev x.n x.rev L4.out HGD.out HD5.out hb hn
            rw [hR, hFe, show adC rs fl x.rev = 4 from by unfold adC; rw [HLAE.out, if_pos hr]] at this
            exact this)
          clear hgd hR hFe hlb
          have hr1 : ¬ (la : Int) < (x.rev : Int) := by omega
          have hr2 : ¬ la < x.rev := by omega
          clear hr
          go_wp2_with fail
          go_region_law
            (first
              | (refine step_call rfl 8 #[.agg #[.int .i64 x.kind, .int .i64 x.n, .int .u64 (x.rev : Int)]] (by first | rfl | simp [go_sem, Act.eval]) ((event_any x.kind x.n x.rev HF.out.wf w4.drew).mono ?_); rintro e wn ⟨rfl, hn2, kn⟩; refine ⟨_, rfl, ?_⟩;
                 have KN := Lib.hid kn; have N2 := Lib.hid hn2;
                 obtain ⟨n0, n1, n2⟩ := HC.out wn ((B3.out.drew).trans (kn.mono B3.out.size)); clear hn2 kn)
              | (refine step_call rfl 7 #[.pointer (some ⟨g, 0, none⟩), .agg #[.int .i64 x.n, .int .u64 (x.rev : Int), .int .i64 x.n, .int .u64 0, .string ⟨#[]⟩, .slice none 0 0, .slice none 0 0, .slice none 0 0, .int .i64 0, .int .i64 0, .int .i64 0, .int .i64 0, .slice (some ⟨w4.drew.heap.size + 1 + 1, 0, none⟩) 1 1, .int .i64 0, .int .i64 0]] (by first | rfl | simp [go_sem, Act.eval]) ((HAD.out wn KN.out N2.out).mono ?_); rintro e w5 ⟨rfl, hl5, hk5⟩; refine ⟨_, rfl, ?_⟩;
                 have L5 := Lib.hid hl5;
                 have B5 := Lib.hid ((B3.out.drew).trans (hk5.below B3.out.size (fun b hb => Nat.lt_of_lt_of_le hb HG.out)));
                 obtain ⟨m0, m1, m2⟩ := HC.out w5 B5.out; clear hl5 hk5))
          all_goals
            (try clear n0 n1 n2)
            (try clear m0 m1 m2)
            (try clear c0 c1 c2)
            have hF1 : ¬ (F : Int) < (fl : Int) := by have := HQ.out.2.1; omega
            have hF2 : ¬ (lb : Int) < (F : Int) := by have := HQ.out.2.2.1; omega
            have hF3 : ¬ min (max m 1) 64 < (R.length : Int) := by have := HQ.out.1.len; have := HMO.out; omega
            have h64 : R.length ≤ 64 := Nat.le_trans HQ.out.1.len HQ.out.1.most
            have HLB := Lib.hid (fun (v : World) (hv : Lg v g (fun b => b < g) R F mo) => by have := last_any v hv h64; rw [HQ.out.2.2.2] at this; exact this)
            clear h64
            go_wp2_with fail
            refine (floor_any _ L5.out).mono ?_
            rintro e w6 ⟨rfl, rfl⟩
            go_wp2_with fail
            refine (floor_any _ L5.out).mono ?_
            rintro e w6 ⟨rfl, rfl⟩
            go_wp2_with fail
            refine (HLB.out _ L5.out).mono ?_
            rintro e w6 ⟨rfl, q6, rfl⟩
            have L6 := Lib.hid (L5.out.below (Kit.below_drewN _ _ q6))
            have B6 := Lib.hid (B5.out.trans ((Kit.below_drewN _ _ q6).mono B5.out.size))
            go_wp2_with fail
            refine (len_any _ L6.out).mono ?_
            rintro e w7 ⟨rfl, rfl⟩
            go_wp2_with fail
            go_roundw
            case rel => exact ⟨k + 1, R, F, by omega, by go_num, HQ.out.1, L6.out, B6.out⟩
            case measure => simp [RowKit.intOf]; omega
        · have CX := Lib.hid (HC.out w4 B3.out)
          have HD5 := Lib.hid (show ∀ b, b < g → b < w4.drew.heap.size from fun b hb => Nat.lt_trans hb L3.out.lt)
          have L4 := Lib.hid (L3.out.below (Kit.below_drewN _ _ 1))
          obtain ⟨R, hR⟩ : ∃ R, adR rs fl mo x.rev = R := ⟨_, rfl⟩
          obtain ⟨F, hFe⟩ : ∃ F, adF rs fl mo x.rev = F := ⟨_, rfl⟩
          have hgd := ad_good HGD.out HF.out.2.2.2.2
          obtain ⟨lb, hlb⟩ : ∃ lb, lastN R F = lb := ⟨_, rfl⟩
          have HQ := Lib.hid (show Eg.Good F R mo ∧ fl ≤ F ∧ F ≤ lb ∧ lastN R F = lb by
            rw [hR, hFe] at hgd
            exact ⟨hgd, by rw [← hFe]; exact ad_floor HGD.out, by rw [← hlb]; exact (le_lastN hgd.up).1, hlb⟩)
          have HAD := Lib.hid (fun (wn : World) (hb : Below w4.drew.heap.size w4.drew wn) (hn : Nums .i64 wn (some ⟨w4.drew.heap.size + 1 + 1, 0, none⟩) [x.n]) => by
            have := add_ev x.n x.rev L4.out HGD.out HD5.out hb hn
            rw [hR, hFe, show adC rs fl x.rev = 0 from by unfold adC; rw [HLAE.out, if_neg hr]] at this
            exact this)
          clear hgd hR hFe hlb
          have hr1 : (la : Int) < (x.rev : Int) := by omega
          have hr2 : la < x.rev := by omega
          clear hr
          go_wp2_with fail
          go_region_law
            (first
              | (refine step_call rfl 8 #[.agg #[.int .i64 x.kind, .int .i64 x.n, .int .u64 (x.rev : Int)]] (by first | rfl | simp [go_sem, Act.eval]) ((event_any x.kind x.n x.rev HF.out.wf w4.drew).mono ?_); rintro e wn ⟨rfl, hn2, kn⟩; refine ⟨_, rfl, ?_⟩;
                 have KN := Lib.hid kn; have N2 := Lib.hid hn2;
                 obtain ⟨n0, n1, n2⟩ := HC.out wn ((B3.out.drew).trans (kn.mono B3.out.size)); clear hn2 kn)
              | (refine step_call rfl 7 #[.pointer (some ⟨g, 0, none⟩), .agg #[.int .i64 x.n, .int .u64 (x.rev : Int), .int .i64 x.n, .int .u64 0, .string ⟨#[]⟩, .slice none 0 0, .slice none 0 0, .slice none 0 0, .int .i64 0, .int .i64 0, .int .i64 0, .int .i64 0, .slice (some ⟨w4.drew.heap.size + 1 + 1, 0, none⟩) 1 1, .int .i64 0, .int .i64 0]] (by first | rfl | simp [go_sem, Act.eval]) ((HAD.out wn KN.out N2.out).mono ?_); rintro e w5 ⟨rfl, hl5, hk5⟩; refine ⟨_, rfl, ?_⟩;
                 have L5 := Lib.hid hl5;
                 have B5 := Lib.hid ((B3.out.drew).trans (hk5.below B3.out.size (fun b hb => Nat.lt_of_lt_of_le hb HG.out)));
                 obtain ⟨m0, m1, m2⟩ := HC.out w5 B5.out; clear hl5 hk5))
          all_goals
            (try clear n0 n1 n2)
            (try clear m0 m1 m2)
            (try clear c0 c1 c2)
            have hF1 : ¬ (F : Int) < (fl : Int) := by have := HQ.out.2.1; omega
            have hF2 : ¬ (lb : Int) < (F : Int) := by have := HQ.out.2.2.1; omega
            have hF3 : ¬ min (max m 1) 64 < (R.length : Int) := by have := HQ.out.1.len; have := HMO.out; omega
            have h64 : R.length ≤ 64 := Nat.le_trans HQ.out.1.len HQ.out.1.most
            have HLB := Lib.hid (fun (v : World) (hv : Lg v g (fun b => b < g) R F mo) => by have := last_any v hv h64; rw [HQ.out.2.2.2] at this; exact this)
            clear h64
            go_wp2_with fail
            refine (floor_any _ L5.out).mono ?_
            rintro e w6 ⟨rfl, rfl⟩
            go_wp2_with fail
            refine (floor_any _ L5.out).mono ?_
            rintro e w6 ⟨rfl, rfl⟩
            go_wp2_with fail
            refine (HLB.out _ L5.out).mono ?_
            rintro e w6 ⟨rfl, q6, rfl⟩
            have L6 := Lib.hid (L5.out.below (Kit.below_drewN _ _ q6))
            have B6 := Lib.hid (B5.out.trans ((Kit.below_drewN _ _ q6).mono B5.out.size))
            go_wp2_with fail
            refine (len_any _ L6.out).mono ?_
            rintro e w7 ⟨rfl, rfl⟩
            go_wp2_with fail
            go_roundw
            case rel => exact ⟨k + 1, R, F, by omega, by go_num, HQ.out.1, L6.out, B6.out⟩
            case measure => simp [RowKit.intOf]; omega
    · have hgo' : ¬ (k : Int) < (l.length : Int) ∨ ((k : Int) < (l.length : Int) ∧ ¬ (k : Int) < 100) := by have := HK.out; omega
      rcases hgo' with hg1 | ⟨hg1, hg2⟩
      all_goals
        go_wp2_with fail
        go_ret
        exact ⟨rfl, HB.out⟩

theorem bounds_i64 {n : Int} (h : (Lit.int .i64 n).wf = true) : -9223372036854775808 ≤ n ∧ n ≤ 9223372036854775807 := by
  simp only [Lit.wf, IntKind.min, IntKind.max, Bool.and_eq_true] at h
  simp [IntKind.signed, IntKind.bits] at h
  omega
end EvlogOnlyWalk
end Go.Proofs.Ytldhlilcfadieaa
