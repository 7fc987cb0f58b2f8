/-
  WireCanon: whatever is read of any bytes without an error, written again, is just those bytes. No condition.
-/
import Derived.Test.YthffbhpoccdjcaaWireActs
namespace Go.Proofs.Ythffbhpoccdjcaa
open Go.ChangeShapes Go.WideShapes Go.ChangeAt Go.RowKit Go.Lib
open LebMath WirePure
namespace WireCanonWalk
open Wire

/-- the loop's head: what was written, and what is left, are the bytes -/
structure At (w : World) (g h : Nat) (all : List UInt8) (wr : World) (xs rest : List UInt8) : Prop where
  wri : Wr wr g (· < g) 0 xs
  rd : Rd wr h 0 rest
  below : Below w.heap.size w wr
  all : all = xs ++ rest

/-- a reader's call leaves the writer -/
theorem wr_aside {g h : Nat} {w w' : World} {xs : List UInt8} (hh : h < g) (hw : Wr w g (· < g) 0 xs) (hk : Aside h w w') : Wr w' g (· < g) 0 xs :=
  hw.keep hk ⟨hw.lt, by omega⟩ (fun k hk hg _ => ⟨hk, by omega⟩)
theorem rd_kept {g h : Nat} {w w' : World} {c : Int} {l : List UInt8} (hh : h < g) (hr : Rd w h c l) (hk : Kept (· < g) w w') : Rd w' h c l := hr.keep hk hh

theorem below_aside {w w5 w6 : World} {h : Nat} (hh : w.heap.size ≤ h) (hs : w.heap.size ≤ w5.heap.size) (hk : Aside h w5 w6) : Below w.heap.size w5 w6 :=
  Kept.below hk (fun k hk => ⟨Nat.lt_of_lt_of_le hk hs, by omega⟩)

theorem At.lens {w : World} {g h : Nat} {s : ByteArray} {wr : World} {xs rest : List UInt8} (ha : At w g h s.data.toList wr xs rest) (hs : s.size ≤ 2000) : xs.length ≤ 2000 ∧ rest.length ≤ 2000 := by
  have e : s.data.toList.length = s.size := Array.length_toList
  rw [ha.all, List.length_append] at e
  omega

theorem At.next {w : World} {g h : Nat} {all : List UInt8} {wr w6 : World} {xs rest ys l1 : List UInt8} (ha : At w g h all wr xs rest) (hc : rest = ys ++ l1) (hw : Wr w6 g (· < g) 0 (addB 0 xs ys)) (hr : Rd w6 h 0 l1) (hb : Below w.heap.size w w6) :
    At w g h all w6 (xs ++ ys) l1 := ⟨by rwa [addB_no] at hw, hr, hb, by rw [ha.all, hc, List.append_assoc]⟩

theorem text_canonB {m : Nat} {l : List UInt8} (h : textE m 0 l = 0) : l = txB ⟨(textS m 0 l).toArray⟩ ++ textL m 0 l := by
  have := text_canon h
  unfold txB
  rw [List.append_assoc]
  exact this
theorem bool_canonB {l : List UInt8} (h : boolE 0 l = 0) : l = [boB (boolV 0 l)] ++ boolL 0 l := bool_canon h
theorem textS_len (m : Nat) (c : Int) (l : List UInt8) : (textS m c l).length ≤ l.length := Nat.le_trans (takeS_len _ _ _) (numL_len _ _ _)

set_option maxRecDepth 100000 in
set_option maxHeartbeats 4000000 in
theorem law (s : ByteArray) (A : Option Addr) (cap : Nat) (l : List Int) (hlen : l.length ≤ 9223372036854775807) (hsz : s.size ≤ 140737488351232) (w : World) (hV : Nums .i64 w A l) :
    Calls Try.prog 5 #[.string s, .slice A l.length cap] w fun e w' => e = .returned (.bool true) ∧ Below w.heap.size w w' := by
  have HV := Lib.hid hV
  have HLE := Lib.hid hlen
  have HSZ := Lib.hid hsz
  clear hV hlen
  obtain ⟨K, hK1, hK2, hK3⟩ : ∃ K, K ≤ l.length ∧ K ≤ 60 ∧ (K = l.length ∨ (K = 60 ∧ K < l.length)) := by
    by_cases h : l.length ≤ 60
    · exact ⟨l.length, by omega, h, .inl rfl⟩
    · exact ⟨60, by omega, by omega, .inr ⟨rfl, by omega⟩⟩
  have HK := Lib.hid hK3
  clear hK3
  by_cases h2000 : (2000 : Int) < (s.size : Int)
  · go_enter Try.func5, Try.ntmps5
    go_wp2_with fail
    refine (works_any w).mono ?_
    rintro e w1 ⟨rfl, hb1⟩
    have HB := Lib.hid hb1
    clear hb1
    go_wp2_with fail
    go_ret
    exact ⟨rfl, HB.out⟩
  · have HS := Lib.hid (show s.size ≤ 2000 by omega)
    have hle : (s.size : Int) ≤ 2000 := by omega
    clear hsz
    go_enter Try.func5, Try.ntmps5
    go_wp2_with fail
    refine (works_any w).mono ?_
    rintro e w1 ⟨rfl, hb1⟩
    have B1 := Lib.hid hb1
    clear hb1
    go_wp2_with fail
    refine (read_any s w1).mono ?_
    rintro e w2 ⟨rfl, h2, hb2, z2⟩
    have H2 := Lib.hid h2
    have B2 := Lib.hid hb2
    have Z2 := Lib.hid z2
    clear h2 hb2 z2
    go_wp2_with fail
    refine (write_any w2).mono ?_
    rintro e w3 ⟨rfl, h3, hb3, z3⟩
    have H3 := Lib.hid h3
    have B3 := Lib.hid hb3
    clear h3 hb3 z3
    obtain ⟨h, hh⟩ : ∃ h, w1.heap.size = h := ⟨_, rfl⟩
    obtain ⟨g, hg⟩ : ∃ g, w2.heap.size = g := ⟨_, rfl⟩
    have HGH := Lib.hid (show h < g by have := Z2.out; omega)
    have HHW := Lib.hid (show w.heap.size ≤ h by have := B1.out.size; omega)
    rw [hg] at H3
    rw [hh] at H2
    rw [hh, hg]
    have H0 := Lib.hid (show At w g h s.data.toList w3 [] s.data.toList from ⟨H3.out, H2.out.below B3.out, (B1.out.trans (B2.out.mono B1.out.size)).trans (B3.out.mono (Nat.le_trans B1.out.size B2.out.size)), rfl⟩)
    clear hh hg H2 H3 B1 B2 B3 Z2
    go_wp2_with fail
    go_loopw [7] (fun i wr => ∃ (k : Nat) (xs rest : List UInt8), k ≤ K ∧ i = .int .i64 k ∧ Hid (At w g h s.data.toList wr xs rest)) (fun i _ => K - (RowKit.intOf i).toNat)
    case atStart => exact ⟨0, [], s.data.toList, Nat.zero_le _, rfl, H0.out⟩
    case round =>
      obtain ⟨k, xs, rest, hk, rfl, HA⟩ := hrel
      by_cases hlt : k < K
      · have hkl : k < l.length := by omega
        have hk60 : (k : Int) < 60 := by omega
        have hkn : (k : Int) < (l.length : Int) := by omega
        obtain ⟨x, hx⟩ : ∃ x, l[k]? = some x := ⟨l[k], List.getElem?_eq_getElem hkl⟩
        obtain ⟨hf, a, rfl, ha, hc⟩ := HV.out k x hx
        have hc' := (HA.out.below.cell (p := a.add k) (by rw [add_block]; exact ha)).trans hc
        clear hx hf hc ha
        have LR := Lib.hid (HA.out.lens HS.out).2
        have LX := Lib.hid (HA.out.lens HS.out).1
        go_wp2_with fail
        · refine (rnum_any h 9223372036854775807 (by decide) 0 rest (by have := LR.out; unfold maxLen; omega) wr HA.out.rd).mono ?_
          rintro e w5 ⟨rfl, h5, k5⟩
          have hcan := num_canon (m := mostN 9223372036854775807) (l := rest)
          have L1 := Lib.hid (Nat.le_trans (numL_len (mostN 9223372036854775807) 0 rest) LR.out)
          have LN := Lib.hid (Nat.le_trans (numV_le (mostN 9223372036854775807) 0 rest) (mostN_le (m := 9223372036854775807) (by decide)))
          generalize numV (mostN 9223372036854775807) 0 rest = n at *
          generalize numE (mostN 9223372036854775807) 0 rest = c1 at *
          generalize numL (mostN 9223372036854775807) 0 rest = l1 at *
          have R5 := Lib.hid h5
          have K5 := Lib.hid k5
          have HCAN := Lib.hid hcan
          have W5 := Lib.hid (wr_aside HGH.out HA.out.wri k5)
          have B5 := Lib.hid (HA.out.below.trans (below_aside HHW.out HA.out.below.size k5))
          clear h5 k5 hcan
          go_wp2_with fail
          refine (num_nat g (· < g) 0 xs n LN.out (fun _ => by have := LX.out; omega) w5 W5.out).mono ?_
          rintro e w6 ⟨rfl, h6, k6⟩
          have W6 := Lib.hid h6
          have R6 := Lib.hid (rd_kept HGH.out R5.out k6)
          have B6 := Lib.hid (B5.out.trans (Kept.below k6 (fun i hi => by have := HHW.out; have := HGH.out; omega)))
          clear h6 k6
          go_wp2_with fail
          refine (code_any h c1 l1 w6 R6.out).mono ?_
          rintro e w7 ⟨rfl, rfl⟩
          by_cases hc1 : c1 = 0
          · subst hc1
            have HN := Lib.hid (HA.out.next (HCAN.out rfl) W6.out R6.out B6.out)
            go_wp2_with fail
            go_roundw
            case rel => exact ⟨k + 1, _, l1, by omega, by go_num, HN.out⟩
            case measure => simp [RowKit.intOf]; omega
          · have c9 : (c1 == 0) = false := beq_eq_false_iff_ne.2 hc1
            have HC1 := Lib.hid hc1
            have m5 : numV (mostN 5) c1 l1 = 0 := numV_err hc1 _ _
            have m6 : textS (mostN 5) c1 l1 = [] := textS_err hc1 _ _
            have m7 : boolV c1 l1 = false := boolV_err hc1 _
            have M5 := Lib.hid m5
            have M6 := Lib.hid m6
            have M7 := Lib.hid m7
            clear hc1 m5 m6 m7
            go_wp2_with fail
            refine (rnum_any h 5 (by decide) c1 l1 (by have := L1.out; unfold maxLen; omega) w6 R6.out).mono ?_
            rintro e w7 ⟨rfl, h7, k7⟩
            rw [M5.out]
            rw [numE_err HC1.out, numL_err HC1.out] at h7
            have H7 := Lib.hid h7
            have K7 := Lib.hid k7
            clear h7 k7
            go_wp2_with fail
            refine (rtext_any h 5 (by decide) c1 l1 (by have := L1.out; omega) w7 H7.out).mono ?_
            rintro e w8 ⟨rfl, h8, k8⟩
            rw [M6.out]
            rw [textE_err HC1.out, textL_err HC1.out] at h8
            have H8 := Lib.hid h8
            have K8 := Lib.hid k8
            clear h8 k8
            go_wp2_with fail
            refine (rbool_any h c1 l1 (by have := L1.out; unfold maxLen; omega) w8 H8.out).mono ?_
            rintro e w9 ⟨rfl, h9, k9⟩
            rw [M7.out]
            have K9 := Lib.hid k9
            clear h9 k9
            go_wp2_with fail
            go_ret
            exact ⟨rfl, B6.out.trans (below_aside HHW.out B6.out.size ((K7.out.trans K8.out).trans K9.out))⟩
        · refine (rbig_any h 0 rest (by have := LR.out; unfold maxLen; omega) wr HA.out.rd).mono ?_
          rintro e w5 ⟨rfl, h5, k5⟩
          have hcan := num_canon (m := 18446744073709551615) (l := rest)
          have L1 := Lib.hid (Nat.le_trans (numL_len 18446744073709551615 0 rest) LR.out)
          have LN := Lib.hid (numV_lt 18446744073709551615 0 rest)
          generalize numV 18446744073709551615 0 rest = n at *
          generalize numE 18446744073709551615 0 rest = c1 at *
          generalize numL 18446744073709551615 0 rest = l1 at *
          have R5 := Lib.hid h5
          have K5 := Lib.hid k5
          have HCAN := Lib.hid hcan
          have W5 := Lib.hid (wr_aside HGH.out HA.out.wri k5)
          have B5 := Lib.hid (HA.out.below.trans (below_aside HHW.out HA.out.below.size k5))
          clear h5 k5 hcan
          go_wp2_with fail
          refine (big_any g (· < g) 0 xs n LN.out (fun _ => by have := LX.out; omega) w5 W5.out).mono ?_
          rintro e w6 ⟨rfl, h6, k6⟩
          have W6 := Lib.hid h6
          have R6 := Lib.hid (rd_kept HGH.out R5.out k6)
          have B6 := Lib.hid (B5.out.trans (Kept.below k6 (fun i hi => by have := HHW.out; have := HGH.out; omega)))
          clear h6 k6
          go_wp2_with fail
          refine (code_any h c1 l1 w6 R6.out).mono ?_
          rintro e w7 ⟨rfl, rfl⟩
          by_cases hc1 : c1 = 0
          · subst hc1
            have HN := Lib.hid (HA.out.next (HCAN.out rfl) W6.out R6.out B6.out)
            go_wp2_with fail
            go_roundw
            case rel => exact ⟨k + 1, _, l1, by omega, by go_num, HN.out⟩
            case measure => simp [RowKit.intOf]; omega
          · have c9 : (c1 == 0) = false := beq_eq_false_iff_ne.2 hc1
            have HC1 := Lib.hid hc1
            have m5 : numV (mostN 5) c1 l1 = 0 := numV_err hc1 _ _
            have m6 : textS (mostN 5) c1 l1 = [] := textS_err hc1 _ _
            have m7 : boolV c1 l1 = false := boolV_err hc1 _
            have M5 := Lib.hid m5
            have M6 := Lib.hid m6
            have M7 := Lib.hid m7
            clear hc1 m5 m6 m7
            go_wp2_with fail
            refine (rnum_any h 5 (by decide) c1 l1 (by have := L1.out; unfold maxLen; omega) w6 R6.out).mono ?_
            rintro e w7 ⟨rfl, h7, k7⟩
            rw [M5.out]
            rw [numE_err HC1.out, numL_err HC1.out] at h7
            have H7 := Lib.hid h7
            have K7 := Lib.hid k7
            clear h7 k7
            go_wp2_with fail
            refine (rtext_any h 5 (by decide) c1 l1 (by have := L1.out; omega) w7 H7.out).mono ?_
            rintro e w8 ⟨rfl, h8, k8⟩
            rw [M6.out]
            rw [textE_err HC1.out, textL_err HC1.out] at h8
            have H8 := Lib.hid h8
            have K8 := Lib.hid k8
            clear h8 k8
            go_wp2_with fail
            refine (rbool_any h c1 l1 (by have := L1.out; unfold maxLen; omega) w8 H8.out).mono ?_
            rintro e w9 ⟨rfl, h9, k9⟩
            rw [M7.out]
            have K9 := Lib.hid k9
            clear h9 k9
            go_wp2_with fail
            go_ret
            exact ⟨rfl, B6.out.trans (below_aside HHW.out B6.out.size ((K7.out.trans K8.out).trans K9.out))⟩
        · refine (rtext_any h 2000 (by decide) 0 rest (by have := LR.out; omega) wr HA.out.rd).mono ?_
          rintro e w5 ⟨rfl, h5, k5⟩
          have hcan := text_canonB (m := mostN 2000) (l := rest)
          have L1 := Lib.hid (Nat.le_trans (textL_len (mostN 2000) 0 rest) LR.out)
          have LN := Lib.hid (Nat.le_trans (textS_len (mostN 2000) 0 rest) LR.out)
          generalize textS (mostN 2000) 0 rest = t at *
          generalize textE (mostN 2000) 0 rest = c1 at *
          generalize textL (mostN 2000) 0 rest = l1 at *
          have R5 := Lib.hid h5
          have K5 := Lib.hid k5
          have HCAN := Lib.hid hcan
          have W5 := Lib.hid (wr_aside HGH.out HA.out.wri k5)
          have B5 := Lib.hid (HA.out.below.trans (below_aside HHW.out HA.out.below.size k5))
          clear h5 k5 hcan
          go_wp2_with fail
          refine (text_any g (· < g) 0 xs ⟨t.toArray⟩ (by have := LX.out; have := LN.out; show xs.length + 10 + t.toArray.size ≤ _; rw [List.size_toArray]; omega) w5 W5.out).mono ?_
          rintro e w6 ⟨rfl, h6, k6⟩
          have W6 := Lib.hid h6
          have R6 := Lib.hid (rd_kept HGH.out R5.out k6)
          have B6 := Lib.hid (B5.out.trans (Kept.below k6 (fun i hi => by have := HHW.out; have := HGH.out; omega)))
          clear h6 k6
          go_wp2_with fail
          refine (code_any h c1 l1 w6 R6.out).mono ?_
          rintro e w7 ⟨rfl, rfl⟩
          by_cases hc1 : c1 = 0
          · subst hc1
            have HN := Lib.hid (HA.out.next (HCAN.out rfl) W6.out R6.out B6.out)
            go_wp2_with fail
            go_roundw
            case rel => exact ⟨k + 1, _, l1, by omega, by go_num, HN.out⟩
            case measure => simp [RowKit.intOf]; omega
          · have c9 : (c1 == 0) = false := beq_eq_false_iff_ne.2 hc1
            have HC1 := Lib.hid hc1
            have m5 : numV (mostN 5) c1 l1 = 0 := numV_err hc1 _ _
            have m6 : textS (mostN 5) c1 l1 = [] := textS_err hc1 _ _
            have m7 : boolV c1 l1 = false := boolV_err hc1 _
            have M5 := Lib.hid m5
            have M6 := Lib.hid m6
            have M7 := Lib.hid m7
            clear hc1 m5 m6 m7
            go_wp2_with fail
            refine (rnum_any h 5 (by decide) c1 l1 (by have := L1.out; unfold maxLen; omega) w6 R6.out).mono ?_
            rintro e w7 ⟨rfl, h7, k7⟩
            rw [M5.out]
            rw [numE_err HC1.out, numL_err HC1.out] at h7
            have H7 := Lib.hid h7
            have K7 := Lib.hid k7
            clear h7 k7
            go_wp2_with fail
            refine (rtext_any h 5 (by decide) c1 l1 (by have := L1.out; omega) w7 H7.out).mono ?_
            rintro e w8 ⟨rfl, h8, k8⟩
            rw [M6.out]
            rw [textE_err HC1.out, textL_err HC1.out] at h8
            have H8 := Lib.hid h8
            have K8 := Lib.hid k8
            clear h8 k8
            go_wp2_with fail
            refine (rbool_any h c1 l1 (by have := L1.out; unfold maxLen; omega) w8 H8.out).mono ?_
            rintro e w9 ⟨rfl, h9, k9⟩
            rw [M7.out]
            have K9 := Lib.hid k9
            clear h9 k9
            go_wp2_with fail
            go_ret
            exact ⟨rfl, B6.out.trans (below_aside HHW.out B6.out.size ((K7.out.trans K8.out).trans K9.out))⟩
        · refine (rbool_any h 0 rest (by have := LR.out; unfold maxLen; omega) wr HA.out.rd).mono ?_
          rintro e w5 ⟨rfl, h5, k5⟩
          have hcan := bool_canonB (l := rest)
          have L1 := Lib.hid (Nat.le_trans (boolL_len 0 rest) LR.out)
          generalize boolV 0 rest = t at *
          generalize boolE 0 rest = c1 at *
          generalize boolL 0 rest = l1 at *
          have R5 := Lib.hid h5
          have K5 := Lib.hid k5
          have HCAN := Lib.hid hcan
          have W5 := Lib.hid (wr_aside HGH.out HA.out.wri k5)
          have B5 := Lib.hid (HA.out.below.trans (below_aside HHW.out HA.out.below.size k5))
          clear h5 k5 hcan
          go_wp2_with fail
          refine (bool_any g (· < g) 0 xs t (fun _ => by have := LX.out; omega) w5 W5.out).mono ?_
          rintro e w6 ⟨rfl, h6, k6⟩
          have W6 := Lib.hid h6
          have R6 := Lib.hid (rd_kept HGH.out R5.out k6)
          have B6 := Lib.hid (B5.out.trans (Kept.below k6 (fun i hi => by have := HHW.out; have := HGH.out; omega)))
          clear h6 k6
          go_wp2_with fail
          refine (code_any h c1 l1 w6 R6.out).mono ?_
          rintro e w7 ⟨rfl, rfl⟩
          by_cases hc1 : c1 = 0
          · subst hc1
            have HN := Lib.hid (HA.out.next (HCAN.out rfl) W6.out R6.out B6.out)
            go_wp2_with fail
            go_roundw
            case rel => exact ⟨k + 1, _, l1, by omega, by go_num, HN.out⟩
            case measure => simp [RowKit.intOf]; omega
          · have c9 : (c1 == 0) = false := beq_eq_false_iff_ne.2 hc1
            have HC1 := Lib.hid hc1
            have m5 : numV (mostN 5) c1 l1 = 0 := numV_err hc1 _ _
            have m6 : textS (mostN 5) c1 l1 = [] := textS_err hc1 _ _
            have m7 : boolV c1 l1 = false := boolV_err hc1 _
            have M5 := Lib.hid m5
            have M6 := Lib.hid m6
            have M7 := Lib.hid m7
            clear hc1 m5 m6 m7
            go_wp2_with fail
            refine (rnum_any h 5 (by decide) c1 l1 (by have := L1.out; unfold maxLen; omega) w6 R6.out).mono ?_
            rintro e w7 ⟨rfl, h7, k7⟩
            rw [M5.out]
            rw [numE_err HC1.out, numL_err HC1.out] at h7
            have H7 := Lib.hid h7
            have K7 := Lib.hid k7
            clear h7 k7
            go_wp2_with fail
            refine (rtext_any h 5 (by decide) c1 l1 (by have := L1.out; omega) w7 H7.out).mono ?_
            rintro e w8 ⟨rfl, h8, k8⟩
            rw [M6.out]
            rw [textE_err HC1.out, textL_err HC1.out] at h8
            have H8 := Lib.hid h8
            have K8 := Lib.hid k8
            clear h8 k8
            go_wp2_with fail
            refine (rbool_any h c1 l1 (by have := L1.out; unfold maxLen; omega) w8 H8.out).mono ?_
            rintro e w9 ⟨rfl, h9, k9⟩
            rw [M7.out]
            have K9 := Lib.hid k9
            clear h9 k9
            go_wp2_with fail
            go_ret
            exact ⟨rfl, B6.out.trans (below_aside HHW.out B6.out.size ((K7.out.trans K8.out).trans K9.out))⟩
      · obtain rfl : k = K := by omega
        have hall := HA.out.all
        have hlen2 : s.size = xs.length + rest.length := by
          have e : s.data.toList.length = s.size := Array.length_toList
          rw [← e, hall, List.length_append]
        have hsub : (s.size : Int) - (rest.length : Int) = (xs.length : Int) := by omega
        have heq : (xs == (s.extract 0 xs.length).toList) = true := by
          rw [beq_iff_eq, ByteArray.toList_eq, first_eq, hall]
          simp
        have hx1 : (xs.length : Int) ≤ (s.size : Int) := by omega
        have hend : ¬ (k : Int) < (l.length : Int) ∨ ((k : Int) < (l.length : Int) ∧ ¬ (k : Int) < 60) := by have := HK.out; omega
        clear hall hlen2
        rcases hend with hend | ⟨hend, hend2⟩
        all_goals
          go_wp2_with fail
          refine (end_ok g (· < g) xs wr HA.out.wri).mono ?_
          rintro e w5 ⟨rfl, rfl⟩
          go_wp2_with fail
          refine (left_any h 0 rest wr HA.out.rd).mono ?_
          rintro e w6 ⟨rfl, rfl⟩
          go_wp2_with fail
          go_ret
          exact ⟨rfl, HA.out.below⟩
end WireCanonWalk
end Go.Proofs.Ythffbhpoccdjcaa
