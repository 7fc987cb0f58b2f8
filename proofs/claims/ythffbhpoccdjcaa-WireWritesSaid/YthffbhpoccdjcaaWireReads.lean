/-
  The contracts of a reader's Num, Big, Text, Bool, Code, Left, End: each reads what the chapter says, up to a first error, and leaves all but its reader as it was. Condition: the bytes that are left are no more than a Go string in memory may have.
-/
import Derived.Test.YthffbhpoccdjcaaWireReader
namespace Go.Proofs.Ythffbhpoccdjcaa
open Go.ChangeShapes Go.WideShapes Go.ChangeAt Go.RowKit Go.Lib
open LebMath WirePure
namespace Wire

set_option maxRecDepth 20000 in
theorem take_any (g : Nat) (n : Nat) (c : Int) (l : List UInt8) (hl : l.length ≤ maxLen) (w : World) (h : Rd w g c l) :
    Calls Try.prog 28 #[.pointer (some ⟨g, 0, none⟩), .int .i64 n] w fun e w' => e = .returned (.string ⟨(takeS n c l).toArray⟩) ∧ Rd w' g (takeE n c l) (takeL n c l) ∧ Aside g w w' := by
  obtain ⟨s, rfl⟩ : ∃ s : ByteArray, l = s.data.toList := ⟨⟨l.toArray⟩, rfl⟩
  have hlen : s.data.toList.length = s.size := by rw [Array.length_toList]; rfl
  have hs : s.size ≤ maxLen := by rw [hlen] at hl; exact hl
  unfold maxLen at hs
  have H := Lib.hid h
  have h' := h
  obtain ⟨c0, c1, f0, f1⟩ := two_cells h'
  have HL := Lib.hid hlen
  clear h h' hl c0 f0 hlen
  by_cases hgt : s.size < n
  · have e1 : takeE n c s.data.toList = fst c 40 := by unfold takeE; rw [if_pos (by rw [HL.out]; exact hgt)]
    have e0 : takeE n c s.data.toList ≠ 0 := by rw [e1]; exact fst_ne (by decide)
    have e2 : takeS n c s.data.toList = [] := by unfold takeS; rw [if_neg e0]
    have e3 : takeL n c s.data.toList = s.data.toList := by unfold takeL; rw [if_neg e0]
    rw [e1, e2, e3]
    clear e0 e1 e2 e3 f1
    go_enter Try.func28, Try.ntmps28
    go_wp2_with fail
    refine (rfail_any g c 40 s.data.toList w H.out).mono ?_
    rintro e w3 ⟨rfl, h3, k3⟩
    have H3 := Lib.hid h3
    have K3 := Lib.hid k3
    clear h3 k3 c1
    go_wp2_with fail
    refine (failed_rd g _ _ w3 H3.out).mono ?_
    rintro e w4 ⟨rfl, rfl⟩
    rw [decide_eq_false (fst_ne (by decide))]
    go_wp2
    go_ret
    exact ⟨rfl, H3.out, K3.out⟩
  · have e1 : takeE n c s.data.toList = c := by unfold takeE; rw [if_neg (by rw [HL.out]; exact hgt)]
    by_cases hc : c = 0
    · subst hc
      have e2 : takeS n 0 s.data.toList = s.data.toList.take n := by unfold takeS; rw [if_pos e1]
      have e3 : takeL n 0 s.data.toList = s.data.toList.drop n := by unfold takeL; rw [if_pos e1]
      rw [e1, e2, e3]
      have hn1 : n ≤ s.size := by omega
      clear e1 e2 e3 hgt
      go_enter Try.func28, Try.ntmps28
      go_wp2_with fail
      refine (failed_rd g _ _ w H.out).mono ?_
      rintro e w4 ⟨rfl, rfl⟩
      rw [decide_eq_true rfl]
      go_wp2
      go_ret
      rw [rest_eq, first_eq]
      exact ⟨rfl, two_set1 H.out _, (Aside.refl g w).setCell _ _⟩
    · have HC := Lib.hid hc
      have e2 : takeS n c s.data.toList = [] := by unfold takeS; rw [if_neg (by rw [e1]; exact hc)]
      have e3 : takeL n c s.data.toList = s.data.toList := by unfold takeL; rw [if_neg (by rw [e1]; exact hc)]
      rw [e1, e2, e3]
      clear e1 e2 e3 hc
      go_enter Try.func28, Try.ntmps28
      go_wp2_with fail
      refine (failed_rd g _ _ w H.out).mono ?_
      rintro e w4 ⟨rfl, rfl⟩
      rw [decide_eq_false HC.out]
      go_wp2
      go_ret
      exact ⟨rfl, H.out, Aside.refl _ _⟩

/-- the greatest number that is read: a most below 0 counts as 0 -/
def mostN (m : Int) : Nat := (max m 0).toNat
theorem mostN_le {m : Int} (h : m ≤ 9223372036854775807) : mostN m ≤ maxLen := by unfold mostN maxLen; omega
theorem mostN_cast (m : Int) : ((mostN m : Nat) : Int) = max m 0 := by unfold mostN; omega
theorem mostN_wrap {m : Int} (h : m ≤ 9223372036854775807) : IntKind.u64.wrap (max m 0) = ((mostN m : Nat) : Int) := by
  rw [mostN_cast]; exact IntWalk.u64_in _ (by omega)
theorem mostN_nat (n : Nat) : mostN (n : Int) = n := by unfold mostN; omega

theorem rnum_any (g : Nat) (m : Int) (hm : m ≤ 9223372036854775807) (c : Int) (l : List UInt8) (hl : l.length ≤ maxLen) (w : World) (h : Rd w g c l) :
    Calls Try.prog 17 #[.pointer (some ⟨g, 0, none⟩), .int .i64 m] w fun e w' => e = .returned (.int .i64 (numV (mostN m) c l)) ∧ Rd w' g (numE (mostN m) c l) (numL (mostN m) c l) ∧ Aside g w w' := by
  have H := Lib.hid h
  have HL := Lib.hid hl
  have hw := mostN_wrap hm
  have hM := mostN_le hm
  have hV : IntKind.i64.wrap ((numV (mostN m) c l : Nat) : Int) = numV (mostN m) c l := by
    have := numV_le (mostN m) c l
    unfold maxLen at hM
    exact IntWalk.i64_in _ (by omega)
  have HM := Lib.hid hM
  clear h hl hm hM
  go_enter Try.func17, Try.ntmps17
  go_wp2_with fail
  refine (number_any g (mostN m) (by have := HM.out; unfold maxLen at this; omega) c l HL.out w H.out).mono ?_
  rintro e w3 ⟨rfl, h3, k3⟩
  have H3 := Lib.hid h3
  have K3 := Lib.hid k3
  clear h3 k3
  go_wp2
  go_ret
  exact ⟨rfl, H3.out, K3.out⟩

theorem rbig_any (g : Nat) (c : Int) (l : List UInt8) (hl : l.length ≤ maxLen) (w : World) (h : Rd w g c l) :
    Calls Try.prog 18 #[.pointer (some ⟨g, 0, none⟩)] w fun e w' => e = .returned (.int .u64 (numV 18446744073709551615 c l)) ∧ Rd w' g (numE 18446744073709551615 c l) (numL 18446744073709551615 c l) ∧ Aside g w w' := by
  have H := Lib.hid h
  have HL := Lib.hid hl
  clear h hl
  go_enter Try.func18, Try.ntmps18
  go_wp2_with fail
  refine (number_any g 18446744073709551615 (by decide) c l HL.out w H.out).mono ?_
  rintro e w3 ⟨rfl, h3, k3⟩
  have H3 := Lib.hid h3
  have K3 := Lib.hid k3
  clear h3 k3
  go_wp2
  go_ret
  exact ⟨rfl, H3.out, K3.out⟩

theorem clone_any (s : ByteArray) (hs : s.size ≤ 281474976710656) (w : World) :
    Calls Try.prog 29 #[.string s] w fun e w' => e = .returned (.string s) ∧ Below w.heap.size w w' := by
  go_enter Try.func29, Try.ntmps29
  go_wp2_with fail
  refine (Any.stringslite_Clone Try.laysM316 s _ hs).mono ?_
  rintro e w' ⟨rfl, hb⟩
  go_wp2_with fail
  go_ret
  exact ⟨rfl, hb⟩

theorem rtext_any (g : Nat) (m : Int) (hm : m ≤ 9223372036854775807) (c : Int) (l : List UInt8) (hl : l.length ≤ 281474976710656) (w : World) (h : Rd w g c l) :
    Calls Try.prog 19 #[.pointer (some ⟨g, 0, none⟩), .int .i64 m] w fun e w' => e = .returned (.string ⟨(textS (mostN m) c l).toArray⟩) ∧ Rd w' g (textE (mostN m) c l) (textL (mostN m) c l) ∧ Aside g w w' := by
  have hl1 : l.length ≤ maxLen := by unfold maxLen; omega
  have h2 : (numL (mostN m) c l).length ≤ 281474976710656 := Nat.le_trans (numL_len _ _ _) hl
  have hl2 : (numL (mostN m) c l).length ≤ maxLen := by unfold maxLen; omega
  have H := Lib.hid h
  have HL := Lib.hid hl1
  have HL2 := Lib.hid hl2
  have HH2 := Lib.hid h2
  have HM := Lib.hid hm
  clear h hl hl1 h2 hl2 hm
  go_enter Try.func19, Try.ntmps19
  go_wp2_with fail
  refine (rnum_any g m HM.out c l HL.out w H.out).mono ?_
  rintro e w1 ⟨rfl, h1, k1⟩
  have H1 := Lib.hid h1
  have K1 := Lib.hid k1
  clear h1 k1
  go_wp2_with fail
  refine (take_any g (numV (mostN m) c l) (numE (mostN m) c l) (numL (mostN m) c l) HL2.out w1 H1.out).mono ?_
  rintro e w2 ⟨rfl, h2, k2⟩
  have H2 := Lib.hid h2
  have K2 := Lib.hid k2
  clear h2 k2
  go_wp2_with fail
  refine (clone_any _ ?_ w2).mono ?_
  · show (List.toArray _).size ≤ _
    rw [List.size_toArray]
    exact Nat.le_trans (takeS_len _ _ _) HH2.out
  rintro e w3 ⟨rfl, hb⟩
  have HB := Lib.hid hb
  clear hb
  go_wp2
  go_ret
  exact ⟨rfl, H2.out.below HB.out, (K1.out.trans K2.out).trans (Aside.of_below HB.out)⟩

theorem neq_of {t u : List UInt8} (h : t ≠ u) : (t == u) = false := by simpa using h
theorem eq_of {t u : List UInt8} (h : t = u) : (t == u) = true := by simpa using h
theorem ret_bool {b d : Bool} (h : b = d) : Ending.returned (.bool b) = .returned (.bool d) := by rw [h]

theorem rbool_any (g : Nat) (c : Int) (l : List UInt8) (hl : l.length ≤ maxLen) (w : World) (h : Rd w g c l) :
    Calls Try.prog 20 #[.pointer (some ⟨g, 0, none⟩)] w fun e w' => e = .returned (.bool (boolV c l)) ∧ Rd w' g (boolE c l) (boolL c l) ∧ Aside g w w' := by
  have H := Lib.hid h
  have HL := Lib.hid hl
  clear h hl
  by_cases h1 : takeS 1 c l = [1]
  · have e1 := eq_of h1
    have F1 := Lib.hid (show boolV c l = true by unfold boolV; exact decide_eq_true h1)
    have F2 := Lib.hid (show boolE c l = takeE 1 c l by unfold boolE; rw [if_pos (.inl h1)])
    clear h1
    go_enter Try.func20, Try.ntmps20
    go_wp2_with fail
    refine (take_any g 1 c l HL.out w H.out).mono ?_
    rintro e w1 ⟨rfl, h1, k1⟩
    have H1 := Lib.hid h1
    have K1 := Lib.hid k1
    clear h1 k1
    go_wp2
    go_ret
    rw [F2.out]
    exact ⟨ret_bool F1.out.symm, H1.out, K1.out⟩
  · have e1 := neq_of h1
    have F1 := Lib.hid (show boolV c l = false by unfold boolV; exact decide_eq_false h1)
    by_cases h0 : takeS 1 c l = [0]
    · have e0 := eq_of h0
      have F2 := Lib.hid (show boolE c l = takeE 1 c l by unfold boolE; rw [if_pos (.inr h0)])
      clear h1 h0
      go_enter Try.func20, Try.ntmps20
      go_wp2_with fail
      refine (take_any g 1 c l HL.out w H.out).mono ?_
      rintro e w1 ⟨rfl, h1, k1⟩
      have H1 := Lib.hid h1
      have K1 := Lib.hid k1
      clear h1 k1
      go_wp2
      go_ret
      rw [F2.out]
      exact ⟨ret_bool F1.out.symm, H1.out, K1.out⟩
    · have e0 := neq_of h0
      have F2 := Lib.hid (show boolE c l = fst (takeE 1 c l) 3 by unfold boolE; rw [if_neg (fun h => h.elim h1 h0)])
      clear h1 h0
      go_enter Try.func20, Try.ntmps20
      go_wp2_with fail
      refine (take_any g 1 c l HL.out w H.out).mono ?_
      rintro e w1 ⟨rfl, h1, k1⟩
      have H1 := Lib.hid h1
      have K1 := Lib.hid k1
      clear h1 k1
      go_wp2_with fail
      refine (rfail_any g _ 3 _ w1 H1.out).mono ?_
      rintro e w2 ⟨rfl, h2, k2⟩
      have H2 := Lib.hid h2
      have K2 := Lib.hid k2
      clear h2 k2
      go_wp2
      go_ret
      rw [F2.out]
      exact ⟨ret_bool F1.out.symm, H2.out, K1.out.trans K2.out⟩

theorem code_any (g : Nat) (c : Int) (l : List UInt8) (w : World) (h : Rd w g c l) :
    Calls Try.prog 23 #[.pointer (some ⟨g, 0, none⟩)] w fun e w' => e = .returned (.int .i64 c) ∧ w = w' := by
  obtain ⟨c0, c1, f0, f1⟩ := two_cells h
  go_enter Try.func23, Try.ntmps23
  go_wp2
  go_ret
  exact ⟨rfl, rfl⟩

theorem left_any (g : Nat) (c : Int) (l : List UInt8) (w : World) (h : Rd w g c l) :
    Calls Try.prog 22 #[.pointer (some ⟨g, 0, none⟩)] w fun e w' => e = .returned (.int .i64 (l.length : Nat)) ∧ w = w' := by
  obtain ⟨s, rfl⟩ : ∃ s : ByteArray, l = s.data.toList := ⟨⟨l.toArray⟩, rfl⟩
  obtain ⟨c0, c1, f0, f1⟩ := two_cells h
  have hlen : s.data.toList.length = s.size := by rw [Array.length_toList]; rfl
  rw [hlen]
  clear h hlen c0 f0 f1
  go_enter Try.func22, Try.ntmps22
  go_wp2
  go_ret
  exact ⟨rfl, rfl⟩

theorem rend_any (g : Nat) (c : Int) (l : List UInt8) (w : World) (h : Rd w g c l) :
    Calls Try.prog 21 #[.pointer (some ⟨g, 0, none⟩)] w fun e w' => e = .returned (.int .i64 (endE c l)) ∧ Rd w' g (endE c l) l ∧ Aside g w w' := by
  obtain ⟨c0, c1, f0, f1⟩ := two_cells h
  have H := Lib.hid h
  clear h f0 f1
  by_cases hl : l = []
  · subst hl
    go_enter Try.func21, Try.ntmps21
    go_wp2
    go_ret
    exact ⟨rfl, H.out, Aside.refl _ _⟩
  · have e1 := neq_of hl
    have e2 : endE c l = fst c 3 := by unfold endE; rw [if_neg hl]
    have E2 := Lib.hid e2
    clear hl e2 c0
    go_enter Try.func21, Try.ntmps21
    go_wp2_with fail
    refine (rfail_any g c 3 l w H.out).mono ?_
    rintro e w1 ⟨rfl, h1, k1⟩
    obtain ⟨d0, d1, _, _⟩ := two_cells h1
    have H1 := Lib.hid h1
    have K1 := Lib.hid k1
    clear h1 k1 d1 c1
    go_wp2
    go_ret
    rw [E2.out]
    exact ⟨rfl, H1.out, K1.out⟩
end Wire
end Go.Proofs.Ythffbhpoccdjcaa
