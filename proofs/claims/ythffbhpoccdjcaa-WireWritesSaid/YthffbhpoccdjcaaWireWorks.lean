/-
  The chapter's example is as the chapter says, and the document's bytes of a text are. No condition (of the text: at most 2^47 bytes).
-/
import Derived.Test.YthffbhpoccdjcaaWireReads
import Derived.Test.YthffbhpoccdjcaaNumRefPut
import Derived.Laws.Concat
namespace Go.Proofs.Ythffbhpoccdjcaa
open Go.ChangeShapes Go.WideShapes Go.ChangeAt Go.RowKit Go.Lib
open LebMath WirePure
namespace Wire

theorem leb300 : leb 300 = [172, 2] := by rw [leb_big (by omega), leb_small (by omega)]; rfl
theorem leb2 : leb 2 = [2] := by rw [leb_small (by omega)]; rfl

def hiB : ByteArray := ⟨#[104, 105]⟩
theorem hi_bytes : txB hiB = [2, 104, 105] := by
  unfold txB
  rw [show hiB.size = 2 from rfl, leb2]
  rfl

def allB : List UInt8 := [172, 2, 2, 104, 105, 1]
theorem all_written : addB 0 (addB 0 (addB 0 [] (leb 300)) (txB hiB)) [boB true] = allB := by
  rw [addB_no, addB_no, addB_no, leb300, hi_bytes]; rfl

theorem r1 : allB = leb 300 ++ [2, 104, 105, 1] := by rw [leb300]; rfl
theorem r2 : ([2, 104, 105, 1] : List UInt8) = leb [104, 105].length ++ ([104, 105] ++ [1]) := by
  show _ = leb 2 ++ _
  rw [leb2]; rfl
theorem m300 : mostN 300 = 300 := mostN_nat 300
theorem m2 : mostN 2 = 2 := mostN_nat 2

theorem n_e : numE (mostN 300) 0 allB = 0 := by rw [m300, r1]; exact numE_put (by omega) (Nat.le_refl _) _
theorem n_v : numV (mostN 300) 0 allB = 300 := by rw [m300, r1]; exact numV_put (by omega) (Nat.le_refl _) _
theorem n_l : numL (mostN 300) 0 allB = [2, 104, 105, 1] := by rw [m300, r1]; exact numL_put (by omega) (Nat.le_refl _) _
theorem t_all : textE (mostN 2) 0 [2, 104, 105, 1] = 0 ∧ textS (mostN 2) 0 [2, 104, 105, 1] = [104, 105] ∧ textL (mostN 2) 0 [2, 104, 105, 1] = [1] := by
  rw [m2, r2]; exact text_put (a := [104, 105]) (m := 2) (by decide) (by decide) _
theorem b_all : boolE 0 [1] = 0 ∧ boolV 0 [1] = true ∧ boolL 0 [1] = [] := bool_put 1 (.inr rfl) []

set_option maxRecDepth 100000 in
theorem works_any (w : World) : Calls Try.prog 7 #[] w fun e w' => e = .returned (.bool true) ∧ Below w.heap.size w w' := by
  go_enter Try.func7, Try.ntmps7
  go_wp2_with fail
  refine (write_any w).mono ?_
  rintro e w1 ⟨rfl, h1, hb1, z1⟩
  have H1 := Lib.hid h1
  have B1 := Lib.hid hb1
  have Z1 := Lib.hid z1
  clear h1 hb1 z1
  go_wp2_with fail
  refine (num_nat w.heap.size (· < w.heap.size) 0 [] 300 (by decide) (by simp) w1 H1.out).mono ?_
  rintro e w2 ⟨rfl, h2, k2⟩
  have H2 := Lib.hid h2
  have K2 := Lib.hid k2
  clear h2 k2
  go_wp2_with fail
  refine (text_any w.heap.size (· < w.heap.size) 0 _ hiB (by rw [addB_no, leb300]; decide) w2 H2.out).mono ?_
  rintro e w3 ⟨rfl, h3, k3⟩
  have H3 := Lib.hid h3
  have K3 := Lib.hid k3
  clear h3 k3
  go_wp2_with fail
  refine (bool_any w.heap.size (· < w.heap.size) 0 _ true (by rw [addB_no, addB_no, leb300, hi_bytes]; decide) w3 H3.out).mono ?_
  rintro e w4 ⟨rfl, h4, k4⟩
  rw [all_written] at h4
  have H4 := Lib.hid h4
  have K4 := Lib.hid k4
  clear h4 k4
  have HB := Lib.hid (show Below w.heap.size w w4 from B1.out.trans (((K2.out.trans K3.out).trans K4.out).below (fun k h => h)))
  clear H1 H2 H3 B1 Z1 K2 K3 K4
  go_wp2_with fail
  refine (end_ok w.heap.size (· < w.heap.size) allB w4 H4.out).mono ?_
  rintro e w5 ⟨rfl, rfl⟩
  go_wp2_with fail
  refine (read_any ⟨allB.toArray⟩ w4).mono ?_
  rintro e w6 ⟨rfl, h6, hb6, z6⟩
  have H6 := Lib.hid (show Rd w6 w4.heap.size 0 allB from h6)
  have B6 := Lib.hid hb6
  clear h6 hb6 z6
  have ea : (allB == [172, 2, 2, 104, 105, 1]) = true := by decide
  go_wp2_with fail
  refine (rnum_any w4.heap.size 300 (by decide) 0 allB (by decide) w6 H6.out).mono ?_
  rintro e w7 ⟨rfl, h7, k7⟩
  rw [n_v]
  rw [n_e, n_l] at h7
  have H7 := Lib.hid h7
  have K7 := Lib.hid k7
  clear h7 k7
  go_wp2_with fail
  refine (rtext_any w4.heap.size 2 (by decide) 0 [2, 104, 105, 1] (by decide) w7 H7.out).mono ?_
  rintro e w8 ⟨rfl, h8, k8⟩
  rw [t_all.2.1]
  rw [t_all.1, t_all.2.2] at h8
  have H8 := Lib.hid h8
  have K8 := Lib.hid k8
  clear h8 k8
  go_wp2_with fail
  refine (rbool_any w4.heap.size 0 [1] (by decide) w8 H8.out).mono ?_
  rintro e w9 ⟨rfl, h9, k9⟩
  rw [b_all.2.1]
  rw [b_all.1, b_all.2.2] at h9
  have H9 := Lib.hid h9
  have K9 := Lib.hid k9
  clear h9 k9
  go_wp2_with fail
  refine (rend_any w4.heap.size 0 [] w9 H9.out).mono ?_
  rintro e w10 ⟨rfl, h10, k10⟩
  rw [show endE 0 [] = 0 from rfl]
  have K10 := Lib.hid k10
  clear h10 k10
  go_wp2_with fail
  go_ret
  refine ⟨rfl, ?_⟩
  have ht := ((((Kept.of_below (D := fun k => k < w4.heap.size) B6.out (fun _ h => h)).trans (K7.out.mono (fun k h => ⟨Nat.lt_of_lt_of_le h B6.out.size, Nat.ne_of_lt h⟩))).trans
    (K8.out.mono (fun k h => ⟨Nat.lt_of_lt_of_le h (Nat.le_trans B6.out.size K7.out.size), Nat.ne_of_lt h⟩))).trans
    (K9.out.mono (fun k h => ⟨Nat.lt_of_lt_of_le h (Nat.le_trans B6.out.size (Nat.le_trans K7.out.size K8.out.size)), Nat.ne_of_lt h⟩))).trans
    (K10.out.mono (fun k h => ⟨Nat.lt_of_lt_of_le h (Nat.le_trans B6.out.size (Nat.le_trans K7.out.size (Nat.le_trans K8.out.size K9.out.size))), Nat.ne_of_lt h⟩))
  exact HB.out.trans (ht.below (fun k h => Nat.lt_of_lt_of_le h HB.out.size))

/-- what was written is read: a text, a truth -/
theorem text_back (s : ByteArray) (hs : s.size < 18446744073709551616) (r : List UInt8) : textE s.size 0 (txB s ++ r) = 0 ∧ (⟨(textS s.size 0 (txB s ++ r)).toArray⟩ : ByteArray) = s ∧ textL s.size 0 (txB s ++ r) = r := by
  have e : s.data.toList.length = s.size := Array.length_toList
  have h := text_put (a := s.data.toList) (m := s.size) (by rw [e]; exact hs) (by rw [e]; exact Nat.le_refl _) r
  rw [e] at h
  unfold txB
  rw [List.append_assoc, h.1, h.2.1, h.2.2]
  exact ⟨rfl, rfl, rfl⟩
theorem bool_back (b : Bool) (r : List UInt8) : boolE 0 ([boB b] ++ r) = 0 ∧ boolV 0 ([boB b] ++ r) = b ∧ boolL 0 ([boB b] ++ r) = r := by
  have h := bool_put (boB b) (by cases b <;> simp [boB]) r
  refine ⟨h.1, ?_, h.2.2⟩
  rw [show [boB b] ++ r = boB b :: r from rfl, h.2.1]
  cases b <;> simp [boB]

/-- the document's bytes of a text -/
theorem bytes_ref (s : ByteArray) (hs : s.size ≤ 140737488351232) (w : World) :
    Calls Try.prog 12 #[.string s] w fun e w' => e = .returned (.string ⟨(txB s).toArray⟩) ∧ Below w.heap.size w w' := by
  have hw : IntKind.u64.wrap (s.size : Int) = s.size := IntWalk.u64_in _ (by omega)
  have HS := Lib.hid hs
  have h10 := leb_le_ten (n := s.size) (by omega)
  have hadd : ∀ v, (Op.stringOp .add ⟨(leb s.size).toArray⟩ s).run Try.prog v = .ok (.string ((⟨(leb s.size).toArray⟩ : ByteArray) ++ s)) v := fun v => run_string_add_sum v _ _ (by
    show (leb s.size).toArray.size + s.size ≤ _
    rw [List.size_toArray]; omega)
  have E := Lib.hid (show ((⟨(leb s.size).toArray⟩ : ByteArray) ++ s) = ⟨(txB s).toArray⟩ by
    apply ByteArray.ext
    apply Array.ext'
    simp [txB])
  clear hs h10
  go_enter Try.func12, Try.ntmps12
  go_wp2_with fail
  refine (NumRefPut.refPut_any s.size w (by have := HS.out; omega)).mono ?_
  rintro e w1 ⟨rfl, hb⟩
  have HB := Lib.hid hb
  clear hb
  go_wp2_with fail
  go_ret
  exact ⟨congrArg (fun x => Ending.returned (.string x)) E.out, HB.out⟩
end Wire
end Go.Proofs.Ythffbhpoccdjcaa
