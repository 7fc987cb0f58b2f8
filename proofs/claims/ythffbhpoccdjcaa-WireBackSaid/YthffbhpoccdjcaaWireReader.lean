/-
  The contracts of package wire's readers: each call reads what the chapter says, up to a first error, changes its reader alone, and leaves all else as it was. Condition: the bytes that are left are no more than a Go string may have.
-/
import Derived.Test.YthffbhpoccdjcaaWireState
import Derived.Test.YthffbhpoccdjcaaWireWriter
import Derived.Test.YthffbhpoccdjcaaNumTake
import Derived.Test.YthffbhpoccdjcaaShelf
import Derived.Deep.QuietTactic
import Derived.BigQuiet
import Derived.StillTailTactics
namespace Go.Proofs.Ythffbhpoccdjcaa
open Go.ChangeShapes Go.WideShapes Go.ChangeAt Go.RowKit Go.Lib
open LebMath WirePure
namespace Wire

/-- all that was there is as it was, but for the reader at g -/
def Aside (g : Nat) (w w' : World) : Prop := Kept (fun k => k < w.heap.size ∧ k ≠ g) w w'
theorem Aside.refl (g : Nat) (w : World) : Aside g w w := Kept.refl _ _
theorem Aside.trans {g : Nat} {a b c : World} (h : Aside g a b) (k : Aside g b c) : Aside g a c :=
  Kept.trans h (Kept.mono k (fun _ hi => ⟨Nat.lt_of_lt_of_le hi.1 h.size, hi.2⟩))
theorem Aside.of_below {g : Nat} {w w' : World} (h : Below w.heap.size w w') : Aside g w w' := Kept.of_below h (fun _ h => h.1)
theorem Aside.setCell {g : Nat} {a w : World} (h : Aside g a w) (o : Nat) (u : Value) : Aside g a (w.setCell ⟨g, o, none⟩ u) := Kept.setCell h (fun hd => hd.2 rfl) u
theorem Aside.drew {g : Nat} {a w : World} (h : Aside g a w) (n : Nat) : Aside g a (w.drewN n) := ⟨h.os, h.tape, h.output, h.size, h.block⟩

/-- a text's bytes behind the first k -/
theorem rest_eq (s : ByteArray) (k : Nat) : s.extract k s.size = ⟨(s.data.toList.drop k).toArray⟩ := by
  apply ByteArray.ext
  apply Array.ext'
  simp [List.extract_eq_take_drop]
  exact List.take_of_length_le (by rw [List.length_drop, Array.length_toList]; exact Nat.le_refl _)
theorem first_eq (s : ByteArray) (k : Nat) : s.extract 0 k = ⟨(s.data.toList.take k).toArray⟩ := by
  apply ByteArray.ext
  apply Array.ext'
  simp [List.extract_eq_take_drop]

theorem ret_why {l : List UInt8} {d : Int} (h : why l = d) : Ending.returned (.int .i64 d) = .returned (.int .i64 (why l)) := by rw [h]

theorem why_any (s : ByteArray) (hs : s.size ≤ maxLen) (w : World) :
    Calls Try.prog 31 #[.string s] w fun e w' => e = .returned (.int .i64 (why s.data.toList)) ∧ w = w' := by
  unfold maxLen at hs
  have hlen : s.data.toList.length = s.size := by rw [Array.length_toList]; rfl
  by_cases h10 : 10 ≤ s.size
  · have hw : why s.data.toList = 3 := by unfold why; rw [if_pos (by omega)]
    rw [hw]
    have hd : (10 : Int) ≤ s.size := by omega
    clear hw hlen
    go_enter Try.func31, Try.ntmps31
    go_wp2
    go_ret
    exact ⟨rfl, rfl⟩
  · have HL := Lib.hid hlen
    have H10 := Lib.hid h10
    have hd : ¬ (10 : Int) ≤ s.size := by omega
    clear hlen h10
    go_enter Try.func31, Try.ntmps31
    go_wp2
    go_loop [9] (fun i => ∃ k : Nat, k ≤ s.size ∧ i = .int .i64 k ∧ Hid (∀ j, j < k → ¬ (s.data.toList.getD j 0).toNat < 128)) (fun i => s.size - (RowKit.intOf i).toNat)
    case atStart => exact ⟨0, Nat.zero_le _, rfl, (fun j h => by omega)⟩
    case round =>
      obtain ⟨k, hk, rfl, HA⟩ := hrel
      by_cases hlt : k < s.size
      · have HD := Lib.hid (NumTake.getD_byte s k hlt)
        by_cases hb : (s[k].toNat : Int) < 128
        · have HW : Hid (why s.data.toList = 3) := by
            show _ = _
            unfold why
            rw [if_neg (by rw [HL.out]; exact H10.out), if_pos]
            rw [List.any_eq_true]
            refine ⟨s[k], ?_, by simpa using (show s[k].toNat < 128 by omega)⟩
            have h1 : k < s.data.toList.length := by rw [HL.out]; exact hlt
            have h2 : s.data.toList[k] = s[k] := rfl
            rw [← h2]
            exact List.getElem_mem h1
          go_wp2
          go_ret
          exact ⟨ret_why HW.out, rfl⟩
        · go_wp2
          go_round
          case rel =>
            refine ⟨k + 1, by omega, by go_num, ?_⟩
            intro j hj
            by_cases hjk : j = k
            · subst hjk; rw [HD.out]; omega
            · exact HA.out j (by omega)
          case measure => simp [RowKit.intOf]; omega
      · have HW : Hid (why s.data.toList = 40) := by
          show _ = _
          unfold why
          rw [if_neg (by rw [HL.out]; exact H10.out), if_neg]
          rw [List.any_eq_true]
          rintro ⟨x, hx, hx2⟩
          obtain ⟨j, hj, rfl⟩ := List.mem_iff_getElem.1 hx
          have h1 := HA.out j (by rw [HL.out] at hj; omega)
          rw [List.getD_eq_getElem?_getD, List.getElem?_eq_getElem hj] at h1
          exact h1 (by simpa using hx2)
        have hn : s.size ≤ k := by omega
        go_wp2
        go_ret
        exact ⟨ret_why HW.out, rfl⟩

/-- a reader's Fail -/
theorem rfail_any (g : Nat) (c d : Int) (l : List UInt8) (w : World) (h : Rd w g c l) :
    Calls Try.prog 14 #[.pointer (some ⟨g, 0, none⟩), .int .i64 d] w fun e w' => e = .returned (.tuple #[]) ∧ Rd w' g (fst c d) l ∧ Aside g w w' := by
  obtain ⟨c0, c1, f0, f1⟩ := two_cells h
  by_cases hc : c = 0
  · subst hc
    refine (fail_no g d w c0 f0).mono ?_
    rintro e w' ⟨rfl, rfl⟩
    exact ⟨rfl, by rw [fst_no]; exact two_set0 h _, (Aside.refl g w).setCell _ _⟩
  · refine (fail_yes g c d hc w c0).mono ?_
    rintro e w' ⟨rfl, rfl⟩
    exact ⟨rfl, by rw [fst_yes hc]; exact h, Aside.refl _ _⟩

theorem failed_rd (g : Nat) (c : Int) (l : List UInt8) (w : World) (h : Rd w g c l) :
    Calls Try.prog 26 #[.pointer (some ⟨g, 0, none⟩)] w fun e w' => e = .returned (.bool (!decide (c = 0))) ∧ w = w' := by
  obtain ⟨c0, c1, f0, f1⟩ := two_cells h
  by_cases hc : c = 0
  · subst hc
    exact failed_no g w c0
  · rw [decide_eq_false hc]
    exact failed_yes g c hc w c0

theorem read_any (s : ByteArray) (w : World) : Calls Try.prog 16 #[.string s] w fun e w' => e = .returned (.pointer (some ⟨w.heap.size, 0, none⟩)) ∧ Rd w' w.heap.size 0 s.data.toList ∧ Below w.heap.size w w' ∧ w'.heap.size = w.heap.size + 1 := by
  go_enter Try.func16, Try.ntmps16
  go_wp2
  go_ret
  exact ⟨rfl, heap_alloc_new w _, (Below.refl _ _).alloc (Nat.le_refl _) _, by simp⟩

set_option maxRecDepth 20000 in
theorem number_any (g : Nat) (m : Nat) (hm : m < 18446744073709551616) (c : Int) (l : List UInt8) (hl : l.length ≤ maxLen) (w : World) (h : Rd w g c l) :
    Calls Try.prog 27 #[.pointer (some ⟨g, 0, none⟩), .int .u64 m] w fun e w' => e = .returned (.int .u64 (numV m c l)) ∧ Rd w' g (numE m c l) (numL m c l) ∧ Aside g w w' := by
  obtain ⟨s, rfl⟩ : ∃ s : ByteArray, l = s.data.toList := ⟨⟨l.toArray⟩, rfl⟩
  have hs : s.size ≤ maxLen := by rw [Array.length_toList] at hl; exact hl
  have H := Lib.hid h
  have h' := h
  obtain ⟨c0, c1, f0, f1⟩ := two_cells h'
  have HM := Lib.hid hm
  clear h h' hl c0 f0 hm
  have HS := Lib.hid hs
  by_cases hz : (takeV s.data.toList).2 = 0
  · have HZ := Lib.hid hz
    have hb : (((takeV s.data.toList).2 : Int) == 0) = true := beq_iff_eq.2 (by omega)
    clear hz hs
    go_enter Try.func27, Try.ntmps27
    go_wp2_with fail
    refine (NumTake.take_lim s w HS.out).mono ?_
    rintro e w1 ⟨rfl, rfl⟩
    go_wp2_with fail
    go_still_tail 8, (by kernel_rfl)
    still_call ((why_any s HS.out w.drew).mono (fun _ _ h => And.intro h.1 h.2.symm))
    repeat still_step
    refine wpStill_nil ?_
    change wpList _ _ _ _ _ w.drew
    have H2 := Lib.hid (show Rd w.drew g c s.data.toList from H.out)
    have HA := Lib.hid (show Aside g w w.drew from (Aside.refl g w).drew 1)
    clear c1 f1
    generalize w.drew = w2 at *
    go_wp2_with fail
    refine (rfail_any g c (why s.data.toList) s.data.toList w2 H2.out).mono ?_
    rintro e w3 ⟨rfl, h3, k3⟩
    have H3 := Lib.hid h3
    have K3 := Lib.hid k3
    clear h3 k3
    go_wp2_with fail
    refine (failed_rd g _ _ w3 H3.out).mono ?_
    rintro e w4 ⟨rfl, rfl⟩
    rw [decide_eq_false (fst_ne (why_ne _))]
    go_wp2
    go_ret
    have e1 : numE m c s.data.toList = fst c (why s.data.toList) := by unfold numE; rw [if_pos HZ.out]
    have e0 : numE m c s.data.toList ≠ 0 := by rw [e1]; exact fst_ne (why_ne _)
    have e2 : numV m c s.data.toList = 0 := by unfold numV; rw [if_neg e0]
    have e3 : numL m c s.data.toList = s.data.toList := by unfold numL; rw [if_neg e0]
    rw [e1, e2, e3]
    exact ⟨rfl, H3.out, HA.out.trans K3.out⟩
  · have HZ := Lib.hid hz
    have hb : (((takeV s.data.toList).2 : Int) == 0) = false := beq_eq_false_iff_ne.2 (by omega)
    by_cases hgt : m < (takeV s.data.toList).1
    · have HG := Lib.hid hgt
      clear hz hs
      go_enter Try.func27, Try.ntmps27
      go_wp2_with fail
      refine (NumTake.take_lim s w HS.out).mono ?_
      rintro e w1 ⟨rfl, rfl⟩
      go_wp2_with fail
      refine (rfail_any g c 2 s.data.toList w H.out).mono ?_
      rintro e w3 ⟨rfl, h3, k3⟩
      have H3 := Lib.hid h3
      have K3 := Lib.hid k3
      clear h3 k3 c1 f1
      go_wp2_with fail
      refine (failed_rd g _ _ w3 H3.out).mono ?_
      rintro e w4 ⟨rfl, rfl⟩
      rw [decide_eq_false (fst_ne (by decide))]
      go_wp2
      go_ret
      have e1 : numE m c s.data.toList = fst c 2 := by unfold numE; rw [if_neg HZ.out, if_pos HG.out]
      have e0 : numE m c s.data.toList ≠ 0 := by rw [e1]; exact fst_ne (by decide)
      have e2 : numV m c s.data.toList = 0 := by unfold numV; rw [if_neg e0]
      have e3 : numL m c s.data.toList = s.data.toList := by unfold numL; rw [if_neg e0]
      rw [e1, e2, e3]
      exact ⟨rfl, H3.out, K3.out⟩
    · have HG := Lib.hid hgt
      have e1 : numE m c s.data.toList = c := by unfold numE; rw [if_neg HZ.out, if_neg HG.out]
      by_cases hc : c = 0
      · subst hc
        have e2 : numV m 0 s.data.toList = (takeV s.data.toList).1 := by unfold numV; rw [if_pos e1]
        have e3 : numL m 0 s.data.toList = s.data.toList.drop (takeV s.data.toList).2 := by unfold numL; rw [if_pos e1]
        rw [e1, e2, e3]
        have hn1 : (takeV s.data.toList).2 ≤ s.size := by have := (takeV_some hz).1; rw [Array.length_toList] at this; exact this
        clear hz hs e1 e2 e3
        go_enter Try.func27, Try.ntmps27
        go_wp2_with fail
        refine (NumTake.take_lim s w HS.out).mono ?_
        rintro e w1 ⟨rfl, rfl⟩
        go_wp2_with fail
        refine (failed_rd g _ _ w H.out).mono ?_
        rintro e w4 ⟨rfl, rfl⟩
        rw [decide_eq_true rfl]
        go_wp2
        go_ret
        rw [rest_eq]
        exact ⟨rfl, two_set1 H.out _, (Aside.refl g w).setCell _ _⟩
      · have HC := Lib.hid hc
        have e2 : numV m c s.data.toList = 0 := by unfold numV; rw [if_neg (by rw [e1]; exact hc)]
        have e3 : numL m c s.data.toList = s.data.toList := by unfold numL; rw [if_neg (by rw [e1]; exact hc)]
        rw [e1, e2, e3]
        clear hz hs e1 e2 e3 hc
        go_enter Try.func27, Try.ntmps27
        go_wp2_with fail
        refine (NumTake.take_lim s w HS.out).mono ?_
        rintro e w1 ⟨rfl, rfl⟩
        go_wp2_with fail
        refine (failed_rd g _ _ w H.out).mono ?_
        rintro e w4 ⟨rfl, rfl⟩
        rw [decide_eq_false HC.out]
        go_wp2
        go_ret
        exact ⟨rfl, H.out, Aside.refl _ _⟩
end Wire
end Go.Proofs.Ythffbhpoccdjcaa
