/-
  The walk of the law FramePuts: it returns true, and leaves all that was there as it was. Condition: none but that the text is no longer than a Go string may be.
-/
import Derived.Test.YtnbmfoidnnfpeaaFrameWorks
import Derived.OwnWalk
namespace Go.Proofs.Ytnbmfoidnnfpeaa.FramePutsWalk
open Go.ChangeShapes Go.WideShapes Go.ChangeAt Go.RowKit Go.Lib
open Spl FramePure

def zeros (m : Nat) : ByteArray := ⟨(List.replicate m (0 : UInt8)).toArray⟩
theorem zeros_size (m : Nat) : (zeros m).size = m := by
  show (List.replicate m (0 : UInt8)).toArray.size = m
  simp

theorem made_zero (m : Nat) : (madeCells #[Value.int .u8 0] m).toList = (List.replicate m (0 : UInt8)).map cell8 := by
  apply List.ext_getElem
  · simp [madeCells]
  · intro i h1 h2
    simp [madeCells, cell8, Nat.mod_one]

theorem run_zero {w : World} {base q m : Nat} (h : w.ownsRow base 5 1 (.slice (some ⟨q, 0, none⟩) m m) m (madeCells #[Value.int .u8 0] m).toList) :
    (convert 23 9 (.slice (some ⟨q, 0, none⟩) m m)).run Try.prog w = .ok (.string (zeros m)) w := by
  rw [made_zero] at h
  obtain ⟨_, _, _, _, cur, hcur, hcs, hget⟩ := row_cell h
  have := run_convert_bytes_arg (P := Try.prog) w 23 5 Try.underlying23 Try.underlying5 q 0 m m (List.replicate m (0 : Int)) (by simp)
    (fun i hi => by
      have h1 := hget i (by simpa using hi)
      rw [Array.getElem?_eq_getElem (by omega)] at h1
      rw [Nat.zero_add, (cur_cell hcur i (by omega)).1, h1]
      simp [cell8, List.getD_eq_getElem?_getD, hi]) 9 Try.underlying9
  rw [this]
  congr 2
  simp [strOfNums, zeros]

theorem law (s : ByteArray) (m0 : Int) (_hs : s.size ≤ 140737488351232) (_w0 : (Lit.int .i64 m0).wf = true) (w : World) :
    Calls Try.prog 3 #[.string s, .int .i64 m0] w fun e w' => e = .returned (.bool true) ∧ Below w.heap.size w w' := by
  by_cases hin : s.size ≤ 3000 ∧ 0 ≤ m0 ∧ m0 ≤ 3000
  · obtain ⟨h1, h2, h3⟩ := hin
    obtain ⟨m, rfl⟩ := Int.eq_ofNat_of_zero_le h2
    obtain ⟨i0, hi0, hz0, hz1, hz2⟩ := info_parts info_byte
    have HZ := Lib.hid hz2
    clear hz2
    obtain ⟨u, hu⟩ : ∃ u, s ++ zeros m = u := ⟨_, rfl⟩
    have hadd : ∀ v, (Op.stringOp .add s (zeros m)).run Try.prog v = .ok (.string u) v := fun v => by
      rw [← hu]; exact run_string_add_sum v _ _ (by rw [zeros_size]; omega)
    clear hu
    by_cases hl : 2048 < u.size
    all_goals
      go_enter Try.func3, Try.ntmps3
      go_wp2_with (at_make; refine wpList_make_full _ rfl _ _ 23 rfl w.heap.size 5 i0 (.int .u8 0) 1 Try.underlying23 hi0 hz0 hz1 .i64 .i64 _ _ m rfl rfl rfl rfl (by rw [HZ.out]; omega) (by unfold maxLen; omega) (Nat.le_refl _) ?_)
      intro w1 hown hgrow
      have hrun := run_zero hown
      have HB := Lib.hid (show Below w.heap.size w w1 from (Below.refl _ _).grown hgrow (Nat.le_refl _) (fun k e => by cases e))
      clear hown hgrow
      go_wp2_with fail
    · refine (put_long u hl w1).mono ?_
      rintro e w2 ⟨rfl, rfl⟩
      go_wp2_with fail
      refine (works_any w1).mono ?_
      rintro e w3 ⟨rfl, h3⟩
      have H3 := Lib.hid h3
      clear h3
      go_wp2
      go_ret
      exact ⟨rfl, HB.out.trans (H3.out.mono HB.out.size)⟩
    · refine (put_any u (by omega) w1).mono ?_
      rintro e w2 ⟨rfl, h4⟩
      have H4 := Lib.hid h4
      clear h4
      go_wp2_with fail
      refine (refput_any u (by omega) w2).mono ?_
      rintro e w3 ⟨rfl, h5⟩
      have H5 := Lib.hid h5
      clear h5
      go_wp2_with fail
      refine (works_any w3).mono ?_
      rintro e w4 ⟨rfl, h6⟩
      have H6 := Lib.hid h6
      clear h6
      go_wp2
      go_ret
      have z1 := HB.out.size
      have z2 := H4.out.size
      have z3 := H5.out.size
      exact ⟨rfl, ((HB.out.trans (H4.out.mono z1)).trans (H5.out.mono (by omega))).trans (H6.out.mono (by omega))⟩
  · go_enter Try.func3, Try.ntmps3
    go_wp2_with (go_at_call 6; refine (works_any _).mono ?_; rintro e w3 ⟨rfl, h3⟩)
    all_goals
      go_ret
      exact ⟨rfl, h3⟩
end Go.Proofs.Ytnbmfoidnnfpeaa.FramePutsWalk
