/-
  The walk of the law FailIs: it returns true, and leaves all that was there as it was. Conditions: the lists hold their texts; errors.errorType holds the type error (Laid).
-/
import Derived.Test.YtikaghinkpcknaaDoorErrOpt
import Derived.Test.YtikaghinkpcknaaDoorFailWorks
import Derived.Deep.QuietTactic
import Derived.BigQuiet
namespace Go.Proofs.YtikaghinkpcknaaDoor.FailIsWalk
open Go.RowKit Err

theorem walk (a b : Int) (A B : Option Addr) (c d : Nat) (xs ys : List ByteArray) (w : World) (hA : Texts w A xs) (hB : Texts w B ys) (hx : xs.length ≤ 9223372036854775807) (hy : ys.length ≤ 9223372036854775807) (hL : Laid w) :
    Calls Tryd.prog 6 #[.agg #[.int .i64 a, .int .i64 b], .slice A xs.length c, .slice B ys.length d] w fun e w' => e = .returned (.bool true) ∧ Below w.heap.size w w' := by
  have HA := Lib.hid hA
  have HB := Lib.hid hB
  have HL := Lib.hid hL
  clear hA hB hL
  have hb0 : Below w.heap.size w (w.alloc (.cells #[.int .i64 a, .int .i64 b] 22)) := (Below.refl _ _).alloc (Nat.le_refl _) _
  go_enter Tryd.func6, Tryd.ntmps6
  go_wp2_with fail
  refine (works _ (HL.out.keep hb0)).mono ?_
  rintro e w1 ⟨rfl, hb1⟩
  have hc0 : w1.cell? ⟨w.heap.size, 0, none⟩ = some (.int .i64 a) := by rw [hb1.cell (by simp)]; simp
  have hc1 : w1.cell? ⟨w.heap.size, 1, none⟩ = some (.int .i64 b) := by rw [hb1.cell (by simp)]; simp
  have hb := hb0.trans (hb1.mono hb0.size)
  clear hb1 hb0
  by_cases h1 : (50 : Int) < (xs.length : Int)
  · go_wp2_with fail
    go_ret
    exact ⟨rfl, hb⟩
  by_cases h2 : (50 : Int) < (ys.length : Int)
  · go_wp2_with fail
    go_ret
    exact ⟨rfl, hb⟩
  go_wp2_with fail
  go_quiet (fail)
  all_goals
    go_wp2_with fail
    have hbq := hb.trans (Kit.below_drewN w.heap.size w1 nq)
    refine (new_opt a A c xs _ (HA.out.below hbq) hx).mono ?_
    rintro e w2 ⟨E, rfl, hE, hb2⟩
    have hbb2 := hbq.trans (hb2.mono hbq.size)
    have H1 := Lib.hid hE
    clear hE hb2 hbq
    go_wp2_with fail
    refine (new_opt b B d ys _ (HB.out.below hbb2) hy).mono ?_
    rintro e w3 ⟨F, rfl, hF, hb3⟩
    have hbb3 := hbb2.trans (hb3.mono hbb2.size)
    have H2 := Lib.hid hF
    have H3 := Lib.hid (H1.out.keep hb3)
    clear hF hb3 hbb2 H1
    go_wp2_with fail
    refine (code_opt H2.out (HL.out.keep hbb3)).mono ?_
    rintro e w4 ⟨rfl, hb4⟩
    have hbb4 := hbb3.trans (hb4.mono hbb3.size)
    have H4 := Lib.hid (H2.out.keep hb4)
    have H5 := Lib.hid (H3.out.keep hb4)
    clear hb4 hbb3 H2 H3
    go_wp2_with fail
    refine (has_opt H5.out b).mono ?_
    rintro e w5 ⟨rfl, hb5⟩
    have hbb5 := hbb4.trans (hb5.mono hbb4.size)
    have H6 := Lib.hid (H4.out.keep hb5)
    have H7 := Lib.hid (H5.out.keep hb5)
    clear hb5 hbb4 H4 H5
    go_wp2_with fail
    refine (code_opt H7.out (HL.out.keep hbb5)).mono ?_
    rintro e w6 ⟨rfl, hb6⟩
    have hbb6 := hbb5.trans (hb6.mono hbb5.size)
    have H8 := Lib.hid (H6.out.keep hb6)
    clear hb6 hbb5 H6 H7
    go_wp2_with fail
    refine (has_opt H8.out a).mono ?_
    rintro e w7 ⟨rfl, hb7⟩
    have hbb7 := hbb6.trans (hb7.mono hbb6.size)
    clear hb7 hbb6
    rw [Bool.beq_comm (a := b)]
    go_wp2_with fail
    go_ret
    exact ⟨rfl, hbb7⟩
end Go.Proofs.YtikaghinkpcknaaDoor.FailIsWalk
