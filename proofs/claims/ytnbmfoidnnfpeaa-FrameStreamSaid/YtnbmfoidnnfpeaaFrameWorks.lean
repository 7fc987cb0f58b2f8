/-
  The chapter's example is as the chapter says. No condition.
-/
import Derived.Test.YtnbmfoidnnfpeaaFrameNext
import Derived.Test.YtnbmfoidnnfpeaaFramePut
import Derived.Laws.Concat
namespace Go.Proofs.Ytnbmfoidnnfpeaa
open Go.ChangeShapes Go.WideShapes Go.ChangeAt Go.RowKit Go.Lib
open FramePure
namespace Spl

def hiB : ByteArray := ⟨#[104, 105]⟩
def fiveB : List UInt8 := [2, 0, 104, 105, 5]
theorem hi_frame : frB hiB = ⟨#[2, 0, 104, 105]⟩ := by decide
theorem hi_bytes : ((⟨#[2, 0, 104, 105]⟩ : ByteArray) ++ ⟨#[5]⟩).data.toList = fiveB := by decide

set_option maxRecDepth 100000 in
theorem works_any (w : World) : Calls Try.prog 6 #[] w fun e w' => e = .returned (.bool true) ∧ Below w.heap.size w w' := by
  go_enter Try.func6, Try.ntmps6
  go_wp2_with fail
  refine (put_any hiB (by decide) w).mono ?_
  rw [hi_frame]
  rintro e w1 ⟨rfl, hb1⟩
  have B1 := Lib.hid hb1
  clear hb1
  go_wp2_with fail
  refine (new_any w1).mono ?_
  rintro e w2 ⟨rfl, h2, hb2, z2⟩
  have H2 := Lib.hid h2
  have B2 := Lib.hid hb2
  clear h2 hb2 z2
  have hadd : ∀ v, (Op.stringOp .add ⟨#[2, 0, 104, 105]⟩ ⟨#[5]⟩).run Try.prog v = .ok (.string ((⟨#[2, 0, 104, 105]⟩ : ByteArray) ++ ⟨#[5]⟩)) v := fun v => run_string_add_sum v _ _ (by decide)
  go_wp2_with fail
  refine (feed_any w1.heap.size none false [] _ (by decide) w2 H2.out).mono ?_
  rintro e w3 ⟨rfl, r3, h3, hr3, t3⟩
  rw [show feedE false ([] : List UInt8).length ((⟨#[2, 0, 104, 105]⟩ : ByteArray) ++ ⟨#[5]⟩).size = 0 by decide]
  have H3 := Lib.hid (show Sp w3 w1.heap.size r3 false fiveB by rw [hi_bytes] at h3; exact h3)
  have T3 := Lib.hid t3
  have R3 := Lib.hid hr3
  clear h3 t3 hr3 hadd
  go_wp2_with fail
  refine (next_any w1.heap.size r3 false fiveB w3 H3.out).mono ?_
  rw [show nextE false fiveB = 0 by decide, show nextT false fiveB = [104, 105] by decide, show nextC false fiveB = false by decide, show nextL false fiveB = [5] by decide]
  rintro e w4 ⟨rfl, r4, h4, hr4, t4⟩
  have H4 := Lib.hid h4
  have T4 := Lib.hid t4
  have R4 := Lib.hid hr4
  clear h4 t4 hr4
  go_wp2_with fail
  refine (next_any w1.heap.size r4 false [5] w4 H4.out).mono ?_
  rw [show nextE false [5] = 6 by decide, show nextT false [5] = [] by decide, show nextC false [5] = false by decide, show nextL false [5] = [5] by decide]
  rintro e w5 ⟨rfl, r5, h5, hr5, t5⟩
  have H5 := Lib.hid h5
  have T5 := Lib.hid t5
  clear h5 t5 hr5
  go_wp2_with fail
  refine (left_any w1.heap.size r5 false [5] w5 H5.out).mono ?_
  rintro e w6 ⟨rfl, rfl⟩
  go_wp2
  go_ret
  refine ⟨rfl, ?_⟩
  have l3 : ∀ q, r3 = some q → w.heap.size ≤ q := fun q hq => by have := (H3.out.row hq).1; have := B1.out.size; omega
  have l4 : ∀ q, r4 = some q → w.heap.size ≤ q := fun q hq => by have := (H4.out.row hq).1; have := B1.out.size; omega
  have z2 := B2.out.size
  have z1 := B1.out.size
  have z3 := T3.out.size
  have z4 := T4.out.size
  exact (((B1.out.trans (B2.out.mono z1)).trans (T3.out.below (by omega) z1 (fun q hq => by cases hq))).trans (T4.out.below (by omega) z1 l3)).trans (T5.out.below (by omega) z1 l4)
end Spl
end Go.Proofs.Ytnbmfoidnnfpeaa
