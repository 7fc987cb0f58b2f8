/-
 The walk of the law AskBack: it returns true, and leaves all that was there as it was. Condition: as AskCheck.
-/
import Derived.Test.YtakdhkhcndeiiaaGreatDoorAskBackA1
import Derived.Test.YtakdhkhcndeiiaaGreatDoorAskBackA2
import Derived.Test.YtakdhkhcndeiiaaGreatDoorAskBackB1
import Derived.Test.YtakdhkhcndeiiaaGreatDoorAskBackB2
set_option linter.unusedVariables false
set_option linter.unusedSimpArgs false
namespace Go.Proofs.YtakdhkhcndeiiaaGreatDoor.AskBackWalk
open Go.ChangeShapes Go.WideShapes Go.ChangeAt Go.RowKit Go.Lib
open LebMath WirePure Sd Wire SpecOwn SpecRef Book Pk Ak

set_option maxRecDepth 100000 in
theorem walk_0 (c : Cal) (LA : Option Addr) (lc : Nat) (IA : Option Addr) (ic : Nat) (MA : Option Addr) (mc : Nat) (SA : Option Addr) (sc : Nat) (t : ByteArray) (ht : t.size ≤ 140737488351232) (w : World) (hL : Laid w) (h : c.In w LA lc IA ic MA mc SA) (hno : ¬ (lightB c = true ∧ ¬ 3000 < t.size)) :
 Calls Tryz.prog 6 #[.agg #[.int .i64 c.kind, .int .i64 c.uid, .int .u64 c.rev, .string c.spec.name, .slice LA c.spec.labels.length lc, .slice IA c.spec.init.length ic, .slice MA c.spec.main.length mc, .int .i64 c.spec.restart, .int .i64 c.spec.grace, .int .i64 c.spec.prio, .int .i64 c.grace, .int .i64 c.ctr, .int .i64 c.id, .int .i64 c.most, .string c.data, .slice SA c.sel.length sc], .string t] w fun e w' => e = .returned (.bool true) ∧ Below w.heap.size w w' := by
 have HNO := Lib.hid hno
 clear hno
 have HL := Lib.hid hL
 have H := Lib.hid h
 have HFT := Lib.hid (show Few t.data.toList by show t.data.toList.length ≤ 281474976710656; rw [Array.length_toList]; show t.size ≤ _; omega)
 obtain ⟨w1, hw1⟩ : ∃ v, w.alloc (.cells #[.int .i64 c.kind, .int .i64 c.uid, .int .u64 c.rev, .string c.spec.name, .slice LA c.spec.labels.length lc, .slice IA c.spec.init.length ic, .slice MA c.spec.main.length mc, .int .i64 c.spec.restart, .int .i64 c.spec.grace, .int .i64 c.spec.prio, .int .i64 c.grace, .int .i64 c.ctr, .int .i64 c.id, .int .i64 c.most, .string c.data, .slice SA c.sel.length sc] 41) = v := ⟨_, rfl⟩
 have B1 := Lib.hid (show Below w.heap.size w w1 by rw [← hw1]; exact (Below.refl _ _).alloc (Nat.le_refl _) _)
 have X1 := Lib.hid (show w1.heap[w.heap.size]? = some (.cells #[.int .i64 c.kind, .int .i64 c.uid, .int .u64 c.rev, .string c.spec.name, .slice LA c.spec.labels.length lc, .slice IA c.spec.init.length ic, .slice MA c.spec.main.length mc, .int .i64 c.spec.restart, .int .i64 c.spec.grace, .int .i64 c.spec.prio, .int .i64 c.grace, .int .i64 c.ctr, .int .i64 c.id, .int .i64 c.most, .string c.data, .slice SA c.sel.length sc] 41) by rw [← hw1]; exact heap_alloc_new w _)
 clear hL h
 go_enter Tryz.func6, Tryz.ntmps6
 go_wp2_with fail
 refine (works_any w1 (HL.out.below B1.out)).mono ?_
 rintro e w2 ⟨rfl, hb2⟩
 have B2 := Lib.hid (B1.out.trans (hb2.mono B1.out.size))
 have X2 := Lib.hid ((hb2.block w.heap.size (lt_of_block X1.out)).trans X1.out)
 clear hb2 X1 hw1
 as_aux_lemma =>
  have c0 := box_cell X2.out 0 rfl
  have c1 := box_cell X2.out 1 rfl
  have c2 := box_cell X2.out 2 rfl
  have c3 := box_cell X2.out 3 rfl
  have c4 := box_cell X2.out 4 rfl
  have c5 := box_cell X2.out 5 rfl
  have c6 := box_cell X2.out 6 rfl
  have c7 := box_cell X2.out 7 rfl
  have c8 := box_cell X2.out 8 rfl
  have c9 := box_cell X2.out 9 rfl
  have c10 := box_cell X2.out 10 rfl
  have c11 := box_cell X2.out 11 rfl
  have c12 := box_cell X2.out 12 rfl
  have c13 := box_cell X2.out 13 rfl
  have c14 := box_cell X2.out 14 rfl
  have c15 := box_cell X2.out 15 rfl
  go_wp2_with fail
  refine (lightC_any c LA lc IA ic MA mc SA sc w2 (H.out.below B2.out)).mono ?_
  rintro e w3 ⟨rfl, hb3⟩
  have B3 := Lib.hid (B2.out.trans (hb3.mono B2.out.size))
  have X3 := Lib.hid ((hb3.block w.heap.size (lt_of_block X2.out)).trans X2.out)
  clear hb3 X2
  clear c0 c1 c2 c3 c4 c5 c6 c7 c8 c9 c10 c11 c12 c13 c14 c15
  cases hlt : lightB c with
  | false =>
   go_wp2
   go_ret
   exact ⟨rfl, B3.out⟩
  | true =>
   have hlen : 3000 < t.size := by
    by_cases h : 3000 < t.size
    · exact h
    · exact absurd ⟨hlt, h⟩ HNO.out
   have hlen' : (3000 : Int) < (t.size : Int) := by omega
   clear hlen hlt
   go_wp2
   go_ret
   exact ⟨rfl, B3.out⟩
theorem walk (c : Cal) (LA : Option Addr) (lc : Nat) (IA : Option Addr) (ic : Nat) (MA : Option Addr) (mc : Nat) (SA : Option Addr) (sc : Nat) (t : ByteArray) (ht : t.size ≤ 140737488351232) (w : World) (hL : Laid w) (h : c.In w LA lc IA ic MA mc SA) :
 Calls Tryz.prog 6 #[.agg #[.int .i64 c.kind, .int .i64 c.uid, .int .u64 c.rev, .string c.spec.name, .slice LA c.spec.labels.length lc, .slice IA c.spec.init.length ic, .slice MA c.spec.main.length mc, .int .i64 c.spec.restart, .int .i64 c.spec.grace, .int .i64 c.spec.prio, .int .i64 c.grace, .int .i64 c.ctr, .int .i64 c.id, .int .i64 c.most, .string c.data, .slice SA c.sel.length sc], .string t] w fun e w' => e = .returned (.bool true) ∧ Below w.heap.size w w' := by
 by_cases h0 : lightB c = true ∧ ¬ 3000 < t.size
 · by_cases h1 : (checkC c).1 = 0
   · by_cases h2 : (ofC t.data.toList).1 = 0
     · exact walk_a1 c LA lc IA ic MA mc SA sc t ht w hL h h0.1 h0.2 h1 h2
     · exact walk_a2 c LA lc IA ic MA mc SA sc t ht w hL h h0.1 h0.2 h1 h2
   · by_cases h2 : (ofC t.data.toList).1 = 0
     · exact walk_b1 c LA lc IA ic MA mc SA sc t ht w hL h h0.1 h0.2 h1 h2
     · exact walk_b2 c LA lc IA ic MA mc SA sc t ht w hL h h0.1 h0.2 h1 h2
 · exact walk_0 c LA lc IA ic MA mc SA sc t ht w hL h h0

end Go.Proofs.YtakdhkhcndeiiaaGreatDoor.AskBackWalk
