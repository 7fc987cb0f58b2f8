/-
 The walk of the law AskBytes: it returns true, and leaves all that was there as it was. Condition: as AskCheck.
-/
import Derived.Test.YtakdhkhcndeiiaaGreatDoorAskRefCheck
import Derived.Test.YtakdhkhcndeiiaaGreatDoorAskRefBytes
import Derived.Test.YtakdhkhcndeiiaaGreatDoorAskWorks
import Derived.Test.YtakdhkhcndeiiaaGreatDoorAskSame
set_option linter.unusedVariables false
set_option linter.unusedSimpArgs false
namespace Go.Proofs.YtakdhkhcndeiiaaGreatDoor.AskBytesWalk
open Go.ChangeShapes Go.WideShapes Go.ChangeAt Go.RowKit Go.Lib
open LebMath WirePure Sd Wire SpecOwn SpecRef Book Pk Ak

set_option maxRecDepth 100000 in
set_option maxHeartbeats 4000000 in
theorem walk (c : Cal) (LA : Option Addr) (lc : Nat) (IA : Option Addr) (ic : Nat) (MA : Option Addr) (mc : Nat) (SA : Option Addr) (sc : Nat) (w : World) (hL : Laid w) (h : c.In w LA lc IA ic MA mc SA) :
 Calls Tryz.prog 5 #[.agg #[.int .i64 c.kind, .int .i64 c.uid, .int .u64 c.rev, .string c.spec.name, .slice LA c.spec.labels.length lc, .slice IA c.spec.init.length ic, .slice MA c.spec.main.length mc, .int .i64 c.spec.restart, .int .i64 c.spec.grace, .int .i64 c.spec.prio, .int .i64 c.grace, .int .i64 c.ctr, .int .i64 c.id, .int .i64 c.most, .string c.data, .slice SA c.sel.length sc]] w fun e w' => e = .returned (.bool true) ∧ Below w.heap.size w w' := by
 have HL := Lib.hid hL
 have H := Lib.hid h
 obtain ⟨w1, hw1⟩ : ∃ v, w.alloc (.cells #[.int .i64 c.kind, .int .i64 c.uid, .int .u64 c.rev, .string c.spec.name, .slice LA c.spec.labels.length lc, .slice IA c.spec.init.length ic, .slice MA c.spec.main.length mc, .int .i64 c.spec.restart, .int .i64 c.spec.grace, .int .i64 c.spec.prio, .int .i64 c.grace, .int .i64 c.ctr, .int .i64 c.id, .int .i64 c.most, .string c.data, .slice SA c.sel.length sc] 41) = v := ⟨_, rfl⟩
 have B1 := Lib.hid (show Below w.heap.size w w1 by rw [← hw1]; exact (Below.refl _ _).alloc (Nat.le_refl _) _)
 have X1 := Lib.hid (show w1.heap[w.heap.size]? = some (.cells #[.int .i64 c.kind, .int .i64 c.uid, .int .u64 c.rev, .string c.spec.name, .slice LA c.spec.labels.length lc, .slice IA c.spec.init.length ic, .slice MA c.spec.main.length mc, .int .i64 c.spec.restart, .int .i64 c.spec.grace, .int .i64 c.spec.prio, .int .i64 c.grace, .int .i64 c.ctr, .int .i64 c.id, .int .i64 c.most, .string c.data, .slice SA c.sel.length sc] 41) by rw [← hw1]; exact heap_alloc_new w _)
 clear hL h
 have ld := Lib.hid (range_at X1.out 0 [.int .i64 c.kind, .int .i64 c.uid, .int .u64 c.rev, .string c.spec.name, .slice LA c.spec.labels.length lc, .slice IA c.spec.init.length ic, .slice MA c.spec.main.length mc, .int .i64 c.spec.restart, .int .i64 c.spec.grace, .int .i64 c.spec.prio, .int .i64 c.grace, .int .i64 c.ctr, .int .i64 c.id, .int .i64 c.most, .string c.data, .slice SA c.sel.length sc] rfl)
 go_enter Tryz.func5, Tryz.ntmps5
 go_wp2_with (refine wpList_load_mid rfl _ _ rfl _ _ rfl _ _ ld.out Tryz.underlying41 rfl (by kernel_rfl) ?_)
 refine (lightC_any c LA lc IA ic MA mc SA sc w1 (H.out.below B1.out)).mono ?_
 rintro e w2 ⟨rfl, hb2⟩
 clear hw1
 have B2 := Lib.hid (B1.out.trans (hb2.mono B1.out.size))
 have X2 := Lib.hid ((hb2.block w.heap.size (lt_of_block X1.out)).trans X1.out)
 clear hb2 X1 ld
 cases hlt : lightB c with
 | false =>
  as_aux_lemma =>
   go_wp2_with fail
   refine (works_any w2 (HL.out.below B2.out)).mono ?_
   rintro e w3 ⟨rfl, hb3⟩
   have B3 := Lib.hid (B2.out.trans (hb3.mono B2.out.size))
   go_wp2
   go_ret
   exact ⟨rfl, B3.out⟩
 | true =>
  have HLT := Lib.hid (lightB_yes hlt)
  clear hlt
  as_aux_lemma =>
   have ld := Lib.hid (range_at X2.out 0 [.int .i64 c.kind, .int .i64 c.uid, .int .u64 c.rev, .string c.spec.name, .slice LA c.spec.labels.length lc, .slice IA c.spec.init.length ic, .slice MA c.spec.main.length mc, .int .i64 c.spec.restart, .int .i64 c.spec.grace, .int .i64 c.spec.prio, .int .i64 c.grace, .int .i64 c.ctr, .int .i64 c.id, .int .i64 c.most, .string c.data, .slice SA c.sel.length sc] rfl)
   go_wp2_with (refine wpList_load_mid rfl _ _ rfl _ _ rfl _ _ ld.out Tryz.underlying41 rfl (by kernel_rfl) ?_)
   refine (bytesC_any c LA lc IA ic MA mc SA sc HLT.out w2 (HL.out.below B2.out) (H.out.below B2.out)).mono ?_
   rintro e w3 ⟨hb3, hcase⟩
   have B3 := Lib.hid (B2.out.trans (hb3.mono B2.out.size))
   have X3 := Lib.hid ((hb3.block w.heap.size (lt_of_block X2.out)).trans X2.out)
   clear hb3 X2 ld
   rcases hcase with ⟨hc, rfl⟩ | ⟨hc, rfl⟩
   · have HC := Lib.hid hc
     as_aux_lemma =>
      have ld := Lib.hid (range_at X3.out 0 [.int .i64 c.kind, .int .i64 c.uid, .int .u64 c.rev, .string c.spec.name, .slice LA c.spec.labels.length lc, .slice IA c.spec.init.length ic, .slice MA c.spec.main.length mc, .int .i64 c.spec.restart, .int .i64 c.spec.grace, .int .i64 c.spec.prio, .int .i64 c.grace, .int .i64 c.ctr, .int .i64 c.id, .int .i64 c.most, .string c.data, .slice SA c.sel.length sc] rfl)
      go_wp2_with (refine wpList_load_mid rfl _ _ rfl _ _ rfl _ _ ld.out Tryz.underlying41 rfl (by kernel_rfl) ?_)
      refine (checkR_any c LA lc IA ic MA mc SA sc HLT.out w3 (H.out.below B3.out)).mono ?_
      rintro e w4 ⟨rfl, hb4⟩
      have B4 := Lib.hid (B3.out.trans (hb4.mono B3.out.size))
      have X4 := Lib.hid ((hb4.block w.heap.size (lt_of_block X3.out)).trans X3.out)
      clear hb4 X3 ld
      rw [HC.out]
      clear hc
      as_aux_lemma =>
       have ld := Lib.hid (range_at X4.out 0 [.int .i64 c.kind, .int .i64 c.uid, .int .u64 c.rev, .string c.spec.name, .slice LA c.spec.labels.length lc, .slice IA c.spec.init.length ic, .slice MA c.spec.main.length mc, .int .i64 c.spec.restart, .int .i64 c.spec.grace, .int .i64 c.spec.prio, .int .i64 c.grace, .int .i64 c.ctr, .int .i64 c.id, .int .i64 c.most, .string c.data, .slice SA c.sel.length sc] rfl)
       go_wp2_with (refine wpList_load_mid rfl _ _ rfl _ _ rfl _ _ ld.out Tryz.underlying41 rfl (by kernel_rfl) ?_)
       refine (bytesR_any c LA lc IA ic MA mc SA sc HLT.out HC.out w4 (H.out.below B4.out)).mono ?_
       rintro e w5 ⟨rfl, hb5⟩
       have B5 := Lib.hid (B4.out.trans (hb5.mono B4.out.size))
       have X5 := Lib.hid ((hb5.block w.heap.size (lt_of_block X4.out)).trans X4.out)
       clear hb5 X4 ld
       rw [show (⟨(putC c).toArray⟩ : ByteArray) = bx (putC c) from rfl]
       obtain ⟨bs, hbs⟩ : ∃ bs, bx (putC c) = bs := ⟨_, rfl⟩
       rw [hbs]
       clear hbs X5
       as_aux_lemma =>
        go_wp2_with fail
        refine (works_any w5 (HL.out.below B5.out)).mono ?_
        rintro e w6 ⟨rfl, hb6⟩
        have B6 := Lib.hid (B5.out.trans (hb6.mono B5.out.size))
        go_wp2
        go_ret
        exact ⟨rfl, B6.out⟩
   · have HC := Lib.hid hc
     as_aux_lemma =>
      have ld := Lib.hid (range_at X3.out 0 [.int .i64 c.kind, .int .i64 c.uid, .int .u64 c.rev, .string c.spec.name, .slice LA c.spec.labels.length lc, .slice IA c.spec.init.length ic, .slice MA c.spec.main.length mc, .int .i64 c.spec.restart, .int .i64 c.spec.grace, .int .i64 c.spec.prio, .int .i64 c.grace, .int .i64 c.ctr, .int .i64 c.id, .int .i64 c.most, .string c.data, .slice SA c.sel.length sc] rfl)
      go_wp2_with (refine wpList_load_mid rfl _ _ rfl _ _ rfl _ _ ld.out Tryz.underlying41 rfl (by kernel_rfl) ?_)
      refine (checkR_any c LA lc IA ic MA mc SA sc HLT.out w3 (H.out.below B3.out)).mono ?_
      rintro e w4 ⟨rfl, hb4⟩
      have B4 := Lib.hid (B3.out.trans (hb4.mono B3.out.size))
      have X4 := Lib.hid ((hb4.block w.heap.size (lt_of_block X3.out)).trans X3.out)
      clear hb4 X3 ld
      obtain ⟨⟨cc, pp⟩, hy⟩ : ∃ y, checkC c = y := ⟨_, rfl⟩
      rw [hy] at HC ⊢
      have hz : (cc == 0) = false := by rw [beq_eq_false_iff_ne]; exact HC.out
      clear hy hc X4
      as_aux_lemma =>
       go_wp2_with fail
       refine (works_any w4 (HL.out.below B4.out)).mono ?_
       rintro e w5 ⟨rfl, hb5⟩
       have B5 := Lib.hid (B4.out.trans (hb5.mono B4.out.size))
       go_wp2
       go_ret
       exact ⟨rfl, B5.out⟩
end Go.Proofs.YtakdhkhcndeiiaaGreatDoor.AskBytesWalk
