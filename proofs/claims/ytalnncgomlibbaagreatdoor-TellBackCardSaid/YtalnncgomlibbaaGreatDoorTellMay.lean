/-
 The contracts of tell.Pod and tell.Check: whether a pod, a message may be told. All that was there is left as it was. Condition: what is tested is not too much.
-/
import Derived.Test.YtalnncgomlibbaaGreatDoorTellCheck
set_option linter.unusedVariables false
set_option linter.unusedSimpArgs false
namespace Go.Proofs.YtalnncgomlibbaaGreatDoor
open Go.ChangeShapes Go.WideShapes Go.ChangeAt Go.RowKit Go.Lib
open LebMath WirePure Sd Wire SpecOwn SpecRef Book Pk
namespace Tl
set_option maxRecDepth 100000 in
set_option maxHeartbeats 4000000 in
theorem eventB_any (ev : Ev) (LA : Option Addr) (lc : Nat) (IA : Option Addr) (ic : Nat) (MA : Option Addr) (mc : Nat) (RA : Option Addr) (rc : Nat) (w : World) (hLt : LightP ev.pod) (hL : SLaid w) (h : ev.pod.In w LA lc IA ic MA mc RA) :
 Calls Tryz.prog 109 #[.agg #[.int .i64 ev.kind, .int .u64 ev.rev, .int .i64 ev.pod.uid, .int .u64 ev.pod.rev, .string ev.pod.spec.name, .slice LA ev.pod.spec.labels.length lc, .slice IA ev.pod.spec.init.length ic, .slice MA ev.pod.spec.main.length mc, .int .i64 ev.pod.spec.restart, .int .i64 ev.pod.spec.grace, .int .i64 ev.pod.spec.prio, .int .i64 ev.pod.phase, .slice RA ev.pod.rs.length rc, .int .i64 ev.pod.mark, .int .i64 ev.pod.grace]] w fun e w' => e = .returned (.bool (eventB ev)) ∧ Below w.heap.size w w' := by
 have HLT := Lib.hid hLt
 have HL := Lib.hid hL
 have H := Lib.hid h
 have HE := Lib.hid (show eventB ev = (hasB ev.kind && podB ev.pod || noneB ev.kind && noPodB ev.pod) from rfl)
 have HXX := Lib.hid (show hasB ev.kind = true → noneB ev.kind = false from fun h => by
  have h1 := inB_iff.1 h
  rw [Bool.eq_false_iff]
  intro h2
  have h3 := inB_iff.1 h2
  omega)
 clear hLt hL h
 obtain ⟨w2, hw2⟩ : ∃ v, w.alloc (.cells #[.int .i64 ev.kind, .int .u64 ev.rev, .int .i64 ev.pod.uid, .int .u64 ev.pod.rev, .string ev.pod.spec.name, .slice LA ev.pod.spec.labels.length lc, .slice IA ev.pod.spec.init.length ic, .slice MA ev.pod.spec.main.length mc, .int .i64 ev.pod.spec.restart, .int .i64 ev.pod.spec.grace, .int .i64 ev.pod.spec.prio, .int .i64 ev.pod.phase, .slice RA ev.pod.rs.length rc, .int .i64 ev.pod.mark, .int .i64 ev.pod.grace] 48) = v := ⟨_, rfl⟩
 have B2 := Lib.hid (show Below w.heap.size w w2 by rw [← hw2]; exact (Below.refl _ _).alloc (Nat.le_refl _) _)
 have X2 := Lib.hid (show w2.heap[w.heap.size]? = some (.cells #[.int .i64 ev.kind, .int .u64 ev.rev, .int .i64 ev.pod.uid, .int .u64 ev.pod.rev, .string ev.pod.spec.name, .slice LA ev.pod.spec.labels.length lc, .slice IA ev.pod.spec.init.length ic, .slice MA ev.pod.spec.main.length mc, .int .i64 ev.pod.spec.restart, .int .i64 ev.pod.spec.grace, .int .i64 ev.pod.spec.prio, .int .i64 ev.pod.phase, .slice RA ev.pod.rs.length rc, .int .i64 ev.pod.mark, .int .i64 ev.pod.grace] 48) by rw [← hw2]; exact heap_alloc_new w _)
 have c0 := box_cell X2.out 0 rfl
 have c1 := box_cell X2.out 1 rfl
 have c2 := box_cell X2.out 2 rfl
 have c3 := box_cell X2.out 3 rfl
 have c4 := box_cell X2.out 4 rfl
 have c5 := box_cell X2.out 5 rfl
 have c6 := box_cell X2.out 6 rfl
 have c7 := box_cell X2.out 7 rfl
 have c8 := box_cell X2.out 8 rfl
 have c9 := box_cell X2.out 9 rfl
 have c10 := box_cell X2.out 10 rfl
 have c11 := box_cell X2.out 11 rfl
 have c12 := box_cell X2.out 12 rfl
 have c13 := box_cell X2.out 13 rfl
 have c14 := box_cell X2.out 14 rfl
 go_enter Tryz.func109, Tryz.ntmps109
 go_wp2_with fail
 refine (hasB_any ev.kind w2).mono ?_
 rintro e w3 ⟨rfl, rfl⟩
 cases hk : hasB ev.kind with
 | true =>
  have HNN := Lib.hid (HXX.out hk)
  rw [hk] at HE
  clear hk HXX
  go_wp2_with fail
  refine (podB_any ev.pod LA lc IA ic MA mc RA rc w2 HLT.out (HL.out.below B2.out) (H.out.below B2.out)).mono ?_
  rintro e w3 ⟨rfl, hb3⟩
  clear hw2
  have B3 := Lib.hid (B2.out.trans (hb3.mono B2.out.size))
  have X3 := Lib.hid ((hb3.block w.heap.size (lt_of_block X2.out)).trans X2.out)
  clear hb3 X2
  clear c0 c1 c2 c3 c4 c5 c6 c7 c8 c9 c10 c11 c12 c13 c14
  have c0 := box_cell X3.out 0 rfl
  cases hp : podB ev.pod with
  | true =>
   rw [hp] at HE
   clear hp
   have HD := Lib.hid (show true = eventB ev from by rw [HE.out]; rfl)
   go_wp2
   go_ret
   exact ⟨Book.ret_b HD.out, B3.out⟩
  | false =>
   rw [hp] at HE
   clear hp
   go_wp2_with fail
   refine (noneB_any ev.kind w3).mono ?_
   rintro e w4 ⟨rfl, rfl⟩
   rw [HNN.out]
   have HD := Lib.hid (show false = eventB ev from by rw [HE.out, HNN.out]; rfl)
   go_wp2
   go_ret
   exact ⟨Book.ret_b HD.out, B3.out⟩
 | false =>
  rw [hk] at HE
  clear hk HXX
  go_wp2_with fail
  refine (noneB_any ev.kind w2).mono ?_
  rintro e w3 ⟨rfl, rfl⟩
  cases hn : noneB ev.kind with
  | false =>
   rw [hn] at HE
   clear hn
   have HD := Lib.hid (show false = eventB ev from by rw [HE.out]; rfl)
   go_wp2
   go_ret
   exact ⟨Book.ret_b HD.out, B2.out⟩
  | true =>
   rw [hn] at HE
   clear hn
   go_wp2_with fail
   refine (noPodB_any ev.pod LA lc IA ic MA mc RA rc w2 (H.out.below B2.out)).mono ?_
   rintro e w3 ⟨rfl, hb3⟩
   clear hw2
   have B3 := Lib.hid (B2.out.trans (hb3.mono B2.out.size))
   have X3 := Lib.hid ((hb3.block w.heap.size (lt_of_block X2.out)).trans X2.out)
   clear hb3 X2
   clear c0 c1 c2 c3 c4 c5 c6 c7 c8 c9 c10 c11 c12 c13 c14
   obtain ⟨z, hz⟩ : ∃ z, noPodB ev.pod = z := ⟨_, rfl⟩
   rw [hz] at HE ⊢
   clear hz
   have HD := Lib.hid (show z = eventB ev from by rw [HE.out]; simp)
   go_wp2
   go_ret
   exact ⟨Book.ret_b HD.out, B3.out⟩

set_option maxRecDepth 100000 in
set_option maxHeartbeats 4000000 in
theorem msgB_any (m : Mg) (PA : Option Addr) (pc : Nat) (UA : Option Addr) (uc : Nat) (LA : Option Addr) (lc : Nat) (IA : Option Addr) (ic : Nat) (MA : Option Addr) (mc : Nat) (RA : Option Addr) (rc : Nat) (w : World) (hLt : LightM m) (hL : SLaid w) (h : m.In w PA UA LA lc IA ic MA mc RA) :
 Calls Tryz.prog 58 #[.agg #[.int .i64 m.kind, .int .i64 m.num, .int .i64 m.reply.code, .int .i64 m.reply.uid, .int .i64 m.reply.id, .int .u64 m.reply.rev, .string m.reply.data, .slice PA m.reply.pods.length pc, .slice UA m.reply.use.length uc, .int .i64 m.event.kind, .int .u64 m.event.rev, .int .i64 m.event.pod.uid, .int .u64 m.event.pod.rev, .string m.event.pod.spec.name, .slice LA m.event.pod.spec.labels.length lc, .slice IA m.event.pod.spec.init.length ic, .slice MA m.event.pod.spec.main.length mc, .int .i64 m.event.pod.spec.restart, .int .i64 m.event.pod.spec.grace, .int .i64 m.event.pod.spec.prio, .int .i64 m.event.pod.phase, .slice RA m.event.pod.rs.length rc, .int .i64 m.event.pod.mark, .int .i64 m.event.pod.grace]] w fun e w' => e = .returned (.bool (msgB m)) ∧ Below w.heap.size w w' := by
 have HLT := Lib.hid hLt
 have HL := Lib.hid hL
 have H := Lib.hid h
 have HE := Lib.hid (show msgB m = (inB m.num 1 1073741824 && (if m.kind = 1 then noEventB m.event && replyB m.reply else if m.kind = 2 then noReplyB m.reply && eventB m.event else false)) from rfl)
 clear hLt hL h
 obtain ⟨w2, hw2⟩ : ∃ v, w.alloc (.cells #[.int .i64 m.kind, .int .i64 m.num, .int .i64 m.reply.code, .int .i64 m.reply.uid, .int .i64 m.reply.id, .int .u64 m.reply.rev, .string m.reply.data, .slice PA m.reply.pods.length pc, .slice UA m.reply.use.length uc, .int .i64 m.event.kind, .int .u64 m.event.rev, .int .i64 m.event.pod.uid, .int .u64 m.event.pod.rev, .string m.event.pod.spec.name, .slice LA m.event.pod.spec.labels.length lc, .slice IA m.event.pod.spec.init.length ic, .slice MA m.event.pod.spec.main.length mc, .int .i64 m.event.pod.spec.restart, .int .i64 m.event.pod.spec.grace, .int .i64 m.event.pod.spec.prio, .int .i64 m.event.pod.phase, .slice RA m.event.pod.rs.length rc, .int .i64 m.event.pod.mark, .int .i64 m.event.pod.grace] 50) = v := ⟨_, rfl⟩
 have B2 := Lib.hid (show Below w.heap.size w w2 by rw [← hw2]; exact (Below.refl _ _).alloc (Nat.le_refl _) _)
 have X2 := Lib.hid (show w2.heap[w.heap.size]? = some (.cells #[.int .i64 m.kind, .int .i64 m.num, .int .i64 m.reply.code, .int .i64 m.reply.uid, .int .i64 m.reply.id, .int .u64 m.reply.rev, .string m.reply.data, .slice PA m.reply.pods.length pc, .slice UA m.reply.use.length uc, .int .i64 m.event.kind, .int .u64 m.event.rev, .int .i64 m.event.pod.uid, .int .u64 m.event.pod.rev, .string m.event.pod.spec.name, .slice LA m.event.pod.spec.labels.length lc, .slice IA m.event.pod.spec.init.length ic, .slice MA m.event.pod.spec.main.length mc, .int .i64 m.event.pod.spec.restart, .int .i64 m.event.pod.spec.grace, .int .i64 m.event.pod.spec.prio, .int .i64 m.event.pod.phase, .slice RA m.event.pod.rs.length rc, .int .i64 m.event.pod.mark, .int .i64 m.event.pod.grace] 50) by rw [← hw2]; exact heap_alloc_new w _)
 have c0 := box_cell X2.out 0 rfl
 have c1 := box_cell X2.out 1 rfl
 have c2 := box_cell X2.out 2 rfl
 have c3 := box_cell X2.out 3 rfl
 have c4 := box_cell X2.out 4 rfl
 have c5 := box_cell X2.out 5 rfl
 have c6 := box_cell X2.out 6 rfl
 have c7 := box_cell X2.out 7 rfl
 have c8 := box_cell X2.out 8 rfl
 have c9 := box_cell X2.out 9 rfl
 have c10 := box_cell X2.out 10 rfl
 have c11 := box_cell X2.out 11 rfl
 have c12 := box_cell X2.out 12 rfl
 have c13 := box_cell X2.out 13 rfl
 have c14 := box_cell X2.out 14 rfl
 have c15 := box_cell X2.out 15 rfl
 have c16 := box_cell X2.out 16 rfl
 have c17 := box_cell X2.out 17 rfl
 have c18 := box_cell X2.out 18 rfl
 have c19 := box_cell X2.out 19 rfl
 have c20 := box_cell X2.out 20 rfl
 have c21 := box_cell X2.out 21 rfl
 have c22 := box_cell X2.out 22 rfl
 have c23 := box_cell X2.out 23 rfl
 go_enter Tryz.func58, Tryz.ntmps58
 go_wp2_with fail
 refine (within_any m.num 1 1073741824 w2).mono ?_
 rintro e w3 ⟨rfl, rfl⟩
 cases hn : inB m.num 1 1073741824 with
 | false =>
  rw [hn] at HE
  clear hn
  have HD := Lib.hid (show false = msgB m from by rw [HE.out]; rfl)
  go_wp2
  go_ret
  exact ⟨Book.ret_b HD.out, B2.out⟩
 | true =>
  rw [hn] at HE
  clear hn
  by_cases hk1 : m.kind = 1
  · rw [if_pos hk1] at HE
    have hq : (m.kind == 1) = true := by rw [hk1]; rfl
    clear hk1
    as_aux_lemma =>
     go_wp2_with fail
     refine (noEventB_any m.event LA lc IA ic MA mc RA rc w2 (H.out.pod.below B2.out)).mono ?_
     rintro e w3 ⟨rfl, hb3⟩
     clear hw2
     have B3 := Lib.hid (B2.out.trans (hb3.mono B2.out.size))
     have X3 := Lib.hid ((hb3.block w.heap.size (lt_of_block X2.out)).trans X2.out)
     clear hb3 X2
     clear c0 c1 c2 c3 c4 c5 c6 c7 c8 c9 c10 c11 c12 c13 c14 c15 c16 c17 c18 c19 c20 c21 c22 c23
     as_aux_lemma =>
      have c2 := box_cell X3.out 2 rfl
      have c3 := box_cell X3.out 3 rfl
      have c4 := box_cell X3.out 4 rfl
      have c5 := box_cell X3.out 5 rfl
      have c6 := box_cell X3.out 6 rfl
      have c7 := box_cell X3.out 7 rfl
      have c8 := box_cell X3.out 8 rfl
      cases h1 : noEventB m.event with
      | false =>
       rw [h1] at HE
       clear h1
       have HD := Lib.hid (show false = msgB m from by rw [HE.out]; rfl)
       go_wp2
       go_ret
       exact ⟨Book.ret_b HD.out, B3.out⟩
      | true =>
       rw [h1] at HE
       clear h1
       go_wp2_with fail
       refine (replyB_any m.reply PA pc UA uc w3 HLT.out.reply (HL.out.below B3.out) (H.out.reply.below B3.out)).mono ?_
       rintro e w4 ⟨rfl, hb4⟩
       have B4 := Lib.hid (B3.out.trans (hb4.mono B3.out.size))
       clear hb4
       obtain ⟨z, hz⟩ : ∃ z, replyB m.reply = z := ⟨_, rfl⟩
       rw [hz] at HE ⊢
       clear hz
       have HD := Lib.hid (show z = msgB m from by rw [HE.out]; simp)
       go_wp2
       go_ret
       exact ⟨Book.ret_b HD.out, B4.out⟩
  by_cases hk2 : m.kind = 2
  · rw [if_neg hk1, if_pos hk2] at HE
    have hq : (m.kind == 1) = false := by rw [hk2]; rfl
    have hq2 : (m.kind == 2) = true := by rw [hk2]; rfl
    clear hk1 hk2
    as_aux_lemma =>
     go_wp2_with fail
     refine (noReplyB_any m.reply PA pc UA uc w2).mono ?_
     rintro e w3 ⟨rfl, hb3⟩
     clear hw2
     have B3 := Lib.hid (B2.out.trans (hb3.mono B2.out.size))
     have X3 := Lib.hid ((hb3.block w.heap.size (lt_of_block X2.out)).trans X2.out)
     clear hb3 X2
     clear c0 c1 c2 c3 c4 c5 c6 c7 c8 c9 c10 c11 c12 c13 c14 c15 c16 c17 c18 c19 c20 c21 c22 c23
     as_aux_lemma =>
      have c9 := box_cell X3.out 9 rfl
      have c10 := box_cell X3.out 10 rfl
      have c11 := box_cell X3.out 11 rfl
      have c12 := box_cell X3.out 12 rfl
      have c13 := box_cell X3.out 13 rfl
      have c14 := box_cell X3.out 14 rfl
      have c15 := box_cell X3.out 15 rfl
      have c16 := box_cell X3.out 16 rfl
      have c17 := box_cell X3.out 17 rfl
      have c18 := box_cell X3.out 18 rfl
      have c19 := box_cell X3.out 19 rfl
      have c20 := box_cell X3.out 20 rfl
      have c21 := box_cell X3.out 21 rfl
      have c22 := box_cell X3.out 22 rfl
      have c23 := box_cell X3.out 23 rfl
      cases h1 : noReplyB m.reply with
      | false =>
       rw [h1] at HE
       clear h1
       have HD := Lib.hid (show false = msgB m from by rw [HE.out]; rfl)
       go_wp2
       go_ret
       exact ⟨Book.ret_b HD.out, B3.out⟩
      | true =>
       rw [h1] at HE
       clear h1
       go_wp2_with fail
       refine (eventB_any m.event LA lc IA ic MA mc RA rc w3 HLT.out.pod (HL.out.below B3.out) (H.out.pod.below B3.out)).mono ?_
       rintro e w4 ⟨rfl, hb4⟩
       have B4 := Lib.hid (B3.out.trans (hb4.mono B3.out.size))
       clear hb4
       obtain ⟨z, hz⟩ : ∃ z, eventB m.event = z := ⟨_, rfl⟩
       rw [hz] at HE ⊢
       clear hz
       have HD := Lib.hid (show z = msgB m from by rw [HE.out]; simp)
       go_wp2
       go_ret
       exact ⟨Book.ret_b HD.out, B4.out⟩
  rw [if_neg hk1, if_neg hk2] at HE
  have hq : (m.kind == 1) = false := by rw [beq_eq_false_iff_ne]; exact hk1
  have hq2 : (m.kind == 2) = false := by rw [beq_eq_false_iff_ne]; exact hk2
  clear hk1 hk2
  have HD := Lib.hid (show false = msgB m from by rw [HE.out]; rfl)
  go_wp2
  go_ret
  exact ⟨Book.ret_b HD.out, B2.out⟩

set_option maxRecDepth 100000 in
set_option maxHeartbeats 4000000 in
theorem pod_code (p : Pd) (LA : Option Addr) (lc : Nat) (IA : Option Addr) (ic : Nat) (MA : Option Addr) (mc : Nat) (RA : Option Addr) (rc : Nat) (w : World) (hLt : LightP p) (hL : SLaid w) (h : p.In w LA lc IA ic MA mc RA) :
 Calls Tryz.prog 21 #[.agg #[.int .i64 p.uid, .int .u64 p.rev, .string p.spec.name, .slice LA p.spec.labels.length lc, .slice IA p.spec.init.length ic, .slice MA p.spec.main.length mc, .int .i64 p.spec.restart, .int .i64 p.spec.grace, .int .i64 p.spec.prio, .int .i64 p.phase, .slice RA p.rs.length rc, .int .i64 p.mark, .int .i64 p.grace]] w fun e w' => e = .returned (.int .i64 (bif podB p then 0 else 4)) ∧ Below w.heap.size w w' := by
 have HLT := Lib.hid hLt
 have HL := Lib.hid hL
 have H := Lib.hid h
 clear hLt hL h
 obtain ⟨w2, hw2⟩ : ∃ v, w.alloc (.cells #[.int .i64 p.uid, .int .u64 p.rev, .string p.spec.name, .slice LA p.spec.labels.length lc, .slice IA p.spec.init.length ic, .slice MA p.spec.main.length mc, .int .i64 p.spec.restart, .int .i64 p.spec.grace, .int .i64 p.spec.prio, .int .i64 p.phase, .slice RA p.rs.length rc, .int .i64 p.mark, .int .i64 p.grace] 42) = v := ⟨_, rfl⟩
 have B2 := Lib.hid (show Below w.heap.size w w2 by rw [← hw2]; exact (Below.refl _ _).alloc (Nat.le_refl _) _)
 have X2 := Lib.hid (show w2.heap[w.heap.size]? = some (.cells #[.int .i64 p.uid, .int .u64 p.rev, .string p.spec.name, .slice LA p.spec.labels.length lc, .slice IA p.spec.init.length ic, .slice MA p.spec.main.length mc, .int .i64 p.spec.restart, .int .i64 p.spec.grace, .int .i64 p.spec.prio, .int .i64 p.phase, .slice RA p.rs.length rc, .int .i64 p.mark, .int .i64 p.grace] 42) by rw [← hw2]; exact heap_alloc_new w _)
 have RG := Lib.hid (range_at X2.out 0 [.int .i64 p.uid, .int .u64 p.rev, .string p.spec.name, .slice LA p.spec.labels.length lc, .slice IA p.spec.init.length ic, .slice MA p.spec.main.length mc, .int .i64 p.spec.restart, .int .i64 p.spec.grace, .int .i64 p.spec.prio, .int .i64 p.phase, .slice RA p.rs.length rc, .int .i64 p.mark, .int .i64 p.grace] rfl)
 go_enter Tryz.func21, Tryz.ntmps21
 go_wp2_with (refine wpList_load_mid rfl _ _ rfl _ _ rfl _ _ RG.out Tryz.underlying42 rfl (by kernel_rfl) ?_)
 refine (podB_any p LA lc IA ic MA mc RA rc w2 HLT.out (HL.out.below B2.out) (H.out.below B2.out)).mono ?_
 rintro e w3 ⟨rfl, hb3⟩
 clear hw2 RG
 have B3 := Lib.hid (B2.out.trans (hb3.mono B2.out.size))
 have X3 := Lib.hid ((hb3.block w.heap.size (lt_of_block X2.out)).trans X2.out)
 clear hb3 X2
 as_aux_lemma =>
  go_wp2_with fail
  refine (shape_any (podB p) w3).mono ?_
  rintro e w4 ⟨rfl, rfl⟩
  go_wp2
  go_ret
  exact ⟨rfl, B3.out⟩

set_option maxRecDepth 100000 in
set_option maxHeartbeats 4000000 in
theorem check_code (m : Mg) (PA : Option Addr) (pc : Nat) (UA : Option Addr) (uc : Nat) (LA : Option Addr) (lc : Nat) (IA : Option Addr) (ic : Nat) (MA : Option Addr) (mc : Nat) (RA : Option Addr) (rc : Nat) (w : World) (hLt : LightM m) (hL : SLaid w) (h : m.In w PA UA LA lc IA ic MA mc RA) :
 Calls Tryz.prog 24 #[.agg #[.int .i64 m.kind, .int .i64 m.num, .int .i64 m.reply.code, .int .i64 m.reply.uid, .int .i64 m.reply.id, .int .u64 m.reply.rev, .string m.reply.data, .slice PA m.reply.pods.length pc, .slice UA m.reply.use.length uc, .int .i64 m.event.kind, .int .u64 m.event.rev, .int .i64 m.event.pod.uid, .int .u64 m.event.pod.rev, .string m.event.pod.spec.name, .slice LA m.event.pod.spec.labels.length lc, .slice IA m.event.pod.spec.init.length ic, .slice MA m.event.pod.spec.main.length mc, .int .i64 m.event.pod.spec.restart, .int .i64 m.event.pod.spec.grace, .int .i64 m.event.pod.spec.prio, .int .i64 m.event.pod.phase, .slice RA m.event.pod.rs.length rc, .int .i64 m.event.pod.mark, .int .i64 m.event.pod.grace]] w fun e w' => e = .returned (.int .i64 (bif msgB m then 0 else 4)) ∧ Below w.heap.size w w' := by
 have HLT := Lib.hid hLt
 have HL := Lib.hid hL
 have H := Lib.hid h
 clear hLt hL h
 obtain ⟨w2, hw2⟩ : ∃ v, w.alloc (.cells #[.int .i64 m.kind, .int .i64 m.num, .int .i64 m.reply.code, .int .i64 m.reply.uid, .int .i64 m.reply.id, .int .u64 m.reply.rev, .string m.reply.data, .slice PA m.reply.pods.length pc, .slice UA m.reply.use.length uc, .int .i64 m.event.kind, .int .u64 m.event.rev, .int .i64 m.event.pod.uid, .int .u64 m.event.pod.rev, .string m.event.pod.spec.name, .slice LA m.event.pod.spec.labels.length lc, .slice IA m.event.pod.spec.init.length ic, .slice MA m.event.pod.spec.main.length mc, .int .i64 m.event.pod.spec.restart, .int .i64 m.event.pod.spec.grace, .int .i64 m.event.pod.spec.prio, .int .i64 m.event.pod.phase, .slice RA m.event.pod.rs.length rc, .int .i64 m.event.pod.mark, .int .i64 m.event.pod.grace] 50) = v := ⟨_, rfl⟩
 have B2 := Lib.hid (show Below w.heap.size w w2 by rw [← hw2]; exact (Below.refl _ _).alloc (Nat.le_refl _) _)
 have X2 := Lib.hid (show w2.heap[w.heap.size]? = some (.cells #[.int .i64 m.kind, .int .i64 m.num, .int .i64 m.reply.code, .int .i64 m.reply.uid, .int .i64 m.reply.id, .int .u64 m.reply.rev, .string m.reply.data, .slice PA m.reply.pods.length pc, .slice UA m.reply.use.length uc, .int .i64 m.event.kind, .int .u64 m.event.rev, .int .i64 m.event.pod.uid, .int .u64 m.event.pod.rev, .string m.event.pod.spec.name, .slice LA m.event.pod.spec.labels.length lc, .slice IA m.event.pod.spec.init.length ic, .slice MA m.event.pod.spec.main.length mc, .int .i64 m.event.pod.spec.restart, .int .i64 m.event.pod.spec.grace, .int .i64 m.event.pod.spec.prio, .int .i64 m.event.pod.phase, .slice RA m.event.pod.rs.length rc, .int .i64 m.event.pod.mark, .int .i64 m.event.pod.grace] 50) by rw [← hw2]; exact heap_alloc_new w _)
 have RG := Lib.hid (range_at X2.out 0 [.int .i64 m.kind, .int .i64 m.num, .int .i64 m.reply.code, .int .i64 m.reply.uid, .int .i64 m.reply.id, .int .u64 m.reply.rev, .string m.reply.data, .slice PA m.reply.pods.length pc, .slice UA m.reply.use.length uc, .int .i64 m.event.kind, .int .u64 m.event.rev, .int .i64 m.event.pod.uid, .int .u64 m.event.pod.rev, .string m.event.pod.spec.name, .slice LA m.event.pod.spec.labels.length lc, .slice IA m.event.pod.spec.init.length ic, .slice MA m.event.pod.spec.main.length mc, .int .i64 m.event.pod.spec.restart, .int .i64 m.event.pod.spec.grace, .int .i64 m.event.pod.spec.prio, .int .i64 m.event.pod.phase, .slice RA m.event.pod.rs.length rc, .int .i64 m.event.pod.mark, .int .i64 m.event.pod.grace] rfl)
 go_enter Tryz.func24, Tryz.ntmps24
 go_wp2_with (refine wpList_load_mid rfl _ _ rfl _ _ rfl _ _ RG.out Tryz.underlying50 rfl (by kernel_rfl) ?_)
 refine (msgB_any m PA pc UA uc LA lc IA ic MA mc RA rc w2 HLT.out (HL.out.below B2.out) (H.out.below B2.out)).mono ?_
 rintro e w3 ⟨rfl, hb3⟩
 clear hw2 RG
 have B3 := Lib.hid (B2.out.trans (hb3.mono B2.out.size))
 have X3 := Lib.hid ((hb3.block w.heap.size (lt_of_block X2.out)).trans X2.out)
 clear hb3 X2
 as_aux_lemma =>
  go_wp2_with fail
  refine (shape_any (msgB m) w3).mono ?_
  rintro e w4 ⟨rfl, rfl⟩
  go_wp2
  go_ret
  exact ⟨rfl, B3.out⟩

end Tl
end Go.Proofs.YtalnncgomlibbaaGreatDoor
