/-
 What writes events (package tell), and tell.Bytes: the bytes of a message, or that it may not be. What was there is left as it was. Conditions: as TellPut.
-/
import Derived.Test.YtalnncgomlibbaaGreatDoorTellPut2
set_option linter.unusedVariables false
set_option linter.unusedSimpArgs false
namespace Go.Proofs.YtalnncgomlibbaaGreatDoor
open Go.ChangeShapes Go.WideShapes Go.ChangeAt Go.RowKit Go.Lib
open LebMath WirePure Sd Wire SpecOwn SpecRef Book Pk
namespace Tl
theorem pod_sure {p : Pd} (h : podB p = true) : (checkV p.spec).1 = 0 := by
 unfold podB at h
 simp only [Bool.and_eq_true, decide_eq_true_eq] at h
 exact h.1.1.1.1.1.2
theorem msg_parts {m : Mg} (h : msgB m = true) (hr : revsM m) :
 (m.kind = 1 ∧ replyC.ok m.reply ∧ (∀ p ∈ m.reply.pods, podC.ok p ∧ (checkV p.spec).1 = 0) ∧ m.event = zeroE) ∨
 (m.kind = 2 ∧ eventC.ok m.event ∧ (hasB m.event.kind = true → podC.ok m.event.pod ∧ (checkV m.event.pod.spec).1 = 0) ∧ m.reply = zeroR) := by
 unfold msgB at h
 rw [Bool.and_eq_true] at h
 obtain ⟨h0, h⟩ := h
 split at h
 · next e =>
   rw [Bool.and_eq_true] at h
   refine .inl ⟨e, reply_ok h.2 hr.1, fun p hp => ?_, (noEvent_iff _).1 h.1⟩
   have h2 := h.2
   unfold replyB at h2
   simp only [Bool.and_eq_true, decide_eq_true_eq, List.all_eq_true] at h2
   have h3 := h2.1.1.2 p hp
   exact ⟨pod_ok h3 (hr.1.2 p hp), pod_sure h3⟩
 · split at h
   · next e =>
     rw [Bool.and_eq_true] at h
     refine .inr ⟨e, event_ok h.2 hr.2.1 hr.2.2, fun hk => ?_, (noReply_iff _).1 h.1⟩
     have h2 := h.2
     unfold eventB at h2
     rw [hk, Bool.true_and, Bool.or_eq_true, Bool.and_eq_true] at h2
     have h3 : podB m.event.pod = true := by
      rcases h2 with h2 | h2
      · exact h2
      · have h4 := inB_iff.1 h2.1
        have h5 := inB_iff.1 hk
        omega
     exact ⟨pod_ok h3 hr.2.2, pod_sure h3⟩
   · simp at h
set_option maxRecDepth 100000 in
set_option maxHeartbeats 4000000 in
theorem event_wr (g : Nat) (D : Nat → Prop) (c : Int) (xs : List UInt8) (u : Ev) (LA : Option Addr) (lc : Nat) (IA : Option Addr) (ic : Nat) (MA : Option Addr) (mc : Nat) (RA : Option Addr) (rc : Nat) (hok : eventC.ok u) (hr : u.rev < 18446744073709551616) (hpo : hasB u.kind = true → podC.ok u.pod ∧ (checkV u.pod.spec).1 = 0) (hLt : LightP u.pod) (hz : xs.length + 1000000000 ≤ 140737488355328) (w0 w : World) (hb : Below w0.heap.size w0 w) (hD : ∀ k, k < w0.heap.size → D k) (hP : u.pod.In w0 LA lc IA ic MA mc RA) (hL : SLaid w0) (h : Wr w g D c xs) :
 Calls Tryz.prog 63 #[.pointer (some ⟨g, 0, none⟩), .agg #[.int .i64 u.kind, .int .u64 u.rev, .int .i64 u.pod.uid, .int .u64 u.pod.rev, .string u.pod.spec.name, .slice LA u.pod.spec.labels.length lc, .slice IA u.pod.spec.init.length ic, .slice MA u.pod.spec.main.length mc, .int .i64 u.pod.spec.restart, .int .i64 u.pod.spec.grace, .int .i64 u.pod.spec.prio, .int .i64 u.pod.phase, .slice RA u.pod.rs.length rc, .int .i64 u.pod.mark, .int .i64 u.pod.grace]] w fun e w' => e = .returned (.tuple #[]) ∧ Wr w' g D c (addB c xs (eventC.put u)) ∧ Kept D w w' := by
 have HOK := Lib.hid hok
 have HLT := Lib.hid hLt
 have HL := Lib.hid hL
 have HP := Lib.hid hP
 have HZ := Lib.hid hz
 have HB := Lib.hid hb
 have HD := Lib.hid hD
 have HPO := Lib.hid hpo
 have L1 := Lib.hid (show (ekindC.put u.kind).length ≤ 10 from int_put_len hok.1.1.1)
 have L2 := Lib.hid (leb_le_ten (n := u.rev) hr)
 have HR := Lib.hid hr
 clear hok hz hb hD hLt hL hP hpo hr
 obtain ⟨w1, hw1⟩ : ∃ v, w.alloc (.cells #[.int .i64 u.kind, .int .u64 u.rev, .int .i64 u.pod.uid, .int .u64 u.pod.rev, .string u.pod.spec.name, .slice LA u.pod.spec.labels.length lc, .slice IA u.pod.spec.init.length ic, .slice MA u.pod.spec.main.length mc, .int .i64 u.pod.spec.restart, .int .i64 u.pod.spec.grace, .int .i64 u.pod.spec.prio, .int .i64 u.pod.phase, .slice RA u.pod.rs.length rc, .int .i64 u.pod.mark, .int .i64 u.pod.grace] 48) = v := ⟨_, rfl⟩
 have hb1 : Below w.heap.size w w1 := by rw [← hw1]; exact (Below.refl _ _).alloc (Nat.le_refl _) _
 have X1 := Lib.hid (show w1.heap[w.heap.size]? = some (.cells #[.int .i64 u.kind, .int .u64 u.rev, .int .i64 u.pod.uid, .int .u64 u.pod.rev, .string u.pod.spec.name, .slice LA u.pod.spec.labels.length lc, .slice IA u.pod.spec.init.length ic, .slice MA u.pod.spec.main.length mc, .int .i64 u.pod.spec.restart, .int .i64 u.pod.spec.grace, .int .i64 u.pod.spec.prio, .int .i64 u.pod.phase, .slice RA u.pod.rs.length rc, .int .i64 u.pod.mark, .int .i64 u.pod.grace] 48) by rw [← hw1]; exact heap_alloc_new w _)
 obtain ⟨D1, hD1⟩ : ∃ D1 : Nat → Prop, D1 = fun k => D k ∨ k = w.heap.size := ⟨_, rfl⟩
 have HD1 := Lib.hid hD1
 have HDX := Lib.hid (show D1 w.heap.size by rw [hD1]; exact .inr rfl)
 have HDD := Lib.hid (show ∀ k, D k → D1 k from fun k hk => by rw [hD1]; exact .inl hk)
 have HW1 := Lib.hid (show Wr w1 g D1 c xs by rw [hD1, ← hw1]; exact h.alloc _)
 have HK0 := Lib.hid (show Kept D w w1 from Kept.of_below hb1 (fun k hk => (h.1 k hk).1))
 have K1 := Lib.hid (Kept.refl D1 w1)
 have C1 := Lib.hid (HB.out.trans (hb1.mono HB.out.size))
 have HDL := Lib.hid (show ∀ k, k < w0.heap.size → D1 k from fun k hk => HDD.out k (HD.out k hk))
 clear hb1 hD1 h
 go_enter Tryz.func63, Tryz.ntmps63
 as_aux_lemma =>
  have c0 := box_cell X1.out 0 rfl
  have HRUN := Lib.hid (num_wr g D1 c xs (u.kind) 5 (by decide) HOK.out.1.1.1 (by have HZ_ := HZ.out; have L1_ := L1.out; have L2_ := L2.out; omega) w1 HW1.out)
  go_wp2_with fail
  refine HRUN.out.mono ?_
  rintro e w2 ⟨rfl, h_, k_⟩
  have HW2 := Lib.hid (show Wr w2 g D1 c (addB c xs (ekindC.put u.kind)) from h_)
  have K2 := Lib.hid (K1.out.trans k_)
  have C2 := Lib.hid (C1.out.trans (k_.below HDL.out))
  have X2 := Lib.hid ((k_.block w.heap.size HDX.out).trans X1.out)
  clear h_ k_ HRUN HW1 K1 C1 X1 hw1 c0
  as_aux_lemma =>
   have c1 := box_cell X2.out 1 rfl
   have HRUN := Lib.hid (big_any g D1 c (addB c xs (ekindC.put u.kind)) u.rev HR.out (fun _ => (by have HZ_ := HZ.out; have L1_ := L1.out; have L2_ := L2.out; have hz_ := addB_len c xs (ekindC.put u.kind); (try simp only [List.length_append] at hz_); omega)) w2 HW2.out)
   go_wp2_with fail
   refine HRUN.out.mono ?_
   rintro e w3 ⟨rfl, h_, k_⟩
   rw [addB_two] at h_
   have HW3 := Lib.hid (show Wr w3 g D1 c (addB c xs (ekindC.put u.kind ++ leb u.rev)) from h_)
   have K3 := Lib.hid (K2.out.trans k_)
   have C3 := Lib.hid (C2.out.trans (k_.below HDL.out))
   have X3 := Lib.hid ((k_.block w.heap.size HDX.out).trans X2.out)
   clear h_ k_ HRUN HW2 K2 C2 X2 c1
   as_aux_lemma =>
    have c0 := box_cell X3.out 0 rfl
    obtain ⟨b, hb⟩ : ∃ b, hasB u.kind = b := ⟨_, rfl⟩
    have HBV := Lib.hid hb
    have HRUN := Lib.hid (hasB_any u.kind w3)
    rw [hb] at HRUN
    clear hb
    go_wp2_with fail
    refine HRUN.out.mono ?_
    rintro e_ wy_ ⟨rfl, rfl⟩
    clear c0 HRUN
    cases b with
    | false =>
     go_wp2
     go_end0
     refine ⟨rfl, ?_, HK0.out.trans (K3.out.mono HDD.out)⟩
     have hE : ekindC.put u.kind ++ leb u.rev = eventC.put u := by
      rw [show eventC.put u = (ekindC.put u.kind ++ leb u.rev) ++ (podIfC u.kind).put u.pod from rfl]
      unfold podIfC
      rw [if_neg (by rw [HBV.out]; decide)]
      exact (List.append_nil _).symm
     have hW_ := HW3.out
     rw [hE] at hW_
     exact hW_.less HDD.out
    | true =>
     as_aux_lemma =>
      have RG := Lib.hid (range_at X3.out 2 [.int .i64 u.pod.uid, .int .u64 u.pod.rev, .string u.pod.spec.name, .slice LA u.pod.spec.labels.length lc, .slice IA u.pod.spec.init.length ic, .slice MA u.pod.spec.main.length mc, .int .i64 u.pod.spec.restart, .int .i64 u.pod.spec.grace, .int .i64 u.pod.spec.prio, .int .i64 u.pod.phase, .slice RA u.pod.rs.length rc, .int .i64 u.pod.mark, .int .i64 u.pod.grace] rfl)
      have HRUN := Lib.hid (pod_wr g D1 c (addB c xs (ekindC.put u.kind ++ leb u.rev)) u.pod LA lc IA ic MA mc RA rc (HPO.out HBV.out).1 HLT.out (HPO.out HBV.out).2 (by have HZ_ := HZ.out; have L1_ := L1.out; have L2_ := L2.out; have hz_ := addB_len c xs (ekindC.put u.kind ++ leb u.rev); (try simp only [List.length_append] at hz_); omega) w0 w3 C3.out HDL.out HP.out HL.out HW3.out)
      go_wp2_with (refine wpList_load_mid rfl _ _ rfl _ _ rfl _ _ RG.out Tryz.underlying42 rfl (by kernel_rfl) ?_)
      refine HRUN.out.mono ?_
      rintro e w4 ⟨rfl, h_, k_⟩
      rw [addB_two] at h_
      have HW4 := Lib.hid (show Wr w4 g D1 c (addB c xs (ekindC.put u.kind ++ leb u.rev ++ podC.put u.pod)) from h_)
      have K4 := Lib.hid (K3.out.trans k_)
      have C4 := Lib.hid (C3.out.trans (k_.below HDL.out))
      have X4 := Lib.hid ((k_.block w.heap.size HDX.out).trans X3.out)
      clear h_ k_ HRUN RG HW3 K3 C3 X3 
      as_aux_lemma =>
       go_wp2
       go_end0
       refine ⟨rfl, ?_, HK0.out.trans (K4.out.mono HDD.out)⟩
       have hE : ekindC.put u.kind ++ leb u.rev ++ podC.put u.pod = eventC.put u := by
        rw [show eventC.put u = (ekindC.put u.kind ++ leb u.rev) ++ (podIfC u.kind).put u.pod from rfl]
        unfold podIfC
        rw [if_pos HBV.out]
       have hW_ := HW4.out
       rw [hE] at hW_
       exact hW_.less HDD.out

set_option maxRecDepth 100000 in
set_option maxHeartbeats 4000000 in
theorem bytes_any (m : Mg) (PA : Option Addr) (pc : Nat) (UA : Option Addr) (uc : Nat) (LA : Option Addr) (lc : Nat) (IA : Option Addr) (ic : Nat) (MA : Option Addr) (mc : Nat) (RA : Option Addr) (rc : Nat) (w : World) (hLt : LightM m) (hL : SLaid w) (h : m.In w PA UA LA lc IA ic MA mc RA) :
 Calls Tryz.prog 26 #[.agg #[.int .i64 m.kind, .int .i64 m.num, .int .i64 m.reply.code, .int .i64 m.reply.uid, .int .i64 m.reply.id, .int .u64 m.reply.rev, .string m.reply.data, .slice PA m.reply.pods.length pc, .slice UA m.reply.use.length uc, .int .i64 m.event.kind, .int .u64 m.event.rev, .int .i64 m.event.pod.uid, .int .u64 m.event.pod.rev, .string m.event.pod.spec.name, .slice LA m.event.pod.spec.labels.length lc, .slice IA m.event.pod.spec.init.length ic, .slice MA m.event.pod.spec.main.length mc, .int .i64 m.event.pod.spec.restart, .int .i64 m.event.pod.spec.grace, .int .i64 m.event.pod.spec.prio, .int .i64 m.event.pod.phase, .slice RA m.event.pod.rs.length rc, .int .i64 m.event.pod.mark, .int .i64 m.event.pod.grace]] w fun e w' => Below w.heap.size w w' ∧ ((msgB m = true ∧ e = .returned (.tuple #[.string ⟨(msgC.put m).toArray⟩, .int .i64 0])) ∨ (msgB m = false ∧ e = .returned (.tuple #[.string ⟨#[]⟩, .int .i64 4]))) := by
 have HLT := Lib.hid hLt
 have HL := Lib.hid hL
 have H := Lib.hid h
 obtain ⟨w1, hw1⟩ : ∃ v, w.alloc (.cells #[.int .i64 m.kind, .int .i64 m.num, .int .i64 m.reply.code, .int .i64 m.reply.uid, .int .i64 m.reply.id, .int .u64 m.reply.rev, .string m.reply.data, .slice PA m.reply.pods.length pc, .slice UA m.reply.use.length uc, .int .i64 m.event.kind, .int .u64 m.event.rev, .int .i64 m.event.pod.uid, .int .u64 m.event.pod.rev, .string m.event.pod.spec.name, .slice LA m.event.pod.spec.labels.length lc, .slice IA m.event.pod.spec.init.length ic, .slice MA m.event.pod.spec.main.length mc, .int .i64 m.event.pod.spec.restart, .int .i64 m.event.pod.spec.grace, .int .i64 m.event.pod.spec.prio, .int .i64 m.event.pod.phase, .slice RA m.event.pod.rs.length rc, .int .i64 m.event.pod.mark, .int .i64 m.event.pod.grace] 50) = v := ⟨_, rfl⟩
 have B1 := Lib.hid (show Below w.heap.size w w1 by rw [← hw1]; exact (Below.refl _ _).alloc (Nat.le_refl _) _)
 have X1 := Lib.hid (show w1.heap[w.heap.size]? = some (.cells #[.int .i64 m.kind, .int .i64 m.num, .int .i64 m.reply.code, .int .i64 m.reply.uid, .int .i64 m.reply.id, .int .u64 m.reply.rev, .string m.reply.data, .slice PA m.reply.pods.length pc, .slice UA m.reply.use.length uc, .int .i64 m.event.kind, .int .u64 m.event.rev, .int .i64 m.event.pod.uid, .int .u64 m.event.pod.rev, .string m.event.pod.spec.name, .slice LA m.event.pod.spec.labels.length lc, .slice IA m.event.pod.spec.init.length ic, .slice MA m.event.pod.spec.main.length mc, .int .i64 m.event.pod.spec.restart, .int .i64 m.event.pod.spec.grace, .int .i64 m.event.pod.spec.prio, .int .i64 m.event.pod.phase, .slice RA m.event.pod.rs.length rc, .int .i64 m.event.pod.mark, .int .i64 m.event.pod.grace] 50) by rw [← hw1]; exact heap_alloc_new w _)
 have RG := Lib.hid (range_at X1.out 0 [.int .i64 m.kind, .int .i64 m.num, .int .i64 m.reply.code, .int .i64 m.reply.uid, .int .i64 m.reply.id, .int .u64 m.reply.rev, .string m.reply.data, .slice PA m.reply.pods.length pc, .slice UA m.reply.use.length uc, .int .i64 m.event.kind, .int .u64 m.event.rev, .int .i64 m.event.pod.uid, .int .u64 m.event.pod.rev, .string m.event.pod.spec.name, .slice LA m.event.pod.spec.labels.length lc, .slice IA m.event.pod.spec.init.length ic, .slice MA m.event.pod.spec.main.length mc, .int .i64 m.event.pod.spec.restart, .int .i64 m.event.pod.spec.grace, .int .i64 m.event.pod.spec.prio, .int .i64 m.event.pod.phase, .slice RA m.event.pod.rs.length rc, .int .i64 m.event.pod.mark, .int .i64 m.event.pod.grace] rfl)
 clear h hL hLt
 go_enter Tryz.func26, Tryz.ntmps26
 go_wp2_with (refine wpList_load_mid rfl _ _ rfl _ _ rfl _ _ RG.out Tryz.underlying50 rfl (by kernel_rfl) ?_)
 refine (check_code m PA pc UA uc LA lc IA ic MA mc RA rc w1 HLT.out (HL.out.below B1.out) (H.out.below B1.out)).mono ?_
 rintro e w2 ⟨rfl, hb2⟩
 have B2 := Lib.hid (B1.out.trans (hb2.mono B1.out.size))
 have X2 := Lib.hid ((hb2.block w.heap.size (lt_of_block X1.out)).trans X1.out)
 clear hb2 X1 RG hw1 B1
 obtain ⟨b, hb⟩ : ∃ b, msgB m = b := ⟨_, rfl⟩
 rw [hb]
 have HB1 := Lib.hid hb
 clear hb
 cases b with
 | false =>
  go_wp2
  go_ret2
  exact ⟨B2.out, .inr ⟨HB1.out, rfl⟩⟩
 | true =>
  go_wp2_with fail
  refine (write_any w2).mono ?_
  rintro e w3 ⟨rfl, h3, hb3, _⟩
  have B3 := Lib.hid (B2.out.trans (hb3.mono B2.out.size))
  have X3 := Lib.hid ((hb3.block w.heap.size (lt_of_block X2.out)).trans X2.out)
  have hgx : w.heap.size < w2.heap.size := lt_of_block X2.out
  obtain ⟨g, hg⟩ : ∃ g, w2.heap.size = g := ⟨_, rfl⟩
  rw [hg] at h3 hgx ⊢
  obtain ⟨DD, hDD⟩ : ∃ DD : Nat → Prop, DD = (· < g) := ⟨_, rfl⟩
  have HDG := Lib.hid (show ∀ k, k < w.heap.size + 1 → DD k from fun k hk => by rw [hDD]; show k < g; omega)
  have H3 := Lib.hid (show Wr w3 g DD 0 [] by rw [hDD]; exact h3)
  have HOK := Lib.hid (msg_ok HB1.out H.out.revs)
  clear h3 hb3 hg hDD hgx X2 B2
  as_aux_lemma =>
   have c0 := box_cell X3.out 0 rfl
   have HRUN := Lib.hid (num_wr g DD 0 [] m.kind 2 (by decide) HOK.out.1.1.1 (by decide) w3 H3.out)
   go_wp2_with fail
   refine HRUN.out.mono ?_
   rintro e w4 ⟨rfl, h_, k_⟩
   rw [addB_no, List.nil_append] at h_
   have H4 := Lib.hid (show Wr w4 g DD 0 (mkindC.put m.kind) from h_)
   have X4 := Lib.hid ((k_.block w.heap.size (HDG.out _ (by omega))).trans X3.out)
   have B4 := Lib.hid (B3.out.trans (k_.below (fun k hk => HDG.out k (by omega))))
   clear h_ k_ HRUN X3 H3 B3 c0
   as_aux_lemma =>
    have L1 : (mkindC.put m.kind).length ≤ 10 := int_put_len HOK.out.1.1.1
    have L2 : (uidC.put m.num).length ≤ 10 := int_put_len HOK.out.1.1.2
    have HL12 := Lib.hid (show (mkindC.put m.kind ++ uidC.put m.num).length ≤ 20 by rw [List.length_append]; omega)
    have c1 := box_cell X4.out 1 rfl
    have HRUN := Lib.hid (num_wr g DD 0 (mkindC.put m.kind) m.num 1073741824 (by decide) HOK.out.1.1.2 (by omega) w4 H4.out)
    clear L1 L2
    go_wp2_with fail
    refine HRUN.out.mono ?_
    rintro e w6 ⟨rfl, h_, k_⟩
    rw [addB_no] at h_
    have H6 := Lib.hid (show Wr w6 g DD 0 (mkindC.put m.kind ++ uidC.put m.num) from h_)
    have X6 := Lib.hid ((k_.block w.heap.size (HDG.out _ (by omega))).trans X4.out)
    have B6 := Lib.hid (B4.out.trans (k_.below (fun k hk => HDG.out k (by omega))))
    clear h_ k_ HRUN X4 H4 B4 c1
    have HLEN := Lib.hid (show (mkindC.put m.kind ++ uidC.put m.num).length + 2000000000 ≤ 140737488355328 by have := HL12.out; omega)
    have HPARTS := Lib.hid (msg_parts HB1.out H.out.revs)
    have c0 := box_cell X6.out 0 rfl
    rcases HPARTS.out with ⟨hk, hyo, hyp, he⟩ | ⟨hk, huo, hup, he⟩
    · have HK := Lib.hid hk
      have HE := Lib.hid he
      rw [hk] at c0
      clear hk he
      as_aux_lemma =>
       have RG := Lib.hid (range_at X6.out 2 [.int .i64 m.reply.code, .int .i64 m.reply.uid, .int .i64 m.reply.id, .int .u64 m.reply.rev, .string m.reply.data, .slice PA m.reply.pods.length pc, .slice UA m.reply.use.length uc] rfl)
       have HRUN := Lib.hid (reply_wr g DD 0 _ m.reply PA pc UA uc hyo hyp HLT.out.reply HLEN.out w w6 B6.out (fun k hk => HDG.out k (by omega)) H.out.reply HL.out H6.out)
       go_wp2_with (refine wpList_load_mid rfl _ _ rfl _ _ rfl _ _ RG.out Tryz.underlying46 rfl (by kernel_rfl) ?_)
       refine HRUN.out.mono ?_
       rintro e w7 ⟨rfl, h_, k_⟩
       rw [addB_no] at h_
       have H7 := Lib.hid h_
       have B7 := Lib.hid (B6.out.trans (k_.below (fun k hk => HDG.out k (by omega))))
       clear h_ k_ HRUN RG X6 H6 B6
       as_aux_lemma =>
        have hE : ((mkindC.put m.kind ++ uidC.put m.num) ++ replyC.put m.reply) = msgC.put m := by
         rw [show msgC.put m = (mkindC.put m.kind ++ uidC.put m.num) ++ (bodyC m.kind).put (m.reply, m.event) from rfl]
         unfold bodyC
         rw [if_pos HK.out]
         rfl
        have h7 := H7.out
        rw [hE] at h7
        have HRUN := Lib.hid (end_ok g DD _ w7 h7)
        clear h7 H7
        go_wp2_with fail
        refine HRUN.out.mono ?_
        rintro e w9 ⟨rfl, rfl⟩
        go_wp2
        go_ret2
        exact ⟨B7.out, .inl ⟨HB1.out, rfl⟩⟩
    · have HK := Lib.hid hk
      have HE := Lib.hid he
      rw [hk] at c0
      clear hk he
      as_aux_lemma =>
       have RG := Lib.hid (range_at X6.out 9 [.int .i64 m.event.kind, .int .u64 m.event.rev, .int .i64 m.event.pod.uid, .int .u64 m.event.pod.rev, .string m.event.pod.spec.name, .slice LA m.event.pod.spec.labels.length lc, .slice IA m.event.pod.spec.init.length ic, .slice MA m.event.pod.spec.main.length mc, .int .i64 m.event.pod.spec.restart, .int .i64 m.event.pod.spec.grace, .int .i64 m.event.pod.spec.prio, .int .i64 m.event.pod.phase, .slice RA m.event.pod.rs.length rc, .int .i64 m.event.pod.mark, .int .i64 m.event.pod.grace] rfl)
       have HRUN := Lib.hid (event_wr g DD 0 _ m.event LA lc IA ic MA mc RA rc huo H.out.rev hup HLT.out.pod (by have := HLEN.out; omega) w w6 B6.out (fun k hk => HDG.out k (by omega)) H.out.pod HL.out H6.out)
       go_wp2_with (refine wpList_load_mid rfl _ _ rfl _ _ rfl _ _ RG.out Tryz.underlying48 rfl (by kernel_rfl) ?_)
       refine HRUN.out.mono ?_
       rintro e w7 ⟨rfl, h_, k_⟩
       rw [addB_no] at h_
       have H7 := Lib.hid h_
       have B7 := Lib.hid (B6.out.trans (k_.below (fun k hk => HDG.out k (by omega))))
       clear h_ k_ HRUN RG X6 H6 B6
       as_aux_lemma =>
        have hE : ((mkindC.put m.kind ++ uidC.put m.num) ++ eventC.put m.event) = msgC.put m := by
         rw [show msgC.put m = (mkindC.put m.kind ++ uidC.put m.num) ++ (bodyC m.kind).put (m.reply, m.event) from rfl]
         unfold bodyC
         rw [if_neg (by rw [HK.out]; decide), if_pos HK.out]
         rfl
        have h7 := H7.out
        rw [hE] at h7
        have HRUN := Lib.hid (end_ok g DD _ w7 h7)
        clear h7 H7
        go_wp2_with fail
        refine HRUN.out.mono ?_
        rintro e w9 ⟨rfl, rfl⟩
        go_wp2
        go_ret2
        exact ⟨B7.out, .inl ⟨HB1.out, rfl⟩⟩

end Tl
end Go.Proofs.YtalnncgomlibbaaGreatDoor
