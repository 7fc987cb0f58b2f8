/-
 The walk of the law TellBytes: it returns true, and leaves all that was there as it was. Conditions: the message's numbers are Go's; the listed variables hold what the program's text lays (Laid).
-/
import Derived.Test.YtljbpelogjmciaaGreatDoorTellF
import Derived.Test.YtljbpelogjmciaaGreatDoorTellRefLine
import Derived.Test.YtljbpelogjmciaaGreatDoorTellD
import Derived.Test.YtljbpelogjmciaaGreatDoorTellC
import Derived.Test.YtljbpelogjmciaaGreatDoorTellA
set_option linter.unusedVariables false
set_option linter.unusedSimpArgs false
namespace Go.Proofs.YtljbpelogjmciaaGreatDoor.TellBytesWalk
open Go.ChangeShapes Go.WideShapes Go.ChangeAt Go.RowKit Go.Lib
open Tl LebMath WirePure Sd Wire SpecOwn SpecRef Book Pk
abbrev yA (m : Mg) (PA : Option Addr) (pc : Nat) (UA : Option Addr) (uc : Nat) (LA : Option Addr) (lc : Nat) (IA : Option Addr) (ic : Nat) (MA : Option Addr) (mc : Nat) (RA : Option Addr) (rc : Nat) : Array Value := #[.int .i64 m.kind, .int .i64 m.num, .int .i64 m.reply.code, .int .i64 m.reply.uid, .int .i64 m.reply.id, .int .u64 m.reply.rev, .string m.reply.data, .slice PA m.reply.pods.length pc, .slice UA m.reply.use.length uc, .int .i64 m.event.kind, .int .u64 m.event.rev, .int .i64 m.event.pod.uid, .int .u64 m.event.pod.rev, .string m.event.pod.spec.name, .slice LA m.event.pod.spec.labels.length lc, .slice IA m.event.pod.spec.init.length ic, .slice MA m.event.pod.spec.main.length mc, .int .i64 m.event.pod.spec.restart, .int .i64 m.event.pod.spec.grace, .int .i64 m.event.pod.spec.prio, .int .i64 m.event.pod.phase, .slice RA m.event.pod.rs.length rc, .int .i64 m.event.pod.mark, .int .i64 m.event.pod.grace]
theorem fit_of {m : Mg} {w : World} {PA UA LA IA MA RA : Option Addr} {lc ic mc : Nat} (hl : LightM m) (h : m.In w PA UA LA lc IA ic MA mc RA)
 (h1 : -9223372036854775808 ≤ m.num ∧ m.num ≤ 9223372036854775807) (h2 : -9223372036854775808 ≤ m.reply.code ∧ m.reply.code ≤ 9223372036854775807) (h3 : -9223372036854775808 ≤ m.reply.uid ∧ m.reply.uid ≤ 9223372036854775807) (h4 : -9223372036854775808 ≤ m.reply.id ∧ m.reply.id ≤ 9223372036854775807) : FitM m :=
 ⟨h1, ⟨h2, h3, h4, h.revs.1.1, hl.reply.data, by have := hl.reply.np; omega, by have := hl.reply.nu; omega⟩, h.revs.2.1, by have := hl.pod.spec.1.1; omega⟩
def FW (m : Mg) (PA : Option Addr) (pc : Nat) (UA : Option Addr) (uc : Nat) (LA : Option Addr) (lc : Nat) (IA : Option Addr) (ic : Nat) (MA : Option Addr) (mc : Nat) (RA : Option Addr) (rc : Nat) (bM : Nat) : Nat → Value → World → Prop
 | 0 => fun v _ => v = .agg (yA m PA pc UA uc LA lc IA ic MA mc RA rc)
 | 1 => fun v _ => v = .string ⟨(lineM m).toArray⟩
 | 2 => fun v _ => v = .agg (yA m PA pc UA uc LA lc IA ic MA mc RA rc)
 | 3 => fun v _ => v = .string ⟨(lineM m).toArray⟩
 | _ => fun v _ => v = .bool false
theorem FW_keep (m : Mg) (PA : Option Addr) (pc : Nat) (UA : Option Addr) (uc : Nat) (LA : Option Addr) (lc : Nat) (IA : Option Addr) (ic : Nat) (MA : Option Addr) (mc : Nat) (RA : Option Addr) (rc : Nat) (bM : Nat) (i_ : Nat) (v_ : Value) (w_ w2_ : World) (h_ : FW m PA pc UA uc LA lc IA ic MA mc RA rc bM i_ v_ w_) (hb_ : Below w_.heap.size w_ w2_) : FW m PA pc UA uc LA lc IA ic MA mc RA rc bM i_ v_ w2_ := by
 unfold FW at h_ ⊢
 split at h_ <;> exact h_
set_option maxRecDepth 100000 in
set_option maxHeartbeats 4000000 in
theorem walk (m : Mg) (PA : Option Addr) (pc : Nat) (UA : Option Addr) (uc : Nat) (LA : Option Addr) (lc : Nat) (IA : Option Addr) (ic : Nat) (MA : Option Addr) (mc : Nat) (RA : Option Addr) (rc : Nat) (w : World) (hL : Laid w) (h : m.In w PA UA LA lc IA ic MA mc RA)
 (hd : (-9223372036854775808 ≤ m.num ∧ m.num ≤ 9223372036854775807) ∧ (-9223372036854775808 ≤ m.reply.code ∧ m.reply.code ≤ 9223372036854775807) ∧ (-9223372036854775808 ≤ m.reply.uid ∧ m.reply.uid ≤ 9223372036854775807) ∧ (-9223372036854775808 ≤ m.reply.id ∧ m.reply.id ≤ 9223372036854775807)) :
 Calls Tryz.prog 5 #[.agg #[.int .i64 m.kind, .int .i64 m.num, .int .i64 m.reply.code, .int .i64 m.reply.uid, .int .i64 m.reply.id, .int .u64 m.reply.rev, .string m.reply.data, .slice PA m.reply.pods.length pc, .slice UA m.reply.use.length uc, .int .i64 m.event.kind, .int .u64 m.event.rev, .int .i64 m.event.pod.uid, .int .u64 m.event.pod.rev, .string m.event.pod.spec.name, .slice LA m.event.pod.spec.labels.length lc, .slice IA m.event.pod.spec.init.length ic, .slice MA m.event.pod.spec.main.length mc, .int .i64 m.event.pod.spec.restart, .int .i64 m.event.pod.spec.grace, .int .i64 m.event.pod.spec.prio, .int .i64 m.event.pod.phase, .slice RA m.event.pod.rs.length rc, .int .i64 m.event.pod.mark, .int .i64 m.event.pod.grace]] w fun e w' => e = .returned (.bool true) ∧ Below w.heap.size w w' := by
 have HL := Lib.hid hL
 have H := Lib.hid h
 have HD := Lib.hid hd
 clear hL h hd
 obtain ⟨bM, hbM⟩ : ∃ b, w.heap.size = b := ⟨_, rfl⟩
 obtain ⟨w0, hw0⟩ : ∃ v, w.alloc (.cells #[.int .i64 m.kind, .int .i64 m.num, .int .i64 m.reply.code, .int .i64 m.reply.uid, .int .i64 m.reply.id, .int .u64 m.reply.rev, .string m.reply.data, .slice PA m.reply.pods.length pc, .slice UA m.reply.use.length uc, .int .i64 m.event.kind, .int .u64 m.event.rev, .int .i64 m.event.pod.uid, .int .u64 m.event.pod.rev, .string m.event.pod.spec.name, .slice LA m.event.pod.spec.labels.length lc, .slice IA m.event.pod.spec.init.length ic, .slice MA m.event.pod.spec.main.length mc, .int .i64 m.event.pod.spec.restart, .int .i64 m.event.pod.spec.grace, .int .i64 m.event.pod.spec.prio, .int .i64 m.event.pod.phase, .slice RA m.event.pod.rs.length rc, .int .i64 m.event.pod.mark, .int .i64 m.event.pod.grace] 50) = v := ⟨_, rfl⟩
 have B0 := Lib.hid (show Below w.heap.size w w0 by rw [← hw0]; exact (Below.refl _ _).alloc (Nat.le_refl _) _)
 have X0 := Lib.hid (show w0.heap[bM]? = some (.cells (yA m PA pc UA uc LA lc IA ic MA mc RA rc) 50 (0, 0)) by rw [← hw0, ← hbM]; exact heap_alloc_new w _)
 have RG := Lib.hid (range_at X0.out 0 (yA m PA pc UA uc LA lc IA ic MA mc RA rc).toList rfl)
 go_enter Tryz.func5, Tryz.ntmps5
 go_wp2_with (first | (refine wpList_load_mid rfl 50 _ rfl _ _ rfl _ _ RG.out Tryz.underlying50 rfl (by kernel_rfl) ?_) | (refine wpList_load_midG rfl 50 _ rfl _ _ rfl _ _ RG.out Tryz.underlying50 rfl (by kernel_rfl) ?_))
 refine (lightM_any m PA pc UA uc LA lc IA ic MA mc RA rc w0 (H.out.below B0.out)).mono ?_
 rintro e w1 ⟨rfl, hb1⟩
 have B1 := Lib.hid (B0.out.trans (hb1.mono B0.out.size))
 have X1 := Lib.hid ((hb1.block bM (lt_of_block X0.out)).trans X0.out)
 clear hb1 X0 RG
 clear hw0 hbM
 cases hlm : lightMB m with
 | false =>
  go_wp2_with fail
  refine (works_any w1 (HL.out.below B1.out)).mono ?_
  rintro e wz ⟨rfl, hbz⟩
  have HZ := Lib.hid (show Below w.heap.size w wz from B1.out.trans (hbz.mono B1.out.size))
  clear hbz
  go_wp2
  go_ret
  exact ⟨rfl, HZ.out⟩
 | true =>
  have HLT := Lib.hid (lightMB_iff.1 hlm)
  have HFT := Lib.hid (show FitM m from fit_of HLT.out H.out HD.out.1 HD.out.2.1 HD.out.2.2.1 HD.out.2.2.2)
  clear hlm
  have RG := Lib.hid (range_at X1.out 0 (yA m PA pc UA uc LA lc IA ic MA mc RA rc).toList rfl)
  go_wp2_with (first | (refine wpList_load_mid rfl 50 _ rfl _ _ rfl _ _ RG.out Tryz.underlying50 rfl (by kernel_rfl) ?_) | (refine wpList_load_midG rfl 50 _ rfl _ _ rfl _ _ RG.out Tryz.underlying50 rfl (by kernel_rfl) ?_))
  refine (bytes_any m PA pc UA uc LA lc IA ic MA mc RA rc w1 HLT.out (HL.out.below B1.out).spec (H.out.below B1.out)).mono ?_
  rintro e w2 ⟨hb2, hor⟩
  have B2 := Lib.hid (B1.out.trans (hb2.mono B1.out.size))
  have X2 := Lib.hid ((hb2.block bM (lt_of_block X1.out)).trans X1.out)
  clear hb2 X1 RG
  have HOR := Lib.hid hor
  clear hor
  have B3 := B2
  have X3 := X2
  rcases HOR.out with ⟨hmb, rfl⟩ | ⟨hmb, rfl⟩
  · have HMB := Lib.hid hmb
    clear hmb HOR
    obtain ⟨tB, htB⟩ : ∃ t : ByteArray, (⟨(msgC.put m).toArray⟩ : ByteArray) = t := ⟨_, rfl⟩
    have HTB := Lib.hid htB
    rw [htB]
    clear htB
    go_wp2_with fail
    clear B2 X2
    refine Loose.wp_region_walk (by kernel_rfl) (by kernel_rfl) (FW m PA pc UA uc LA lc IA ic MA mc RA rc bM) (FW_keep m PA pc UA uc LA lc IA ic MA mc RA rc bM) ?_ ?_
    · refine ⟨?_, ?_, ?_, ?_, ?_, trivial⟩
      · intro a w1 hfr hdep
        have hq_ := (hfr.below.block bM (lt_of_block X3.out)).trans X3.out
        have f0 : a.tmps.getD 1 undef = .pointer (some ⟨bM, 0, none⟩) := hfr.slot 1 (by kernel_rfl)
        refine Loose.Step.value rfl (v := .agg (yA m PA pc UA uc LA lc IA ic MA mc RA rc)) (w' := w1) ?_ rfl (Below.refl _ _)
        exact exec_load rfl f0 (range_at hq_ 0 (yA m PA pc UA uc LA lc IA ic MA mc RA rc).toList rfl) Tryz.underlying50 rfl (by kernel_rfl)
      · intro a w1 hfr hdep
        have e0 : a.tmps.getD 14 undef = .agg (yA m PA pc UA uc LA lc IA ic MA mc RA rc) := Loose.dep_of hdep 0 14 (by kernel_rfl)
        refine Loose.Step.call rfl (f := 27) (args := #[.agg (yA m PA pc UA uc LA lc IA ic MA mc RA rc)]) ?_ ?_
        · simp [go_sem, Act.eval, e0]
        · refine (line_any m HFT.out PA pc UA uc LA lc IA ic MA mc RA rc w1 (HL.out.below (B3.out.trans (hfr.below.mono B3.out.size)))).mono ?_
          rintro e w2 ⟨rfl, hb⟩
          exact ⟨_, rfl, rfl, hb⟩
      · intro a w1 hfr hdep
        have hq_ := (hfr.below.block bM (lt_of_block X3.out)).trans X3.out
        have f0 : a.tmps.getD 1 undef = .pointer (some ⟨bM, 0, none⟩) := hfr.slot 1 (by kernel_rfl)
        refine Loose.Step.value rfl (v := .agg (yA m PA pc UA uc LA lc IA ic MA mc RA rc)) (w' := w1) ?_ rfl (Below.refl _ _)
        exact exec_load rfl f0 (range_at hq_ 0 (yA m PA pc UA uc LA lc IA ic MA mc RA rc).toList rfl) Tryz.underlying50 rfl (by kernel_rfl)
      · intro a w1 hfr hdep
        have e0 : a.tmps.getD 16 undef = .agg (yA m PA pc UA uc LA lc IA ic MA mc RA rc) := Loose.dep_of hdep 2 16 (by kernel_rfl)
        refine Loose.Step.call rfl (f := 28) (args := #[.agg (yA m PA pc UA uc LA lc IA ic MA mc RA rc)]) ?_ ?_
        · simp [go_sem, Act.eval, e0]
        · refine (RefLine.refline_any m PA pc UA uc LA lc IA ic MA mc RA rc HFT.out w1).mono ?_
          rintro e w2 ⟨rfl, hb⟩
          exact ⟨_, rfl, rfl, hb⟩
      · intro a w1 hfr hdep
        have e0 : a.tmps.getD 15 undef = .string ⟨(lineM m).toArray⟩ := Loose.dep_of hdep 1 15 (by kernel_rfl)
        have e1 : a.tmps.getD 17 undef = .string ⟨(lineM m).toArray⟩ := Loose.dep_of hdep 3 17 (by kernel_rfl)
        refine Loose.Step.value rfl (v := .bool false) (w' := w1) ?_ rfl (Below.refl _ _)
        simp [go_sem, Act.eval, e0, e1]
    · intro v0 v1 v2 v3 v4 w4 hb8 hC
      have hlast : v4 = .bool false := hC.2
      subst hlast
      have hb4 := hb8
      have RG := Lib.hid X3.out
      have B4 := Lib.hid (B3.out.trans (hb4.mono B3.out.size))
      have X4 := Lib.hid ((hb4.block bM (lt_of_block X3.out)).trans X3.out)
      clear hb4 X3 RG
      clear hC hb8
      simp only [SpecOwn.put_lit, List.set_cons_succ, List.set_cons_zero]
      have RG := Lib.hid (range_at X4.out 0 (yA m PA pc UA uc LA lc IA ic MA mc RA rc).toList rfl)
      go_wp2_with (first | (refine wpList_load_mid rfl 50 _ rfl _ _ rfl _ _ RG.out Tryz.underlying50 rfl (by kernel_rfl) ?_) | (refine wpList_load_midG rfl 50 _ rfl _ _ rfl _ _ RG.out Tryz.underlying50 rfl (by kernel_rfl) ?_))
      refine (refcheck_any m PA pc UA uc LA lc IA ic MA mc RA rc HLT.out w4 (HL.out.below B4.out).spec (H.out.below B4.out)).mono ?_
      rw [HMB.out]
      rintro e w5 ⟨rfl, hb5⟩
      have B5 := Lib.hid (B4.out.trans (hb5.mono B4.out.size))
      have X5 := Lib.hid ((hb5.block bM (lt_of_block X4.out)).trans X4.out)
      clear hb5 X4 RG
      have RG := Lib.hid (range_at X5.out 0 (yA m PA pc UA uc LA lc IA ic MA mc RA rc).toList rfl)
      go_wp2_with (first | (refine wpList_load_mid rfl 50 _ rfl _ _ rfl _ _ RG.out Tryz.underlying50 rfl (by kernel_rfl) ?_) | (refine wpList_load_midG rfl 50 _ rfl _ _ rfl _ _ RG.out Tryz.underlying50 rfl (by kernel_rfl) ?_))
      refine (RefBytes.refbytes_any m PA pc UA uc LA lc IA ic MA mc RA rc HMB.out HLT.out w5 (H.out.below B5.out)).mono ?_
      rw [show bx (msgC.put m) = tB from HTB.out]
      rintro e w6 ⟨rfl, hb6⟩
      have B6 := Lib.hid (B5.out.trans (hb6.mono B5.out.size))
      have X6 := Lib.hid ((hb6.block bM (lt_of_block X5.out)).trans X5.out)
      clear hb6 X5 RG
      have htt : (tB.toList == tB.toList) = true := by simp
      go_wp2_with fail
      refine (works_any w6 (HL.out.below B6.out)).mono ?_
      rintro e wz ⟨rfl, hbz⟩
      have HZ := Lib.hid (show Below w.heap.size w wz from B6.out.trans (hbz.mono B6.out.size))
      clear hbz
      go_wp2
      go_ret
      exact ⟨rfl, HZ.out⟩
  · have HMB := Lib.hid hmb
    clear hmb HOR
    go_wp2_with fail
    clear B2 X2
    refine Loose.wp_region_walk (by kernel_rfl) (by kernel_rfl) (FW m PA pc UA uc LA lc IA ic MA mc RA rc bM) (FW_keep m PA pc UA uc LA lc IA ic MA mc RA rc bM) ?_ ?_
    · refine ⟨?_, ?_, ?_, ?_, ?_, trivial⟩
      · intro a w1 hfr hdep
        have hq_ := (hfr.below.block bM (lt_of_block X3.out)).trans X3.out
        have f0 : a.tmps.getD 1 undef = .pointer (some ⟨bM, 0, none⟩) := hfr.slot 1 (by kernel_rfl)
        refine Loose.Step.value rfl (v := .agg (yA m PA pc UA uc LA lc IA ic MA mc RA rc)) (w' := w1) ?_ rfl (Below.refl _ _)
        exact exec_load rfl f0 (range_at hq_ 0 (yA m PA pc UA uc LA lc IA ic MA mc RA rc).toList rfl) Tryz.underlying50 rfl (by kernel_rfl)
      · intro a w1 hfr hdep
        have e0 : a.tmps.getD 14 undef = .agg (yA m PA pc UA uc LA lc IA ic MA mc RA rc) := Loose.dep_of hdep 0 14 (by kernel_rfl)
        refine Loose.Step.call rfl (f := 27) (args := #[.agg (yA m PA pc UA uc LA lc IA ic MA mc RA rc)]) ?_ ?_
        · simp [go_sem, Act.eval, e0]
        · refine (line_any m HFT.out PA pc UA uc LA lc IA ic MA mc RA rc w1 (HL.out.below (B3.out.trans (hfr.below.mono B3.out.size)))).mono ?_
          rintro e w2 ⟨rfl, hb⟩
          exact ⟨_, rfl, rfl, hb⟩
      · intro a w1 hfr hdep
        have hq_ := (hfr.below.block bM (lt_of_block X3.out)).trans X3.out
        have f0 : a.tmps.getD 1 undef = .pointer (some ⟨bM, 0, none⟩) := hfr.slot 1 (by kernel_rfl)
        refine Loose.Step.value rfl (v := .agg (yA m PA pc UA uc LA lc IA ic MA mc RA rc)) (w' := w1) ?_ rfl (Below.refl _ _)
        exact exec_load rfl f0 (range_at hq_ 0 (yA m PA pc UA uc LA lc IA ic MA mc RA rc).toList rfl) Tryz.underlying50 rfl (by kernel_rfl)
      · intro a w1 hfr hdep
        have e0 : a.tmps.getD 16 undef = .agg (yA m PA pc UA uc LA lc IA ic MA mc RA rc) := Loose.dep_of hdep 2 16 (by kernel_rfl)
        refine Loose.Step.call rfl (f := 28) (args := #[.agg (yA m PA pc UA uc LA lc IA ic MA mc RA rc)]) ?_ ?_
        · simp [go_sem, Act.eval, e0]
        · refine (RefLine.refline_any m PA pc UA uc LA lc IA ic MA mc RA rc HFT.out w1).mono ?_
          rintro e w2 ⟨rfl, hb⟩
          exact ⟨_, rfl, rfl, hb⟩
      · intro a w1 hfr hdep
        have e0 : a.tmps.getD 15 undef = .string ⟨(lineM m).toArray⟩ := Loose.dep_of hdep 1 15 (by kernel_rfl)
        have e1 : a.tmps.getD 17 undef = .string ⟨(lineM m).toArray⟩ := Loose.dep_of hdep 3 17 (by kernel_rfl)
        refine Loose.Step.value rfl (v := .bool false) (w' := w1) ?_ rfl (Below.refl _ _)
        simp [go_sem, Act.eval, e0, e1]
    · intro v0 v1 v2 v3 v4 w4 hb8 hC
      have hlast : v4 = .bool false := hC.2
      subst hlast
      have hb4 := hb8
      have RG := Lib.hid X3.out
      have B4 := Lib.hid (B3.out.trans (hb4.mono B3.out.size))
      have X4 := Lib.hid ((hb4.block bM (lt_of_block X3.out)).trans X3.out)
      clear hb4 X3 RG
      clear hC hb8
      simp only [SpecOwn.put_lit, List.set_cons_succ, List.set_cons_zero]
      have RG := Lib.hid (range_at X4.out 0 (yA m PA pc UA uc LA lc IA ic MA mc RA rc).toList rfl)
      go_wp2_with (first | (refine wpList_load_mid rfl 50 _ rfl _ _ rfl _ _ RG.out Tryz.underlying50 rfl (by kernel_rfl) ?_) | (refine wpList_load_midG rfl 50 _ rfl _ _ rfl _ _ RG.out Tryz.underlying50 rfl (by kernel_rfl) ?_))
      refine (refcheck_any m PA pc UA uc LA lc IA ic MA mc RA rc HLT.out w4 (HL.out.below B4.out).spec (H.out.below B4.out)).mono ?_
      rw [HMB.out]
      rintro e w5 ⟨rfl, hb5⟩
      have B5 := Lib.hid (B4.out.trans (hb5.mono B4.out.size))
      have X5 := Lib.hid ((hb5.block bM (lt_of_block X4.out)).trans X4.out)
      clear hb5 X4 RG
      go_wp2_with fail
      refine (works_any w5 (HL.out.below B5.out)).mono ?_
      rintro e wz ⟨rfl, hbz⟩
      have HZ := Lib.hid (show Below w.heap.size w wz from B5.out.trans (hbz.mono B5.out.size))
      clear hbz
      go_wp2
      go_ret
      exact ⟨rfl, HZ.out⟩
end Go.Proofs.YtljbpelogjmciaaGreatDoor.TellBytesWalk
