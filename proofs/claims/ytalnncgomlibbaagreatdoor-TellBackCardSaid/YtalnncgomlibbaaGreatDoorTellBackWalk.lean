/-
 The walk of the law TellBack: it returns true, and leaves all that was there as it was. Condition: the listed variables hold what the program's text lays (Laid).
-/
import Derived.Test.YtalnncgomlibbaaGreatDoorTellWorks
import Derived.Test.YtalnncgomlibbaaGreatDoorTellSame
import Derived.Test.YtalnncgomlibbaaGreatDoorTellLight
set_option linter.unusedVariables false
set_option linter.unusedSimpArgs false
namespace Go.Proofs.YtalnncgomlibbaaGreatDoor.TellBackWalk
open Go.ChangeShapes Go.WideShapes Go.ChangeAt Go.RowKit Go.Lib
open Tl LebMath WirePure Sd Wire SpecOwn SpecRef Book Pk

theorem reply_len {y : Rp} (h : replyC.ok y) (hl : LightR y) (hr : y.rev < 18446744073709551616) : (replyC.put y).length ≤ 60000000 := by
 have hp := reply_parts h
 have L1 : (codeC.put y.code).length ≤ 10 := int_put_len hp.code
 have L2 : (uidC.put y.uid).length ≤ 10 := int_put_len hp.uid
 have L3 : (uidC.put y.id).length ≤ 10 := int_put_len hp.id
 have L4 := leb_le_ten (n := y.rev) hr
 have L5 : (dataC.put y.data).length ≤ 10 + 32 := txB_le hp.data
 have L6 := leb_le_ten (n := y.pods.length) (by have := hl.np; omega)
 have L7 := leb_le_ten (n := y.use.length) (by have := hl.nu; omega)
 have L8 := Nat.le_trans (flat_put_len podC.put 3100000 y.pods (fun p hm => pod_put_len (hp.pods p hm) (hl.pods p hm).rs)) (Nat.mul_le_mul_right 3100000 hp.np)
 have L9 := Nat.le_trans (flat_put_len resC.put 30 y.use (fun u hm => by
  have h1 := int_put_len (hp.use u hm).1
  have h2 := int_put_len (hp.use u hm).2.1
  have h3 := int_put_len (hp.use u hm).2.2
  show (bigC.put u.1 ++ (bigC.put u.2.1 ++ bigC.put u.2.2)).length ≤ 30
  rw [List.length_append, List.length_append]
  have e1 : (bigC.put u.1).length ≤ 10 := h1
  have e2 : (bigC.put u.2.1).length ≤ 10 := h2
  have e3 : (bigC.put u.2.2).length ≤ 10 := h3
  omega)) (Nat.mul_le_mul_right 30 hp.nu)
 rw [show replyC.put y = codeC.put y.code ++ (uidC.put y.uid ++ (uidC.put y.id ++ (leb y.rev ++ (dataC.put y.data ++ ((leb y.pods.length ++ y.pods.flatMap podC.put) ++ (leb y.use.length ++ y.use.flatMap resC.put)))))) from rfl]
 simp only [List.length_append]
 omega
theorem event_len {u : Ev} (h : eventC.ok u) (hl : LightP u.pod) (hr : u.rev < 18446744073709551616) : (eventC.put u).length ≤ 60000000 := by
 have L1 : (ekindC.put u.kind).length ≤ 10 := int_put_len h.1.1.1
 have L2 := leb_le_ten (n := u.rev) hr
 have L3 : ((podIfC u.kind).put u.pod).length ≤ 3100000 := by
  have h2 : (podIfC u.kind).ok u.pod := h.1.2
  unfold podIfC at h2 ⊢
  split
  · next hk => rw [if_pos hk] at h2; exact pod_put_len h2 hl.rs
  · show (0 : Nat) ≤ _; omega
 rw [show eventC.put u = (ekindC.put u.kind ++ leb u.rev) ++ (podIfC u.kind).put u.pod from rfl]
 simp only [List.length_append]
 omega
theorem put_few {m : Mg} (hb : msgB m = true) (hr : revsM m) (hl : LightM m) : Few (msgC.put m) := by
 have hok := msg_ok hb hr
 have L1 : (mkindC.put m.kind).length ≤ 10 := int_put_len hok.1.1.1
 have L2 : (uidC.put m.num).length ≤ 10 := int_put_len hok.1.1.2
 have L3 : ((bodyC m.kind).put (m.reply, m.event)).length ≤ 60000000 := by
  have h2 : (bodyC m.kind).ok (m.reply, m.event) := hok.1.2
  unfold bodyC at h2 ⊢
  split
  · next hk => rw [if_pos hk] at h2; exact reply_len h2.1 hl.reply hr.1.1
  · next hk =>
    rw [if_neg hk] at h2
    split
    · next hk2 => rw [if_pos hk2] at h2; exact event_len h2.1 hl.pod hr.2.1
    · show (0 : Nat) ≤ _; omega
 show (msgC.put m).length ≤ 281474976710656
 rw [show msgC.put m = (mkindC.put m.kind ++ uidC.put m.num) ++ (bodyC m.kind).put (m.reply, m.event) from rfl]
 simp only [List.length_append]
 omega
theorem put_isome (m : Mg) : (⟨(msgC.put m).toArray⟩ : ByteArray).toList.isEmpty = false := by
 rw [ByteArray.toList_eq]
 show (msgC.put m).toArray.toList.isEmpty = false
 rw [show msgC.put m = (leb m.kind.toNat ++ uidC.put m.num) ++ (bodyC m.kind).put (m.reply, m.event) from rfl]
 have h3 := leb_pos m.kind.toNat
 cases hl : leb m.kind.toNat with
 | nil => rw [hl] at h3; exact absurd h3 (by decide)
 | cons a l => rfl
set_option maxRecDepth 100000 in
set_option maxHeartbeats 4000000 in
theorem walk (m : Mg) (PA : Option Addr) (pc : Nat) (UA : Option Addr) (uc : Nat) (LA : Option Addr) (lc : Nat) (IA : Option Addr) (ic : Nat) (MA : Option Addr) (mc : Nat) (RA : Option Addr) (rc : Nat) (t : ByteArray) (hft : Few t.data.toList) (w : World) (hL : Laid w) (h : m.In w PA UA LA lc IA ic MA mc RA) :
 Calls Tryz.prog 7 #[.agg #[.int .i64 m.kind, .int .i64 m.num, .int .i64 m.reply.code, .int .i64 m.reply.uid, .int .i64 m.reply.id, .int .u64 m.reply.rev, .string m.reply.data, .slice PA m.reply.pods.length pc, .slice UA m.reply.use.length uc, .int .i64 m.event.kind, .int .u64 m.event.rev, .int .i64 m.event.pod.uid, .int .u64 m.event.pod.rev, .string m.event.pod.spec.name, .slice LA m.event.pod.spec.labels.length lc, .slice IA m.event.pod.spec.init.length ic, .slice MA m.event.pod.spec.main.length mc, .int .i64 m.event.pod.spec.restart, .int .i64 m.event.pod.spec.grace, .int .i64 m.event.pod.spec.prio, .int .i64 m.event.pod.phase, .slice RA m.event.pod.rs.length rc, .int .i64 m.event.pod.mark, .int .i64 m.event.pod.grace], .string t] w fun e w' => e = .returned (.bool true) ∧ Below w.heap.size w w' := by
 have HL := Lib.hid hL
 have H := Lib.hid h
 have HFT := Lib.hid hft
 clear hL h hft
 obtain ⟨y, hy⟩ : ∃ y, w.heap.size = y := ⟨_, rfl⟩
 obtain ⟨w2, hw2⟩ : ∃ v, w.alloc (.cells #[.int .i64 m.kind, .int .i64 m.num, .int .i64 m.reply.code, .int .i64 m.reply.uid, .int .i64 m.reply.id, .int .u64 m.reply.rev, .string m.reply.data, .slice PA m.reply.pods.length pc, .slice UA m.reply.use.length uc, .int .i64 m.event.kind, .int .u64 m.event.rev, .int .i64 m.event.pod.uid, .int .u64 m.event.pod.rev, .string m.event.pod.spec.name, .slice LA m.event.pod.spec.labels.length lc, .slice IA m.event.pod.spec.init.length ic, .slice MA m.event.pod.spec.main.length mc, .int .i64 m.event.pod.spec.restart, .int .i64 m.event.pod.spec.grace, .int .i64 m.event.pod.spec.prio, .int .i64 m.event.pod.phase, .slice RA m.event.pod.rs.length rc, .int .i64 m.event.pod.mark, .int .i64 m.event.pod.grace] 50) = v := ⟨_, rfl⟩
 have X2 := Lib.hid (show w2.heap[y]? = some (.cells #[.int .i64 m.kind, .int .i64 m.num, .int .i64 m.reply.code, .int .i64 m.reply.uid, .int .i64 m.reply.id, .int .u64 m.reply.rev, .string m.reply.data, .slice PA m.reply.pods.length pc, .slice UA m.reply.use.length uc, .int .i64 m.event.kind, .int .u64 m.event.rev, .int .i64 m.event.pod.uid, .int .u64 m.event.pod.rev, .string m.event.pod.spec.name, .slice LA m.event.pod.spec.labels.length lc, .slice IA m.event.pod.spec.init.length ic, .slice MA m.event.pod.spec.main.length mc, .int .i64 m.event.pod.spec.restart, .int .i64 m.event.pod.spec.grace, .int .i64 m.event.pod.spec.prio, .int .i64 m.event.pod.phase, .slice RA m.event.pod.rs.length rc, .int .i64 m.event.pod.mark, .int .i64 m.event.pod.grace] 50 (0, 0)) by rw [← hw2, ← hy]; exact heap_alloc_new w _)
 have B2 := Lib.hid (show Below w.heap.size w w2 by rw [← hw2]; exact (Below.refl _ _).alloc (Nat.le_refl _) _)
 have HYE := Lib.hid hy
 have HWE := Lib.hid hw2
 clear hy hw2
 go_enter Tryz.func7, Tryz.ntmps7
 go_wp2_with fail
 rw [HYE.out, HWE.out]
 refine (works_any w2 (HL.out.below B2.out)).mono ?_
 rintro e w3 ⟨rfl, hb3⟩
 have B3 := Lib.hid (B2.out.trans (hb3.mono B2.out.size))
 have X3 := Lib.hid ((hb3.block y (lt_of_block X2.out)).trans X2.out)
 clear hb3 X2
 clear HYE HWE
 have RG := Lib.hid (range_at X3.out 0 [.int .i64 m.kind, .int .i64 m.num, .int .i64 m.reply.code, .int .i64 m.reply.uid, .int .i64 m.reply.id, .int .u64 m.reply.rev, .string m.reply.data, .slice PA m.reply.pods.length pc, .slice UA m.reply.use.length uc, .int .i64 m.event.kind, .int .u64 m.event.rev, .int .i64 m.event.pod.uid, .int .u64 m.event.pod.rev, .string m.event.pod.spec.name, .slice LA m.event.pod.spec.labels.length lc, .slice IA m.event.pod.spec.init.length ic, .slice MA m.event.pod.spec.main.length mc, .int .i64 m.event.pod.spec.restart, .int .i64 m.event.pod.spec.grace, .int .i64 m.event.pod.spec.prio, .int .i64 m.event.pod.phase, .slice RA m.event.pod.rs.length rc, .int .i64 m.event.pod.mark, .int .i64 m.event.pod.grace] rfl)
 have HLI := Lib.hid (lightM_any m PA pc UA uc LA lc IA ic MA mc RA rc w3 (H.out.below B3.out))
 go_wp2_with (first | (refine wpList_load_mid rfl _ _ rfl _ _ rfl _ _ RG.out Tryz.underlying50 rfl (by kernel_rfl) ?_) | (refine wpList_load_midG rfl _ _ rfl _ _ rfl _ _ RG.out Tryz.underlying50 rfl (by kernel_rfl) ?_))
 refine HLI.out.mono ?_
 rintro e w4 ⟨rfl, hb4⟩
 clear RG HLI
 have B4 := Lib.hid (B3.out.trans (hb4.mono B3.out.size))
 have X4 := Lib.hid ((hb4.block y (lt_of_block X3.out)).trans X3.out)
 clear hb4 X3
 as_aux_lemma =>
  cases hlm : lightMB m with
  | false =>
   go_wp2
   go_ret
   exact ⟨rfl, B4.out⟩
  | true =>
   have HLT := Lib.hid (lightMB_iff.1 hlm)
   clear hlm
   by_cases h3 : 3000 < t.size
   · have h3' : (3000 : Int) < (t.size : Int) := by omega
     go_wp2
     go_ret
     exact ⟨rfl, B4.out⟩
   have h3' : ¬ (3000 : Int) < (t.size : Int) := by omega
   clear h3
   have RG := Lib.hid (range_at X4.out 0 [.int .i64 m.kind, .int .i64 m.num, .int .i64 m.reply.code, .int .i64 m.reply.uid, .int .i64 m.reply.id, .int .u64 m.reply.rev, .string m.reply.data, .slice PA m.reply.pods.length pc, .slice UA m.reply.use.length uc, .int .i64 m.event.kind, .int .u64 m.event.rev, .int .i64 m.event.pod.uid, .int .u64 m.event.pod.rev, .string m.event.pod.spec.name, .slice LA m.event.pod.spec.labels.length lc, .slice IA m.event.pod.spec.init.length ic, .slice MA m.event.pod.spec.main.length mc, .int .i64 m.event.pod.spec.restart, .int .i64 m.event.pod.spec.grace, .int .i64 m.event.pod.spec.prio, .int .i64 m.event.pod.phase, .slice RA m.event.pod.rs.length rc, .int .i64 m.event.pod.mark, .int .i64 m.event.pod.grace] rfl)
   have HBY := Lib.hid (bytes_any m PA pc UA uc LA lc IA ic MA mc RA rc w4 HLT.out (HL.out.below B4.out).spec (H.out.below B4.out))
   go_wp2_with (first | (refine wpList_load_mid rfl _ _ rfl _ _ rfl _ _ RG.out Tryz.underlying50 rfl (by kernel_rfl) ?_) | (refine wpList_load_midG rfl _ _ rfl _ _ rfl _ _ RG.out Tryz.underlying50 rfl (by kernel_rfl) ?_))
   refine HBY.out.mono ?_
   rintro e w5 ⟨hb5, hcase⟩
   clear RG HBY
   have B5 := Lib.hid (B4.out.trans (hb5.mono B4.out.size))
   have X5 := Lib.hid ((hb5.block y (lt_of_block X4.out)).trans X4.out)
   clear hb5 X4
   have RG := Lib.hid (range_at X5.out 0 [.int .i64 m.kind, .int .i64 m.num, .int .i64 m.reply.code, .int .i64 m.reply.uid, .int .i64 m.reply.id, .int .u64 m.reply.rev, .string m.reply.data, .slice PA m.reply.pods.length pc, .slice UA m.reply.use.length uc, .int .i64 m.event.kind, .int .u64 m.event.rev, .int .i64 m.event.pod.uid, .int .u64 m.event.pod.rev, .string m.event.pod.spec.name, .slice LA m.event.pod.spec.labels.length lc, .slice IA m.event.pod.spec.init.length ic, .slice MA m.event.pod.spec.main.length mc, .int .i64 m.event.pod.spec.restart, .int .i64 m.event.pod.spec.grace, .int .i64 m.event.pod.spec.prio, .int .i64 m.event.pod.phase, .slice RA m.event.pod.rs.length rc, .int .i64 m.event.pod.mark, .int .i64 m.event.pod.grace] rfl)
   have HCK := Lib.hid (check_code m PA pc UA uc LA lc IA ic MA mc RA rc w5 HLT.out (HL.out.below B5.out).spec (H.out.below B5.out))
   rcases hcase with ⟨hm, rfl⟩ | ⟨hm, rfl⟩
   · have HM := Lib.hid hm
     clear hm
     have HS := Lib.hid (put_few HM.out H.out.revs HLT.out)
     obtain ⟨s, hs⟩ : ∃ s : ByteArray, (⟨(msgC.put m).toArray⟩ : ByteArray) = s := ⟨_, rfl⟩
     have HSE := Lib.hid hs
     have hsn : s.toList.isEmpty = false := by rw [← hs]; exact put_isome m
     rw [hs]
     clear hs
     as_aux_lemma =>
      go_wp2_with (first | (refine wpList_load_mid rfl _ _ rfl _ _ rfl _ _ RG.out Tryz.underlying50 rfl (by kernel_rfl) ?_) | (refine wpList_load_midG rfl _ _ rfl _ _ rfl _ _ RG.out Tryz.underlying50 rfl (by kernel_rfl) ?_))
      refine HCK.out.mono ?_
      rintro e w6 ⟨rfl, hb6⟩
      rw [HM.out]
      clear RG HCK
      have B6 := Lib.hid (B5.out.trans (hb6.mono B5.out.size))
      have X6 := Lib.hid ((hb6.block y (lt_of_block X5.out)).trans X5.out)
      clear hb6 X5
      have HFS := Lib.hid (show Few s.data.toList by rw [← HSE.out]; exact HS.out)
      have HBK := Lib.hid (ofM_back HM.out H.out.revs)
      go_wp2_with fail
      refine (of_any s HFS.out w6 (HL.out.below B6.out).spec).mono ?_
      rintro e w7 ⟨x, PAx, pcx, UAx, ucx, LAx, lcx, IAx, icx, MAx, mcx, RAx, rcx, rfl, hyes, _, hin, hb7⟩
      have hl_ : s.data.toList = msgC.put m := by rw [← HSE.out]
      rw [hl_] at hyes ⊢
      have hx_ := hyes HBK.out.2
      rw [HBK.out.1] at hx_
      rw [HBK.out.2]
      obtain rfl : x = m := hx_
      have HIN := Lib.hid hin
      clear hin hyes hl_
      have B7 := Lib.hid (B6.out.trans (hb7.mono B6.out.size))
      have X7 := Lib.hid ((hb7.block y (lt_of_block X6.out)).trans X6.out)
      clear hb7 X6
      as_aux_lemma =>
       have hx_ := heap_alloc_new w7 (.cells #[.int .i64 0, .int .i64 0, .int .i64 0, .int .i64 0, .int .i64 0, .int .u64 0, .string ⟨#[]⟩, .slice none 0 0, .slice none 0 0, .int .i64 0, .int .u64 0, .int .i64 0, .int .u64 0, .string ⟨#[]⟩, .slice none 0 0, .slice none 0 0, .slice none 0 0, .int .i64 0, .int .i64 0, .int .i64 0, .int .i64 0, .slice none 0 0, .int .i64 0, .int .i64 0] 50)
       obtain ⟨wa7, hwa⟩ : ∃ v, w7.alloc (.cells #[.int .i64 0, .int .i64 0, .int .i64 0, .int .i64 0, .int .i64 0, .int .u64 0, .string ⟨#[]⟩, .slice none 0 0, .slice none 0 0, .int .i64 0, .int .u64 0, .int .i64 0, .int .u64 0, .string ⟨#[]⟩, .slice none 0 0, .slice none 0 0, .slice none 0 0, .int .i64 0, .int .i64 0, .int .i64 0, .int .i64 0, .slice none 0 0, .int .i64 0, .int .i64 0] 50) = v := ⟨_, rfl⟩
       rw [hwa] at hx_
       have hba_ : Below w7.heap.size w7 wa7 := by rw [← hwa]; exact (Below.refl _ _).alloc (Nat.le_refl _) _
       obtain ⟨w8, hwb⟩ : ∃ v, wa7.setCells w7.heap.size 0 [.int .i64 x.kind, .int .i64 x.num, .int .i64 x.reply.code, .int .i64 x.reply.uid, .int .i64 x.reply.id, .int .u64 x.reply.rev, .string x.reply.data, .slice PAx x.reply.pods.length pcx, .slice UAx x.reply.use.length ucx, .int .i64 x.event.kind, .int .u64 x.event.rev, .int .i64 x.event.pod.uid, .int .u64 x.event.pod.rev, .string x.event.pod.spec.name, .slice LAx x.event.pod.spec.labels.length lcx, .slice IAx x.event.pod.spec.init.length icx, .slice MAx x.event.pod.spec.main.length mcx, .int .i64 x.event.pod.spec.restart, .int .i64 x.event.pod.spec.grace, .int .i64 x.event.pod.spec.prio, .int .i64 x.event.pod.phase, .slice RAx x.event.pod.rs.length rcx, .int .i64 x.event.pod.mark, .int .i64 x.event.pod.grace] = v := ⟨_, rfl⟩
       have Z8 := Lib.hid (show w8.heap[w7.heap.size]? = some (.cells #[.int .i64 x.kind, .int .i64 x.num, .int .i64 x.reply.code, .int .i64 x.reply.uid, .int .i64 x.reply.id, .int .u64 x.reply.rev, .string x.reply.data, .slice PAx x.reply.pods.length pcx, .slice UAx x.reply.use.length ucx, .int .i64 x.event.kind, .int .u64 x.event.rev, .int .i64 x.event.pod.uid, .int .u64 x.event.pod.rev, .string x.event.pod.spec.name, .slice LAx x.event.pod.spec.labels.length lcx, .slice IAx x.event.pod.spec.init.length icx, .slice MAx x.event.pod.spec.main.length mcx, .int .i64 x.event.pod.spec.restart, .int .i64 x.event.pod.spec.grace, .int .i64 x.event.pod.spec.prio, .int .i64 x.event.pod.phase, .slice RAx x.event.pod.rs.length rcx, .int .i64 x.event.pod.mark, .int .i64 x.event.pod.grace] 50 (0, 0)) by rw [← hwb]; exact box_into hx_ 0 _ (over_24 _ _ _ _ _ _ _ _ _ _ _ _ _ _ _ _ _ _ _ _ _ _ _ _ _ _ _ _ _ _ _ _ _ _ _ _ _ _ _ _ _ _ _ _ _ _ _ _))
       have hb8 : Below w7.heap.size w7 w8 := by rw [← hwb]; exact below_cells (Nat.le_refl _) _ 0 hba_
       have THx := Lib.hid (show wa7.there w7.heap.size 0 24 from box_there hx_ 0 24 (by decide))
       have ONEx := Lib.hid (show (#[.int .i64 x.kind, .int .i64 x.num, .int .i64 x.reply.code, .int .i64 x.reply.uid, .int .i64 x.reply.id, .int .u64 x.reply.rev, .string x.reply.data, .slice PAx x.reply.pods.length pcx, .slice UAx x.reply.use.length ucx, .int .i64 x.event.kind, .int .u64 x.event.rev, .int .i64 x.event.pod.uid, .int .u64 x.event.pod.rev, .string x.event.pod.spec.name, .slice LAx x.event.pod.spec.labels.length lcx, .slice IAx x.event.pod.spec.init.length icx, .slice MAx x.event.pod.spec.main.length mcx, .int .i64 x.event.pod.spec.restart, .int .i64 x.event.pod.spec.grace, .int .i64 x.event.pod.spec.prio, .int .i64 x.event.pod.phase, .slice RAx x.event.pod.rs.length rcx, .int .i64 x.event.pod.mark, .int .i64 x.event.pod.grace] : Array Value).all (·.oneCell') = true by simp [Value.oneCell'])
       have HVx := Lib.hid hwb
       have HWx := Lib.hid hwa
       clear hwb hx_ hwa hba_
       have X8 := Lib.hid ((hb8.block y (lt_of_block X7.out)).trans X7.out)
       have B8 := Lib.hid (B7.out.trans (hb8.mono B7.out.size))
       have HIN2 := Lib.hid (HIN.out.below hb8)
       clear hb8 HIN X7
       have RG := Lib.hid (range_at X8.out 0 [.int .i64 x.kind, .int .i64 x.num, .int .i64 x.reply.code, .int .i64 x.reply.uid, .int .i64 x.reply.id, .int .u64 x.reply.rev, .string x.reply.data, .slice PA x.reply.pods.length pc, .slice UA x.reply.use.length uc, .int .i64 x.event.kind, .int .u64 x.event.rev, .int .i64 x.event.pod.uid, .int .u64 x.event.pod.rev, .string x.event.pod.spec.name, .slice LA x.event.pod.spec.labels.length lc, .slice IA x.event.pod.spec.init.length ic, .slice MA x.event.pod.spec.main.length mc, .int .i64 x.event.pod.spec.restart, .int .i64 x.event.pod.spec.grace, .int .i64 x.event.pod.spec.prio, .int .i64 x.event.pod.phase, .slice RA x.event.pod.rs.length rc, .int .i64 x.event.pod.mark, .int .i64 x.event.pod.grace] rfl)
       have RZ := Lib.hid (range_at Z8.out 0 [.int .i64 x.kind, .int .i64 x.num, .int .i64 x.reply.code, .int .i64 x.reply.uid, .int .i64 x.reply.id, .int .u64 x.reply.rev, .string x.reply.data, .slice PAx x.reply.pods.length pcx, .slice UAx x.reply.use.length ucx, .int .i64 x.event.kind, .int .u64 x.event.rev, .int .i64 x.event.pod.uid, .int .u64 x.event.pod.rev, .string x.event.pod.spec.name, .slice LAx x.event.pod.spec.labels.length lcx, .slice IAx x.event.pod.spec.init.length icx, .slice MAx x.event.pod.spec.main.length mcx, .int .i64 x.event.pod.spec.restart, .int .i64 x.event.pod.spec.grace, .int .i64 x.event.pod.spec.prio, .int .i64 x.event.pod.phase, .slice RAx x.event.pod.rs.length rcx, .int .i64 x.event.pod.mark, .int .i64 x.event.pod.grace] rfl)
       have HSM := Lib.hid (sameMsg_any x x PAx pcx UAx ucx LAx lcx IAx icx MAx mcx RAx rcx PA pc UA uc LA lc IA ic MA mc RA rc w8 HIN2.out (H.out.below B8.out))
       go_wp2_with (first | (refine wpList_load_mid rfl _ _ rfl _ _ rfl _ _ RG.out Tryz.underlying50 rfl (by kernel_rfl) ?_) | (refine wpList_load_midG rfl _ _ rfl _ _ rfl _ _ RG.out Tryz.underlying50 rfl (by kernel_rfl) ?_) | (refine wpList_load_mid rfl _ _ rfl _ _ rfl _ _ RZ.out Tryz.underlying50 rfl (by kernel_rfl) ?_) | (refine wpList_load_midG rfl _ _ rfl _ _ rfl _ _ RZ.out Tryz.underlying50 rfl (by kernel_rfl) ?_) | (refine wpList_store_to rfl _ _ _ rfl _ _ _ rfl rfl ?th (by kernel_rfl) ?one (v := w8) ?hv ?_))
       case th => rw [HWx.out]; exact THx.out
       case one => exact ONEx.out
       case hv => rw [HWx.out]; exact HVx.out
       clear THx ONEx HVx HWx
       refine HSM.out.mono ?_
       rintro e w9 ⟨rfl, hb9⟩
       rw [(sameMB_iff x x).2 rfl]
       have B9 := Lib.hid (B8.out.trans (hb9.mono B8.out.size))
       clear hb9 RG RZ HSM X8 Z8 HIN2
       as_aux_lemma =>
        have HFT_ := HFT.out
        go_wp2_with fail
        refine (of_any t HFT_ w9 (HL.out.below B9.out).spec).mono ?_
        rintro e w10 ⟨u, PAu, pcu, UAu, ucu, LAu, lcu, IAu, icu, MAu, mcu, RAu, rcu, rfl, hyes, hno, hin, hb10⟩
        clear HFT_
        have B10 := Lib.hid (B9.out.trans (hb10.mono B9.out.size))
        clear hb10 
        have HIN := Lib.hid hin
        have HYES := Lib.hid hyes
        have HNO := Lib.hid hno
        clear hin hyes hno
        obtain ⟨z, hz⟩ : ∃ z, ofM t.data.toList = z := ⟨_, rfl⟩
        rw [hz]
        have HZ := Lib.hid hz
        clear hz
        as_aux_lemma =>
         have hx_ := heap_alloc_new w10 (.cells #[.int .i64 0, .int .i64 0, .int .i64 0, .int .i64 0, .int .i64 0, .int .u64 0, .string ⟨#[]⟩, .slice none 0 0, .slice none 0 0, .int .i64 0, .int .u64 0, .int .i64 0, .int .u64 0, .string ⟨#[]⟩, .slice none 0 0, .slice none 0 0, .slice none 0 0, .int .i64 0, .int .i64 0, .int .i64 0, .int .i64 0, .slice none 0 0, .int .i64 0, .int .i64 0] 50)
         obtain ⟨wa10, hwa⟩ : ∃ v, w10.alloc (.cells #[.int .i64 0, .int .i64 0, .int .i64 0, .int .i64 0, .int .i64 0, .int .u64 0, .string ⟨#[]⟩, .slice none 0 0, .slice none 0 0, .int .i64 0, .int .u64 0, .int .i64 0, .int .u64 0, .string ⟨#[]⟩, .slice none 0 0, .slice none 0 0, .slice none 0 0, .int .i64 0, .int .i64 0, .int .i64 0, .int .i64 0, .slice none 0 0, .int .i64 0, .int .i64 0] 50) = v := ⟨_, rfl⟩
         rw [hwa] at hx_
         have hba_ : Below w10.heap.size w10 wa10 := by rw [← hwa]; exact (Below.refl _ _).alloc (Nat.le_refl _) _
         obtain ⟨w11, hwb⟩ : ∃ v, wa10.setCells w10.heap.size 0 [.int .i64 u.kind, .int .i64 u.num, .int .i64 u.reply.code, .int .i64 u.reply.uid, .int .i64 u.reply.id, .int .u64 u.reply.rev, .string u.reply.data, .slice PAu u.reply.pods.length pcu, .slice UAu u.reply.use.length ucu, .int .i64 u.event.kind, .int .u64 u.event.rev, .int .i64 u.event.pod.uid, .int .u64 u.event.pod.rev, .string u.event.pod.spec.name, .slice LAu u.event.pod.spec.labels.length lcu, .slice IAu u.event.pod.spec.init.length icu, .slice MAu u.event.pod.spec.main.length mcu, .int .i64 u.event.pod.spec.restart, .int .i64 u.event.pod.spec.grace, .int .i64 u.event.pod.spec.prio, .int .i64 u.event.pod.phase, .slice RAu u.event.pod.rs.length rcu, .int .i64 u.event.pod.mark, .int .i64 u.event.pod.grace] = v := ⟨_, rfl⟩
         have Z11 := Lib.hid (show w11.heap[w10.heap.size]? = some (.cells #[.int .i64 u.kind, .int .i64 u.num, .int .i64 u.reply.code, .int .i64 u.reply.uid, .int .i64 u.reply.id, .int .u64 u.reply.rev, .string u.reply.data, .slice PAu u.reply.pods.length pcu, .slice UAu u.reply.use.length ucu, .int .i64 u.event.kind, .int .u64 u.event.rev, .int .i64 u.event.pod.uid, .int .u64 u.event.pod.rev, .string u.event.pod.spec.name, .slice LAu u.event.pod.spec.labels.length lcu, .slice IAu u.event.pod.spec.init.length icu, .slice MAu u.event.pod.spec.main.length mcu, .int .i64 u.event.pod.spec.restart, .int .i64 u.event.pod.spec.grace, .int .i64 u.event.pod.spec.prio, .int .i64 u.event.pod.phase, .slice RAu u.event.pod.rs.length rcu, .int .i64 u.event.pod.mark, .int .i64 u.event.pod.grace] 50 (0, 0)) by rw [← hwb]; exact box_into hx_ 0 _ (over_24 _ _ _ _ _ _ _ _ _ _ _ _ _ _ _ _ _ _ _ _ _ _ _ _ _ _ _ _ _ _ _ _ _ _ _ _ _ _ _ _ _ _ _ _ _ _ _ _))
         have hb11 : Below w10.heap.size w10 w11 := by rw [← hwb]; exact below_cells (Nat.le_refl _) _ 0 hba_
         have THx := Lib.hid (show wa10.there w10.heap.size 0 24 from box_there hx_ 0 24 (by decide))
         have ONEx := Lib.hid (show (#[.int .i64 u.kind, .int .i64 u.num, .int .i64 u.reply.code, .int .i64 u.reply.uid, .int .i64 u.reply.id, .int .u64 u.reply.rev, .string u.reply.data, .slice PAu u.reply.pods.length pcu, .slice UAu u.reply.use.length ucu, .int .i64 u.event.kind, .int .u64 u.event.rev, .int .i64 u.event.pod.uid, .int .u64 u.event.pod.rev, .string u.event.pod.spec.name, .slice LAu u.event.pod.spec.labels.length lcu, .slice IAu u.event.pod.spec.init.length icu, .slice MAu u.event.pod.spec.main.length mcu, .int .i64 u.event.pod.spec.restart, .int .i64 u.event.pod.spec.grace, .int .i64 u.event.pod.spec.prio, .int .i64 u.event.pod.phase, .slice RAu u.event.pod.rs.length rcu, .int .i64 u.event.pod.mark, .int .i64 u.event.pod.grace] : Array Value).all (·.oneCell') = true by simp [Value.oneCell'])
         have HVx := Lib.hid hwb
         have HWx := Lib.hid hwa
         clear hwb hx_ hwa hba_
         have B11 := Lib.hid (B10.out.trans (hb11.mono B10.out.size))
         have HIN2 := Lib.hid (HIN.out.below hb11)
         clear hb11 HIN
         have RG := Lib.hid (range_at Z11.out 0 [.int .i64 u.kind, .int .i64 u.num, .int .i64 u.reply.code, .int .i64 u.reply.uid, .int .i64 u.reply.id, .int .u64 u.reply.rev, .string u.reply.data, .slice PAu u.reply.pods.length pcu, .slice UAu u.reply.use.length ucu, .int .i64 u.event.kind, .int .u64 u.event.rev, .int .i64 u.event.pod.uid, .int .u64 u.event.pod.rev, .string u.event.pod.spec.name, .slice LAu u.event.pod.spec.labels.length lcu, .slice IAu u.event.pod.spec.init.length icu, .slice MAu u.event.pod.spec.main.length mcu, .int .i64 u.event.pod.spec.restart, .int .i64 u.event.pod.spec.grace, .int .i64 u.event.pod.spec.prio, .int .i64 u.event.pod.phase, .slice RAu u.event.pod.rs.length rcu, .int .i64 u.event.pod.mark, .int .i64 u.event.pod.grace] rfl)
         by_cases hz0 : z = 0
         · subst hz0
           have hu := HYES.out HZ.out
           obtain ⟨hr1, hr2, hr3⟩ := ofM_right HZ.out
           rw [← hu] at hr1 hr2 hr3
           have HU1 := Lib.hid hr1
           have HLU := Lib.hid (msg_light (msg_ok hr1 hr3))
           have HTE := Lib.hid (show (⟨(msgC.put u).toArray⟩ : ByteArray) = t by rw [← hr2])
           clear hu hr1 hr2 hr3
           go_wp2_with (first | (refine wpList_load_mid rfl _ _ rfl _ _ rfl _ _ RG.out Tryz.underlying50 rfl (by kernel_rfl) ?_) | (refine wpList_load_midG rfl _ _ rfl _ _ rfl _ _ RG.out Tryz.underlying50 rfl (by kernel_rfl) ?_) | (refine wpList_store_to rfl _ _ _ rfl _ _ _ rfl rfl ?th (by kernel_rfl) ?one (v := w11) ?hv ?_))
           case th => rw [HWx.out]; exact THx.out
           case one => exact ONEx.out
           case hv => rw [HWx.out]; exact HVx.out
           clear THx ONEx HVx HWx
           refine (bytes_any u PAu pcu UAu ucu LAu lcu IAu icu MAu mcu RAu rcu w11 HLU.out (HL.out.below B11.out).spec HIN2.out).mono ?_
           rintro e w12 ⟨hb12, ⟨_, rfl⟩ | ⟨hn, _⟩⟩
           rotate_left
           · rw [HU1.out] at hn; cases hn
           rw [HTE.out]
           have HIN3 := Lib.hid (HIN2.out.below hb12)
           clear RG HIN2
           have B12 := Lib.hid (B11.out.trans (hb12.mono B11.out.size))
           have Z12 := Lib.hid ((hb12.block w10.heap.size (lt_of_block Z11.out)).trans Z11.out)
           clear hb12 Z11
           as_aux_lemma =>
            have RG := Lib.hid (range_at Z12.out 0 [.int .i64 u.kind, .int .i64 u.num, .int .i64 u.reply.code, .int .i64 u.reply.uid, .int .i64 u.reply.id, .int .u64 u.reply.rev, .string u.reply.data, .slice PAu u.reply.pods.length pcu, .slice UAu u.reply.use.length ucu, .int .i64 u.event.kind, .int .u64 u.event.rev, .int .i64 u.event.pod.uid, .int .u64 u.event.pod.rev, .string u.event.pod.spec.name, .slice LAu u.event.pod.spec.labels.length lcu, .slice IAu u.event.pod.spec.init.length icu, .slice MAu u.event.pod.spec.main.length mcu, .int .i64 u.event.pod.spec.restart, .int .i64 u.event.pod.spec.grace, .int .i64 u.event.pod.spec.prio, .int .i64 u.event.pod.phase, .slice RAu u.event.pod.rs.length rcu, .int .i64 u.event.pod.mark, .int .i64 u.event.pod.grace] rfl)
            go_wp2_with (first | (refine wpList_load_mid rfl _ _ rfl _ _ rfl _ _ RG.out Tryz.underlying50 rfl (by kernel_rfl) ?_) | (refine wpList_load_midG rfl _ _ rfl _ _ rfl _ _ RG.out Tryz.underlying50 rfl (by kernel_rfl) ?_))
            have HCK := Lib.hid (check_code u PAu pcu UAu ucu LAu lcu IAu icu MAu mcu RAu rcu w12 HLU.out (HL.out.below B12.out).spec HIN3.out)
            refine HCK.out.mono ?_
            rintro e w13 ⟨rfl, hb13⟩
            rw [HU1.out]
            have B13 := Lib.hid (B12.out.trans (hb13.mono B12.out.size))
            clear hb13 HCK RG
            have htt : (t.toList == t.toList) = true := by simp
            go_wp2
            go_ret
            exact ⟨rfl, B13.out⟩
         · skip
           have hu := HNO.out (fun e => hz0 (HZ.out.symm.trans e))
           have hz0' : (z != 0) = true := by simpa using hz0
           have HUZ := Lib.hid hu
           clear hu hz0
           have HSM := Lib.hid (sameMsg_any u zeroM PAu pcu UAu ucu LAu lcu IAu icu MAu mcu RAu rcu none 0 none 0 none 0 none 0 none 0 none 0 w11 HIN2.out (mg_zero 0 w11).in)
           go_wp2_with (first | (refine wpList_load_mid rfl _ _ rfl _ _ rfl _ _ RG.out Tryz.underlying50 rfl (by kernel_rfl) ?_) | (refine wpList_load_midG rfl _ _ rfl _ _ rfl _ _ RG.out Tryz.underlying50 rfl (by kernel_rfl) ?_) | (refine wpList_store_to rfl _ _ _ rfl _ _ _ rfl rfl ?th (by kernel_rfl) ?one (v := w11) ?hv ?_))
           case th => rw [HWx.out]; exact THx.out
           case one => exact ONEx.out
           case hv => rw [HWx.out]; exact HVx.out
           clear THx ONEx HVx HWx
           refine HSM.out.mono ?_
           rintro e w12 ⟨rfl, hb12⟩
           rw [HUZ.out, (sameMB_iff zeroM zeroM).2 rfl]
           go_wp2
           go_ret
           exact ⟨rfl, B11.out.trans (hb12.mono B11.out.size)⟩
   · have HM := Lib.hid hm
     clear hm
     as_aux_lemma =>
      go_wp2_with (first | (refine wpList_load_mid rfl _ _ rfl _ _ rfl _ _ RG.out Tryz.underlying50 rfl (by kernel_rfl) ?_) | (refine wpList_load_midG rfl _ _ rfl _ _ rfl _ _ RG.out Tryz.underlying50 rfl (by kernel_rfl) ?_))
      refine HCK.out.mono ?_
      rintro e w6 ⟨rfl, hb6⟩
      rw [HM.out]
      clear RG HCK
      have B6 := Lib.hid (B5.out.trans (hb6.mono B5.out.size))
      have X6 := Lib.hid ((hb6.block y (lt_of_block X5.out)).trans X5.out)
      clear hb6 X5
      have HFT_ := HFT.out
      go_wp2_with fail
      refine (of_any t HFT_ w6 (HL.out.below B6.out).spec).mono ?_
      rintro e w7 ⟨u, PAu, pcu, UAu, ucu, LAu, lcu, IAu, icu, MAu, mcu, RAu, rcu, rfl, hyes, hno, hin, hb7⟩
      clear HFT_
      have B7 := Lib.hid (B6.out.trans (hb7.mono B6.out.size))
      clear hb7 
      have HIN := Lib.hid hin
      have HYES := Lib.hid hyes
      have HNO := Lib.hid hno
      clear hin hyes hno
      obtain ⟨z, hz⟩ : ∃ z, ofM t.data.toList = z := ⟨_, rfl⟩
      rw [hz]
      have HZ := Lib.hid hz
      clear hz
      as_aux_lemma =>
       have hx_ := heap_alloc_new w7 (.cells #[.int .i64 0, .int .i64 0, .int .i64 0, .int .i64 0, .int .i64 0, .int .u64 0, .string ⟨#[]⟩, .slice none 0 0, .slice none 0 0, .int .i64 0, .int .u64 0, .int .i64 0, .int .u64 0, .string ⟨#[]⟩, .slice none 0 0, .slice none 0 0, .slice none 0 0, .int .i64 0, .int .i64 0, .int .i64 0, .int .i64 0, .slice none 0 0, .int .i64 0, .int .i64 0] 50)
       obtain ⟨wa7, hwa⟩ : ∃ v, w7.alloc (.cells #[.int .i64 0, .int .i64 0, .int .i64 0, .int .i64 0, .int .i64 0, .int .u64 0, .string ⟨#[]⟩, .slice none 0 0, .slice none 0 0, .int .i64 0, .int .u64 0, .int .i64 0, .int .u64 0, .string ⟨#[]⟩, .slice none 0 0, .slice none 0 0, .slice none 0 0, .int .i64 0, .int .i64 0, .int .i64 0, .int .i64 0, .slice none 0 0, .int .i64 0, .int .i64 0] 50) = v := ⟨_, rfl⟩
       rw [hwa] at hx_
       have hba_ : Below w7.heap.size w7 wa7 := by rw [← hwa]; exact (Below.refl _ _).alloc (Nat.le_refl _) _
       obtain ⟨w8, hwb⟩ : ∃ v, wa7.setCells w7.heap.size 0 [.int .i64 u.kind, .int .i64 u.num, .int .i64 u.reply.code, .int .i64 u.reply.uid, .int .i64 u.reply.id, .int .u64 u.reply.rev, .string u.reply.data, .slice PAu u.reply.pods.length pcu, .slice UAu u.reply.use.length ucu, .int .i64 u.event.kind, .int .u64 u.event.rev, .int .i64 u.event.pod.uid, .int .u64 u.event.pod.rev, .string u.event.pod.spec.name, .slice LAu u.event.pod.spec.labels.length lcu, .slice IAu u.event.pod.spec.init.length icu, .slice MAu u.event.pod.spec.main.length mcu, .int .i64 u.event.pod.spec.restart, .int .i64 u.event.pod.spec.grace, .int .i64 u.event.pod.spec.prio, .int .i64 u.event.pod.phase, .slice RAu u.event.pod.rs.length rcu, .int .i64 u.event.pod.mark, .int .i64 u.event.pod.grace] = v := ⟨_, rfl⟩
       have Z8 := Lib.hid (show w8.heap[w7.heap.size]? = some (.cells #[.int .i64 u.kind, .int .i64 u.num, .int .i64 u.reply.code, .int .i64 u.reply.uid, .int .i64 u.reply.id, .int .u64 u.reply.rev, .string u.reply.data, .slice PAu u.reply.pods.length pcu, .slice UAu u.reply.use.length ucu, .int .i64 u.event.kind, .int .u64 u.event.rev, .int .i64 u.event.pod.uid, .int .u64 u.event.pod.rev, .string u.event.pod.spec.name, .slice LAu u.event.pod.spec.labels.length lcu, .slice IAu u.event.pod.spec.init.length icu, .slice MAu u.event.pod.spec.main.length mcu, .int .i64 u.event.pod.spec.restart, .int .i64 u.event.pod.spec.grace, .int .i64 u.event.pod.spec.prio, .int .i64 u.event.pod.phase, .slice RAu u.event.pod.rs.length rcu, .int .i64 u.event.pod.mark, .int .i64 u.event.pod.grace] 50 (0, 0)) by rw [← hwb]; exact box_into hx_ 0 _ (over_24 _ _ _ _ _ _ _ _ _ _ _ _ _ _ _ _ _ _ _ _ _ _ _ _ _ _ _ _ _ _ _ _ _ _ _ _ _ _ _ _ _ _ _ _ _ _ _ _))
       have hb8 : Below w7.heap.size w7 w8 := by rw [← hwb]; exact below_cells (Nat.le_refl _) _ 0 hba_
       have THx := Lib.hid (show wa7.there w7.heap.size 0 24 from box_there hx_ 0 24 (by decide))
       have ONEx := Lib.hid (show (#[.int .i64 u.kind, .int .i64 u.num, .int .i64 u.reply.code, .int .i64 u.reply.uid, .int .i64 u.reply.id, .int .u64 u.reply.rev, .string u.reply.data, .slice PAu u.reply.pods.length pcu, .slice UAu u.reply.use.length ucu, .int .i64 u.event.kind, .int .u64 u.event.rev, .int .i64 u.event.pod.uid, .int .u64 u.event.pod.rev, .string u.event.pod.spec.name, .slice LAu u.event.pod.spec.labels.length lcu, .slice IAu u.event.pod.spec.init.length icu, .slice MAu u.event.pod.spec.main.length mcu, .int .i64 u.event.pod.spec.restart, .int .i64 u.event.pod.spec.grace, .int .i64 u.event.pod.spec.prio, .int .i64 u.event.pod.phase, .slice RAu u.event.pod.rs.length rcu, .int .i64 u.event.pod.mark, .int .i64 u.event.pod.grace] : Array Value).all (·.oneCell') = true by simp [Value.oneCell'])
       have HVx := Lib.hid hwb
       have HWx := Lib.hid hwa
       clear hwb hx_ hwa hba_
       have B8 := Lib.hid (B7.out.trans (hb8.mono B7.out.size))
       have HIN2 := Lib.hid (HIN.out.below hb8)
       clear hb8 HIN
       have RG := Lib.hid (range_at Z8.out 0 [.int .i64 u.kind, .int .i64 u.num, .int .i64 u.reply.code, .int .i64 u.reply.uid, .int .i64 u.reply.id, .int .u64 u.reply.rev, .string u.reply.data, .slice PAu u.reply.pods.length pcu, .slice UAu u.reply.use.length ucu, .int .i64 u.event.kind, .int .u64 u.event.rev, .int .i64 u.event.pod.uid, .int .u64 u.event.pod.rev, .string u.event.pod.spec.name, .slice LAu u.event.pod.spec.labels.length lcu, .slice IAu u.event.pod.spec.init.length icu, .slice MAu u.event.pod.spec.main.length mcu, .int .i64 u.event.pod.spec.restart, .int .i64 u.event.pod.spec.grace, .int .i64 u.event.pod.spec.prio, .int .i64 u.event.pod.phase, .slice RAu u.event.pod.rs.length rcu, .int .i64 u.event.pod.mark, .int .i64 u.event.pod.grace] rfl)
       by_cases hz0 : z = 0
       · subst hz0
         have hu := HYES.out HZ.out
         obtain ⟨hr1, hr2, hr3⟩ := ofM_right HZ.out
         rw [← hu] at hr1 hr2 hr3
         have HU1 := Lib.hid hr1
         have HLU := Lib.hid (msg_light (msg_ok hr1 hr3))
         have HTE := Lib.hid (show (⟨(msgC.put u).toArray⟩ : ByteArray) = t by rw [← hr2])
         clear hu hr1 hr2 hr3
         go_wp2_with (first | (refine wpList_load_mid rfl _ _ rfl _ _ rfl _ _ RG.out Tryz.underlying50 rfl (by kernel_rfl) ?_) | (refine wpList_load_midG rfl _ _ rfl _ _ rfl _ _ RG.out Tryz.underlying50 rfl (by kernel_rfl) ?_) | (refine wpList_store_to rfl _ _ _ rfl _ _ _ rfl rfl ?th (by kernel_rfl) ?one (v := w8) ?hv ?_))
         case th => rw [HWx.out]; exact THx.out
         case one => exact ONEx.out
         case hv => rw [HWx.out]; exact HVx.out
         clear THx ONEx HVx HWx
         refine (bytes_any u PAu pcu UAu ucu LAu lcu IAu icu MAu mcu RAu rcu w8 HLU.out (HL.out.below B8.out).spec HIN2.out).mono ?_
         rintro e w9 ⟨hb9, ⟨_, rfl⟩ | ⟨hn, _⟩⟩
         rotate_left
         · rw [HU1.out] at hn; cases hn
         rw [HTE.out]
         have HIN3 := Lib.hid (HIN2.out.below hb9)
         clear RG HIN2
         have B9 := Lib.hid (B8.out.trans (hb9.mono B8.out.size))
         have Z9 := Lib.hid ((hb9.block w7.heap.size (lt_of_block Z8.out)).trans Z8.out)
         clear hb9 Z8
         as_aux_lemma =>
          have RG := Lib.hid (range_at Z9.out 0 [.int .i64 u.kind, .int .i64 u.num, .int .i64 u.reply.code, .int .i64 u.reply.uid, .int .i64 u.reply.id, .int .u64 u.reply.rev, .string u.reply.data, .slice PAu u.reply.pods.length pcu, .slice UAu u.reply.use.length ucu, .int .i64 u.event.kind, .int .u64 u.event.rev, .int .i64 u.event.pod.uid, .int .u64 u.event.pod.rev, .string u.event.pod.spec.name, .slice LAu u.event.pod.spec.labels.length lcu, .slice IAu u.event.pod.spec.init.length icu, .slice MAu u.event.pod.spec.main.length mcu, .int .i64 u.event.pod.spec.restart, .int .i64 u.event.pod.spec.grace, .int .i64 u.event.pod.spec.prio, .int .i64 u.event.pod.phase, .slice RAu u.event.pod.rs.length rcu, .int .i64 u.event.pod.mark, .int .i64 u.event.pod.grace] rfl)
          go_wp2_with (first | (refine wpList_load_mid rfl _ _ rfl _ _ rfl _ _ RG.out Tryz.underlying50 rfl (by kernel_rfl) ?_) | (refine wpList_load_midG rfl _ _ rfl _ _ rfl _ _ RG.out Tryz.underlying50 rfl (by kernel_rfl) ?_))
          have HCK := Lib.hid (check_code u PAu pcu UAu ucu LAu lcu IAu icu MAu mcu RAu rcu w9 HLU.out (HL.out.below B9.out).spec HIN3.out)
          refine HCK.out.mono ?_
          rintro e w10 ⟨rfl, hb10⟩
          rw [HU1.out]
          have B10 := Lib.hid (B9.out.trans (hb10.mono B9.out.size))
          clear hb10 HCK RG
          have htt : (t.toList == t.toList) = true := by simp
          go_wp2
          go_ret
          exact ⟨rfl, B10.out⟩
       · skip
         have hu := HNO.out (fun e => hz0 (HZ.out.symm.trans e))
         have hz0' : (z != 0) = true := by simpa using hz0
         have HUZ := Lib.hid hu
         clear hu hz0
         have HSM := Lib.hid (sameMsg_any u zeroM PAu pcu UAu ucu LAu lcu IAu icu MAu mcu RAu rcu none 0 none 0 none 0 none 0 none 0 none 0 w8 HIN2.out (mg_zero 0 w8).in)
         go_wp2_with (first | (refine wpList_load_mid rfl _ _ rfl _ _ rfl _ _ RG.out Tryz.underlying50 rfl (by kernel_rfl) ?_) | (refine wpList_load_midG rfl _ _ rfl _ _ rfl _ _ RG.out Tryz.underlying50 rfl (by kernel_rfl) ?_) | (refine wpList_store_to rfl _ _ _ rfl _ _ _ rfl rfl ?th (by kernel_rfl) ?one (v := w8) ?hv ?_))
         case th => rw [HWx.out]; exact THx.out
         case one => exact ONEx.out
         case hv => rw [HWx.out]; exact HVx.out
         clear THx ONEx HVx HWx
         refine HSM.out.mono ?_
         rintro e w9 ⟨rfl, hb9⟩
         rw [HUZ.out, (sameMB_iff zeroM zeroM).2 rfl]
         go_wp2
         go_ret
         exact ⟨rfl, B8.out.trans (hb9.mono B8.out.size)⟩
end Go.Proofs.YtalnncgomlibbaaGreatDoor.TellBackWalk
