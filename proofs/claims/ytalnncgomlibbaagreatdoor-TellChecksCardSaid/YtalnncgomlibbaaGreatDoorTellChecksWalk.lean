/-
 The walk of the law TellChecks: it returns true, and leaves all that was there as it was. Condition: the listed variables hold what the program's text lays (Laid).
-/
import Derived.Test.YtalnncgomlibbaaGreatDoorTellD
import Derived.Test.YtalnncgomlibbaaGreatDoorTellC
import Derived.Test.YtalnncgomlibbaaGreatDoorTellA
set_option linter.unusedVariables false
set_option linter.unusedSimpArgs false
namespace Go.Proofs.YtalnncgomlibbaaGreatDoor.TellChecksWalk
open Go.ChangeShapes Go.WideShapes Go.ChangeAt Go.RowKit Go.Lib
open Tl LebMath WirePure Sd Wire SpecOwn SpecRef Book Pk
abbrev xA (p : Pd) (LA : Option Addr) (lc : Nat) (IA : Option Addr) (ic : Nat) (MA : Option Addr) (mc : Nat) (RA : Option Addr) (rc : Nat) : Array Value := #[.int .i64 p.uid, .int .u64 p.rev, .string p.spec.name, .slice LA p.spec.labels.length lc, .slice IA p.spec.init.length ic, .slice MA p.spec.main.length mc, .int .i64 p.spec.restart, .int .i64 p.spec.grace, .int .i64 p.spec.prio, .int .i64 p.phase, .slice RA p.rs.length rc, .int .i64 p.mark, .int .i64 p.grace]
abbrev yA (m : Mg) (PAm : Option Addr) (pcm : Nat) (UAm : Option Addr) (ucm : Nat) (LAm : Option Addr) (lcm : Nat) (IAm : Option Addr) (icm : Nat) (MAm : Option Addr) (mcm : Nat) (RAm : Option Addr) (rcm : Nat) : Array Value := #[.int .i64 m.kind, .int .i64 m.num, .int .i64 m.reply.code, .int .i64 m.reply.uid, .int .i64 m.reply.id, .int .u64 m.reply.rev, .string m.reply.data, .slice PAm m.reply.pods.length pcm, .slice UAm m.reply.use.length ucm, .int .i64 m.event.kind, .int .u64 m.event.rev, .int .i64 m.event.pod.uid, .int .u64 m.event.pod.rev, .string m.event.pod.spec.name, .slice LAm m.event.pod.spec.labels.length lcm, .slice IAm m.event.pod.spec.init.length icm, .slice MAm m.event.pod.spec.main.length mcm, .int .i64 m.event.pod.spec.restart, .int .i64 m.event.pod.spec.grace, .int .i64 m.event.pod.spec.prio, .int .i64 m.event.pod.phase, .slice RAm m.event.pod.rs.length rcm, .int .i64 m.event.pod.mark, .int .i64 m.event.pod.grace]
def FZ (p : Pd) (LA : Option Addr) (lc : Nat) (IA : Option Addr) (ic : Nat) (MA : Option Addr) (mc : Nat) (RA : Option Addr) (rc : Nat) (DL : Option Addr) (dl : Nat) (DI : Option Addr) (di : Nat) (DM : Option Addr) (dm : Nat) (DR : Option Addr) (dr : Nat) (m : Mg) (PAm : Option Addr) (pcm : Nat) (UAm : Option Addr) (ucm : Nat) (LAm : Option Addr) (lcm : Nat) (IAm : Option Addr) (icm : Nat) (MAm : Option Addr) (mcm : Nat) (RAm : Option Addr) (rcm : Nat) (bA bB bD : Nat) (zp zm : Int) (bp bm : Bool) : Nat → Value → World → Prop
 | 0 => fun v _ => v = .bool true
 | 1 => fun v _ => v = .bool true
 | 2 => fun v _ => v = .agg (xA p DL dl DI di DM dm DR dr)
 | 3 => fun v _ => v = .agg (xA p LA lc IA ic MA mc RA rc)
 | 4 => fun v _ => v = .bool true
 | 5 => fun v _ => v = .bool true
 | 6 => fun v _ => v = .bool true
 | 7 => fun v _ => v = .agg (xA p LA lc IA ic MA mc RA rc)
 | 8 => fun v _ => v = .int .i64 zp
 | 9 => fun v _ => v = .agg (xA p LA lc IA ic MA mc RA rc)
 | 10 => fun v _ => v = .bool bp
 | 11 => fun v _ => v = .int .i64 zp
 | 12 => fun v _ => v = .bool true
 | 13 => fun v _ => v = .bool true
 | 14 => fun v _ => v = .bool true
 | 15 => fun v _ => v = .agg (yA m PAm pcm UAm ucm LAm lcm IAm icm MAm mcm RAm rcm)
 | 16 => fun v _ => v = .int .i64 zm
 | 17 => fun v _ => v = .agg (yA m PAm pcm UAm ucm LAm lcm IAm icm MAm mcm RAm rcm)
 | 18 => fun v _ => v = .bool bm
 | 19 => fun v _ => v = .int .i64 zm
 | 20 => fun v _ => v = .bool true
 | 21 => fun v _ => v = .bool true
 | 22 => fun v _ => v = .bool true
 | 23 => fun v _ => v = .bool true
 | 24 => fun v _ => v = .bool true
 | _ => fun v _ => v = .bool true
theorem FZ_keep (p : Pd) (LA : Option Addr) (lc : Nat) (IA : Option Addr) (ic : Nat) (MA : Option Addr) (mc : Nat) (RA : Option Addr) (rc : Nat) (DL : Option Addr) (dl : Nat) (DI : Option Addr) (di : Nat) (DM : Option Addr) (dm : Nat) (DR : Option Addr) (dr : Nat) (m : Mg) (PAm : Option Addr) (pcm : Nat) (UAm : Option Addr) (ucm : Nat) (LAm : Option Addr) (lcm : Nat) (IAm : Option Addr) (icm : Nat) (MAm : Option Addr) (mcm : Nat) (RAm : Option Addr) (rcm : Nat) (bA bB bD : Nat) (zp zm : Int) (bp bm : Bool) (i_ : Nat) (v_ : Value) (w_ w2_ : World) (h_ : FZ p LA lc IA ic MA mc RA rc DL dl DI di DM dm DR dr m PAm pcm UAm ucm LAm lcm IAm icm MAm mcm RAm rcm bA bB bD zp zm bp bm i_ v_ w_) (hb_ : Below w_.heap.size w_ w2_) : FZ p LA lc IA ic MA mc RA rc DL dl DI di DM dm DR dr m PAm pcm UAm ucm LAm lcm IAm icm MAm mcm RAm rcm bA bB bD zp zm bp bm i_ v_ w2_ := by
 unfold FZ at h_ ⊢
 split at h_ <;> exact h_
set_option maxRecDepth 100000 in
set_option maxHeartbeats 4000000 in
theorem walk (p : Pd) (LA : Option Addr) (lc : Nat) (IA : Option Addr) (ic : Nat) (MA : Option Addr) (mc : Nat) (RA : Option Addr) (rc : Nat) (m : Mg) (PAm : Option Addr) (pcm : Nat) (UAm : Option Addr) (ucm : Nat) (LAm : Option Addr) (lcm : Nat) (IAm : Option Addr) (icm : Nat) (MAm : Option Addr) (mcm : Nat) (RAm : Option Addr) (rcm : Nat) (w : World) (hL : Laid w) (hp : p.In w LA lc IA ic MA mc RA) (hm : m.In w PAm UAm LAm lcm IAm icm MAm mcm RAm) :
 Calls Tryz.prog 4 #[.agg #[.int .i64 p.uid, .int .u64 p.rev, .string p.spec.name, .slice LA p.spec.labels.length lc, .slice IA p.spec.init.length ic, .slice MA p.spec.main.length mc, .int .i64 p.spec.restart, .int .i64 p.spec.grace, .int .i64 p.spec.prio, .int .i64 p.phase, .slice RA p.rs.length rc, .int .i64 p.mark, .int .i64 p.grace], .agg #[.int .i64 m.kind, .int .i64 m.num, .int .i64 m.reply.code, .int .i64 m.reply.uid, .int .i64 m.reply.id, .int .u64 m.reply.rev, .string m.reply.data, .slice PAm m.reply.pods.length pcm, .slice UAm m.reply.use.length ucm, .int .i64 m.event.kind, .int .u64 m.event.rev, .int .i64 m.event.pod.uid, .int .u64 m.event.pod.rev, .string m.event.pod.spec.name, .slice LAm m.event.pod.spec.labels.length lcm, .slice IAm m.event.pod.spec.init.length icm, .slice MAm m.event.pod.spec.main.length mcm, .int .i64 m.event.pod.spec.restart, .int .i64 m.event.pod.spec.grace, .int .i64 m.event.pod.spec.prio, .int .i64 m.event.pod.phase, .slice RAm m.event.pod.rs.length rcm, .int .i64 m.event.pod.mark, .int .i64 m.event.pod.grace]] w fun e w' => e = .returned (.bool true) ∧ Below w.heap.size w w' := by
 have HL := hid hL
 have H := hid hp
 have HM := hid hm
 clear hL hp hm
 obtain ⟨w0, hw0⟩ : ∃ v, (w.alloc (.cells (xA p LA lc IA ic MA mc RA rc) 42)).alloc (.cells (yA m PAm pcm UAm ucm LAm lcm IAm icm MAm mcm RAm rcm) 50) = v := ⟨_, rfl⟩
 have B0 := hid (show Below w.heap.size w w0 by rw [← hw0]; exact ((Below.refl _ _).alloc (Nat.le_refl _) _).alloc (by simp) _)
 have X0 := hid (show w0.heap[w.heap.size]? = some (.cells (xA p LA lc IA ic MA mc RA rc) 42 (0, 0)) by rw [← hw0]; exact (two_new w _ _).1)
 have Y0 := hid (show w0.heap[w.heap.size + 1]? = some (.cells (yA m PAm pcm UAm ucm LAm lcm IAm icm MAm mcm RAm rcm) 50 (0, 0)) by rw [← hw0]; exact (two_new w _ _).2)
 have RGx := hid (range_at X0.out 0 [.int .i64 p.uid, .int .u64 p.rev, .string p.spec.name, .slice LA p.spec.labels.length lc, .slice IA p.spec.init.length ic, .slice MA p.spec.main.length mc, .int .i64 p.spec.restart, .int .i64 p.spec.grace, .int .i64 p.spec.prio, .int .i64 p.phase, .slice RA p.rs.length rc, .int .i64 p.mark, .int .i64 p.grace] rfl)
 go_enter Tryz.func4, Tryz.ntmps4
 go_wp2_with (first | (refine wpList_load_mid rfl 42 _ rfl _ _ rfl _ _ RGx.out Tryz.underlying42 rfl (by kernel_rfl) ?_) | (refine wpList_load_midG rfl 42 _ rfl _ _ rfl _ _ RGx.out Tryz.underlying42 rfl (by kernel_rfl) ?_))
 clear hw0 RGx
 refine (lightP_any p LA lc IA ic MA mc RA rc w0 (H.out.below B0.out)).mono ?_
 rintro e w1 ⟨rfl, hb1⟩
 have B1 := hid (B0.out.trans (hb1.mono B0.out.size))
 have X1 := hid ((hb1.block w.heap.size (lt_of_block X0.out)).trans X0.out)
 have Y1 := hid ((hb1.block (w.heap.size + 1) (lt_of_block Y0.out)).trans Y0.out)
 clear hb1 X0 Y0
 cases hlt : lightPB p with
 | false =>
  go_wp2_with fail
  refine (works_any w1 (HL.out.below B1.out)).mono ?_
  rintro e wz ⟨rfl, hbz⟩; go_wp2
  go_ret
  exact ⟨rfl, B1.out.trans (hbz.mono B1.out.size)⟩
 | true =>
  have HLT := hid (lightPB_iff.1 hlt); clear hlt; have RGy := hid (range_at Y1.out 0 [.int .i64 m.kind, .int .i64 m.num, .int .i64 m.reply.code, .int .i64 m.reply.uid, .int .i64 m.reply.id, .int .u64 m.reply.rev, .string m.reply.data, .slice PAm m.reply.pods.length pcm, .slice UAm m.reply.use.length ucm, .int .i64 m.event.kind, .int .u64 m.event.rev, .int .i64 m.event.pod.uid, .int .u64 m.event.pod.rev, .string m.event.pod.spec.name, .slice LAm m.event.pod.spec.labels.length lcm, .slice IAm m.event.pod.spec.init.length icm, .slice MAm m.event.pod.spec.main.length mcm, .int .i64 m.event.pod.spec.restart, .int .i64 m.event.pod.spec.grace, .int .i64 m.event.pod.spec.prio, .int .i64 m.event.pod.phase, .slice RAm m.event.pod.rs.length rcm, .int .i64 m.event.pod.mark, .int .i64 m.event.pod.grace] rfl)
  go_wp2_with (first | (refine wpList_load_mid rfl 50 _ rfl _ _ rfl _ _ RGy.out Tryz.underlying50 rfl (by kernel_rfl) ?_) | (refine wpList_load_midG rfl 50 _ rfl _ _ rfl _ _ RGy.out Tryz.underlying50 rfl (by kernel_rfl) ?_))
  clear RGy
  refine (lightM_any m PAm pcm UAm ucm LAm lcm IAm icm MAm mcm RAm rcm w1 (HM.out.below B1.out)).mono ?_
  rintro e w2 ⟨rfl, hb2⟩; have B2 := hid (B1.out.trans (hb2.mono B1.out.size)); have X2 := hid ((hb2.block w.heap.size (lt_of_block X1.out)).trans X1.out); have Y2 := hid ((hb2.block (w.heap.size + 1) (lt_of_block Y1.out)).trans Y1.out); clear hb2 X1 Y1
  cases hlm : lightMB m with
  | false =>
   go_wp2_with fail
   refine (works_any w2 (HL.out.below B2.out)).mono ?_
   rintro e wz ⟨rfl, hbz⟩; go_wp2
   go_ret
   exact ⟨rfl, B2.out.trans (hbz.mono B2.out.size)⟩
  | true =>
   have HLM := hid (lightMB_iff.1 hlm); clear hlm; have LTY := hid (lt_of_block Y2.out); have RGx := hid (range_at X2.out 0 [.int .i64 p.uid, .int .u64 p.rev, .string p.spec.name, .slice LA p.spec.labels.length lc, .slice IA p.spec.init.length ic, .slice MA p.spec.main.length mc, .int .i64 p.spec.restart, .int .i64 p.spec.grace, .int .i64 p.spec.prio, .int .i64 p.phase, .slice RA p.rs.length rc, .int .i64 p.mark, .int .i64 p.grace] rfl)
   go_wp2_with (first | (refine wpList_load_mid rfl 42 _ rfl _ _ rfl _ _ RGx.out Tryz.underlying42 rfl (by kernel_rfl) ?_) | (refine wpList_load_midG rfl 42 _ rfl _ _ rfl _ _ RGx.out Tryz.underlying42 rfl (by kernel_rfl) ?_))
   clear RGx
   refine (clonePod_any p LA lc IA ic MA mc RA rc HLT.out w2 (H.out.below B2.out)).mono ?_
   rintro e w3 ⟨CL, cl, CI, ci, CM, cm, CR, cr, rfl, hpf, hb3⟩; have B3 := hid (B2.out.trans (hb3.mono B2.out.size)); have X3 := hid ((hb3.block w.heap.size (lt_of_block X2.out)).trans X2.out); have Y3 := hid ((hb3.block (w.heap.size + 1) (lt_of_block Y2.out)).trans Y2.out)
   have S3 := hid hb3.size
   have WL := hid (wlbls (hi := w3.heap.size) hpf.labels hpf.lf hpf.lt (Nat.le_refl _)); have WI := hid (wctrs (hi := w3.heap.size) hpf.init (fun x hx => by have := (HLT.out.spec.2.2.1 x hx).2.2; omega) (Nat.le_refl _)); have WM := hid (wctrs (hi := w3.heap.size) hpf.main (fun x hx => by have := (HLT.out.spec.2.2.2 x hx).2.2; omega) (Nat.le_refl _)); have WR := hid (wnums (hi := w3.heap.size) hpf.rs hpf.rf hpf.rt (Nat.le_refl _)); have C3 := hid (show p.In w3 CL cl CI ci CM cm CR from hpf.in H.out); clear hb3 hpf X2 Y2
   have hx_ := heap_alloc_new w3 (.cells #[.int .i64 0, .int .u64 0, .string ⟨#[]⟩, .slice none 0 0, .slice none 0 0, .slice none 0 0, .int .i64 0, .int .i64 0, .int .i64 0, .int .i64 0, .slice none 0 0, .int .i64 0, .int .i64 0] 42)
   obtain ⟨wa3, hwa⟩ : ∃ v, w3.alloc (.cells #[.int .i64 0, .int .u64 0, .string ⟨#[]⟩, .slice none 0 0, .slice none 0 0, .slice none 0 0, .int .i64 0, .int .i64 0, .int .i64 0, .int .i64 0, .slice none 0 0, .int .i64 0, .int .i64 0] 42) = v := ⟨_, rfl⟩
   rw [hwa] at hx_
   have hba_ : Below w3.heap.size w3 wa3 := by rw [← hwa]; exact (Below.refl _ _).alloc (Nat.le_refl _) _
   obtain ⟨w4, hwb⟩ : ∃ v, wa3.setCells w3.heap.size 0 [.int .i64 p.uid, .int .u64 p.rev, .string p.spec.name, .slice CL p.spec.labels.length cl, .slice CI p.spec.init.length ci, .slice CM p.spec.main.length cm, .int .i64 p.spec.restart, .int .i64 p.spec.grace, .int .i64 p.spec.prio, .int .i64 p.phase, .slice CR p.rs.length cr, .int .i64 p.mark, .int .i64 p.grace] = v := ⟨_, rfl⟩; have C4 := hid (show w4.heap[w3.heap.size]? = some (.cells (xA p CL cl CI ci CM cm CR cr) 42 (0, 0)) by rw [← hwb]; exact box_into hx_ 0 _ (over_13 _ _ _ _ _ _ _ _ _ _ _ _ _ _ _ _ _ _ _ _ _ _ _ _ _ _))
   have hb4 : Below w3.heap.size w3 w4 := by rw [← hwb]; exact below_cells (Nat.le_refl _) _ 0 hba_
   have THx := hid (show wa3.there w3.heap.size 0 13 from box_there hx_ 0 13 (by decide)); have ONEx := hid (show ((xA p CL cl CI ci CM cm CR cr) : Array Value).all (·.oneCell') = true by simp [Value.oneCell'])
   have HVx := hid hwb
   have HWx := hid hwa
   clear hwb hx_ hwa hba_; have B4 := hid (B3.out.trans (hb4.mono B3.out.size)); have X4 := hid ((hb4.block w.heap.size (lt_of_block X3.out)).trans X3.out); have Y4 := hid ((hb4.block (w.heap.size + 1) (lt_of_block Y3.out)).trans Y3.out); have CC4 := hid (C3.out.below hb4)
   have K4 := hid hb4
   have S4 := hid (show w3.heap.size ≤ w4.heap.size from hb4.size); clear hb4 X3 Y3 C3; have RGc := hid (range_at C4.out 0 [.int .i64 p.uid, .int .u64 p.rev, .string p.spec.name, .slice CL p.spec.labels.length cl, .slice CI p.spec.init.length ci, .slice CM p.spec.main.length cm, .int .i64 p.spec.restart, .int .i64 p.spec.grace, .int .i64 p.spec.prio, .int .i64 p.phase, .slice CR p.rs.length cr, .int .i64 p.mark, .int .i64 p.grace] rfl)
   go_wp2_with (first | (refine wpList_load_mid rfl 42 _ rfl _ _ rfl _ _ RGc.out Tryz.underlying42 rfl (by kernel_rfl) ?_) | (refine wpList_load_midG rfl 42 _ rfl _ _ rfl _ _ RGc.out Tryz.underlying42 rfl (by kernel_rfl) ?_) | (refine wpList_store_to rfl 42 _ _ rfl _ _ _ rfl rfl ?th (by kernel_rfl) ?one (v := w4) ?hv ?_))
   case th => rw [HWx.out]; exact THx.out
   case one => exact ONEx.out
   case hv => rw [HWx.out]; exact HVx.out
   clear THx ONEx HVx HWx; clear RGc
   as_aux_lemma =>
    refine (clonePod_any p CL cl CI ci CM cm CR cr HLT.out w4 CC4.out).mono ?_
    rintro e w5 ⟨DL, dl, DI, di, DM, dm, DR, dr, rfl, hpd, hb5⟩; have B5 := hid (B4.out.trans (hb5.mono B4.out.size)); have X5 := hid ((hb5.block w.heap.size (lt_of_block X4.out)).trans X4.out); have Y5 := hid ((hb5.block (w.heap.size + 1) (lt_of_block Y4.out)).trans Y4.out); have C5 := hid ((hb5.block w3.heap.size (lt_of_block C4.out)).trans C4.out); have CC5 := hid (CC4.out.below hb5); have K5 := hid (K4.out.trans (hb5.mono K4.out.size)); have S5 := hid (show w3.heap.size ≤ w5.heap.size from Nat.le_trans K4.out.size hb5.size)
    have HD5 := hid hpd
    clear hb5 hpd X4 Y4 C4 CC4 K4
    have hx_ := heap_alloc_new w5 (.cells #[.int .i64 0, .int .u64 0, .string ⟨#[]⟩, .slice none 0 0, .slice none 0 0, .slice none 0 0, .int .i64 0, .int .i64 0, .int .i64 0, .int .i64 0, .slice none 0 0, .int .i64 0, .int .i64 0] 42)
    obtain ⟨wa5, hwa⟩ : ∃ v, w5.alloc (.cells #[.int .i64 0, .int .u64 0, .string ⟨#[]⟩, .slice none 0 0, .slice none 0 0, .slice none 0 0, .int .i64 0, .int .i64 0, .int .i64 0, .int .i64 0, .slice none 0 0, .int .i64 0, .int .i64 0] 42) = v := ⟨_, rfl⟩
    rw [hwa] at hx_
    have hba_ : Below w5.heap.size w5 wa5 := by rw [← hwa]; exact (Below.refl _ _).alloc (Nat.le_refl _) _
    obtain ⟨w6, hwb⟩ : ∃ v, wa5.setCells w5.heap.size 0 [.int .i64 p.uid, .int .u64 p.rev, .string p.spec.name, .slice DL p.spec.labels.length dl, .slice DI p.spec.init.length di, .slice DM p.spec.main.length dm, .int .i64 p.spec.restart, .int .i64 p.spec.grace, .int .i64 p.spec.prio, .int .i64 p.phase, .slice DR p.rs.length dr, .int .i64 p.mark, .int .i64 p.grace] = v := ⟨_, rfl⟩; have D6 := hid (show w6.heap[w5.heap.size]? = some (.cells (xA p DL dl DI di DM dm DR dr) 42 (0, 0)) by rw [← hwb]; exact box_into hx_ 0 _ (over_13 _ _ _ _ _ _ _ _ _ _ _ _ _ _ _ _ _ _ _ _ _ _ _ _ _ _))
    have hb6 : Below w5.heap.size w5 w6 := by rw [← hwb]; exact below_cells (Nat.le_refl _) _ 0 hba_
    have THx := hid (show wa5.there w5.heap.size 0 13 from box_there hx_ 0 13 (by decide)); have ONEx := hid (show ((xA p DL dl DI di DM dm DR dr) : Array Value).all (·.oneCell') = true by simp [Value.oneCell'])
    have HVx := hid hwb
    have HWx := hid hwa
    clear hwb hx_ hwa hba_; have B6 := hid (B5.out.trans (hb6.mono B5.out.size)); have X6 := hid ((hb6.block w.heap.size (lt_of_block X5.out)).trans X5.out); have Y6 := hid ((hb6.block (w.heap.size + 1) (lt_of_block Y5.out)).trans Y5.out); have C6 := hid ((hb6.block w3.heap.size (lt_of_block C5.out)).trans C5.out); have CC6 := hid (CC5.out.below hb6); have K6 := hid (K5.out.trans (hb6.mono K5.out.size)); have HD6 := hid (show PodFrom w4.heap.size p w6 DL DI DM DR from HD5.out.ab (Ab.of_below hb6)); clear hb6 X5 Y5 C5 CC5 K5 HD5; have RGc := hid (range_at C6.out 0 [.int .i64 p.uid, .int .u64 p.rev, .string p.spec.name, .slice CL p.spec.labels.length cl, .slice CI p.spec.init.length ci, .slice CM p.spec.main.length cm, .int .i64 p.spec.restart, .int .i64 p.spec.grace, .int .i64 p.spec.prio, .int .i64 p.phase, .slice CR p.rs.length cr, .int .i64 p.mark, .int .i64 p.grace] rfl); have RGx := hid (range_at X6.out 0 [.int .i64 p.uid, .int .u64 p.rev, .string p.spec.name, .slice LA p.spec.labels.length lc, .slice IA p.spec.init.length ic, .slice MA p.spec.main.length mc, .int .i64 p.spec.restart, .int .i64 p.spec.grace, .int .i64 p.spec.prio, .int .i64 p.phase, .slice RA p.rs.length rc, .int .i64 p.mark, .int .i64 p.grace] rfl)
    go_wp2_with (first | (refine wpList_load_mid rfl 42 _ rfl _ _ rfl _ _ RGc.out Tryz.underlying42 rfl (by kernel_rfl) ?_) | (refine wpList_load_midG rfl 42 _ rfl _ _ rfl _ _ RGc.out Tryz.underlying42 rfl (by kernel_rfl) ?_) | (refine wpList_load_mid rfl 42 _ rfl _ _ rfl _ _ RGx.out Tryz.underlying42 rfl (by kernel_rfl) ?_) | (refine wpList_load_midG rfl 42 _ rfl _ _ rfl _ _ RGx.out Tryz.underlying42 rfl (by kernel_rfl) ?_) | (refine wpList_store_to rfl 42 _ _ rfl _ _ _ rfl rfl ?th (by kernel_rfl) ?one (v := w6) ?hv ?_))
    case th => rw [HWx.out]; exact THx.out
    case one => exact ONEx.out
    case hv => rw [HWx.out]; exact HVx.out
    clear THx ONEx HVx HWx; clear RGc RGx
    as_aux_lemma =>
     refine (samePod_any p p CL cl CI ci CM cm CR cr LA lc IA ic MA mc RA rc w6 CC6.out (H.out.below B6.out)).mono ?_
     rw [(samePB_iff p p).2 rfl]; rintro e w7 ⟨rfl, hb7⟩; have B7 := hid (B6.out.trans (hb7.mono B6.out.size)); have X7 := hid ((hb7.block w.heap.size (lt_of_block X6.out)).trans X6.out); have Y7 := hid ((hb7.block (w.heap.size + 1) (lt_of_block Y6.out)).trans Y6.out); have C7 := hid ((hb7.block w3.heap.size (lt_of_block C6.out)).trans C6.out); have D7 := hid ((hb7.block w5.heap.size (lt_of_block D6.out)).trans D6.out); have K7 := hid (K6.out.trans (hb7.mono K6.out.size)); have HD7 := hid (show PodFrom w4.heap.size p w7 DL DI DM DR from HD6.out.ab (Ab.of_below hb7)); clear hb7 X6 Y6 C6 D6 CC6 K6 HD6; have RGc := hid (range_at C7.out 0 [.int .i64 p.uid, .int .u64 p.rev, .string p.spec.name, .slice CL p.spec.labels.length cl, .slice CI p.spec.init.length ci, .slice CM p.spec.main.length cm, .int .i64 p.spec.restart, .int .i64 p.spec.grace, .int .i64 p.spec.prio, .int .i64 p.phase, .slice CR p.rs.length cr, .int .i64 p.mark, .int .i64 p.grace] rfl); obtain ⟨w8, hw8⟩ : ∃ v, w7.alloc (.cells (xA p CL cl CI ci CM cm CR cr) 42) = v := ⟨_, rfl⟩; have R8 := hid (show w8.heap[w7.heap.size]? = some (.cells (xA p CL cl CI ci CM cm CR cr) 42 (0, 0)) by rw [← hw8]; exact heap_alloc_new w7 _)
     have hb8 : Below w7.heap.size w7 w8 := by rw [← hw8]; exact (Below.refl _ _).alloc (Nat.le_refl _) _
     have B8 := hid (B7.out.trans (hb8.mono B7.out.size)); have X8 := hid ((hb8.block w.heap.size (lt_of_block X7.out)).trans X7.out); have Y8 := hid ((hb8.block (w.heap.size + 1) (lt_of_block Y7.out)).trans Y7.out); have D8 := hid ((hb8.block w5.heap.size (lt_of_block D7.out)).trans D7.out); have K8 := hid (K7.out.trans (hb8.mono K7.out.size))
     have N8 := hid hb8
     have S7 := hid (lt_of_block D7.out)
     have HW8 := hid hw8
     clear hb8 X7 Y7 hw8
     go_wp2_with (first | (refine wpList_load_mid rfl 42 _ rfl _ _ rfl _ _ RGc.out Tryz.underlying42 rfl (by kernel_rfl) ?_) | (refine wpList_load_midG rfl 42 _ rfl _ _ rfl _ _ RGc.out Tryz.underlying42 rfl (by kernel_rfl) ?_) | (refine wpList_buildPod rfl _ rfl _ _ _ _ _ _ _ _ _ _ _ _ _ rfl HW8.out ?_))
     clear HW8; clear RGc C7
     refine (spoilPods_any w2.heap.size w3.heap.size w7.heap.size p CL cl CI ci CM cm CR cr HLT.out w8 K7.out.size R8.out (WL.out.kin (Kin.of_below K8.out)) (WI.out.kin (Kin.of_below K8.out)) (WM.out.kin (Kin.of_below K8.out)) (WR.out.kin (Kin.of_below K8.out))).mono ?_
     rintro e w9 ⟨rfl, hk9⟩; have B9 := hid (show Below w.heap.size w w9 from B8.out.trans ⟨hk9.os, hk9.tape, hk9.output, hk9.size, fun i hi => hk9.block i (by have := B8.out.size; omega) (.inl (by have := LTY.out; omega)) (by have := B7.out.size; omega)⟩); have X9 := hid ((hk9.block w.heap.size (lt_of_block X8.out) (.inl (by have := LTY.out; omega)) (by have := B7.out.size; have := S7.out; have := S5.out; have := S3.out; have := LTY.out; omega)).trans X8.out); have Y9 := hid ((hk9.block (w.heap.size + 1) (lt_of_block Y8.out) (.inl (by have := LTY.out; omega)) (by have := S7.out; have := S5.out; have := S3.out; have := LTY.out; omega)).trans Y8.out); have D9 := hid ((hk9.block w5.heap.size (lt_of_block D8.out) (.inr S5.out) (by have := S7.out; omega)).trans D8.out); have HD9 := hid (show p.In w9 DL dl DI di DM dm DR from (HD7.out.ab (⟨Nat.le_trans N8.out.size hk9.size, fun i h1 h2 => (hk9.block i (Nat.lt_of_lt_of_le h2 N8.out.size) (.inr (Nat.le_trans (by have := S4.out; omega) h1)) (by omega)).trans (N8.out.block i h2)⟩ : Ab w4.heap.size w7 w9)).in H.out); clear hk9 X8 Y8 D7 D8 R8 HD7 K7 K8 N8 WL WI WM WR; obtain ⟨bA, hbA⟩ : ∃ b, w.heap.size = b := ⟨_, rfl⟩; obtain ⟨bB, hbB⟩ : ∃ b, bA + 1 = b := ⟨_, rfl⟩; obtain ⟨bD, hbD⟩ : ∃ b, w5.heap.size = b := ⟨_, rfl⟩; obtain ⟨bp, hbp⟩ : ∃ b, podB p = b := ⟨_, rfl⟩; obtain ⟨bm, hbm⟩ : ∃ b, msgB m = b := ⟨_, rfl⟩; obtain ⟨zp, hzp⟩ : ∃ z : Int, (bif podB p then 0 else 4) = z := ⟨_, rfl⟩; obtain ⟨zm, hzm⟩ : ∃ z : Int, (bif msgB m then 0 else 4) = z := ⟨_, rfl⟩
     have HBP := hid hbp
     have HBM := hid hbm
     have HZP := hid hzp
     have HZM := hid hzm
     rw [hbA] at X9 Y9 ⊢
     rw [hbB] at Y9 ⊢
     rw [hbD] at D9 ⊢
     clear hbA hbB hbD hbp hbm hzp hzm LTY S3 S4 S5 S7; go_wp2_with fail
     refine Loose.wp_region_walk (by kernel_rfl) (by kernel_rfl) (FZ p LA lc IA ic MA mc RA rc DL dl DI di DM dm DR dr m PAm pcm UAm ucm LAm lcm IAm icm MAm mcm RAm rcm bA bB bD zp zm bp bm) (FZ_keep p LA lc IA ic MA mc RA rc DL dl DI di DM dm DR dr m PAm pcm UAm ucm LAm lcm IAm icm MAm mcm RAm rcm bA bB bD zp zm bp bm) ?_ ?_
     · refine ⟨?_, ?_, ?_, ?_, ?_, ?_, ?_, ?_, ?_, ?_, ?_, ?_, ?_, ?_, ?_, ?_, ?_, ?_, ?_, ?_, ?_, ?_, ?_, ?_, ?_, ?_, trivial⟩
       · intro a w1 hfr hdep
         have f0 : a.tmps.getD 7 undef = .bool true := hfr.slot 7 (by kernel_rfl)
         refine Loose.Step.value rfl (v := .bool true) (w' := w1) ?_ rfl (Below.refl _ _)
         simp [go_sem, Act.eval, f0]
       · intro a w1 hfr hdep
         have e0 : a.tmps.getD 27 undef = .bool true := Loose.dep_of hdep 0 27 (by kernel_rfl)
         refine Loose.Step.value rfl (v := .bool true) (w' := w1) ?_ rfl (Below.refl _ _)
         simp [go_sem, Act.eval, e0]
       · intro a w1 hfr hdep
         have hq_ := (hfr.below.block bD (lt_of_block D9.out)).trans D9.out
         have gd : a.tmps.getD 28 undef = .bool true := Loose.dep_of hdep 1 28 (by kernel_rfl)
         have f0 : a.tmps.getD 6 undef = .pointer (some ⟨bD, 0, none⟩) := hfr.slot 6 (by kernel_rfl)
         refine Loose.Step.valueG (Loose.wanted_of rfl rfl gd) (v := .agg (xA p DL dl DI di DM dm DR dr)) (w' := w1) ?_ rfl (Below.refl _ _)
         exact exec_load rfl f0 (range_at hq_ 0 (xA p DL dl DI di DM dm DR dr).toList rfl) Tryz.underlying42 rfl (by kernel_rfl)
       · intro a w1 hfr hdep
         have hq_ := (hfr.below.block bA (lt_of_block X9.out)).trans X9.out
         have gd : a.tmps.getD 28 undef = .bool true := Loose.dep_of hdep 1 28 (by kernel_rfl)
         have f0 : a.tmps.getD 2 undef = .pointer (some ⟨bA, 0, none⟩) := hfr.slot 2 (by kernel_rfl)
         refine Loose.Step.valueG (Loose.wanted_of rfl rfl gd) (v := .agg (xA p LA lc IA ic MA mc RA rc)) (w' := w1) ?_ rfl (Below.refl _ _)
         exact exec_load rfl f0 (range_at hq_ 0 (xA p LA lc IA ic MA mc RA rc).toList rfl) Tryz.underlying42 rfl (by kernel_rfl)
       · intro a w1 hfr hdep
         have gd : a.tmps.getD 28 undef = .bool true := Loose.dep_of hdep 1 28 (by kernel_rfl)
         have e0 : a.tmps.getD 29 undef = .agg (xA p DL dl DI di DM dm DR dr) := Loose.dep_of hdep 2 29 (by kernel_rfl)
         have e1 : a.tmps.getD 30 undef = .agg (xA p LA lc IA ic MA mc RA rc) := Loose.dep_of hdep 3 30 (by kernel_rfl)
         refine Loose.Step.callG (Loose.wanted_of rfl rfl gd) (f := 19) (args := #[.agg (xA p DL dl DI di DM dm DR dr), .agg (xA p LA lc IA ic MA mc RA rc)]) ?_ ?_
         · simp [go_sem, Act.eval, e0, e1]
         · refine (samePod_any p p DL dl DI di DM dm DR dr LA lc IA ic MA mc RA rc w1 (HD9.out.below hfr.below) (H.out.below (B9.out.trans (hfr.below.mono B9.out.size)))).mono ?_
           rw [(samePB_iff p p).2 rfl]; rintro e w2 ⟨rfl, hb⟩
           exact ⟨_, rfl, rfl, hb⟩
       · intro a w1 hfr hdep
         have e0 : a.tmps.getD 28 undef = .bool true := Loose.dep_of hdep 1 28 (by kernel_rfl)
         have e1 : a.tmps.getD 31 undef = .bool true := Loose.dep_of hdep 4 31 (by kernel_rfl)
         refine Loose.Step.value rfl (v := .bool true) (w' := w1) ?_ rfl (Below.refl _ _)
         simp [go_sem, Act.eval, e0, e1]
       · intro a w1 hfr hdep
         have e0 : a.tmps.getD 32 undef = .bool true := Loose.dep_of hdep 5 32 (by kernel_rfl)
         refine Loose.Step.value rfl (v := .bool true) (w' := w1) ?_ rfl (Below.refl _ _)
         simp [go_sem, Act.eval, e0]
       · intro a w1 hfr hdep
         have hq_ := (hfr.below.block bA (lt_of_block X9.out)).trans X9.out
         have gd : a.tmps.getD 33 undef = .bool true := Loose.dep_of hdep 6 33 (by kernel_rfl)
         have f0 : a.tmps.getD 2 undef = .pointer (some ⟨bA, 0, none⟩) := hfr.slot 2 (by kernel_rfl)
         refine Loose.Step.valueG (Loose.wanted_of rfl rfl gd) (v := .agg (xA p LA lc IA ic MA mc RA rc)) (w' := w1) ?_ rfl (Below.refl _ _)
         exact exec_load rfl f0 (range_at hq_ 0 (xA p LA lc IA ic MA mc RA rc).toList rfl) Tryz.underlying42 rfl (by kernel_rfl)
       · intro a w1 hfr hdep
         have gd : a.tmps.getD 33 undef = .bool true := Loose.dep_of hdep 6 33 (by kernel_rfl)
         have e0 : a.tmps.getD 34 undef = .agg (xA p LA lc IA ic MA mc RA rc) := Loose.dep_of hdep 7 34 (by kernel_rfl)
         refine Loose.Step.callG (Loose.wanted_of rfl rfl gd) (f := 21) (args := #[.agg (xA p LA lc IA ic MA mc RA rc)]) ?_ ?_
         · simp [go_sem, Act.eval, e0]
         · refine (pod_code p LA lc IA ic MA mc RA rc w1 HLT.out (HL.out.below (B9.out.trans (hfr.below.mono B9.out.size))).spec (H.out.below (B9.out.trans (hfr.below.mono B9.out.size)))).mono ?_
           rw [HZP.out]; rintro e w2 ⟨rfl, hb⟩
           exact ⟨_, rfl, rfl, hb⟩
       · intro a w1 hfr hdep
         have hq_ := (hfr.below.block bA (lt_of_block X9.out)).trans X9.out
         have gd : a.tmps.getD 33 undef = .bool true := Loose.dep_of hdep 6 33 (by kernel_rfl)
         have f0 : a.tmps.getD 2 undef = .pointer (some ⟨bA, 0, none⟩) := hfr.slot 2 (by kernel_rfl)
         refine Loose.Step.valueG (Loose.wanted_of rfl rfl gd) (v := .agg (xA p LA lc IA ic MA mc RA rc)) (w' := w1) ?_ rfl (Below.refl _ _)
         exact exec_load rfl f0 (range_at hq_ 0 (xA p LA lc IA ic MA mc RA rc).toList rfl) Tryz.underlying42 rfl (by kernel_rfl)
       · intro a w1 hfr hdep
         have gd : a.tmps.getD 33 undef = .bool true := Loose.dep_of hdep 6 33 (by kernel_rfl)
         have e0 : a.tmps.getD 36 undef = .agg (xA p LA lc IA ic MA mc RA rc) := Loose.dep_of hdep 9 36 (by kernel_rfl)
         refine Loose.Step.callG (Loose.wanted_of rfl rfl gd) (f := 23) (args := #[.agg (xA p LA lc IA ic MA mc RA rc)]) ?_ ?_
         · simp [go_sem, Act.eval, e0]
         · refine (refpod_any p LA lc IA ic MA mc RA rc HLT.out w1 (HL.out.below (B9.out.trans (hfr.below.mono B9.out.size))).spec (H.out.below (B9.out.trans (hfr.below.mono B9.out.size)))).mono ?_
           rw [HBP.out]; rintro e w2 ⟨rfl, hb⟩
           exact ⟨_, rfl, rfl, hb⟩
       · intro a w1 hfr hdep
         have gd : a.tmps.getD 33 undef = .bool true := Loose.dep_of hdep 6 33 (by kernel_rfl)
         have e0 : a.tmps.getD 37 undef = .bool bp := Loose.dep_of hdep 10 37 (by kernel_rfl)
         refine Loose.Step.callG (Loose.wanted_of rfl rfl gd) (f := 22) (args := #[.bool bp]) ?_ ?_
         · simp [go_sem, Act.eval, e0]
         · refine (says_any bp w1).mono ?_
           rw [← HBP.out, HZP.out]; rintro e w2 ⟨rfl, rfl⟩
           exact ⟨_, rfl, rfl, Below.refl _ _⟩
       · intro a w1 hfr hdep
         have gd : a.tmps.getD 33 undef = .bool true := Loose.dep_of hdep 6 33 (by kernel_rfl)
         have e0 : a.tmps.getD 35 undef = .int .i64 zp := Loose.dep_of hdep 8 35 (by kernel_rfl)
         have e1 : a.tmps.getD 38 undef = .int .i64 zp := Loose.dep_of hdep 11 38 (by kernel_rfl)
         refine Loose.Step.valueG (Loose.wanted_of rfl rfl gd) (v := .bool true) (w' := w1) ?_ rfl (Below.refl _ _)
         simp [go_sem, Act.eval, e0, e1]
       · intro a w1 hfr hdep
         have e0 : a.tmps.getD 33 undef = .bool true := Loose.dep_of hdep 6 33 (by kernel_rfl)
         have e1 : a.tmps.getD 39 undef = .bool true := Loose.dep_of hdep 12 39 (by kernel_rfl)
         refine Loose.Step.value rfl (v := .bool true) (w' := w1) ?_ rfl (Below.refl _ _)
         simp [go_sem, Act.eval, e0, e1]
       · intro a w1 hfr hdep
         have e0 : a.tmps.getD 40 undef = .bool true := Loose.dep_of hdep 13 40 (by kernel_rfl)
         refine Loose.Step.value rfl (v := .bool true) (w' := w1) ?_ rfl (Below.refl _ _)
         simp [go_sem, Act.eval, e0]
       · intro a w1 hfr hdep
         have hq_ := (hfr.below.block bB (lt_of_block Y9.out)).trans Y9.out
         have gd : a.tmps.getD 41 undef = .bool true := Loose.dep_of hdep 14 41 (by kernel_rfl)
         have f0 : a.tmps.getD 3 undef = .pointer (some ⟨bB, 0, none⟩) := hfr.slot 3 (by kernel_rfl)
         refine Loose.Step.valueG (Loose.wanted_of rfl rfl gd) (v := .agg (yA m PAm pcm UAm ucm LAm lcm IAm icm MAm mcm RAm rcm)) (w' := w1) ?_ rfl (Below.refl _ _)
         exact exec_load rfl f0 (range_at hq_ 0 (yA m PAm pcm UAm ucm LAm lcm IAm icm MAm mcm RAm rcm).toList rfl) Tryz.underlying50 rfl (by kernel_rfl)
       · intro a w1 hfr hdep
         have gd : a.tmps.getD 41 undef = .bool true := Loose.dep_of hdep 14 41 (by kernel_rfl)
         have e0 : a.tmps.getD 42 undef = .agg (yA m PAm pcm UAm ucm LAm lcm IAm icm MAm mcm RAm rcm) := Loose.dep_of hdep 15 42 (by kernel_rfl)
         refine Loose.Step.callG (Loose.wanted_of rfl rfl gd) (f := 24) (args := #[.agg (yA m PAm pcm UAm ucm LAm lcm IAm icm MAm mcm RAm rcm)]) ?_ ?_
         · simp [go_sem, Act.eval, e0]
         · refine (check_code m PAm pcm UAm ucm LAm lcm IAm icm MAm mcm RAm rcm w1 HLM.out (HL.out.below (B9.out.trans (hfr.below.mono B9.out.size))).spec (HM.out.below (B9.out.trans (hfr.below.mono B9.out.size)))).mono ?_
           rw [HZM.out]; rintro e w2 ⟨rfl, hb⟩
           exact ⟨_, rfl, rfl, hb⟩
       · intro a w1 hfr hdep
         have hq_ := (hfr.below.block bB (lt_of_block Y9.out)).trans Y9.out
         have gd : a.tmps.getD 41 undef = .bool true := Loose.dep_of hdep 14 41 (by kernel_rfl)
         have f0 : a.tmps.getD 3 undef = .pointer (some ⟨bB, 0, none⟩) := hfr.slot 3 (by kernel_rfl)
         refine Loose.Step.valueG (Loose.wanted_of rfl rfl gd) (v := .agg (yA m PAm pcm UAm ucm LAm lcm IAm icm MAm mcm RAm rcm)) (w' := w1) ?_ rfl (Below.refl _ _)
         exact exec_load rfl f0 (range_at hq_ 0 (yA m PAm pcm UAm ucm LAm lcm IAm icm MAm mcm RAm rcm).toList rfl) Tryz.underlying50 rfl (by kernel_rfl)
       · intro a w1 hfr hdep
         have gd : a.tmps.getD 41 undef = .bool true := Loose.dep_of hdep 14 41 (by kernel_rfl)
         have e0 : a.tmps.getD 44 undef = .agg (yA m PAm pcm UAm ucm LAm lcm IAm icm MAm mcm RAm rcm) := Loose.dep_of hdep 17 44 (by kernel_rfl)
         refine Loose.Step.callG (Loose.wanted_of rfl rfl gd) (f := 25) (args := #[.agg (yA m PAm pcm UAm ucm LAm lcm IAm icm MAm mcm RAm rcm)]) ?_ ?_
         · simp [go_sem, Act.eval, e0]
         · refine (refcheck_any m PAm pcm UAm ucm LAm lcm IAm icm MAm mcm RAm rcm HLM.out w1 (HL.out.below (B9.out.trans (hfr.below.mono B9.out.size))).spec (HM.out.below (B9.out.trans (hfr.below.mono B9.out.size)))).mono ?_
           rw [HBM.out]; rintro e w2 ⟨rfl, hb⟩
           exact ⟨_, rfl, rfl, hb⟩
       · intro a w1 hfr hdep
         have gd : a.tmps.getD 41 undef = .bool true := Loose.dep_of hdep 14 41 (by kernel_rfl)
         have e0 : a.tmps.getD 45 undef = .bool bm := Loose.dep_of hdep 18 45 (by kernel_rfl)
         refine Loose.Step.callG (Loose.wanted_of rfl rfl gd) (f := 22) (args := #[.bool bm]) ?_ ?_
         · simp [go_sem, Act.eval, e0]
         · refine (says_any bm w1).mono ?_
           rw [← HBM.out, HZM.out]; rintro e w2 ⟨rfl, rfl⟩
           exact ⟨_, rfl, rfl, Below.refl _ _⟩
       · intro a w1 hfr hdep
         have gd : a.tmps.getD 41 undef = .bool true := Loose.dep_of hdep 14 41 (by kernel_rfl)
         have e0 : a.tmps.getD 43 undef = .int .i64 zm := Loose.dep_of hdep 16 43 (by kernel_rfl)
         have e1 : a.tmps.getD 46 undef = .int .i64 zm := Loose.dep_of hdep 19 46 (by kernel_rfl)
         refine Loose.Step.valueG (Loose.wanted_of rfl rfl gd) (v := .bool true) (w' := w1) ?_ rfl (Below.refl _ _)
         simp [go_sem, Act.eval, e0, e1]
       · intro a w1 hfr hdep
         have e0 : a.tmps.getD 41 undef = .bool true := Loose.dep_of hdep 14 41 (by kernel_rfl)
         have e1 : a.tmps.getD 47 undef = .bool true := Loose.dep_of hdep 20 47 (by kernel_rfl)
         refine Loose.Step.value rfl (v := .bool true) (w' := w1) ?_ rfl (Below.refl _ _)
         simp [go_sem, Act.eval, e0, e1]
       · intro a w1 hfr hdep
         have e0 : a.tmps.getD 48 undef = .bool true := Loose.dep_of hdep 21 48 (by kernel_rfl)
         refine Loose.Step.value rfl (v := .bool true) (w' := w1) ?_ rfl (Below.refl _ _)
         simp [go_sem, Act.eval, e0]
       · intro a w1 hfr hdep
         have gd : a.tmps.getD 49 undef = .bool true := Loose.dep_of hdep 22 49 (by kernel_rfl)
         refine Loose.Step.callG (Loose.wanted_of rfl rfl gd) (f := 17) (args := #[]) ?_ ?_
         · simp [go_sem]
         · refine (works_any w1 (HL.out.below (B9.out.trans (hfr.below.mono B9.out.size)))).mono ?_
           rintro e w2 ⟨rfl, hb⟩
           exact ⟨_, rfl, rfl, hb⟩
       · intro a w1 hfr hdep
         have e0 : a.tmps.getD 49 undef = .bool true := Loose.dep_of hdep 22 49 (by kernel_rfl)
         have e1 : a.tmps.getD 50 undef = .bool true := Loose.dep_of hdep 23 50 (by kernel_rfl)
         refine Loose.Step.value rfl (v := .bool true) (w' := w1) ?_ rfl (Below.refl _ _)
         simp [go_sem, Act.eval, e0, e1]
       · intro a w1 hfr hdep
         have e0 : a.tmps.getD 51 undef = .bool true := Loose.dep_of hdep 24 51 (by kernel_rfl)
         refine Loose.Step.value rfl (v := .bool true) (w' := w1) ?_ rfl (Below.refl _ _)
         simp [go_sem, Act.eval, e0]
     · intro v0 v1 v2 v3 v4 v5 v6 v7 v8 v9 v10 v11 v12 v13 v14 v15 v16 v17 v18 v19 v20 v21 v22 v23 v24 v25 wf hb8 hC
       have hlast : v25 = .bool true := hC.2
       subst hlast; have B10 := hid (B9.out.trans (hb8.mono B9.out.size)); clear hC hb8; simp only [SpecOwn.put_lit, List.set_cons_succ, List.set_cons_zero]; go_wp2_with fail
       go_ret
       exact ⟨rfl, B10.out⟩
end Go.Proofs.YtalnncgomlibbaaGreatDoor.TellChecksWalk
