/-
 The contracts of provostlaw09's own tests: is a pod, a message not too much; OK or ErrShape. All that was there is left as it was. No condition.
-/
import Derived.Test.YtalnncgomlibbaaGreatDoorTellCheck
import Derived.Test.YtalnncgomlibbaaGreatDoorSpecDataAll
set_option linter.unusedVariables false
set_option linter.unusedSimpArgs false
namespace Go.Proofs.YtalnncgomlibbaaGreatDoor
open Go.ChangeShapes Go.WideShapes Go.ChangeAt Go.RowKit Go.Lib
open LebMath WirePure Sd Wire SpecOwn SpecRef Book Pk
namespace Tl
theorem le_20 (n : Nat) : decide ((n : Int) ≤ 20) = decide (n ≤ 20) := by
 have : ((n : Int) ≤ 20) ↔ n ≤ 20 := by omega
 simp only [this]
def lightPB (p : Pd) : Bool := LightB p.spec && decide (p.rs.length ≤ 20)
theorem lightPB_iff {p : Pd} : lightPB p = true ↔ LightP p := by
 unfold lightPB
 rw [Bool.and_eq_true, LightB_iff, decide_eq_true_eq]
 exact ⟨fun h => ⟨h.1, h.2⟩, fun h => ⟨h.spec, h.rs⟩⟩
def lightMB (m : Mg) : Bool := decide (m.reply.data.size ≤ 300) && decide (m.reply.pods.length ≤ 20) && decide (m.reply.use.length ≤ 20) && lightPB m.event.pod && m.reply.pods.all lightPB
theorem lightMB_iff {m : Mg} : lightMB m = true ↔ LightM m := by
 unfold lightMB
 simp only [Bool.and_eq_true, decide_eq_true_eq, lightPB_iff, List.all_eq_true]
 exact ⟨fun ⟨⟨⟨⟨h1, h2⟩, h3⟩, h4⟩, h5⟩ => ⟨⟨h1, h2, h3, h5⟩, h4⟩, fun h => ⟨⟨⟨⟨h.reply.data, h.reply.np⟩, h.reply.nu⟩, h.pod⟩, h.reply.pods⟩⟩
set_option maxRecDepth 100000 in
set_option maxHeartbeats 4000000 in
theorem lightP_any (p : Pd) (LA : Option Addr) (lc : Nat) (IA : Option Addr) (ic : Nat) (MA : Option Addr) (mc : Nat) (RA : Option Addr) (rc : Nat) (w : World) (h : p.In w LA lc IA ic MA mc RA) :
 Calls Tryz.prog 15 #[.agg #[.int .i64 p.uid, .int .u64 p.rev, .string p.spec.name, .slice LA p.spec.labels.length lc, .slice IA p.spec.init.length ic, .slice MA p.spec.main.length mc, .int .i64 p.spec.restart, .int .i64 p.spec.grace, .int .i64 p.spec.prio, .int .i64 p.phase, .slice RA p.rs.length rc, .int .i64 p.mark, .int .i64 p.grace]] w fun e w' => e = .returned (.bool (lightPB p)) ∧ Below w.heap.size w w' := by
 have H := Lib.hid h
 clear h
 obtain ⟨b0, e0⟩ : ∃ b : Bool, LightB p.spec = b := ⟨_, rfl⟩
 obtain ⟨b1, e1⟩ : ∃ b : Bool, decide ((p.rs.length : Int) ≤ 20) = b := ⟨_, rfl⟩
 have HR := Lib.hid (show (b0 && b1) = lightPB p by rw [← e0, ← e1]; (try simp only [le_20]); rfl)
 have E0 := Lib.hid e0
 clear e0
 obtain ⟨w2, hw2⟩ : ∃ v, w.alloc (.cells #[.int .i64 p.uid, .int .u64 p.rev, .string p.spec.name, .slice LA p.spec.labels.length lc, .slice IA p.spec.init.length ic, .slice MA p.spec.main.length mc, .int .i64 p.spec.restart, .int .i64 p.spec.grace, .int .i64 p.spec.prio, .int .i64 p.phase, .slice RA p.rs.length rc, .int .i64 p.mark, .int .i64 p.grace] 42) = v := ⟨_, rfl⟩
 have B2 := Lib.hid (show Below w.heap.size w w2 by rw [← hw2]; exact (Below.refl _ _).alloc (Nat.le_refl _) _)
 have X2 := Lib.hid (show w2.heap[w.heap.size]? = some (.cells #[.int .i64 p.uid, .int .u64 p.rev, .string p.spec.name, .slice LA p.spec.labels.length lc, .slice IA p.spec.init.length ic, .slice MA p.spec.main.length mc, .int .i64 p.spec.restart, .int .i64 p.spec.grace, .int .i64 p.spec.prio, .int .i64 p.phase, .slice RA p.rs.length rc, .int .i64 p.mark, .int .i64 p.grace] 42) by rw [← hw2]; exact heap_alloc_new w _)
 have c2 := box_cell X2.out 2 rfl
 have c3 := box_cell X2.out 3 rfl
 have c4 := box_cell X2.out 4 rfl
 have c5 := box_cell X2.out 5 rfl
 have c6 := box_cell X2.out 6 rfl
 have c7 := box_cell X2.out 7 rfl
 have c8 := box_cell X2.out 8 rfl
 go_enter Tryz.func15, Tryz.ntmps15
 go_wp2_with fail
 refine (light_any p.spec LA lc IA ic MA mc w2 (H.out.spec.below B2.out)).mono ?_
 rintro e w3 ⟨rfl, hb3⟩
 have B3 := Lib.hid (B2.out.trans (hb3.mono B2.out.size))
 have X3 := Lib.hid ((hb3.block w.heap.size (lt_of_block X2.out)).trans X2.out)
 clear hb3 X2 hw2 c2 c3 c4 c5 c6 c7 c8
 rw [E0.out]
 as_aux_lemma =>
  have c10 := box_cell X3.out 10 rfl
  cases b0 with
  | false =>
   have HD := Lib.hid (show false = lightPB p from by have := HR.out; simpa using this)
   go_wp2
   go_ret
   exact ⟨Book.ret_b HD.out, B3.out⟩
  | true =>
   have HD := Lib.hid (show b1 = lightPB p from by have := HR.out; simpa using this)
   go_wp2
   go_ret
   exact ⟨Book.ret_b HD.out, B3.out⟩
set_option maxRecDepth 100000 in
set_option maxHeartbeats 4000000 in
theorem lightM_any (m : Mg) (PA : Option Addr) (pc : Nat) (UA : Option Addr) (uc : Nat) (LA : Option Addr) (lc : Nat) (IA : Option Addr) (ic : Nat) (MA : Option Addr) (mc : Nat) (RA : Option Addr) (rc : Nat) (w : World) (h : m.In w PA UA LA lc IA ic MA mc RA) :
 Calls Tryz.prog 16 #[.agg #[.int .i64 m.kind, .int .i64 m.num, .int .i64 m.reply.code, .int .i64 m.reply.uid, .int .i64 m.reply.id, .int .u64 m.reply.rev, .string m.reply.data, .slice PA m.reply.pods.length pc, .slice UA m.reply.use.length uc, .int .i64 m.event.kind, .int .u64 m.event.rev, .int .i64 m.event.pod.uid, .int .u64 m.event.pod.rev, .string m.event.pod.spec.name, .slice LA m.event.pod.spec.labels.length lc, .slice IA m.event.pod.spec.init.length ic, .slice MA m.event.pod.spec.main.length mc, .int .i64 m.event.pod.spec.restart, .int .i64 m.event.pod.spec.grace, .int .i64 m.event.pod.spec.prio, .int .i64 m.event.pod.phase, .slice RA m.event.pod.rs.length rc, .int .i64 m.event.pod.mark, .int .i64 m.event.pod.grace]] w fun e w' => e = .returned (.bool (lightMB m)) ∧ Below w.heap.size w w' := by
 have H := Lib.hid h
 have HE := Lib.hid (show lightMB m = (decide (m.reply.data.size ≤ 300) && decide (m.reply.pods.length ≤ 20) && decide (m.reply.use.length ≤ 20) && lightPB m.event.pod && m.reply.pods.all lightPB) from rfl)
 clear h
 obtain ⟨w2, hw2⟩ : ∃ v, w.alloc (.cells #[.int .i64 m.kind, .int .i64 m.num, .int .i64 m.reply.code, .int .i64 m.reply.uid, .int .i64 m.reply.id, .int .u64 m.reply.rev, .string m.reply.data, .slice PA m.reply.pods.length pc, .slice UA m.reply.use.length uc, .int .i64 m.event.kind, .int .u64 m.event.rev, .int .i64 m.event.pod.uid, .int .u64 m.event.pod.rev, .string m.event.pod.spec.name, .slice LA m.event.pod.spec.labels.length lc, .slice IA m.event.pod.spec.init.length ic, .slice MA m.event.pod.spec.main.length mc, .int .i64 m.event.pod.spec.restart, .int .i64 m.event.pod.spec.grace, .int .i64 m.event.pod.spec.prio, .int .i64 m.event.pod.phase, .slice RA m.event.pod.rs.length rc, .int .i64 m.event.pod.mark, .int .i64 m.event.pod.grace] 50) = v := ⟨_, rfl⟩
 have B2 := Lib.hid (show Below w.heap.size w w2 by rw [← hw2]; exact (Below.refl _ _).alloc (Nat.le_refl _) _)
 have X2 := Lib.hid (show w2.heap[w.heap.size]? = some (.cells #[.int .i64 m.kind, .int .i64 m.num, .int .i64 m.reply.code, .int .i64 m.reply.uid, .int .i64 m.reply.id, .int .u64 m.reply.rev, .string m.reply.data, .slice PA m.reply.pods.length pc, .slice UA m.reply.use.length uc, .int .i64 m.event.kind, .int .u64 m.event.rev, .int .i64 m.event.pod.uid, .int .u64 m.event.pod.rev, .string m.event.pod.spec.name, .slice LA m.event.pod.spec.labels.length lc, .slice IA m.event.pod.spec.init.length ic, .slice MA m.event.pod.spec.main.length mc, .int .i64 m.event.pod.spec.restart, .int .i64 m.event.pod.spec.grace, .int .i64 m.event.pod.spec.prio, .int .i64 m.event.pod.phase, .slice RA m.event.pod.rs.length rc, .int .i64 m.event.pod.mark, .int .i64 m.event.pod.grace] 50) by rw [← hw2]; exact heap_alloc_new w _)
 have c6 := box_cell X2.out 6 rfl
 have c7 := box_cell X2.out 7 rfl
 have c8 := box_cell X2.out 8 rfl
 go_enter Tryz.func16, Tryz.ntmps16
 by_cases h1 : m.reply.data.size ≤ 300
 rotate_left
 · have h1' : ¬ (m.reply.data.size : Int) ≤ 300 := by omega
   have HD := Lib.hid (show false = lightMB m by rw [HE.out, decide_eq_false h1]; rfl)
   clear h1
   go_wp2
   go_ret
   exact ⟨Book.ret_b HD.out, B2.out⟩
 by_cases h2 : m.reply.pods.length ≤ 20
 rotate_left
 · have h1' : (m.reply.data.size : Int) ≤ 300 := by omega
   have h2' : ¬ (m.reply.pods.length : Int) ≤ 20 := by omega
   have HD := Lib.hid (show false = lightMB m by rw [HE.out, decide_eq_true h1, decide_eq_false h2]; rfl)
   clear h1 h2
   go_wp2
   go_ret
   exact ⟨Book.ret_b HD.out, B2.out⟩
 by_cases h3 : m.reply.use.length ≤ 20
 rotate_left
 · have h1' : (m.reply.data.size : Int) ≤ 300 := by omega
   have h2' : (m.reply.pods.length : Int) ≤ 20 := by omega
   have h3' : ¬ (m.reply.use.length : Int) ≤ 20 := by omega
   have HD := Lib.hid (show false = lightMB m by rw [HE.out, decide_eq_true h1, decide_eq_true h2, decide_eq_false h3]; rfl)
   clear h1 h2 h3
   go_wp2
   go_ret
   exact ⟨Book.ret_b HD.out, B2.out⟩
 have h1' : (m.reply.data.size : Int) ≤ 300 := by omega
 have h2' : (m.reply.pods.length : Int) ≤ 20 := by omega
 have h3' : (m.reply.use.length : Int) ≤ 20 := by omega
 have HE2 := Lib.hid (show lightMB m = (lightPB m.event.pod && m.reply.pods.all lightPB) by rw [HE.out, decide_eq_true h1, decide_eq_true h2, decide_eq_true h3]; rfl)
 clear h1 h2 h3 HE
 have c11 := box_cell X2.out 11 rfl
 have c12 := box_cell X2.out 12 rfl
 have c13 := box_cell X2.out 13 rfl
 have c14 := box_cell X2.out 14 rfl
 have c15 := box_cell X2.out 15 rfl
 have c16 := box_cell X2.out 16 rfl
 have c17 := box_cell X2.out 17 rfl
 have c18 := box_cell X2.out 18 rfl
 have c19 := box_cell X2.out 19 rfl
 have c20 := box_cell X2.out 20 rfl
 have c21 := box_cell X2.out 21 rfl
 have c22 := box_cell X2.out 22 rfl
 have c23 := box_cell X2.out 23 rfl
 go_wp2_with fail
 refine (lightP_any m.event.pod LA lc IA ic MA mc RA rc w2 (H.out.pod.below B2.out)).mono ?_
 rintro e w3 ⟨rfl, hb3⟩
 have B3 := Lib.hid (B2.out.trans (hb3.mono B2.out.size))
 have X3 := Lib.hid ((hb3.block w.heap.size (lt_of_block X2.out)).trans X2.out)
 clear hb3 X2 hw2 c6 c7 c8 c11 c12 c13 c14 c15 c16 c17 c18 c19 c20 c21 c22 c23
 cases hp : lightPB m.event.pod with
 | false =>
  have HD := Lib.hid (show false = lightMB m by rw [HE2.out, hp]; rfl)
  clear hp
  go_wp2
  go_ret
  exact ⟨Book.ret_b HD.out, B3.out⟩
 | true =>
  have HE3 := Lib.hid (show lightMB m = m.reply.pods.all lightPB by rw [HE2.out, hp]; rfl)
  clear hp HE2
  as_aux_lemma =>
   go_wp2_with fail
   go_loopw [3] (fun i wr => ∃ k : Nat, k ≤ m.reply.pods.length ∧ i = .int .i64 k ∧ Hid (Below w.heap.size w wr) ∧ Hid (Below w3.heap.size w3 wr) ∧ Hid ((m.reply.pods.take k).all lightPB = true)) (fun i _ => m.reply.pods.length - (RowKit.intOf i).toNat)
   case atStart => exact ⟨0, Nat.zero_le _, rfl, B3.out, Below.refl _ _, by rfl⟩
   case round =>
    obtain ⟨k, hk, rfl, BW, CW, HF⟩ := hrel
    have XW := Lib.hid ((CW.out.block w.heap.size (lt_of_block X3.out)).trans X3.out)
    have c7 := box_cell XW.out 7 rfl
    by_cases hlt : k < m.reply.pods.length
    · obtain ⟨a, LAx, lcx, IAx, icx, MAx, mcx, RAx, rcx, hPA, ha, hcIN⟩ := (H.out.reply.pods.below BW.out).at hlt
      have HPA := Lib.hid hPA
      have hka : (k : Int) < (m.reply.pods.length : Int) := by omega
      have HIN := Lib.hid hcIN
      have HN := Lib.hid (all_next lightPB m.reply.pods k hlt HF.out)
      have HNO := Lib.hid (all_not lightPB m.reply.pods k hlt)
      obtain ⟨x, ex⟩ : ∃ x, m.reply.pods[k] = x := ⟨_, rfl⟩
      rw [ex] at HIN HN HNO
      have CA := Lib.hid (show ∀ j_ v_, ([.int .i64 x.uid, .int .u64 x.rev, .string x.spec.name, .slice LAx x.spec.labels.length lcx, .slice IAx x.spec.init.length icx, .slice MAx x.spec.main.length mcx, .int .i64 x.spec.restart, .int .i64 x.spec.grace, .int .i64 x.spec.prio, .int .i64 x.phase, .slice RAx x.rs.length rcx, .int .i64 x.mark, .int .i64 x.grace] : List Value)[j_]? = some v_ → wr.cell? ((a.add (k * 13)).add j_) = some v_ from CellsAt.all HIN.out.1)
      clear ha ex hcIN HF hPA
      rw [HPA.out] at c7
      as_aux_lemma =>
       go_wp2_with (refine wpList_load_addr rfl _ _ rfl _ rfl _ _ CA.out Tryz.underlying42 rfl (by kernel_rfl) ?_)
       refine (lightP_any x LAx lcx IAx icx MAx mcx RAx rcx wr HIN.out.2).mono ?_
       rintro e w6 ⟨rfl, hb6⟩
       have B6 := Lib.hid (BW.out.trans (hb6.mono BW.out.size))
       have C6 := Lib.hid (CW.out.trans (hb6.mono CW.out.size))
       clear hb6 CA
       cases hm : lightPB x with
       | true =>
        have HT := Lib.hid (HN.out hm)
        clear hm HN HNO
        go_wp2
        go_roundw
        case rel => exact ⟨k + 1, by omega, by go_num, B6.out, C6.out, HT.out⟩
        case measure => simp [RowKit.intOf]; omega
       | false =>
        have HD := Lib.hid (show false = lightMB m from (HE3.out.trans (HNO.out hm)).symm)
        clear hm HN HNO
        go_wp2
        go_ret
        exact ⟨Book.ret_b HD.out, B6.out⟩
    · have hka : ¬ (k : Int) < (m.reply.pods.length : Int) := by omega
      have HD := Lib.hid (show true = lightMB m by have := HF.out; rw [List.take_of_length_le (by omega)] at this; exact (HE3.out.trans this).symm)
      clear HF
      go_wp2
      go_ret
      exact ⟨Book.ret_b HD.out, BW.out⟩
theorem says_any (b : Bool) (w : World) : Calls Tryz.prog 22 #[.bool b] w fun e w' => e = .returned (.int .i64 (bif b then 0 else 4)) ∧ w = w' := by
 cases b <;>
 · go_enter Tryz.func22, Tryz.ntmps22
   go_wp2
   go_ret
   exact ⟨rfl, rfl⟩
end Tl
end Go.Proofs.YtalnncgomlibbaaGreatDoor
