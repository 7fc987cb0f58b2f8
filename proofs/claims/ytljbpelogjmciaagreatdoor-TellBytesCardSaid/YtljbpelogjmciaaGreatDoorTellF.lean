/-
 The document's number and a pod's bytes (provostref09). Condition: the pod may be told by its codes, its list is short. And what follows of it, part by part, each with its conditions.
-/
import Derived.Test.YtljbpelogjmciaaGreatDoorTellA
import Derived.Test.YtljbpelogjmciaaGreatDoorTellD
import Derived.Test.YtljbpelogjmciaaGreatDoorPackRefPut
import Derived.Test.YtljbpelogjmciaaGreatDoorRegionAll
import Derived.Test.YtljbpelogjmciaaGreatDoorTellB
import Derived.Deep.DeepCutAuto
set_option linter.unusedVariables false
set_option linter.unusedSimpArgs false
namespace Go.Proofs.YtljbpelogjmciaaGreatDoor
open Go.ChangeShapes Go.WideShapes Go.ChangeAt Go.RowKit Go.Lib
open LebMath WirePure Sd Wire SpecOwn SpecRef Book Pk
namespace Tl
namespace RefPut
theorem refnum_any (z : Int) (h0 : 0 ≤ z) (h1 : z ≤ 1099511627776) (w : World) :
 Calls Tryz.prog 69 #[.int .i64 z] w fun e w' => e = .returned (.string (bx (leb z.toNat))) ∧ Below w.heap.size w w' := by
 obtain ⟨n, rfl⟩ := Int.eq_ofNat_of_zero_le h0
 have hn : n ≤ 1099511627776 := by omega
 have hw : IntKind.u64.wrap (n : Int) = n := IntWalk.u64_in _ (by omega)
 clear h0 h1
 go_enter Tryz.func69, Tryz.ntmps69
 go_wp2_with fail
 refine (NumRefPut.refPut_any n w (by omega)).mono ?_
 rintro e w1 ⟨rfl, hb⟩
 have HB := Lib.hid hb
 clear hb
 go_wp2_with fail
 go_ret
 exact ⟨rfl, HB.out⟩
def FP1 (p : Pd) (LA : Option Addr) (lc : Nat) (IA : Option Addr) (ic : Nat) (MA : Option Addr) (mc : Nat) (RA : Option Addr) (rc : Nat) (bP : Nat) : Nat → Value → World → Prop
 | 0 => fun v _ => v = .pointer (some ⟨bP, 0, none⟩)
 | 1 => fun v _ => v = .int .i64 p.uid
 | 2 => fun v _ => v = .string (bx (uidC.put p.uid))
 | 3 => fun v _ => v = .pointer (some ⟨bP, 1, none⟩)
 | 4 => fun v _ => v = .int .u64 (p.rev : Nat)
 | 5 => fun v _ => v = .string (bx (leb p.rev))
 | 6 => fun v _ => v = .string (bx (uidC.put p.uid ++ leb p.rev))
 | 7 => fun v _ => v = .pointer (some ⟨bP, 2, none⟩)
 | 8 => fun v _ => v = .agg #[.string p.spec.name, .slice LA p.spec.labels.length lc, .slice IA p.spec.init.length ic, .slice MA p.spec.main.length mc, .int .i64 p.spec.restart, .int .i64 p.spec.grace, .int .i64 p.spec.prio]
 | 9 => fun v _ => v = .string (bx (specC.put p.spec))
 | 10 => fun v _ => v = .string (bx ((uidC.put p.uid ++ leb p.rev) ++ specC.put p.spec))
 | 11 => fun v _ => v = .pointer (some ⟨bP, 9, none⟩)
 | 12 => fun v _ => v = .int .i64 p.phase
 | 13 => fun v _ => v = .string (bx (phaseC.put p.phase))
 | 14 => fun v _ => v = .string (bx (((uidC.put p.uid ++ leb p.rev) ++ specC.put p.spec) ++ phaseC.put p.phase))
 | _ => fun v _ => v = .string (bx (((uidC.put p.uid ++ leb p.rev) ++ specC.put p.spec) ++ phaseC.put p.phase))
theorem FP1_keep (p : Pd) (LA : Option Addr) (lc : Nat) (IA : Option Addr) (ic : Nat) (MA : Option Addr) (mc : Nat) (RA : Option Addr) (rc : Nat) (bP : Nat) (i_ : Nat) (v_ : Value) (w_ w2_ : World) (h_ : FP1 p LA lc IA ic MA mc RA rc bP i_ v_ w_) (hb_ : Below w_.heap.size w_ w2_) : FP1 p LA lc IA ic MA mc RA rc bP i_ v_ w2_ := by
 unfold FP1 at h_ ⊢
 split at h_ <;> exact h_
def FP6 (p : Pd) (acc : List UInt8) (bP : Nat) : Nat → Value → World → Prop
 | 0 => fun v _ => v = .string (bx (acc))
 | 1 => fun v _ => v = .pointer (some ⟨bP, 11, none⟩)
 | 2 => fun v _ => v = .int .i64 p.mark
 | 3 => fun v _ => v = .string (bx (markC.put p.mark))
 | 4 => fun v _ => v = .string (bx (acc ++ markC.put p.mark))
 | 5 => fun v _ => v = .pointer (some ⟨bP, 12, none⟩)
 | 6 => fun v _ => v = .int .i64 p.grace
 | 7 => fun v _ => v = .string (bx (graceC.put p.grace))
 | 8 => fun v _ => v = .string (bx ((acc ++ markC.put p.mark) ++ graceC.put p.grace))
 | _ => fun v _ => v = .string (bx ((acc ++ markC.put p.mark) ++ graceC.put p.grace))
theorem FP6_keep (p : Pd) (acc : List UInt8) (bP : Nat) (i_ : Nat) (v_ : Value) (w_ w2_ : World) (h_ : FP6 p acc bP i_ v_ w_) (hb_ : Below w_.heap.size w_ w2_) : FP6 p acc bP i_ v_ w2_ := by
 unfold FP6 at h_ ⊢
 split at h_ <;> exact h_
set_option maxRecDepth 100000 in
set_option maxHeartbeats 4000000 in
theorem refpod_any (p : Pd) (LA : Option Addr) (lc : Nat) (IA : Option Addr) (ic : Nat) (MA : Option Addr) (mc : Nat) (RA : Option Addr) (rc : Nat) (hok : podC.ok p) (hl : p.rs.length ≤ 20) (w : World) (hP : p.In w LA lc IA ic MA mc RA) :
 Calls Tryz.prog 71 #[.agg #[.int .i64 p.uid, .int .u64 p.rev, .string p.spec.name, .slice LA p.spec.labels.length lc, .slice IA p.spec.init.length ic, .slice MA p.spec.main.length mc, .int .i64 p.spec.restart, .int .i64 p.spec.grace, .int .i64 p.spec.prio, .int .i64 p.phase, .slice RA p.rs.length rc, .int .i64 p.mark, .int .i64 p.grace]] w fun e w' => e = .returned (.string (bx (podC.put p))) ∧ Below w.heap.size w w' := by
 have HOK := Lib.hid (pod_parts hok)
 have HP := Lib.hid hP
 have l1 : (uidC.put p.uid).length ≤ 10 := int_put_len (pod_parts hok).uid
 have l2 : (leb p.rev).length ≤ 10 := leb_le_ten (n := p.rev) hP.rev
 have l3 := spec_put_len (pod_parts hok).spec
 have l4 : (phaseC.put p.phase).length ≤ 10 := int_put_len (pod_parts hok).phase
 have l6 : (markC.put p.mark).length ≤ 10 := int_put_len (pod_parts hok).mark
 have l7 : (graceC.put p.grace).length ≤ 10 := int_put_len (pod_parts hok).grace
 have hn' : (p.rs.length : Int) ≤ 20 := by omega
 clear hok hP
 obtain ⟨w1, hw1⟩ : ∃ v, w.alloc (.cells #[.int .i64 p.uid, .int .u64 p.rev, .string p.spec.name, .slice LA p.spec.labels.length lc, .slice IA p.spec.init.length ic, .slice MA p.spec.main.length mc, .int .i64 p.spec.restart, .int .i64 p.spec.grace, .int .i64 p.spec.prio, .int .i64 p.phase, .slice RA p.rs.length rc, .int .i64 p.mark, .int .i64 p.grace] 42) = v := ⟨_, rfl⟩
 have B1 := Lib.hid (show Below w.heap.size w w1 by rw [← hw1]; exact (Below.refl _ _).alloc (Nat.le_refl _) _)
 have X1 := Lib.hid (show w1.heap[w.heap.size]? = some (.cells #[.int .i64 p.uid, .int .u64 p.rev, .string p.spec.name, .slice LA p.spec.labels.length lc, .slice IA p.spec.init.length ic, .slice MA p.spec.main.length mc, .int .i64 p.spec.restart, .int .i64 p.spec.grace, .int .i64 p.spec.prio, .int .i64 p.phase, .slice RA p.rs.length rc, .int .i64 p.mark, .int .i64 p.grace] 42 (0, 0)) by rw [← hw1]; exact heap_alloc_new w _)
 go_enter Tryz.func71, Tryz.ntmps71
 go_wp2_with fail
 try rw [hw1]
 obtain ⟨bP, hbP⟩ : ∃ b, w.heap.size = b := ⟨_, rfl⟩
 rw [hbP] at X1 ⊢
 clear hw1
 refine Loose.wp_region_walk (by kernel_rfl) (by kernel_rfl) (FP1 p LA lc IA ic MA mc RA rc bP) (FP1_keep p LA lc IA ic MA mc RA rc bP) ?_ ?_
 · refine ⟨?_, ?_, ?_, ?_, ?_, ?_, ?_, ?_, ?_, ?_, ?_, ?_, ?_, ?_, ?_, ?_, trivial⟩
   · intro a w1 hfr hdep
     have f0 : a.tmps.getD 1 undef = .pointer (some ⟨bP, 0, none⟩) := hfr.slot 1 (by kernel_rfl)
     refine Loose.Step.value rfl (v := .pointer (some ⟨bP, 0, none⟩)) (w' := w1) ?_ rfl (Below.refl _ _)
     simp [go_sem, Act.eval, f0]
   · intro a w1 hfr hdep
     have hq_ := (hfr.below.block bP (lt_of_block X1.out)).trans X1.out
     have hc_ := box_cell hq_ 0 rfl
     have e0 : a.tmps.getD 5 undef = .pointer (some ⟨bP, 0, none⟩) := Loose.dep_of hdep 0 5 (by kernel_rfl)
     refine Loose.Step.value rfl (v := .int .i64 p.uid) (w' := w1) ?_ rfl (Below.refl _ _)
     simp [go_sem, Act.eval, e0, hc_]
   · intro a w1 hfr hdep
     have e0 : a.tmps.getD 6 undef = .int .i64 p.uid := Loose.dep_of hdep 1 6 (by kernel_rfl)
     refine Loose.Step.call rfl (f := 69) (args := #[.int .i64 p.uid]) ?_ ?_
     · simp [go_sem, Act.eval, e0]
     · refine (refnum_any (p.uid) (int_rng HOK.out.uid).1 (by have := (int_rng HOK.out.uid).2; omega) w1).mono ?_
       rintro e w2 ⟨rfl, hb⟩
       exact ⟨_, rfl, rfl, hb⟩
   · intro a w1 hfr hdep
     have f0 : a.tmps.getD 1 undef = .pointer (some ⟨bP, 0, none⟩) := hfr.slot 1 (by kernel_rfl)
     refine Loose.Step.value rfl (v := .pointer (some ⟨bP, 1, none⟩)) (w' := w1) ?_ rfl (Below.refl _ _)
     simp [go_sem, Act.eval, f0]
   · intro a w1 hfr hdep
     have hq_ := (hfr.below.block bP (lt_of_block X1.out)).trans X1.out
     have hc_ := box_cell hq_ 1 rfl
     have e0 : a.tmps.getD 8 undef = .pointer (some ⟨bP, 1, none⟩) := Loose.dep_of hdep 3 8 (by kernel_rfl)
     refine Loose.Step.value rfl (v := .int .u64 (p.rev : Nat)) (w' := w1) ?_ rfl (Below.refl _ _)
     simp [go_sem, Act.eval, e0, hc_]
   · intro a w1 hfr hdep
     have e0 : a.tmps.getD 9 undef = .int .u64 (p.rev : Nat) := Loose.dep_of hdep 4 9 (by kernel_rfl)
     refine Loose.Step.call rfl (f := 70) (args := #[.int .u64 (p.rev : Nat)]) ?_ ?_
     · simp [go_sem, Act.eval, e0]
     · refine (NumRefPut.refPut_any p.rev w1 HP.out.rev).mono ?_
       rintro e w2 ⟨rfl, hb⟩
       exact ⟨_, rfl, rfl, hb⟩
   · intro a w1 hfr hdep
     have ha := bx_add (P := Tryz.prog) (a := uidC.put p.uid) (b := leb p.rev) (by (try simp only [List.length_append]); omega) w1
     have e0 : a.tmps.getD 7 undef = .string (bx (uidC.put p.uid)) := Loose.dep_of hdep 2 7 (by kernel_rfl)
     have e1 : a.tmps.getD 10 undef = .string (bx (leb p.rev)) := Loose.dep_of hdep 5 10 (by kernel_rfl)
     refine Loose.Step.value rfl (v := .string (bx (uidC.put p.uid ++ leb p.rev))) (w' := w1) ?_ rfl (Below.refl _ _)
     simp [go_sem, Act.eval, e0, e1, ha, -List.append_assoc]
   · intro a w1 hfr hdep
     have f0 : a.tmps.getD 1 undef = .pointer (some ⟨bP, 0, none⟩) := hfr.slot 1 (by kernel_rfl)
     refine Loose.Step.value rfl (v := .pointer (some ⟨bP, 2, none⟩)) (w' := w1) ?_ rfl (Below.refl _ _)
     simp [go_sem, Act.eval, f0]
   · intro a w1 hfr hdep
     have hq_ := (hfr.below.block bP (lt_of_block X1.out)).trans X1.out
     have e0 : a.tmps.getD 12 undef = .pointer (some ⟨bP, 2, none⟩) := Loose.dep_of hdep 7 12 (by kernel_rfl)
     refine Loose.Step.value rfl (v := .agg #[.string p.spec.name, .slice LA p.spec.labels.length lc, .slice IA p.spec.init.length ic, .slice MA p.spec.main.length mc, .int .i64 p.spec.restart, .int .i64 p.spec.grace, .int .i64 p.spec.prio]) (w' := w1) ?_ rfl (Below.refl _ _)
     exact exec_load rfl e0 (range_at hq_ 2 [.string p.spec.name, .slice LA p.spec.labels.length lc, .slice IA p.spec.init.length ic, .slice MA p.spec.main.length mc, .int .i64 p.spec.restart, .int .i64 p.spec.grace, .int .i64 p.spec.prio] rfl) Tryz.underlying28 rfl (by kernel_rfl)
   · intro a w1 hfr hdep
     have e0 : a.tmps.getD 13 undef = .agg #[.string p.spec.name, .slice LA p.spec.labels.length lc, .slice IA p.spec.init.length ic, .slice MA p.spec.main.length mc, .int .i64 p.spec.restart, .int .i64 p.spec.grace, .int .i64 p.spec.prio] := Loose.dep_of hdep 8 13 (by kernel_rfl)
     refine Loose.Step.call rfl (f := 123) (args := #[.agg #[.string p.spec.name, .slice LA p.spec.labels.length lc, .slice IA p.spec.init.length ic, .slice MA p.spec.main.length mc, .int .i64 p.spec.restart, .int .i64 p.spec.grace, .int .i64 p.spec.prio]]) ?_ ?_
     · simp [go_sem, Act.eval, e0]
     · refine (bytes_ref07 p.spec LA lc IA ic MA mc HOK.out.spec w1 (HP.out.spec.below (B1.out.trans (hfr.below.mono B1.out.size)))).mono ?_
       rintro e w2 ⟨rfl, hb⟩
       exact ⟨_, rfl, rfl, hb⟩
   · intro a w1 hfr hdep
     have ha := bx_add (P := Tryz.prog) (a := (uidC.put p.uid ++ leb p.rev)) (b := specC.put p.spec) (by (try simp only [List.length_append]); omega) w1
     have e0 : a.tmps.getD 11 undef = .string (bx (uidC.put p.uid ++ leb p.rev)) := Loose.dep_of hdep 6 11 (by kernel_rfl)
     have e1 : a.tmps.getD 14 undef = .string (bx (specC.put p.spec)) := Loose.dep_of hdep 9 14 (by kernel_rfl)
     refine Loose.Step.value rfl (v := .string (bx ((uidC.put p.uid ++ leb p.rev) ++ specC.put p.spec))) (w' := w1) ?_ rfl (Below.refl _ _)
     simp [go_sem, Act.eval, e0, e1, ha, -List.append_assoc]
   · intro a w1 hfr hdep
     have f0 : a.tmps.getD 1 undef = .pointer (some ⟨bP, 0, none⟩) := hfr.slot 1 (by kernel_rfl)
     refine Loose.Step.value rfl (v := .pointer (some ⟨bP, 9, none⟩)) (w' := w1) ?_ rfl (Below.refl _ _)
     simp [go_sem, Act.eval, f0]
   · intro a w1 hfr hdep
     have hq_ := (hfr.below.block bP (lt_of_block X1.out)).trans X1.out
     have hc_ := box_cell hq_ 9 rfl
     have e0 : a.tmps.getD 16 undef = .pointer (some ⟨bP, 9, none⟩) := Loose.dep_of hdep 11 16 (by kernel_rfl)
     refine Loose.Step.value rfl (v := .int .i64 p.phase) (w' := w1) ?_ rfl (Below.refl _ _)
     simp [go_sem, Act.eval, e0, hc_]
   · intro a w1 hfr hdep
     have e0 : a.tmps.getD 17 undef = .int .i64 p.phase := Loose.dep_of hdep 12 17 (by kernel_rfl)
     refine Loose.Step.call rfl (f := 69) (args := #[.int .i64 p.phase]) ?_ ?_
     · simp [go_sem, Act.eval, e0]
     · refine (refnum_any (p.phase) (int_rng HOK.out.phase).1 (by have := (int_rng HOK.out.phase).2; omega) w1).mono ?_
       rintro e w2 ⟨rfl, hb⟩
       exact ⟨_, rfl, rfl, hb⟩
   · intro a w1 hfr hdep
     have ha := bx_add (P := Tryz.prog) (a := ((uidC.put p.uid ++ leb p.rev) ++ specC.put p.spec)) (b := phaseC.put p.phase) (by (try simp only [List.length_append]); omega) w1
     have e0 : a.tmps.getD 15 undef = .string (bx ((uidC.put p.uid ++ leb p.rev) ++ specC.put p.spec)) := Loose.dep_of hdep 10 15 (by kernel_rfl)
     have e1 : a.tmps.getD 18 undef = .string (bx (phaseC.put p.phase)) := Loose.dep_of hdep 13 18 (by kernel_rfl)
     refine Loose.Step.value rfl (v := .string (bx (((uidC.put p.uid ++ leb p.rev) ++ specC.put p.spec) ++ phaseC.put p.phase))) (w' := w1) ?_ rfl (Below.refl _ _)
     simp [go_sem, Act.eval, e0, e1, ha, -List.append_assoc]
   · intro a w1 hfr hdep
     have e0 : a.tmps.getD 19 undef = .string (bx (((uidC.put p.uid ++ leb p.rev) ++ specC.put p.spec) ++ phaseC.put p.phase)) := Loose.dep_of hdep 14 19 (by kernel_rfl)
     refine Loose.Step.value rfl (v := .string (bx (((uidC.put p.uid ++ leb p.rev) ++ specC.put p.spec) ++ phaseC.put p.phase))) (w' := w1) ?_ rfl (Below.refl _ _)
     simp [go_sem, Act.eval, e0]
 · intro v0 v1 v2 v3 v4 v5 v6 v7 v8 v9 v10 v11 v12 v13 v14 v15 w2 hb8 hC
   have hlast : v15 = .string (bx (((uidC.put p.uid ++ leb p.rev) ++ specC.put p.spec) ++ phaseC.put p.phase)) := hC.2
   subst hlast
   have B2 := Lib.hid (B1.out.trans (hb8.mono B1.out.size))
   have X2 := Lib.hid ((hb8.block bP (lt_of_block X1.out)).trans X1.out)
   clear hC hb8 X1 B1
   simp only [SpecOwn.put_lit, List.set_cons_succ, List.set_cons_zero]
   obtain ⟨s0, hs0⟩ : ∃ s, (((uidC.put p.uid ++ leb p.rev) ++ specC.put p.spec) ++ phaseC.put p.phase) = s := ⟨_, rfl⟩
   have hsl : s0.length ≤ 10000000 := by rw [← hs0]; simp only [List.length_append]; omega
   rw [hs0]
   have HS0 := Lib.hid hs0
   clear hs0 l1 l2 l3 l4
   go_wp2_with fail
   go_loopw [3, 4] (fun s i wr => ∃ (j : Nat) (acc : List UInt8), j ≤ p.rs.length ∧ i = .int .i64 j ∧ s = .string (bx (acc)) ∧ acc.length ≤ 10000000 + 10 * j ∧ Hid (acc = s0 ++ (p.rs.take j).flatMap uidC.put) ∧ Hid (Below w2.heap.size w2 wr)) (fun _ i _ => p.rs.length - (RowKit.intOf i).toNat)
   case atStart => exact ⟨0, s0, Nat.zero_le _, rfl, rfl, by omega, by unfold Hid; simp, Below.refl _ _⟩
   case round =>
    obtain ⟨j, acc, hj, rfl, rfl, hal, HA, HB⟩ := hrel
    have XW := Lib.hid ((HB.out.block bP (lt_of_block X2.out)).trans X2.out)
    have BW := Lib.hid (B2.out.trans (HB.out.mono B2.out.size))
    have c10 := box_cell XW.out 10 rfl
    by_cases hlt : j < p.rs.length
    · have hlt' : (j : Int) < (p.rs.length : Int) := by omega
      obtain ⟨_, a, hRA, ha, hc⟩ := (Sd.Nums.below HP.out.rs BW.out) j _ (List.getElem?_eq_getElem hlt)
      have HOX := Lib.hid (HOK.out.rs _ (List.getElem_mem hlt))
      have HNX := Lib.hid (show (p.rs.take (j + 1)).flatMap uidC.put = (p.rs.take j).flatMap uidC.put ++ uidC.put p.rs[j] by
       rw [List.take_succ_eq_append_getElem hlt, List.flatMap_append]; simp)
      obtain ⟨x, hx⟩ : ∃ x, p.rs[j] = x := ⟨_, rfl⟩
      rw [hx] at hc HNX HOX
      have HRA := Lib.hid hRA
      clear hx ha hRA
      obtain ⟨y, hy⟩ : ∃ y, uidC.put x = y := ⟨_, rfl⟩
      have hyl : y.length ≤ 10 := by rw [← hy]; exact int_put_len HOX.out
      have ha := fun v => bx_add (P := Tryz.prog) (a := acc) (b := y) (by omega) v
      have HRUN := Lib.hid (refnum_any x (int_rng HOX.out).1 (by have := (int_rng HOX.out).2; omega) wr)
      rw [show leb x.toNat = y from hy] at HRUN
      rw [hy] at HNX
      clear hy
      rw [HRA.out] at c10
      go_wp2_with fail
      refine HRUN.out.mono ?_
      rintro e wz ⟨rfl, hbz⟩
      have HBZ := Lib.hid (HB.out.trans (hbz.mono HB.out.size))
      clear hbz HRUN hc c10
      go_wp2_with fail
      go_roundw
      case rel => exact ⟨j + 1, acc ++ y, by omega, by go_num, rfl, by rw [List.length_append]; omega, by unfold Hid; rw [HNX.out, HA.out, List.append_assoc], HBZ.out⟩
      case measure => simp [RowKit.intOf]; omega
    · obtain rfl : j = p.rs.length := by omega
      have hlt' : ¬ (p.rs.length : Int) < (p.rs.length : Int) := by omega
      obtain ⟨w5, hwr⟩ : ∃ v, v = wr := ⟨_, rfl⟩
      subst hwr
      have X5 := XW
      have HAE := Lib.hid (show ((acc ++ markC.put p.mark) ++ graceC.put p.grace) = podC.put p by
       have h := HA.out
       rw [List.take_length] at h
       rw [h, ← HS0.out, show podC.put p = (uidC.put p.uid ++ (leb p.rev ++ (specC.put p.spec ++ phaseC.put p.phase))) ++ (p.rs.flatMap uidC.put ++ (markC.put p.mark ++ graceC.put p.grace)) from rfl]
       simp only [List.append_assoc])
      have hal2 : acc.length ≤ 10001000 := by omega
      clear hal XW HB X2
      go_wp2_with fail
      refine Loose.wp_region_walk (by kernel_rfl) (by kernel_rfl) (FP6 p acc bP) (FP6_keep p acc bP) ?_ ?_
      · refine ⟨?_, ?_, ?_, ?_, ?_, ?_, ?_, ?_, ?_, ?_, trivial⟩
        · intro a w1 hfr hdep
          have f0 : a.tmps.getD 3 undef = .string (bx (acc)) := hfr.slot 3 (by kernel_rfl)
          refine Loose.Step.value rfl (v := .string (bx (acc))) (w' := w1) ?_ rfl (Below.refl _ _)
          simp [go_sem, Act.eval, f0]
        · intro a w1 hfr hdep
          have f0 : a.tmps.getD 1 undef = .pointer (some ⟨bP, 0, none⟩) := hfr.slot 1 (by kernel_rfl)
          refine Loose.Step.value rfl (v := .pointer (some ⟨bP, 11, none⟩)) (w' := w1) ?_ rfl (Below.refl _ _)
          simp [go_sem, Act.eval, f0]
        · intro a w1 hfr hdep
          have hq_ := (hfr.below.block bP (lt_of_block X5.out)).trans X5.out
          have hc_ := box_cell hq_ 11 rfl
          have e0 : a.tmps.getD 36 undef = .pointer (some ⟨bP, 11, none⟩) := Loose.dep_of hdep 1 36 (by kernel_rfl)
          refine Loose.Step.value rfl (v := .int .i64 p.mark) (w' := w1) ?_ rfl (Below.refl _ _)
          simp [go_sem, Act.eval, e0, hc_]
        · intro a w1 hfr hdep
          have e0 : a.tmps.getD 37 undef = .int .i64 p.mark := Loose.dep_of hdep 2 37 (by kernel_rfl)
          refine Loose.Step.call rfl (f := 69) (args := #[.int .i64 p.mark]) ?_ ?_
          · simp [go_sem, Act.eval, e0]
          · refine (refnum_any (p.mark) (int_rng HOK.out.mark).1 (by have := (int_rng HOK.out.mark).2; omega) w1).mono ?_
            rintro e w2 ⟨rfl, hb⟩
            exact ⟨_, rfl, rfl, hb⟩
        · intro a w1 hfr hdep
          have ha := bx_add (P := Tryz.prog) (a := acc) (b := markC.put p.mark) (by (try simp only [List.length_append]); omega) w1
          have e0 : a.tmps.getD 35 undef = .string (bx (acc)) := Loose.dep_of hdep 0 35 (by kernel_rfl)
          have e1 : a.tmps.getD 38 undef = .string (bx (markC.put p.mark)) := Loose.dep_of hdep 3 38 (by kernel_rfl)
          refine Loose.Step.value rfl (v := .string (bx (acc ++ markC.put p.mark))) (w' := w1) ?_ rfl (Below.refl _ _)
          simp [go_sem, Act.eval, e0, e1, ha, -List.append_assoc]
        · intro a w1 hfr hdep
          have f0 : a.tmps.getD 1 undef = .pointer (some ⟨bP, 0, none⟩) := hfr.slot 1 (by kernel_rfl)
          refine Loose.Step.value rfl (v := .pointer (some ⟨bP, 12, none⟩)) (w' := w1) ?_ rfl (Below.refl _ _)
          simp [go_sem, Act.eval, f0]
        · intro a w1 hfr hdep
          have hq_ := (hfr.below.block bP (lt_of_block X5.out)).trans X5.out
          have hc_ := box_cell hq_ 12 rfl
          have e0 : a.tmps.getD 40 undef = .pointer (some ⟨bP, 12, none⟩) := Loose.dep_of hdep 5 40 (by kernel_rfl)
          refine Loose.Step.value rfl (v := .int .i64 p.grace) (w' := w1) ?_ rfl (Below.refl _ _)
          simp [go_sem, Act.eval, e0, hc_]
        · intro a w1 hfr hdep
          have e0 : a.tmps.getD 41 undef = .int .i64 p.grace := Loose.dep_of hdep 6 41 (by kernel_rfl)
          refine Loose.Step.call rfl (f := 69) (args := #[.int .i64 p.grace]) ?_ ?_
          · simp [go_sem, Act.eval, e0]
          · refine (refnum_any (p.grace) (int_rng HOK.out.grace).1 (by have := (int_rng HOK.out.grace).2; omega) w1).mono ?_
            rintro e w2 ⟨rfl, hb⟩
            exact ⟨_, rfl, rfl, hb⟩
        · intro a w1 hfr hdep
          have ha := bx_add (P := Tryz.prog) (a := (acc ++ markC.put p.mark)) (b := graceC.put p.grace) (by (try simp only [List.length_append]); omega) w1
          have e0 : a.tmps.getD 39 undef = .string (bx (acc ++ markC.put p.mark)) := Loose.dep_of hdep 4 39 (by kernel_rfl)
          have e1 : a.tmps.getD 42 undef = .string (bx (graceC.put p.grace)) := Loose.dep_of hdep 7 42 (by kernel_rfl)
          refine Loose.Step.value rfl (v := .string (bx ((acc ++ markC.put p.mark) ++ graceC.put p.grace))) (w' := w1) ?_ rfl (Below.refl _ _)
          simp [go_sem, Act.eval, e0, e1, ha, -List.append_assoc]
        · intro a w1 hfr hdep
          have e0 : a.tmps.getD 43 undef = .string (bx ((acc ++ markC.put p.mark) ++ graceC.put p.grace)) := Loose.dep_of hdep 8 43 (by kernel_rfl)
          refine Loose.Step.value rfl (v := .string (bx ((acc ++ markC.put p.mark) ++ graceC.put p.grace))) (w' := w1) ?_ rfl (Below.refl _ _)
          simp [go_sem, Act.eval, e0]
      · intro v0 v1 v2 v3 v4 v5 v6 v7 v8 v9 w6 hb8 hC
        have hlast : v9 = .string (bx ((acc ++ markC.put p.mark) ++ graceC.put p.grace)) := hC.2
        subst hlast
        have B6 := Lib.hid (BW.out.trans (hb8.mono BW.out.size))
        clear hC hb8
        simp only [SpecOwn.put_lit, List.set_cons_succ, List.set_cons_zero]
        rw [HAE.out]
        go_wp2_with fail
        go_ret
        first | exact ⟨rfl, B6.out⟩ | exact ⟨rfl, by rw [← hbP]; exact B6.out⟩
end RefPut
end Tl
end Go.Proofs.YtljbpelogjmciaaGreatDoor
set_option linter.unusedVariables false
set_option linter.unusedSimpArgs false
namespace Go.Proofs.YtljbpelogjmciaaGreatDoor
open Go.ChangeShapes Go.WideShapes Go.ChangeAt Go.RowKit Go.Lib
open LebMath WirePure Sd Wire SpecOwn SpecRef Book Pk
namespace Tl
namespace RefBytes
theorem over_7 (a b c d e f g : Value) (a' b' c' d' e' f' g' : Value) : over #[a', b', c', d', e', f', g'] 0 [a, b, c, d, e, f, g] = #[a, b, c, d, e, f, g] := by simp [over]
def FH1 (m : Mg) (bM : Nat) : Nat → Value → World → Prop
 | 0 => fun v _ => v = .pointer (some ⟨bM, 0, none⟩)
 | 1 => fun v _ => v = .int .i64 m.kind
 | 2 => fun v _ => v = .string (bx (leb m.kind.toNat))
 | 3 => fun v _ => v = .pointer (some ⟨bM, 1, none⟩)
 | 4 => fun v _ => v = .int .i64 m.num
 | 5 => fun v _ => v = .string (bx (uidC.put m.num))
 | 6 => fun v _ => v = .string (bx ((leb m.kind.toNat) ++ (uidC.put m.num)))
 | _ => fun v _ => v = .string (bx ((leb m.kind.toNat) ++ (uidC.put m.num)))
theorem FH1_keep (m : Mg) (bM : Nat) (i_ : Nat) (v_ : Value) (w_ w2_ : World) (h_ : FH1 m bM i_ v_ w_) (hb_ : Below w_.heap.size w_ w2_) : FH1 m bM i_ v_ w2_ := by
 unfold FH1 at h_ ⊢
 split at h_ <;> exact h_
def FE3 (m : Mg) (h0 : List UInt8) (bM : Nat) : Nat → Value → World → Prop
 | 0 => fun v _ => v = .string (bx (h0))
 | 1 => fun v _ => v = .pointer (some ⟨bM, 9, none⟩)
 | 2 => fun v _ => v = .pointer (some ⟨bM, 9, none⟩)
 | 3 => fun v _ => v = .int .i64 m.event.kind
 | 4 => fun v _ => v = .string (bx (ekindC.put m.event.kind))
 | 5 => fun v _ => v = .string (bx (h0 ++ (ekindC.put m.event.kind)))
 | 6 => fun v _ => v = .pointer (some ⟨bM, 9, none⟩)
 | 7 => fun v _ => v = .pointer (some ⟨bM, 10, none⟩)
 | 8 => fun v _ => v = .int .u64 (m.event.rev : Nat)
 | 9 => fun v _ => v = .string (bx (leb m.event.rev))
 | 10 => fun v _ => v = .string (bx ((h0 ++ ekindC.put m.event.kind) ++ (leb m.event.rev)))
 | _ => fun v _ => v = .string (bx ((h0 ++ ekindC.put m.event.kind) ++ (leb m.event.rev)))
theorem FE3_keep (m : Mg) (h0 : List UInt8) (bM : Nat) (i_ : Nat) (v_ : Value) (w_ w2_ : World) (h_ : FE3 m h0 bM i_ v_ w_) (hb_ : Below w_.heap.size w_ w2_) : FE3 m h0 bM i_ v_ w2_ := by
 unfold FE3 at h_ ⊢
 split at h_ <;> exact h_
def FR8 (m : Mg) (PA : Option Addr) (pc : Nat) (h0 : List UInt8) (bZ : Nat) : Nat → Value → World → Prop
 | 0 => fun v _ => v = .string (bx (h0))
 | 1 => fun v _ => v = .pointer (some ⟨bZ, 0, none⟩)
 | 2 => fun v _ => v = .int .i64 m.reply.code
 | 3 => fun v _ => v = .string (bx (codeC.put m.reply.code))
 | 4 => fun v _ => v = .string (bx (h0 ++ (codeC.put m.reply.code)))
 | 5 => fun v _ => v = .pointer (some ⟨bZ, 1, none⟩)
 | 6 => fun v _ => v = .int .i64 m.reply.uid
 | 7 => fun v _ => v = .string (bx (uidC.put m.reply.uid))
 | 8 => fun v _ => v = .string (bx ((h0 ++ codeC.put m.reply.code) ++ (uidC.put m.reply.uid)))
 | 9 => fun v _ => v = .pointer (some ⟨bZ, 2, none⟩)
 | 10 => fun v _ => v = .int .i64 m.reply.id
 | 11 => fun v _ => v = .string (bx (uidC.put m.reply.id))
 | 12 => fun v _ => v = .string (bx (((h0 ++ codeC.put m.reply.code) ++ uidC.put m.reply.uid) ++ (uidC.put m.reply.id)))
 | 13 => fun v _ => v = .pointer (some ⟨bZ, 3, none⟩)
 | 14 => fun v _ => v = .int .u64 (m.reply.rev : Nat)
 | 15 => fun v _ => v = .string (bx (leb m.reply.rev))
 | 16 => fun v _ => v = .string (bx ((((h0 ++ codeC.put m.reply.code) ++ uidC.put m.reply.uid) ++ uidC.put m.reply.id) ++ (leb m.reply.rev)))
 | 17 => fun v _ => v = .pointer (some ⟨bZ, 4, none⟩)
 | 18 => fun v _ => v = .string m.reply.data
 | 19 => fun v _ => v = .string (bx (dataC.put m.reply.data))
 | 20 => fun v _ => v = .string (bx (((((h0 ++ codeC.put m.reply.code) ++ uidC.put m.reply.uid) ++ uidC.put m.reply.id) ++ leb m.reply.rev) ++ (dataC.put m.reply.data)))
 | 21 => fun v _ => v = .pointer (some ⟨bZ, 5, none⟩)
 | 22 => fun v _ => v = .slice PA m.reply.pods.length pc
 | 23 => fun v _ => v = .int .i64 (m.reply.pods.length : Nat)
 | 24 => fun v _ => v = .string (bx (leb m.reply.pods.length))
 | 25 => fun v _ => v = .string (bx ((((((h0 ++ codeC.put m.reply.code) ++ uidC.put m.reply.uid) ++ uidC.put m.reply.id) ++ leb m.reply.rev) ++ dataC.put m.reply.data) ++ (leb m.reply.pods.length)))
 | _ => fun v _ => v = .string (bx ((((((h0 ++ codeC.put m.reply.code) ++ uidC.put m.reply.uid) ++ uidC.put m.reply.id) ++ leb m.reply.rev) ++ dataC.put m.reply.data) ++ (leb m.reply.pods.length)))
theorem FR8_keep (m : Mg) (PA : Option Addr) (pc : Nat) (h0 : List UInt8) (bZ : Nat) (i_ : Nat) (v_ : Value) (w_ w2_ : World) (h_ : FR8 m PA pc h0 bZ i_ v_ w_) (hb_ : Below w_.heap.size w_ w2_) : FR8 m PA pc h0 bZ i_ v_ w2_ := by
 unfold FR8 at h_ ⊢
 split at h_ <;> exact h_
def FU17 (m : Mg) (ua : Addr) (uc : Nat) (j : Nat) (x : Int × Int × Int) (acc : List UInt8) (bZ : Nat) : Nat → Value → World → Prop
 | 0 => fun v _ => v = .string (bx (acc))
 | 1 => fun v _ => v = .pointer (some ⟨bZ, 6, none⟩)
 | 2 => fun v _ => v = .slice (some ua) m.reply.use.length uc
 | 3 => fun v _ => v = .int .i64 (j : Nat)
 | 4 => fun v _ => v = .pointer (some (ua.add (j * 3)))
 | 5 => fun v _ => v = .pointer (some (ua.add (j * 3)))
 | 6 => fun v _ => v = .int .i64 x.1
 | 7 => fun v _ => v = .string (bx (bigC.put x.1))
 | 8 => fun v _ => v = .string (bx (acc ++ (bigC.put x.1)))
 | 9 => fun v _ => v = .pointer (some ⟨bZ, 6, none⟩)
 | 10 => fun v _ => v = .slice (some ua) m.reply.use.length uc
 | 11 => fun v _ => v = .int .i64 (j : Nat)
 | 12 => fun v _ => v = .pointer (some (ua.add (j * 3)))
 | 13 => fun v _ => v = .pointer (some ⟨(ua.add (j * 3)).block, (ua.add (j * 3)).off + 1, none⟩)
 | 14 => fun v _ => v = .int .i64 x.2.1
 | 15 => fun v _ => v = .string (bx (bigC.put x.2.1))
 | 16 => fun v _ => v = .string (bx ((acc ++ bigC.put x.1) ++ (bigC.put x.2.1)))
 | 17 => fun v _ => v = .pointer (some ⟨bZ, 6, none⟩)
 | 18 => fun v _ => v = .slice (some ua) m.reply.use.length uc
 | 19 => fun v _ => v = .int .i64 (j : Nat)
 | 20 => fun v _ => v = .pointer (some (ua.add (j * 3)))
 | 21 => fun v _ => v = .pointer (some ⟨(ua.add (j * 3)).block, (ua.add (j * 3)).off + 2, none⟩)
 | 22 => fun v _ => v = .int .i64 x.2.2
 | 23 => fun v _ => v = .string (bx (bigC.put x.2.2))
 | 24 => fun v _ => v = .string (bx (((acc ++ bigC.put x.1) ++ bigC.put x.2.1) ++ (bigC.put x.2.2)))
 | _ => fun v _ => v = .string (bx (((acc ++ bigC.put x.1) ++ bigC.put x.2.1) ++ (bigC.put x.2.2)))
theorem FU17_keep (m : Mg) (ua : Addr) (uc : Nat) (j : Nat) (x : Int × Int × Int) (acc : List UInt8) (bZ : Nat) (i_ : Nat) (v_ : Value) (w_ w2_ : World) (h_ : FU17 m ua uc j x acc bZ i_ v_ w_) (hb_ : Below w_.heap.size w_ w2_) : FU17 m ua uc j x acc bZ i_ v_ w2_ := by
 unfold FU17 at h_ ⊢
 split at h_ <;> exact h_
set_option maxRecDepth 100000 in
set_option maxHeartbeats 4000000 in
theorem refbytes_any (m : Mg) (PA : Option Addr) (pc : Nat) (UA : Option Addr) (uc : Nat) (LA : Option Addr) (lc : Nat) (IA : Option Addr) (ic : Nat) (MA : Option Addr) (mc : Nat) (RA : Option Addr) (rc : Nat) (hm : msgB m = true) (hLt : LightM m) (w : World) (h : m.In w PA UA LA lc IA ic MA mc RA) :
 Calls Tryz.prog 29 #[.agg #[.int .i64 m.kind, .int .i64 m.num, .int .i64 m.reply.code, .int .i64 m.reply.uid, .int .i64 m.reply.id, .int .u64 m.reply.rev, .string m.reply.data, .slice PA m.reply.pods.length pc, .slice UA m.reply.use.length uc, .int .i64 m.event.kind, .int .u64 m.event.rev, .int .i64 m.event.pod.uid, .int .u64 m.event.pod.rev, .string m.event.pod.spec.name, .slice LA m.event.pod.spec.labels.length lc, .slice IA m.event.pod.spec.init.length ic, .slice MA m.event.pod.spec.main.length mc, .int .i64 m.event.pod.spec.restart, .int .i64 m.event.pod.spec.grace, .int .i64 m.event.pod.spec.prio, .int .i64 m.event.pod.phase, .slice RA m.event.pod.rs.length rc, .int .i64 m.event.pod.mark, .int .i64 m.event.pod.grace]] w fun e w' => e = .returned (.string (bx (msgC.put m))) ∧ Below w.heap.size w w' := by
 obtain ⟨h0, hh0⟩ : ∃ s, leb m.kind.toNat ++ uidC.put m.num = s := ⟨_, rfl⟩
 have HMS := Lib.hid hm
 have HLT := Lib.hid hLt
 have H := Lib.hid h
 have HK := Lib.hid (show 0 ≤ m.kind ∧ m.kind ≤ 1099511627776 by rcases msg_parts hm h.revs with ⟨e, _⟩ | ⟨e, _⟩ <;> omega)
 have HNU := Lib.hid (show uidC.ok m.num from (msg_ok hm h.revs).1.1.2)
 have HMP := Lib.hid (show msgC.put m = h0 ++ (bodyC m.kind).put (m.reply, m.event) by rw [← hh0]; rfl)
 have hparts := msg_parts hm h.revs
 have k1 : (leb m.kind.toNat).length ≤ 10 := leb_le_ten (by have := HK.out; omega)
 have k2 : (uidC.put m.num).length ≤ 10 := int_put_len HNU.out
 clear hm hLt h
 obtain ⟨w1, hw1⟩ : ∃ v, w.alloc (.cells #[.int .i64 m.kind, .int .i64 m.num, .int .i64 m.reply.code, .int .i64 m.reply.uid, .int .i64 m.reply.id, .int .u64 m.reply.rev, .string m.reply.data, .slice PA m.reply.pods.length pc, .slice UA m.reply.use.length uc, .int .i64 m.event.kind, .int .u64 m.event.rev, .int .i64 m.event.pod.uid, .int .u64 m.event.pod.rev, .string m.event.pod.spec.name, .slice LA m.event.pod.spec.labels.length lc, .slice IA m.event.pod.spec.init.length ic, .slice MA m.event.pod.spec.main.length mc, .int .i64 m.event.pod.spec.restart, .int .i64 m.event.pod.spec.grace, .int .i64 m.event.pod.spec.prio, .int .i64 m.event.pod.phase, .slice RA m.event.pod.rs.length rc, .int .i64 m.event.pod.mark, .int .i64 m.event.pod.grace] 50) = v := ⟨_, rfl⟩
 have B1 := Lib.hid (show Below w.heap.size w w1 by rw [← hw1]; exact (Below.refl _ _).alloc (Nat.le_refl _) _)
 have X1 := Lib.hid (show w1.heap[w.heap.size]? = some (.cells #[.int .i64 m.kind, .int .i64 m.num, .int .i64 m.reply.code, .int .i64 m.reply.uid, .int .i64 m.reply.id, .int .u64 m.reply.rev, .string m.reply.data, .slice PA m.reply.pods.length pc, .slice UA m.reply.use.length uc, .int .i64 m.event.kind, .int .u64 m.event.rev, .int .i64 m.event.pod.uid, .int .u64 m.event.pod.rev, .string m.event.pod.spec.name, .slice LA m.event.pod.spec.labels.length lc, .slice IA m.event.pod.spec.init.length ic, .slice MA m.event.pod.spec.main.length mc, .int .i64 m.event.pod.spec.restart, .int .i64 m.event.pod.spec.grace, .int .i64 m.event.pod.spec.prio, .int .i64 m.event.pod.phase, .slice RA m.event.pod.rs.length rc, .int .i64 m.event.pod.mark, .int .i64 m.event.pod.grace] 50 (0, 0)) by rw [← hw1]; exact heap_alloc_new w _)
 go_enter Tryz.func29, Tryz.ntmps29
 go_wp2_with fail
 try rw [hw1]
 obtain ⟨bM, hbM⟩ : ∃ b, w.heap.size = b := ⟨_, rfl⟩
 rw [hbM] at X1 ⊢
 clear hw1
 refine Loose.wp_region_walk (by kernel_rfl) (by kernel_rfl) (FH1 m bM) (FH1_keep m bM) ?_ ?_
 · refine ⟨?_, ?_, ?_, ?_, ?_, ?_, ?_, ?_, trivial⟩
   · intro a w1 hfr hdep
     have f0 : a.tmps.getD 1 undef = .pointer (some ⟨bM, 0, none⟩) := hfr.slot 1 (by kernel_rfl)
     refine Loose.Step.value rfl (v := .pointer (some ⟨bM, 0, none⟩)) (w' := w1) ?_ rfl (Below.refl _ _)
     simp [go_sem, Act.eval, f0]
   · intro a w1 hfr hdep
     have hq_ := (hfr.below.block bM (lt_of_block X1.out)).trans X1.out
     have hc_ := box_cell hq_ 0 rfl
     have e0 : a.tmps.getD 7 undef = .pointer (some ⟨bM, 0, none⟩) := Loose.dep_of hdep 0 7 (by kernel_rfl)
     refine Loose.Step.value rfl (v := .int .i64 m.kind) (w' := w1) ?_ rfl (Below.refl _ _)
     simp [go_sem, Act.eval, e0, hc_]
   · intro a w1 hfr hdep
     have e0 : a.tmps.getD 8 undef = .int .i64 m.kind := Loose.dep_of hdep 1 8 (by kernel_rfl)
     refine Loose.Step.call rfl (f := 69) (args := #[.int .i64 m.kind]) ?_ ?_
     · simp [go_sem, Act.eval, e0]
     · refine (RefPut.refnum_any (m.kind) HK.out.1 (by have := HK.out.2; omega) w1).mono ?_
       rintro e w2 ⟨rfl, hb⟩
       exact ⟨_, rfl, rfl, hb⟩
   · intro a w1 hfr hdep
     have f0 : a.tmps.getD 1 undef = .pointer (some ⟨bM, 0, none⟩) := hfr.slot 1 (by kernel_rfl)
     refine Loose.Step.value rfl (v := .pointer (some ⟨bM, 1, none⟩)) (w' := w1) ?_ rfl (Below.refl _ _)
     simp [go_sem, Act.eval, f0]
   · intro a w1 hfr hdep
     have hq_ := (hfr.below.block bM (lt_of_block X1.out)).trans X1.out
     have hc_ := box_cell hq_ 1 rfl
     have e0 : a.tmps.getD 10 undef = .pointer (some ⟨bM, 1, none⟩) := Loose.dep_of hdep 3 10 (by kernel_rfl)
     refine Loose.Step.value rfl (v := .int .i64 m.num) (w' := w1) ?_ rfl (Below.refl _ _)
     simp [go_sem, Act.eval, e0, hc_]
   · intro a w1 hfr hdep
     have e0 : a.tmps.getD 11 undef = .int .i64 m.num := Loose.dep_of hdep 4 11 (by kernel_rfl)
     refine Loose.Step.call rfl (f := 69) (args := #[.int .i64 m.num]) ?_ ?_
     · simp [go_sem, Act.eval, e0]
     · refine (RefPut.refnum_any (m.num) (int_rng HNU.out).1 (by have := (int_rng HNU.out).2; omega) w1).mono ?_
       rintro e w2 ⟨rfl, hb⟩
       exact ⟨_, rfl, rfl, hb⟩
   · intro a w1 hfr hdep
     have ha := bx_add (P := Tryz.prog) (a := (leb m.kind.toNat)) (b := (uidC.put m.num)) (by (try simp only [List.length_append]); omega) w1
     have e0 : a.tmps.getD 9 undef = .string (bx (leb m.kind.toNat)) := Loose.dep_of hdep 2 9 (by kernel_rfl)
     have e1 : a.tmps.getD 12 undef = .string (bx (uidC.put m.num)) := Loose.dep_of hdep 5 12 (by kernel_rfl)
     refine Loose.Step.value rfl (v := .string (bx ((leb m.kind.toNat) ++ (uidC.put m.num)))) (w' := w1) ?_ rfl (Below.refl _ _)
     simp [go_sem, Act.eval, e0, e1, ha, -List.append_assoc]
   · intro a w1 hfr hdep
     have e0 : a.tmps.getD 13 undef = .string (bx ((leb m.kind.toNat) ++ (uidC.put m.num))) := Loose.dep_of hdep 6 13 (by kernel_rfl)
     refine Loose.Step.value rfl (v := .string (bx ((leb m.kind.toNat) ++ (uidC.put m.num)))) (w' := w1) ?_ rfl (Below.refl _ _)
     simp [go_sem, Act.eval, e0]
 · intro v0 v1 v2 v3 v4 v5 v6 v7 w2 hb8 hC
   have hlast : v7 = .string (bx ((leb m.kind.toNat) ++ (uidC.put m.num))) := hC.2
   subst hlast
   have B2 := Lib.hid (B1.out.trans (hb8.mono B1.out.size))
   have X2 := Lib.hid ((hb8.block bM (lt_of_block X1.out)).trans X1.out)
   clear hC hb8 X1 B1
   simp only [SpecOwn.put_lit, List.set_cons_succ, List.set_cons_zero]
   have hhl : h0.length ≤ 20 := by rw [← hh0]; simp only [List.length_append]; omega
   rw [hh0]
   clear hh0 k1 k2
   have cX0 := box_cell X2.out 0 rfl
   rcases hparts with ⟨hk, hrep, hpo, _⟩ | ⟨hk, hev, hpo, _⟩
   · have e2 : (m.kind == 2) = false := by rw [hk]; rfl
     have HB2 := Lib.hid (show (bodyC m.kind).put (m.reply, m.event) = replyC.put m.reply by unfold bodyC; rw [if_pos hk]; rfl)
     have HR := Lib.hid (reply_parts hrep)
     have HPO := Lib.hid hpo
     have l1 : (codeC.put m.reply.code).length ≤ 10 := int_put_len (reply_parts hrep).code
     have l2 : (uidC.put m.reply.uid).length ≤ 10 := int_put_len (reply_parts hrep).uid
     have l3 : (uidC.put m.reply.id).length ≤ 10 := int_put_len (reply_parts hrep).id
     have l4 : (leb m.reply.rev).length ≤ 10 := leb_le_ten (n := m.reply.rev) H.out.reply.rev
     have l5 : (dataC.put m.reply.data).length ≤ 10 + 32 := txB_le (reply_parts hrep).data
     have l6 : (leb m.reply.pods.length).length ≤ 10 := leb_le_ten (n := m.reply.pods.length) (by have := (reply_parts hrep).np; omega)
     have hnp := (reply_parts hrep).np
     have hnu := (reply_parts hrep).nu
     have hnp' : (m.reply.pods.length : Int) ≤ 16 := by omega
     have hnu' : (m.reply.use.length : Int) ≤ 4 := by omega
     clear hk hrep hpo
     have RGr := Lib.hid (range_at X2.out 2 [.int .i64 m.reply.code, .int .i64 m.reply.uid, .int .i64 m.reply.id, .int .u64 m.reply.rev, .string m.reply.data, .slice PA m.reply.pods.length pc, .slice UA m.reply.use.length uc] rfl)
     have hq_ := heap_alloc_new w2 (.cells #[.int .i64 0, .int .i64 0, .int .i64 0, .int .u64 0, .string ⟨#[]⟩, .slice none 0 0, .slice none 0 0] 46)
     obtain ⟨w3, hw3⟩ : ∃ v, (w2.alloc (.cells #[.int .i64 0, .int .i64 0, .int .i64 0, .int .u64 0, .string ⟨#[]⟩, .slice none 0 0, .slice none 0 0] 46)).setCells w2.heap.size 0 [.int .i64 m.reply.code, .int .i64 m.reply.uid, .int .i64 m.reply.id, .int .u64 m.reply.rev, .string m.reply.data, .slice PA m.reply.pods.length pc, .slice UA m.reply.use.length uc] = v := ⟨_, rfl⟩
     have Z3 := Lib.hid (show w3.heap[w2.heap.size]? = some (.cells #[.int .i64 m.reply.code, .int .i64 m.reply.uid, .int .i64 m.reply.id, .int .u64 m.reply.rev, .string m.reply.data, .slice PA m.reply.pods.length pc, .slice UA m.reply.use.length uc] 46 (0, 0)) by rw [← hw3]; exact box_into hq_ 0 _ (over_7 _ _ _ _ _ _ _ _ _ _ _ _ _ _))
     have hb_ : Below w2.heap.size w2 w3 := by rw [← hw3]; exact below_cells (Nat.le_refl _) _ 0 ((Below.refl _ _).alloc (Nat.le_refl _) _)
     have THz := Lib.hid (show (w2.alloc (.cells #[.int .i64 0, .int .i64 0, .int .i64 0, .int .u64 0, .string ⟨#[]⟩, .slice none 0 0, .slice none 0 0] 46)).there w2.heap.size 0 7 from box_there hq_ 0 7 (by decide))
     have ONEz := Lib.hid (show (#[.int .i64 m.reply.code, .int .i64 m.reply.uid, .int .i64 m.reply.id, .int .u64 m.reply.rev, .string m.reply.data, .slice PA m.reply.pods.length pc, .slice UA m.reply.use.length uc] : Array Value).all (·.oneCell') = true by simp [Value.oneCell'])
     have HVz := Lib.hid hw3
     clear hw3 hq_
     have B3 := Lib.hid (B2.out.trans (hb_.mono B2.out.size))
     clear hb_
     go_upto_region 8 with (first | (refine wpList_load_mid rfl 46 _ rfl _ _ rfl _ _ RGr.out Tryz.underlying46 rfl (by kernel_rfl) ?_) | (refine wpList_store_to rfl 46 _ _ rfl _ _ _ rfl rfl THz.out (by kernel_rfl) ONEz.out HVz.out ?_))
     clear RGr THz ONEz HVz X2
     obtain ⟨bZ, hbZ⟩ : ∃ b, w2.heap.size = b := ⟨_, rfl⟩
     rw [hbZ] at Z3 ⊢
     refine Late.wp_region_walk (by kernel_rfl) (by kernel_rfl) (FR8 m PA pc h0 bZ) (FR8_keep m PA pc h0 bZ) ?_ ?_
     · refine ⟨?_, ?_, ?_, ?_, ?_, ?_, ?_, ?_, ?_, ?_, ?_, ?_, ?_, ?_, ?_, ?_, ?_, ?_, ?_, ?_, ?_, ?_, ?_, ?_, ?_, ?_, ?_, trivial⟩
       · intro a w1 hfr hdep hlate
         have f0 : a.tmps.getD 3 undef = .string (bx (h0)) := hlate 3 (by kernel_rfl)
         refine Loose.Step.value rfl (v := .string (bx (h0))) (w' := w1) ?_ rfl (Below.refl _ _)
         simp [go_sem, Act.eval, f0]
       · intro a w1 hfr hdep hlate
         have f0 : a.tmps.getD 4 undef = .pointer (some ⟨bZ, 0, none⟩) := hlate 4 (by kernel_rfl)
         refine Loose.Step.value rfl (v := .pointer (some ⟨bZ, 0, none⟩)) (w' := w1) ?_ rfl (Below.refl _ _)
         simp [go_sem, Act.eval, f0]
       · intro a w1 hfr hdep hlate
         have hq_ := (hfr.below.block bZ (lt_of_block Z3.out)).trans Z3.out
         have hc_ := box_cell hq_ 0 rfl
         have e0 : a.tmps.getD 42 undef = .pointer (some ⟨bZ, 0, none⟩) := Loose.dep_of hdep 1 42 (by kernel_rfl)
         refine Loose.Step.value rfl (v := .int .i64 m.reply.code) (w' := w1) ?_ rfl (Below.refl _ _)
         simp [go_sem, Act.eval, e0, hc_]
       · intro a w1 hfr hdep hlate
         have e0 : a.tmps.getD 43 undef = .int .i64 m.reply.code := Loose.dep_of hdep 2 43 (by kernel_rfl)
         refine Loose.Step.call rfl (f := 69) (args := #[.int .i64 m.reply.code]) ?_ ?_
         · simp [go_sem, Act.eval, e0]
         · refine (RefPut.refnum_any (m.reply.code) (int_rng HR.out.code).1 (by have := (int_rng HR.out.code).2; omega) w1).mono ?_
           rintro e w2 ⟨rfl, hb⟩
           exact ⟨_, rfl, rfl, hb⟩
       · intro a w1 hfr hdep hlate
         have ha := bx_add (P := Tryz.prog) (a := h0) (b := (codeC.put m.reply.code)) (by (try simp only [List.length_append]); omega) w1
         have e0 : a.tmps.getD 41 undef = .string (bx (h0)) := Loose.dep_of hdep 0 41 (by kernel_rfl)
         have e1 : a.tmps.getD 44 undef = .string (bx (codeC.put m.reply.code)) := Loose.dep_of hdep 3 44 (by kernel_rfl)
         refine Loose.Step.value rfl (v := .string (bx (h0 ++ (codeC.put m.reply.code)))) (w' := w1) ?_ rfl (Below.refl _ _)
         simp [go_sem, Act.eval, e0, e1, ha, -List.append_assoc]
       · intro a w1 hfr hdep hlate
         have f0 : a.tmps.getD 4 undef = .pointer (some ⟨bZ, 0, none⟩) := hlate 4 (by kernel_rfl)
         refine Loose.Step.value rfl (v := .pointer (some ⟨bZ, 1, none⟩)) (w' := w1) ?_ rfl (Below.refl _ _)
         simp [go_sem, Act.eval, f0]
       · intro a w1 hfr hdep hlate
         have hq_ := (hfr.below.block bZ (lt_of_block Z3.out)).trans Z3.out
         have hc_ := box_cell hq_ 1 rfl
         have e0 : a.tmps.getD 46 undef = .pointer (some ⟨bZ, 1, none⟩) := Loose.dep_of hdep 5 46 (by kernel_rfl)
         refine Loose.Step.value rfl (v := .int .i64 m.reply.uid) (w' := w1) ?_ rfl (Below.refl _ _)
         simp [go_sem, Act.eval, e0, hc_]
       · intro a w1 hfr hdep hlate
         have e0 : a.tmps.getD 47 undef = .int .i64 m.reply.uid := Loose.dep_of hdep 6 47 (by kernel_rfl)
         refine Loose.Step.call rfl (f := 69) (args := #[.int .i64 m.reply.uid]) ?_ ?_
         · simp [go_sem, Act.eval, e0]
         · refine (RefPut.refnum_any (m.reply.uid) (int_rng HR.out.uid).1 (by have := (int_rng HR.out.uid).2; omega) w1).mono ?_
           rintro e w2 ⟨rfl, hb⟩
           exact ⟨_, rfl, rfl, hb⟩
       · intro a w1 hfr hdep hlate
         have ha := bx_add (P := Tryz.prog) (a := (h0 ++ codeC.put m.reply.code)) (b := (uidC.put m.reply.uid)) (by (try simp only [List.length_append]); omega) w1
         have e0 : a.tmps.getD 45 undef = .string (bx (h0 ++ (codeC.put m.reply.code))) := Loose.dep_of hdep 4 45 (by kernel_rfl)
         have e1 : a.tmps.getD 48 undef = .string (bx (uidC.put m.reply.uid)) := Loose.dep_of hdep 7 48 (by kernel_rfl)
         refine Loose.Step.value rfl (v := .string (bx ((h0 ++ codeC.put m.reply.code) ++ (uidC.put m.reply.uid)))) (w' := w1) ?_ rfl (Below.refl _ _)
         simp [go_sem, Act.eval, e0, e1, ha, -List.append_assoc]
       · intro a w1 hfr hdep hlate
         have f0 : a.tmps.getD 4 undef = .pointer (some ⟨bZ, 0, none⟩) := hlate 4 (by kernel_rfl)
         refine Loose.Step.value rfl (v := .pointer (some ⟨bZ, 2, none⟩)) (w' := w1) ?_ rfl (Below.refl _ _)
         simp [go_sem, Act.eval, f0]
       · intro a w1 hfr hdep hlate
         have hq_ := (hfr.below.block bZ (lt_of_block Z3.out)).trans Z3.out
         have hc_ := box_cell hq_ 2 rfl
         have e0 : a.tmps.getD 50 undef = .pointer (some ⟨bZ, 2, none⟩) := Loose.dep_of hdep 9 50 (by kernel_rfl)
         refine Loose.Step.value rfl (v := .int .i64 m.reply.id) (w' := w1) ?_ rfl (Below.refl _ _)
         simp [go_sem, Act.eval, e0, hc_]
       · intro a w1 hfr hdep hlate
         have e0 : a.tmps.getD 51 undef = .int .i64 m.reply.id := Loose.dep_of hdep 10 51 (by kernel_rfl)
         refine Loose.Step.call rfl (f := 69) (args := #[.int .i64 m.reply.id]) ?_ ?_
         · simp [go_sem, Act.eval, e0]
         · refine (RefPut.refnum_any (m.reply.id) (int_rng HR.out.id).1 (by have := (int_rng HR.out.id).2; omega) w1).mono ?_
           rintro e w2 ⟨rfl, hb⟩
           exact ⟨_, rfl, rfl, hb⟩
       · intro a w1 hfr hdep hlate
         have ha := bx_add (P := Tryz.prog) (a := ((h0 ++ codeC.put m.reply.code) ++ uidC.put m.reply.uid)) (b := (uidC.put m.reply.id)) (by (try simp only [List.length_append]); omega) w1
         have e0 : a.tmps.getD 49 undef = .string (bx ((h0 ++ codeC.put m.reply.code) ++ (uidC.put m.reply.uid))) := Loose.dep_of hdep 8 49 (by kernel_rfl)
         have e1 : a.tmps.getD 52 undef = .string (bx (uidC.put m.reply.id)) := Loose.dep_of hdep 11 52 (by kernel_rfl)
         refine Loose.Step.value rfl (v := .string (bx (((h0 ++ codeC.put m.reply.code) ++ uidC.put m.reply.uid) ++ (uidC.put m.reply.id)))) (w' := w1) ?_ rfl (Below.refl _ _)
         simp [go_sem, Act.eval, e0, e1, ha, -List.append_assoc]
       · intro a w1 hfr hdep hlate
         have f0 : a.tmps.getD 4 undef = .pointer (some ⟨bZ, 0, none⟩) := hlate 4 (by kernel_rfl)
         refine Loose.Step.value rfl (v := .pointer (some ⟨bZ, 3, none⟩)) (w' := w1) ?_ rfl (Below.refl _ _)
         simp [go_sem, Act.eval, f0]
       · intro a w1 hfr hdep hlate
         have hq_ := (hfr.below.block bZ (lt_of_block Z3.out)).trans Z3.out
         have hc_ := box_cell hq_ 3 rfl
         have e0 : a.tmps.getD 54 undef = .pointer (some ⟨bZ, 3, none⟩) := Loose.dep_of hdep 13 54 (by kernel_rfl)
         refine Loose.Step.value rfl (v := .int .u64 (m.reply.rev : Nat)) (w' := w1) ?_ rfl (Below.refl _ _)
         simp [go_sem, Act.eval, e0, hc_]
       · intro a w1 hfr hdep hlate
         have e0 : a.tmps.getD 55 undef = .int .u64 (m.reply.rev : Nat) := Loose.dep_of hdep 14 55 (by kernel_rfl)
         refine Loose.Step.call rfl (f := 70) (args := #[.int .u64 (m.reply.rev : Nat)]) ?_ ?_
         · simp [go_sem, Act.eval, e0]
         · refine (NumRefPut.refPut_any m.reply.rev w1 H.out.reply.rev).mono ?_
           rintro e w2 ⟨rfl, hb⟩
           exact ⟨_, rfl, rfl, hb⟩
       · intro a w1 hfr hdep hlate
         have ha := bx_add (P := Tryz.prog) (a := (((h0 ++ codeC.put m.reply.code) ++ uidC.put m.reply.uid) ++ uidC.put m.reply.id)) (b := (leb m.reply.rev)) (by (try simp only [List.length_append]); omega) w1
         have e0 : a.tmps.getD 53 undef = .string (bx (((h0 ++ codeC.put m.reply.code) ++ uidC.put m.reply.uid) ++ (uidC.put m.reply.id))) := Loose.dep_of hdep 12 53 (by kernel_rfl)
         have e1 : a.tmps.getD 56 undef = .string (bx (leb m.reply.rev)) := Loose.dep_of hdep 15 56 (by kernel_rfl)
         refine Loose.Step.value rfl (v := .string (bx ((((h0 ++ codeC.put m.reply.code) ++ uidC.put m.reply.uid) ++ uidC.put m.reply.id) ++ (leb m.reply.rev)))) (w' := w1) ?_ rfl (Below.refl _ _)
         simp [go_sem, Act.eval, e0, e1, ha, -List.append_assoc]
       · intro a w1 hfr hdep hlate
         have f0 : a.tmps.getD 4 undef = .pointer (some ⟨bZ, 0, none⟩) := hlate 4 (by kernel_rfl)
         refine Loose.Step.value rfl (v := .pointer (some ⟨bZ, 4, none⟩)) (w' := w1) ?_ rfl (Below.refl _ _)
         simp [go_sem, Act.eval, f0]
       · intro a w1 hfr hdep hlate
         have hq_ := (hfr.below.block bZ (lt_of_block Z3.out)).trans Z3.out
         have hc_ := box_cell hq_ 4 rfl
         have e0 : a.tmps.getD 58 undef = .pointer (some ⟨bZ, 4, none⟩) := Loose.dep_of hdep 17 58 (by kernel_rfl)
         refine Loose.Step.value rfl (v := .string m.reply.data) (w' := w1) ?_ rfl (Below.refl _ _)
         simp [go_sem, Act.eval, e0, hc_]
       · intro a w1 hfr hdep hlate
         have e0 : a.tmps.getD 59 undef = .string m.reply.data := Loose.dep_of hdep 18 59 (by kernel_rfl)
         refine Loose.Step.call rfl (f := 72) (args := #[.string m.reply.data]) ?_ ?_
         · simp [go_sem, Act.eval, e0]
         · refine (bytes_ref m.reply.data (by have := HR.out.data; omega) w1).mono ?_
           rintro e w2 ⟨rfl, hb⟩
           exact ⟨_, rfl, rfl, hb⟩
       · intro a w1 hfr hdep hlate
         have ha := bx_add (P := Tryz.prog) (a := ((((h0 ++ codeC.put m.reply.code) ++ uidC.put m.reply.uid) ++ uidC.put m.reply.id) ++ leb m.reply.rev)) (b := (dataC.put m.reply.data)) (by (try simp only [List.length_append]); omega) w1
         have e0 : a.tmps.getD 57 undef = .string (bx ((((h0 ++ codeC.put m.reply.code) ++ uidC.put m.reply.uid) ++ uidC.put m.reply.id) ++ (leb m.reply.rev))) := Loose.dep_of hdep 16 57 (by kernel_rfl)
         have e1 : a.tmps.getD 60 undef = .string (bx (dataC.put m.reply.data)) := Loose.dep_of hdep 19 60 (by kernel_rfl)
         refine Loose.Step.value rfl (v := .string (bx (((((h0 ++ codeC.put m.reply.code) ++ uidC.put m.reply.uid) ++ uidC.put m.reply.id) ++ leb m.reply.rev) ++ (dataC.put m.reply.data)))) (w' := w1) ?_ rfl (Below.refl _ _)
         simp [go_sem, Act.eval, e0, e1, ha, -List.append_assoc]
       · intro a w1 hfr hdep hlate
         have f0 : a.tmps.getD 4 undef = .pointer (some ⟨bZ, 0, none⟩) := hlate 4 (by kernel_rfl)
         refine Loose.Step.value rfl (v := .pointer (some ⟨bZ, 5, none⟩)) (w' := w1) ?_ rfl (Below.refl _ _)
         simp [go_sem, Act.eval, f0]
       · intro a w1 hfr hdep hlate
         have hq_ := (hfr.below.block bZ (lt_of_block Z3.out)).trans Z3.out
         have hc_ := box_cell hq_ 5 rfl
         have e0 : a.tmps.getD 62 undef = .pointer (some ⟨bZ, 5, none⟩) := Loose.dep_of hdep 21 62 (by kernel_rfl)
         refine Loose.Step.value rfl (v := .slice PA m.reply.pods.length pc) (w' := w1) ?_ rfl (Below.refl _ _)
         simp [go_sem, Act.eval, e0, hc_]
       · intro a w1 hfr hdep hlate
         have e0 : a.tmps.getD 63 undef = .slice PA m.reply.pods.length pc := Loose.dep_of hdep 22 63 (by kernel_rfl)
         refine Loose.Step.value rfl (v := .int .i64 (m.reply.pods.length : Nat)) (w' := w1) ?_ rfl (Below.refl _ _)
         simp [go_sem, Act.eval, e0]
       · intro a w1 hfr hdep hlate
         have e0 : a.tmps.getD 64 undef = .int .i64 (m.reply.pods.length : Nat) := Loose.dep_of hdep 23 64 (by kernel_rfl)
         refine Loose.Step.call rfl (f := 69) (args := #[.int .i64 (m.reply.pods.length : Nat)]) ?_ ?_
         · simp [go_sem, Act.eval, e0]
         · refine (RefPut.refnum_any ((m.reply.pods.length : Nat)) (by omega) (by have := HR.out.np; omega) w1).mono ?_
           rintro e w2 ⟨rfl, hb⟩
           exact ⟨_, rfl, rfl, hb⟩
       · intro a w1 hfr hdep hlate
         have ha := bx_add (P := Tryz.prog) (a := (((((h0 ++ codeC.put m.reply.code) ++ uidC.put m.reply.uid) ++ uidC.put m.reply.id) ++ leb m.reply.rev) ++ dataC.put m.reply.data)) (b := (leb m.reply.pods.length)) (by (try simp only [List.length_append]); omega) w1
         have e0 : a.tmps.getD 61 undef = .string (bx (((((h0 ++ codeC.put m.reply.code) ++ uidC.put m.reply.uid) ++ uidC.put m.reply.id) ++ leb m.reply.rev) ++ (dataC.put m.reply.data))) := Loose.dep_of hdep 20 61 (by kernel_rfl)
         have e1 : a.tmps.getD 65 undef = .string (bx (leb m.reply.pods.length)) := Loose.dep_of hdep 24 65 (by kernel_rfl)
         refine Loose.Step.value rfl (v := .string (bx ((((((h0 ++ codeC.put m.reply.code) ++ uidC.put m.reply.uid) ++ uidC.put m.reply.id) ++ leb m.reply.rev) ++ dataC.put m.reply.data) ++ (leb m.reply.pods.length)))) (w' := w1) ?_ rfl (Below.refl _ _)
         simp [go_sem, Act.eval, e0, e1, ha, -List.append_assoc]
       · intro a w1 hfr hdep hlate
         have e0 : a.tmps.getD 66 undef = .string (bx ((((((h0 ++ codeC.put m.reply.code) ++ uidC.put m.reply.uid) ++ uidC.put m.reply.id) ++ leb m.reply.rev) ++ dataC.put m.reply.data) ++ (leb m.reply.pods.length))) := Loose.dep_of hdep 25 66 (by kernel_rfl)
         refine Loose.Step.value rfl (v := .string (bx ((((((h0 ++ codeC.put m.reply.code) ++ uidC.put m.reply.uid) ++ uidC.put m.reply.id) ++ leb m.reply.rev) ++ dataC.put m.reply.data) ++ (leb m.reply.pods.length)))) (w' := w1) ?_ rfl (Below.refl _ _)
         simp [go_sem, Act.eval, e0]
     · intro v0 v1 v2 v3 v4 v5 v6 v7 v8 v9 v10 v11 v12 v13 v14 v15 v16 v17 v18 v19 v20 v21 v22 v23 v24 v25 v26 w4 hb8 hC
       have hlast : v26 = .string (bx ((((((h0 ++ codeC.put m.reply.code) ++ uidC.put m.reply.uid) ++ uidC.put m.reply.id) ++ leb m.reply.rev) ++ dataC.put m.reply.data) ++ (leb m.reply.pods.length))) := hC.2
       subst hlast
       have B4 := Lib.hid (B3.out.trans (hb8.mono B3.out.size))
       have Z4 := Lib.hid ((hb8.block bZ (lt_of_block Z3.out)).trans Z3.out)
       clear hC hb8 Z3
       simp only [SpecOwn.put_lit, List.set_cons_succ, List.set_cons_zero]
       obtain ⟨q0, hq0⟩ : ∃ s, ((((((h0 ++ codeC.put m.reply.code) ++ uidC.put m.reply.uid) ++ uidC.put m.reply.id) ++ leb m.reply.rev) ++ dataC.put m.reply.data) ++ leb m.reply.pods.length) = s := ⟨_, rfl⟩
       have hql : q0.length ≤ 1000 := by rw [← hq0]; simp only [List.length_append]; omega
       rw [hq0]
       have HQ0 := Lib.hid hq0
       clear hq0 l1 l2 l3 l4 l5 l6
       go_wp2_with fail
       go_loopw [3, 5] (fun s i wr => ∃ (j : Nat) (acc : List UInt8), j ≤ m.reply.pods.length ∧ i = .int .i64 j ∧ s = .string (bx (acc)) ∧ acc.length ≤ 1000 + 3100000 * j ∧ Hid (acc = q0 ++ (m.reply.pods.take j).flatMap podC.put) ∧ Hid (Below w4.heap.size w4 wr)) (fun _ i _ => m.reply.pods.length - (RowKit.intOf i).toNat)
       case atStart => exact ⟨0, q0, Nat.zero_le _, rfl, rfl, by omega, by unfold Hid; simp, Below.refl _ _⟩
       case round =>
        obtain ⟨j, acc, hj, rfl, rfl, hal, HA, HB⟩ := hrel
        obtain ⟨wo, hwo⟩ : ∃ v, v = wr := ⟨wr, rfl⟩
        subst hwo
        have ZW := Lib.hid ((HB.out.block bZ (lt_of_block Z4.out)).trans Z4.out)
        have BW := Lib.hid (B4.out.trans (HB.out.mono B4.out.size))
        have cZ5 := box_cell ZW.out 5 rfl
        by_cases hlt : j < m.reply.pods.length
        · have hlt' : (j : Int) < (m.reply.pods.length : Int) := by omega
          obtain ⟨ad, LAq, lcq, IAq, icq, MAq, mcq, RAq, rcq, hPA, hab, hcc, hin⟩ := (H.out.reply.pods.below BW.out).at hlt
          have HLQ := Lib.hid (HLT.out.reply.pods _ (List.getElem_mem hlt))
          have HPQ := Lib.hid (HPO.out _ (List.getElem_mem hlt)).1
          have HNX := Lib.hid (show (m.reply.pods.take (j + 1)).flatMap podC.put = (m.reply.pods.take j).flatMap podC.put ++ podC.put m.reply.pods[j] by
           rw [List.take_succ_eq_append_getElem hlt, List.flatMap_append]; simp)
          obtain ⟨q, hq⟩ : ∃ q, m.reply.pods[j] = q := ⟨_, rfl⟩
          rw [hq] at HLQ HPQ HNX hcc hin
          have HCC := Lib.hid hcc.all
          have HRUN := Lib.hid (RefPut.refpod_any q LAq lcq IAq icq MAq mcq RAq rcq HPQ.out HLQ.out.rs wo hin)
          have hyl := pod_put_len HPQ.out HLQ.out.rs
          obtain ⟨y, hy⟩ : ∃ y, podC.put q = y := ⟨_, rfl⟩
          rw [hy] at HRUN HNX hyl
          have ha := fun v => bx_add (P := Tryz.prog) (a := acc) (b := y) (by omega) v
          have HPA := Lib.hid hPA
          rw [hPA] at cZ5
          clear hq hcc hin hPA hy
          go_wp2_with (refine wpList_load_addr rfl 42 _ rfl _ rfl [.int .i64 q.uid, .int .u64 q.rev, .string q.spec.name, .slice LAq q.spec.labels.length lcq, .slice IAq q.spec.init.length icq, .slice MAq q.spec.main.length mcq, .int .i64 q.spec.restart, .int .i64 q.spec.grace, .int .i64 q.spec.prio, .int .i64 q.phase, .slice RAq q.rs.length rcq, .int .i64 q.mark, .int .i64 q.grace] _ HCC.out Tryz.underlying42 rfl (by kernel_rfl) ?_)
          refine HRUN.out.mono ?_
          rintro e wz ⟨rfl, hbz⟩
          have HBZ := Lib.hid (HB.out.trans (hbz.mono HB.out.size))
          clear hbz HRUN cZ5
          go_wp2_with fail
          go_roundw
          case rel => exact ⟨j + 1, acc ++ y, by omega, by go_num, rfl, by rw [List.length_append]; omega, by unfold Hid; rw [HNX.out, HA.out, List.append_assoc], HBZ.out⟩
          case measure => simp [RowKit.intOf]; omega
        · obtain rfl : j = m.reply.pods.length := by omega
          have hlt' : ¬ (m.reply.pods.length : Int) < (m.reply.pods.length : Int) := by omega
          have HAE := Lib.hid (show acc = q0 ++ m.reply.pods.flatMap podC.put by have h := HA.out; rwa [List.take_length] at h)
          have hal2 : acc.length ≤ 1000 + 3100000 * 16 := by omega
          have cZ6 := box_cell ZW.out 6 rfl
          have HRUN := Lib.hid (RefPut.refnum_any (m.reply.use.length : Nat) (by omega) (by omega) wo)
          rw [Int.toNat_natCast] at HRUN
          have l7 : (leb m.reply.use.length).length ≤ 10 := leb_le_ten (n := m.reply.use.length) (by omega)
          obtain ⟨y, hy⟩ : ∃ y, leb m.reply.use.length = y := ⟨_, rfl⟩
          rw [hy] at HRUN l7
          have HY := Lib.hid hy
          have ha := fun v => bx_add (P := Tryz.prog) (a := acc) (b := y) (by omega) v
          clear hal hy HA
          go_wp2_with fail
          refine HRUN.out.mono ?_
          rintro e w6 ⟨rfl, hb6⟩
          have B6 := Lib.hid (BW.out.trans (hb6.mono BW.out.size))
          have Z6 := Lib.hid ((hb6.block bZ (lt_of_block ZW.out)).trans ZW.out)
          have HSL := Lib.hid (show (acc ++ y).length ≤ 1010 + 3100000 * 16 by rw [List.length_append]; omega)
          clear hb6 HRUN cZ5 cZ6
          go_wp2_with fail
          clear ha
          obtain ⟨p0, hp0⟩ : ∃ s, acc ++ y = s := ⟨_, rfl⟩
          rw [hp0] at HSL ⊢
          have HP0 := Lib.hid hp0
          clear hp0
          go_loopw [3, 6] (fun s i wr => ∃ (j : Nat) (acc : List UInt8), j ≤ m.reply.use.length ∧ i = .int .i64 j ∧ s = .string (bx (acc)) ∧ acc.length ≤ 1010 + 3100000 * 16 + 30 * j ∧ Hid (acc = p0 ++ (m.reply.use.take j).flatMap resC.put) ∧ Hid (Below w6.heap.size w6 wr)) (fun _ i _ => m.reply.use.length - (RowKit.intOf i).toNat)
          case atStart => exact ⟨0, p0, Nat.zero_le _, rfl, rfl, by have := HSL.out; omega, by unfold Hid; simp, Below.refl _ _⟩
          case round =>
           obtain ⟨j, acc, hj, rfl, rfl, hal, HA, HBL⟩ := hrel
           obtain ⟨wt, hwt⟩ : ∃ v, v = wr := ⟨wr, rfl⟩
           subst hwt
           have ZW := Lib.hid ((HBL.out.block bZ (lt_of_block Z6.out)).trans Z6.out)
           have BWU := Lib.hid (B6.out.trans (HBL.out.mono B6.out.size))
           have cZ6 := box_cell ZW.out 6 rfl
           by_cases hlt : j < m.reply.use.length
           · have hlt2 : (j : Int) < (m.reply.use.length : Int) := by omega
             obtain ⟨ua, hUA, hab, hcc⟩ := (H.out.reply.use).at hlt
             have HAB := Lib.hid hab
             have HNX := Lib.hid (show (m.reply.use.take (j + 1)).flatMap resC.put = (m.reply.use.take j).flatMap resC.put ++ resC.put m.reply.use[j] by
              rw [List.take_succ_eq_append_getElem hlt, List.flatMap_append]; simp)
             have HUO := Lib.hid (HR.out.use _ (List.getElem_mem hlt))
             obtain ⟨x, hx⟩ : ∃ x, m.reply.use[j] = x := ⟨_, rfl⟩
             rw [hx] at hcc HNX HUO
             have HCC := Lib.hid hcc
             have HCU := Lib.hid (show ∀ v, Below wt.heap.size wt v → CellsAt v (ua.add (j * 3)) (useVals x) from fun v hv => HCC.out.keep (by rw [Lists.add_block]; exact (BWU.out.trans (hv.mono BWU.out.size)).block _ HAB.out))
             have HCU0 := Lib.hid (show ∀ v, Below wt.heap.size wt v → v.cell? (ua.add (j * 3)) = some (.int .i64 x.1) from fun v hv => (HCU.out v hv).1)
             have HCU1 := Lib.hid (show ∀ v, Below wt.heap.size wt v → v.cell? ⟨(ua.add (j * 3)).block, (ua.add (j * 3)).off + 1, none⟩ = some (.int .i64 x.2.1) from fun v hv => (HCU.out v hv).2 0 _ rfl)
             have HCU2 := Lib.hid (show ∀ v, Below wt.heap.size wt v → v.cell? ⟨(ua.add (j * 3)).block, (ua.add (j * 3)).off + 2, none⟩ = some (.int .i64 x.2.2) from fun v hv => (HCU.out v hv).2 1 _ rfl)
             have HUA := Lib.hid hUA
             subst hUA
             clear hx hcc hab cZ6 HCU
             have k1 : (bigC.put x.1).length ≤ 10 := int_put_len HUO.out.1
             have k2 : (bigC.put x.2.1).length ≤ 10 := int_put_len HUO.out.2.1
             have k3 : (bigC.put x.2.2).length ≤ 10 := int_put_len HUO.out.2.2
             have cZ6 := box_cell ZW.out 6 rfl
             go_wp2_with fail
             refine Late.wp_region_walk (by kernel_rfl) (by kernel_rfl) (FU17 m ua uc j x acc bZ) (FU17_keep m ua uc j x acc bZ) ?_ ?_
             · refine ⟨?_, ?_, ?_, ?_, ?_, ?_, ?_, ?_, ?_, ?_, ?_, ?_, ?_, ?_, ?_, ?_, ?_, ?_, ?_, ?_, ?_, ?_, ?_, ?_, ?_, ?_, trivial⟩
               · intro a w1 hfr hdep hlate
                 have f0 : a.tmps.getD 3 undef = .string (bx (acc)) := hlate 3 (by kernel_rfl)
                 refine Loose.Step.value rfl (v := .string (bx (acc))) (w' := w1) ?_ rfl (Below.refl _ _)
                 simp [go_sem, Act.eval, f0]
               · intro a w1 hfr hdep hlate
                 have f0 : a.tmps.getD 4 undef = .pointer (some ⟨bZ, 0, none⟩) := hlate 4 (by kernel_rfl)
                 refine Loose.Step.value rfl (v := .pointer (some ⟨bZ, 6, none⟩)) (w' := w1) ?_ rfl (Below.refl _ _)
                 simp [go_sem, Act.eval, f0]
               · intro a w1 hfr hdep hlate
                 have hq_ := (hfr.below.block bZ (lt_of_block ZW.out)).trans ZW.out
                 have hc_ := box_cell hq_ 6 rfl
                 have e0 : a.tmps.getD 96 undef = .pointer (some ⟨bZ, 6, none⟩) := Loose.dep_of hdep 1 96 (by kernel_rfl)
                 refine Loose.Step.value rfl (v := .slice (some ua) m.reply.use.length uc) (w' := w1) ?_ rfl (Below.refl _ _)
                 simp [go_sem, Act.eval, e0, hc_]
               · intro a w1 hfr hdep hlate
                 have f0 : a.tmps.getD 6 undef = .int .i64 (j : Nat) := hlate 6 (by kernel_rfl)
                 refine Loose.Step.value rfl (v := .int .i64 (j : Nat)) (w' := w1) ?_ rfl (Below.refl _ _)
                 simp [go_sem, Act.eval, f0]
               · intro a w1 hfr hdep hlate
                 have e0 : a.tmps.getD 97 undef = .slice (some ua) m.reply.use.length uc := Loose.dep_of hdep 2 97 (by kernel_rfl)
                 have e1 : a.tmps.getD 98 undef = .int .i64 (j : Nat) := Loose.dep_of hdep 3 98 (by kernel_rfl)
                 refine Loose.Step.value rfl (v := .pointer (some (ua.add (j * 3)))) (w' := w1) ?_ rfl (Below.refl _ _)
                 simp [go_sem, Act.eval, e0, e1, hlt, hlt2]
               · intro a w1 hfr hdep hlate
                 have e0 : a.tmps.getD 99 undef = .pointer (some (ua.add (j * 3))) := Loose.dep_of hdep 4 99 (by kernel_rfl)
                 refine Loose.Step.value rfl (v := .pointer (some (ua.add (j * 3)))) (w' := w1) ?_ rfl (Below.refl _ _)
                 simp [go_sem, Act.eval, e0]
               · intro a w1 hfr hdep hlate
                 have hc_ := HCU0.out w1 hfr.below
                 have e0 : a.tmps.getD 100 undef = .pointer (some (ua.add (j * 3))) := Loose.dep_of hdep 5 100 (by kernel_rfl)
                 refine Loose.Step.value rfl (v := .int .i64 x.1) (w' := w1) ?_ rfl (Below.refl _ _)
                 simp [go_sem, Act.eval, e0, hc_]
               · intro a w1 hfr hdep hlate
                 have e0 : a.tmps.getD 101 undef = .int .i64 x.1 := Loose.dep_of hdep 6 101 (by kernel_rfl)
                 refine Loose.Step.call rfl (f := 69) (args := #[.int .i64 x.1]) ?_ ?_
                 · simp [go_sem, Act.eval, e0]
                 · refine (RefPut.refnum_any (x.1) (int_rng HUO.out.1).1 (by have := (int_rng HUO.out.1).2; omega) w1).mono ?_
                   rintro e w2 ⟨rfl, hb⟩
                   exact ⟨_, rfl, rfl, hb⟩
               · intro a w1 hfr hdep hlate
                 have ha := bx_add (P := Tryz.prog) (a := acc) (b := (bigC.put x.1)) (by (try simp only [List.length_append]); omega) w1
                 have e0 : a.tmps.getD 95 undef = .string (bx (acc)) := Loose.dep_of hdep 0 95 (by kernel_rfl)
                 have e1 : a.tmps.getD 102 undef = .string (bx (bigC.put x.1)) := Loose.dep_of hdep 7 102 (by kernel_rfl)
                 refine Loose.Step.value rfl (v := .string (bx (acc ++ (bigC.put x.1)))) (w' := w1) ?_ rfl (Below.refl _ _)
                 simp [go_sem, Act.eval, e0, e1, ha, -List.append_assoc]
               · intro a w1 hfr hdep hlate
                 have f0 : a.tmps.getD 4 undef = .pointer (some ⟨bZ, 0, none⟩) := hlate 4 (by kernel_rfl)
                 refine Loose.Step.value rfl (v := .pointer (some ⟨bZ, 6, none⟩)) (w' := w1) ?_ rfl (Below.refl _ _)
                 simp [go_sem, Act.eval, f0]
               · intro a w1 hfr hdep hlate
                 have hq_ := (hfr.below.block bZ (lt_of_block ZW.out)).trans ZW.out
                 have hc_ := box_cell hq_ 6 rfl
                 have e0 : a.tmps.getD 104 undef = .pointer (some ⟨bZ, 6, none⟩) := Loose.dep_of hdep 9 104 (by kernel_rfl)
                 refine Loose.Step.value rfl (v := .slice (some ua) m.reply.use.length uc) (w' := w1) ?_ rfl (Below.refl _ _)
                 simp [go_sem, Act.eval, e0, hc_]
               · intro a w1 hfr hdep hlate
                 have f0 : a.tmps.getD 6 undef = .int .i64 (j : Nat) := hlate 6 (by kernel_rfl)
                 refine Loose.Step.value rfl (v := .int .i64 (j : Nat)) (w' := w1) ?_ rfl (Below.refl _ _)
                 simp [go_sem, Act.eval, f0]
               · intro a w1 hfr hdep hlate
                 have e0 : a.tmps.getD 105 undef = .slice (some ua) m.reply.use.length uc := Loose.dep_of hdep 10 105 (by kernel_rfl)
                 have e1 : a.tmps.getD 106 undef = .int .i64 (j : Nat) := Loose.dep_of hdep 11 106 (by kernel_rfl)
                 refine Loose.Step.value rfl (v := .pointer (some (ua.add (j * 3)))) (w' := w1) ?_ rfl (Below.refl _ _)
                 simp [go_sem, Act.eval, e0, e1, hlt, hlt2]
               · intro a w1 hfr hdep hlate
                 have e0 : a.tmps.getD 107 undef = .pointer (some (ua.add (j * 3))) := Loose.dep_of hdep 12 107 (by kernel_rfl)
                 refine Loose.Step.value rfl (v := .pointer (some ⟨(ua.add (j * 3)).block, (ua.add (j * 3)).off + 1, none⟩)) (w' := w1) ?_ rfl (Below.refl _ _)
                 simp [go_sem, Act.eval, e0]
               · intro a w1 hfr hdep hlate
                 have hc_ := HCU1.out w1 hfr.below
                 have e0 : a.tmps.getD 108 undef = .pointer (some ⟨(ua.add (j * 3)).block, (ua.add (j * 3)).off + 1, none⟩) := Loose.dep_of hdep 13 108 (by kernel_rfl)
                 refine Loose.Step.value rfl (v := .int .i64 x.2.1) (w' := w1) ?_ rfl (Below.refl _ _)
                 simp [go_sem, Act.eval, e0, hc_]
               · intro a w1 hfr hdep hlate
                 have e0 : a.tmps.getD 109 undef = .int .i64 x.2.1 := Loose.dep_of hdep 14 109 (by kernel_rfl)
                 refine Loose.Step.call rfl (f := 69) (args := #[.int .i64 x.2.1]) ?_ ?_
                 · simp [go_sem, Act.eval, e0]
                 · refine (RefPut.refnum_any (x.2.1) (int_rng HUO.out.2.1).1 (by have := (int_rng HUO.out.2.1).2; omega) w1).mono ?_
                   rintro e w2 ⟨rfl, hb⟩
                   exact ⟨_, rfl, rfl, hb⟩
               · intro a w1 hfr hdep hlate
                 have ha := bx_add (P := Tryz.prog) (a := (acc ++ bigC.put x.1)) (b := (bigC.put x.2.1)) (by (try simp only [List.length_append]); omega) w1
                 have e0 : a.tmps.getD 103 undef = .string (bx (acc ++ (bigC.put x.1))) := Loose.dep_of hdep 8 103 (by kernel_rfl)
                 have e1 : a.tmps.getD 110 undef = .string (bx (bigC.put x.2.1)) := Loose.dep_of hdep 15 110 (by kernel_rfl)
                 refine Loose.Step.value rfl (v := .string (bx ((acc ++ bigC.put x.1) ++ (bigC.put x.2.1)))) (w' := w1) ?_ rfl (Below.refl _ _)
                 simp [go_sem, Act.eval, e0, e1, ha, -List.append_assoc]
               · intro a w1 hfr hdep hlate
                 have f0 : a.tmps.getD 4 undef = .pointer (some ⟨bZ, 0, none⟩) := hlate 4 (by kernel_rfl)
                 refine Loose.Step.value rfl (v := .pointer (some ⟨bZ, 6, none⟩)) (w' := w1) ?_ rfl (Below.refl _ _)
                 simp [go_sem, Act.eval, f0]
               · intro a w1 hfr hdep hlate
                 have hq_ := (hfr.below.block bZ (lt_of_block ZW.out)).trans ZW.out
                 have hc_ := box_cell hq_ 6 rfl
                 have e0 : a.tmps.getD 112 undef = .pointer (some ⟨bZ, 6, none⟩) := Loose.dep_of hdep 17 112 (by kernel_rfl)
                 refine Loose.Step.value rfl (v := .slice (some ua) m.reply.use.length uc) (w' := w1) ?_ rfl (Below.refl _ _)
                 simp [go_sem, Act.eval, e0, hc_]
               · intro a w1 hfr hdep hlate
                 have f0 : a.tmps.getD 6 undef = .int .i64 (j : Nat) := hlate 6 (by kernel_rfl)
                 refine Loose.Step.value rfl (v := .int .i64 (j : Nat)) (w' := w1) ?_ rfl (Below.refl _ _)
                 simp [go_sem, Act.eval, f0]
               · intro a w1 hfr hdep hlate
                 have e0 : a.tmps.getD 113 undef = .slice (some ua) m.reply.use.length uc := Loose.dep_of hdep 18 113 (by kernel_rfl)
                 have e1 : a.tmps.getD 114 undef = .int .i64 (j : Nat) := Loose.dep_of hdep 19 114 (by kernel_rfl)
                 refine Loose.Step.value rfl (v := .pointer (some (ua.add (j * 3)))) (w' := w1) ?_ rfl (Below.refl _ _)
                 simp [go_sem, Act.eval, e0, e1, hlt, hlt2]
               · intro a w1 hfr hdep hlate
                 have e0 : a.tmps.getD 115 undef = .pointer (some (ua.add (j * 3))) := Loose.dep_of hdep 20 115 (by kernel_rfl)
                 refine Loose.Step.value rfl (v := .pointer (some ⟨(ua.add (j * 3)).block, (ua.add (j * 3)).off + 2, none⟩)) (w' := w1) ?_ rfl (Below.refl _ _)
                 simp [go_sem, Act.eval, e0]
               · intro a w1 hfr hdep hlate
                 have hc_ := HCU2.out w1 hfr.below
                 have e0 : a.tmps.getD 116 undef = .pointer (some ⟨(ua.add (j * 3)).block, (ua.add (j * 3)).off + 2, none⟩) := Loose.dep_of hdep 21 116 (by kernel_rfl)
                 refine Loose.Step.value rfl (v := .int .i64 x.2.2) (w' := w1) ?_ rfl (Below.refl _ _)
                 simp [go_sem, Act.eval, e0, hc_]
               · intro a w1 hfr hdep hlate
                 have e0 : a.tmps.getD 117 undef = .int .i64 x.2.2 := Loose.dep_of hdep 22 117 (by kernel_rfl)
                 refine Loose.Step.call rfl (f := 69) (args := #[.int .i64 x.2.2]) ?_ ?_
                 · simp [go_sem, Act.eval, e0]
                 · refine (RefPut.refnum_any (x.2.2) (int_rng HUO.out.2.2).1 (by have := (int_rng HUO.out.2.2).2; omega) w1).mono ?_
                   rintro e w2 ⟨rfl, hb⟩
                   exact ⟨_, rfl, rfl, hb⟩
               · intro a w1 hfr hdep hlate
                 have ha := bx_add (P := Tryz.prog) (a := ((acc ++ bigC.put x.1) ++ bigC.put x.2.1)) (b := (bigC.put x.2.2)) (by (try simp only [List.length_append]); omega) w1
                 have e0 : a.tmps.getD 111 undef = .string (bx ((acc ++ bigC.put x.1) ++ (bigC.put x.2.1))) := Loose.dep_of hdep 16 111 (by kernel_rfl)
                 have e1 : a.tmps.getD 118 undef = .string (bx (bigC.put x.2.2)) := Loose.dep_of hdep 23 118 (by kernel_rfl)
                 refine Loose.Step.value rfl (v := .string (bx (((acc ++ bigC.put x.1) ++ bigC.put x.2.1) ++ (bigC.put x.2.2)))) (w' := w1) ?_ rfl (Below.refl _ _)
                 simp [go_sem, Act.eval, e0, e1, ha, -List.append_assoc]
               · intro a w1 hfr hdep hlate
                 have e0 : a.tmps.getD 119 undef = .string (bx (((acc ++ bigC.put x.1) ++ bigC.put x.2.1) ++ (bigC.put x.2.2))) := Loose.dep_of hdep 24 119 (by kernel_rfl)
                 refine Loose.Step.value rfl (v := .string (bx (((acc ++ bigC.put x.1) ++ bigC.put x.2.1) ++ (bigC.put x.2.2)))) (w' := w1) ?_ rfl (Below.refl _ _)
                 simp [go_sem, Act.eval, e0]
             · intro v0 v1 v2 v3 v4 v5 v6 v7 v8 v9 v10 v11 v12 v13 v14 v15 v16 v17 v18 v19 v20 v21 v22 v23 v24 v25 w8 hb8 hC
               have hlast : v25 = .string (bx (((acc ++ bigC.put x.1) ++ bigC.put x.2.1) ++ (bigC.put x.2.2))) := hC.2
               subst hlast
               have HBZ := Lib.hid (HBL.out.trans (hb8.mono HBL.out.size))
               have HRX := Lib.hid (show (((acc ++ bigC.put x.1) ++ bigC.put x.2.1) ++ bigC.put x.2.2) = acc ++ resC.put x by
                rw [show resC.put x = bigC.put x.1 ++ (bigC.put x.2.1 ++ bigC.put x.2.2) from rfl]
                simp only [List.append_assoc])
               have hnl : (acc ++ resC.put x).length ≤ 1010 + 3100000 * 16 + 30 * (j + 1) := by rw [← HRX.out]; simp only [List.length_append]; omega
               clear hC hb8
               simp only [SpecOwn.put_lit, List.set_cons_succ, List.set_cons_zero]
               rw [HRX.out]
               go_wp2_with fail
               go_roundw
               case rel => exact ⟨j + 1, acc ++ resC.put x, by omega, by go_num, rfl, hnl, by unfold Hid; rw [HNX.out, HA.out, List.append_assoc], HBZ.out⟩
               case measure => simp [RowKit.intOf]; omega
           · obtain rfl : j = m.reply.use.length := by omega
             have hlt' : ¬ (m.reply.use.length : Int) < (m.reply.use.length : Int) := by omega
             have HEND := Lib.hid (show bx acc = bx (msgC.put m) by
              have h := HA.out
              rw [List.take_length] at h
              rw [HMP.out, HB2.out, h, ← HP0.out, HAE.out, ← HQ0.out, ← HY.out, show replyC.put m.reply = codeC.put m.reply.code ++ (uidC.put m.reply.uid ++ (uidC.put m.reply.id ++ (leb m.reply.rev ++ (dataC.put m.reply.data ++ ((leb m.reply.pods.length ++ m.reply.pods.flatMap podC.put) ++ (leb m.reply.use.length ++ m.reply.use.flatMap resC.put)))))) from rfl]
              simp only [List.append_assoc])
             go_wp2_with fail
             go_ret
             first | exact ⟨by rw [← HEND.out]; rfl, BWU.out⟩ | exact ⟨by rw [← HEND.out]; rfl, by rw [← hbM]; exact BWU.out⟩
   · have e2 : (m.kind == 2) = true := by rw [hk]; rfl
     have HB2 := Lib.hid (show (bodyC m.kind).put (m.reply, m.event) = (ekindC.put m.event.kind ++ leb m.event.rev) ++ (podIfC m.event.kind).put m.event.pod by unfold bodyC; rw [if_neg (by omega), if_pos hk]; rfl)
     have hkinds : (1 ≤ m.event.kind ∧ m.event.kind ≤ 3) ∨ (4 ≤ m.event.kind ∧ m.event.kind ≤ 5) := by
      have h := HMS.out
      unfold msgB at h
      rw [Bool.and_eq_true, if_neg (by omega), if_pos hk, Bool.and_eq_true] at h
      have h2 := h.2.2
      unfold eventB at h2
      rw [Bool.or_eq_true, Bool.and_eq_true, Bool.and_eq_true] at h2
      rcases h2 with h2 | h2
      · exact .inl (inB_iff.1 h2.1)
      · exact .inr (inB_iff.1 h2.1)
     have HEK := Lib.hid (show ekindC.ok m.event.kind from hev.1.1.1)
     have l1 : (ekindC.put m.event.kind).length ≤ 10 := int_put_len hev.1.1.1
     have l2 : (leb m.event.rev).length ≤ 10 := leb_le_ten (n := m.event.rev) H.out.rev
     have HPO := Lib.hid hpo
     clear hk hev hpo
     go_wp2_with fail
     refine Late.wp_region_walk (by kernel_rfl) (by kernel_rfl) (FE3 m h0 bM) (FE3_keep m h0 bM) ?_ ?_
     · refine ⟨?_, ?_, ?_, ?_, ?_, ?_, ?_, ?_, ?_, ?_, ?_, ?_, trivial⟩
       · intro a w1 hfr hdep hlate
         have f0 : a.tmps.getD 3 undef = .string (bx (h0)) := hlate 3 (by kernel_rfl)
         refine Loose.Step.value rfl (v := .string (bx (h0))) (w' := w1) ?_ rfl (Below.refl _ _)
         simp [go_sem, Act.eval, f0]
       · intro a w1 hfr hdep hlate
         have f0 : a.tmps.getD 1 undef = .pointer (some ⟨bM, 0, none⟩) := hlate 1 (by kernel_rfl)
         refine Loose.Step.value rfl (v := .pointer (some ⟨bM, 9, none⟩)) (w' := w1) ?_ rfl (Below.refl _ _)
         simp [go_sem, Act.eval, f0]
       · intro a w1 hfr hdep hlate
         have e0 : a.tmps.getD 18 undef = .pointer (some ⟨bM, 9, none⟩) := Loose.dep_of hdep 1 18 (by kernel_rfl)
         refine Loose.Step.value rfl (v := .pointer (some ⟨bM, 9, none⟩)) (w' := w1) ?_ rfl (Below.refl _ _)
         simp [go_sem, Act.eval, e0]
       · intro a w1 hfr hdep hlate
         have hq_ := (hfr.below.block bM (lt_of_block X2.out)).trans X2.out
         have hc_ := box_cell hq_ 9 rfl
         have e0 : a.tmps.getD 19 undef = .pointer (some ⟨bM, 9, none⟩) := Loose.dep_of hdep 2 19 (by kernel_rfl)
         refine Loose.Step.value rfl (v := .int .i64 m.event.kind) (w' := w1) ?_ rfl (Below.refl _ _)
         simp [go_sem, Act.eval, e0, hc_]
       · intro a w1 hfr hdep hlate
         have e0 : a.tmps.getD 20 undef = .int .i64 m.event.kind := Loose.dep_of hdep 3 20 (by kernel_rfl)
         refine Loose.Step.call rfl (f := 69) (args := #[.int .i64 m.event.kind]) ?_ ?_
         · simp [go_sem, Act.eval, e0]
         · refine (RefPut.refnum_any (m.event.kind) (int_rng HEK.out).1 (by have := (int_rng HEK.out).2; omega) w1).mono ?_
           rintro e w2 ⟨rfl, hb⟩
           exact ⟨_, rfl, rfl, hb⟩
       · intro a w1 hfr hdep hlate
         have ha := bx_add (P := Tryz.prog) (a := h0) (b := (ekindC.put m.event.kind)) (by (try simp only [List.length_append]); omega) w1
         have e0 : a.tmps.getD 17 undef = .string (bx (h0)) := Loose.dep_of hdep 0 17 (by kernel_rfl)
         have e1 : a.tmps.getD 21 undef = .string (bx (ekindC.put m.event.kind)) := Loose.dep_of hdep 4 21 (by kernel_rfl)
         refine Loose.Step.value rfl (v := .string (bx (h0 ++ (ekindC.put m.event.kind)))) (w' := w1) ?_ rfl (Below.refl _ _)
         simp [go_sem, Act.eval, e0, e1, ha, -List.append_assoc]
       · intro a w1 hfr hdep hlate
         have f0 : a.tmps.getD 1 undef = .pointer (some ⟨bM, 0, none⟩) := hlate 1 (by kernel_rfl)
         refine Loose.Step.value rfl (v := .pointer (some ⟨bM, 9, none⟩)) (w' := w1) ?_ rfl (Below.refl _ _)
         simp [go_sem, Act.eval, f0]
       · intro a w1 hfr hdep hlate
         have e0 : a.tmps.getD 23 undef = .pointer (some ⟨bM, 9, none⟩) := Loose.dep_of hdep 6 23 (by kernel_rfl)
         refine Loose.Step.value rfl (v := .pointer (some ⟨bM, 10, none⟩)) (w' := w1) ?_ rfl (Below.refl _ _)
         simp [go_sem, Act.eval, e0]
       · intro a w1 hfr hdep hlate
         have hq_ := (hfr.below.block bM (lt_of_block X2.out)).trans X2.out
         have hc_ := box_cell hq_ 10 rfl
         have e0 : a.tmps.getD 24 undef = .pointer (some ⟨bM, 10, none⟩) := Loose.dep_of hdep 7 24 (by kernel_rfl)
         refine Loose.Step.value rfl (v := .int .u64 (m.event.rev : Nat)) (w' := w1) ?_ rfl (Below.refl _ _)
         simp [go_sem, Act.eval, e0, hc_]
       · intro a w1 hfr hdep hlate
         have e0 : a.tmps.getD 25 undef = .int .u64 (m.event.rev : Nat) := Loose.dep_of hdep 8 25 (by kernel_rfl)
         refine Loose.Step.call rfl (f := 70) (args := #[.int .u64 (m.event.rev : Nat)]) ?_ ?_
         · simp [go_sem, Act.eval, e0]
         · refine (NumRefPut.refPut_any m.event.rev w1 H.out.rev).mono ?_
           rintro e w2 ⟨rfl, hb⟩
           exact ⟨_, rfl, rfl, hb⟩
       · intro a w1 hfr hdep hlate
         have ha := bx_add (P := Tryz.prog) (a := (h0 ++ ekindC.put m.event.kind)) (b := (leb m.event.rev)) (by (try simp only [List.length_append]); omega) w1
         have e0 : a.tmps.getD 22 undef = .string (bx (h0 ++ (ekindC.put m.event.kind))) := Loose.dep_of hdep 5 22 (by kernel_rfl)
         have e1 : a.tmps.getD 26 undef = .string (bx (leb m.event.rev)) := Loose.dep_of hdep 9 26 (by kernel_rfl)
         refine Loose.Step.value rfl (v := .string (bx ((h0 ++ ekindC.put m.event.kind) ++ (leb m.event.rev)))) (w' := w1) ?_ rfl (Below.refl _ _)
         simp [go_sem, Act.eval, e0, e1, ha, -List.append_assoc]
       · intro a w1 hfr hdep hlate
         have e0 : a.tmps.getD 27 undef = .string (bx ((h0 ++ ekindC.put m.event.kind) ++ (leb m.event.rev))) := Loose.dep_of hdep 10 27 (by kernel_rfl)
         refine Loose.Step.value rfl (v := .string (bx ((h0 ++ ekindC.put m.event.kind) ++ (leb m.event.rev)))) (w' := w1) ?_ rfl (Below.refl _ _)
         simp [go_sem, Act.eval, e0]
     · intro v0 v1 v2 v3 v4 v5 v6 v7 v8 v9 v10 v11 w3 hb8 hC
       have hlast : v11 = .string (bx ((h0 ++ ekindC.put m.event.kind) ++ (leb m.event.rev))) := hC.2
       subst hlast
       have B3 := Lib.hid (B2.out.trans (hb8.mono B2.out.size))
       have X3 := Lib.hid ((hb8.block bM (lt_of_block X2.out)).trans X2.out)
       clear hC hb8 X2
       simp only [SpecOwn.put_lit, List.set_cons_succ, List.set_cons_zero]
       have cE := box_cell X3.out 9 rfl
       rcases hkinds with hkk | hkk
       · have hb1 : hasB m.event.kind = true := inB_iff.2 hkk
         have hle : m.event.kind ≤ 3 := hkk.2
         have hpc := (HPO.out hb1).1
         have HB3 := Lib.hid (show (podIfC m.event.kind).put m.event.pod = podC.put m.event.pod by unfold podIfC; rw [if_pos hb1])
         have RG := Lib.hid (range_at X3.out 11 [.int .i64 m.event.pod.uid, .int .u64 m.event.pod.rev, .string m.event.pod.spec.name, .slice LA m.event.pod.spec.labels.length lc, .slice IA m.event.pod.spec.init.length ic, .slice MA m.event.pod.spec.main.length mc, .int .i64 m.event.pod.spec.restart, .int .i64 m.event.pod.spec.grace, .int .i64 m.event.pod.spec.prio, .int .i64 m.event.pod.phase, .slice RA m.event.pod.rs.length rc, .int .i64 m.event.pod.mark, .int .i64 m.event.pod.grace] rfl)
         have HRUN := Lib.hid (RefPut.refpod_any m.event.pod LA lc IA ic MA mc RA rc hpc HLT.out.pod.rs w3 (H.out.pod.below B3.out))
         have hpl := pod_put_len hpc HLT.out.pod.rs
         have ha := fun v => bx_add (P := Tryz.prog) (a := ((h0 ++ ekindC.put m.event.kind) ++ leb m.event.rev)) (b := podC.put m.event.pod) (by simp only [List.length_append]; omega) v
         obtain ⟨s1, hs1⟩ : ∃ s, ((h0 ++ ekindC.put m.event.kind) ++ leb m.event.rev) = s := ⟨_, rfl⟩
         obtain ⟨s2, hs2⟩ : ∃ s, podC.put m.event.pod = s := ⟨_, rfl⟩
         rw [hs1, hs2] at ha
         rw [hs1]
         rw [hs2] at HRUN HB3
         have HEND := Lib.hid (show bx (s1 ++ s2) = bx (msgC.put m) by rw [HMP.out, HB2.out, HB3.out, ← hs1]; simp only [List.append_assoc])
         clear hs1 hs2 hpc hpl hkk hb1
         go_wp2_with (refine wpList_load_mid rfl 42 _ rfl _ _ rfl _ _ RG.out Tryz.underlying42 rfl (by kernel_rfl) ?_)
         refine HRUN.out.mono ?_
         rintro e w4 ⟨rfl, hb4⟩
         have B4 := Lib.hid (B3.out.trans (hb4.mono B3.out.size))
         clear hb4
         go_wp2_with fail
         go_ret
         first | exact ⟨by rw [← HEND.out]; rfl, B4.out⟩ | exact ⟨by rw [← HEND.out]; rfl, by rw [← hbM]; exact B4.out⟩
       · have hb1 : ¬ hasB m.event.kind = true := fun h => by have := inB_iff.1 h; omega
         have hle : ¬ m.event.kind ≤ 3 := by omega
         have HB3 := Lib.hid (show (podIfC m.event.kind).put m.event.pod = [] by unfold podIfC; rw [if_neg hb1]; rfl)
         have HEND := Lib.hid (show bx ((h0 ++ ekindC.put m.event.kind) ++ leb m.event.rev) = bx (msgC.put m) by rw [HMP.out, HB2.out, HB3.out]; simp only [List.append_assoc, List.append_nil])
         go_wp2_with fail
         go_ret
         first | exact ⟨by rw [← HEND.out, List.append_assoc]; rfl, B3.out⟩ | exact ⟨by rw [← HEND.out, List.append_assoc]; rfl, by rw [← hbM]; exact B3.out⟩ | exact ⟨by rw [← HEND.out]; rfl, B3.out⟩ | exact ⟨by rw [← HEND.out]; rfl, by rw [← hbM]; exact B3.out⟩
end RefBytes
end Tl
end Go.Proofs.YtljbpelogjmciaaGreatDoor
