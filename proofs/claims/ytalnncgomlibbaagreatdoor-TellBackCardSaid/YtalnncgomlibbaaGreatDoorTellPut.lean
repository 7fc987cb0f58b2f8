/-
 What writes uses and pods (package tell): the writer's bytes behind. What was there, but the writer's, is left as it was. Conditions: what is written may be, and is not too much; the writer has room.
-/
import Derived.Test.YtalnncgomlibbaaGreatDoorTellMay
import Derived.Test.YtalnncgomlibbaaGreatDoorPackAll
set_option linter.unusedVariables false
set_option linter.unusedSimpArgs false
namespace Go.Proofs.YtalnncgomlibbaaGreatDoor
open Go.ChangeShapes Go.WideShapes Go.ChangeAt Go.RowKit Go.Lib
open LebMath WirePure Sd Wire SpecOwn SpecRef Book Pk
namespace Tl

structure PodParts (p : Pd) : Prop where
 uid : uidC.ok p.uid
 rev : revC.ok p.rev
 spec : specC.ok p.spec
 phase : phaseC.ok p.phase
 len : p.rs.length = p.spec.main.length
 rs : ∀ x ∈ p.rs, uidC.ok x
 mark : markC.ok p.mark
 grace : graceC.ok p.grace
theorem pod_parts {p : Pd} (h : podC.ok p) : PodParts p := ⟨h.1.1.1, h.1.1.2.1, h.1.1.2.2.1, h.1.1.2.2.2, h.1.2.1.1, h.1.2.1.2, h.1.2.2.1, h.1.2.2.2⟩
theorem pod_put_len {p : Pd} (h : podC.ok p) (hl : p.rs.length ≤ 20) : (podC.put p).length ≤ 3100000 := by
 have h := pod_parts h
 have L1 : (uidC.put p.uid).length ≤ 10 := int_put_len h.uid
 have hr : p.rev ≤ 18446744073709551615 := h.rev
 have L2 := leb_le_ten (n := p.rev) (by omega)
 have L3 := spec_put_len h.spec
 have L4 : (phaseC.put p.phase).length ≤ 10 := int_put_len h.phase
 have L5 : (p.rs.flatMap uidC.put).length ≤ 20 * 10 := Nat.le_trans (flat_put_len uidC.put 10 p.rs (fun y hy => int_put_len (h.rs y hy))) (Nat.mul_le_mul_right _ hl)
 have L6 : (markC.put p.mark).length ≤ 10 := int_put_len h.mark
 have L7 : (graceC.put p.grace).length ≤ 10 := int_put_len h.grace
 have e : podC.put p = (uidC.put p.uid ++ (leb p.rev ++ (specC.put p.spec ++ phaseC.put p.phase))) ++ (p.rs.flatMap uidC.put ++ (markC.put p.mark ++ graceC.put p.grace)) := rfl
 rw [e]
 simp only [List.length_append]
 omega
set_option maxRecDepth 100000 in
set_option maxHeartbeats 4000000 in
theorem use_wr (g : Nat) (D : Nat → Prop) (c : Int) (xs : List UInt8) (u : Int × Int × Int) (hok : resC.ok u) (hz : xs.length + 1000 ≤ 140737488355328) (w0 w : World) (hb : Below w0.heap.size w0 w) (hD : ∀ k, k < w0.heap.size → D k) (h : Wr w g D c xs) :
 Calls Tryz.prog 115 #[.pointer (some ⟨g, 0, none⟩), .agg #[.int .i64 u.1, .int .i64 u.2.1, .int .i64 u.2.2]] w fun e w' => e = .returned (.tuple #[]) ∧ Wr w' g D c (addB c xs (resC.put u)) ∧ Kept D w w' := by
 have HOK := Lib.hid hok
 have HZ := Lib.hid hz
 have HB := Lib.hid hb
 have HD := Lib.hid hD
 have L1 := Lib.hid (show (bigC.put u.1).length ≤ 10 from int_put_len hok.1)
 have L2 := Lib.hid (show (bigC.put u.2.1).length ≤ 10 from int_put_len hok.2.1)
 have L3 := Lib.hid (show (bigC.put u.2.2).length ≤ 10 from int_put_len hok.2.2)
 clear hok hz hb hD
 obtain ⟨w1, hw1⟩ : ∃ v, w.alloc (.cells #[.int .i64 u.1, .int .i64 u.2.1, .int .i64 u.2.2] 70) = v := ⟨_, rfl⟩
 have hb1 : Below w.heap.size w w1 := by rw [← hw1]; exact (Below.refl _ _).alloc (Nat.le_refl _) _
 have X1 := Lib.hid (show w1.heap[w.heap.size]? = some (.cells #[.int .i64 u.1, .int .i64 u.2.1, .int .i64 u.2.2] 70) by rw [← hw1]; exact heap_alloc_new w _)
 obtain ⟨D1, hD1⟩ : ∃ D1 : Nat → Prop, D1 = fun k => D k ∨ k = w.heap.size := ⟨_, rfl⟩
 have HD1 := Lib.hid hD1
 have HDX := Lib.hid (show D1 w.heap.size by rw [hD1]; exact .inr rfl)
 have HDD := Lib.hid (show ∀ k, D k → D1 k from fun k hk => by rw [hD1]; exact .inl hk)
 have HW1 := Lib.hid (show Wr w1 g D1 c xs by rw [hD1, ← hw1]; exact h.alloc _)
 have HK0 := Lib.hid (show Kept D w w1 from Kept.of_below hb1 (fun k hk => (h.1 k hk).1))
 have K1 := Lib.hid (Kept.refl D1 w1)
 have C1 := Lib.hid (HB.out.trans (hb1.mono HB.out.size))
 have HDL := Lib.hid (show ∀ k, k < w0.heap.size → D1 k from fun k hk => HDD.out k (HD.out k hk))
 clear hb1 hD1 h
 go_enter Tryz.func115, Tryz.ntmps115
 as_aux_lemma =>
  have c0 := box_cell X1.out 0 rfl
  have HRUN := Lib.hid (num_wr g D1 c xs (u.1) 1099511627776 (by decide) HOK.out.1 (by have HZ_ := HZ.out; have L1_ := L1.out; have L2_ := L2.out; have L3_ := L3.out; omega) w1 HW1.out)
  go_wp2_with fail
  refine HRUN.out.mono ?_
  rintro e w2 ⟨rfl, h_, k_⟩
  have HW2 := Lib.hid (show Wr w2 g D1 c (addB c xs (bigC.put u.1)) from h_)
  have K2 := Lib.hid (K1.out.trans k_)
  have C2 := Lib.hid (C1.out.trans (k_.below HDL.out))
  have X2 := Lib.hid ((k_.block w.heap.size HDX.out).trans X1.out)
  clear h_ k_ HRUN HW1 K1 C1 X1 hw1 c0
  as_aux_lemma =>
   have c1 := box_cell X2.out 1 rfl
   have HRUN := Lib.hid (num_wr g D1 c (addB c xs (bigC.put u.1)) (u.2.1) 1099511627776 (by decide) HOK.out.2.1 (by have HZ_ := HZ.out; have L1_ := L1.out; have L2_ := L2.out; have L3_ := L3.out; have hz_ := addB_len c xs (bigC.put u.1); (try simp only [List.length_append] at hz_); omega) w2 HW2.out)
   go_wp2_with fail
   refine HRUN.out.mono ?_
   rintro e w3 ⟨rfl, h_, k_⟩
   rw [addB_two] at h_
   have HW3 := Lib.hid (show Wr w3 g D1 c (addB c xs (bigC.put u.1 ++ bigC.put u.2.1)) from h_)
   have K3 := Lib.hid (K2.out.trans k_)
   have C3 := Lib.hid (C2.out.trans (k_.below HDL.out))
   have X3 := Lib.hid ((k_.block w.heap.size HDX.out).trans X2.out)
   clear h_ k_ HRUN HW2 K2 C2 X2 c1
   as_aux_lemma =>
    have c2 := box_cell X3.out 2 rfl
    have HRUN := Lib.hid (num_wr g D1 c (addB c xs (bigC.put u.1 ++ bigC.put u.2.1)) (u.2.2) 1099511627776 (by decide) HOK.out.2.2 (by have HZ_ := HZ.out; have L1_ := L1.out; have L2_ := L2.out; have L3_ := L3.out; have hz_ := addB_len c xs (bigC.put u.1 ++ bigC.put u.2.1); (try simp only [List.length_append] at hz_); omega) w3 HW3.out)
    go_wp2_with fail
    refine HRUN.out.mono ?_
    rintro e w4 ⟨rfl, h_, k_⟩
    rw [addB_two] at h_
    have HW4 := Lib.hid (show Wr w4 g D1 c (addB c xs (bigC.put u.1 ++ bigC.put u.2.1 ++ bigC.put u.2.2)) from h_)
    have K4 := Lib.hid (K3.out.trans k_)
    have C4 := Lib.hid (C3.out.trans (k_.below HDL.out))
    have X4 := Lib.hid ((k_.block w.heap.size HDX.out).trans X3.out)
    clear h_ k_ HRUN HW3 K3 C3 X3 c2
    as_aux_lemma =>
     go_wp2
     go_end0
     refine ⟨rfl, ?_, HK0.out.trans (K4.out.mono HDD.out)⟩
     have hE : bigC.put u.1 ++ bigC.put u.2.1 ++ bigC.put u.2.2 = resC.put u := by
      skip
      first | rfl | (simp only [List.append_assoc]; done) | (simp only [List.append_assoc]; rfl)
     have hW_ := HW4.out
     rw [hE] at hW_
     exact hW_.less HDD.out

set_option maxRecDepth 100000 in
set_option maxHeartbeats 4000000 in
theorem pod_wr (g : Nat) (D : Nat → Prop) (c : Int) (xs : List UInt8) (p : Pd) (LA : Option Addr) (lc : Nat) (IA : Option Addr) (ic : Nat) (MA : Option Addr) (mc : Nat) (RA : Option Addr) (rc : Nat) (hok : podC.ok p) (hLt : LightP p) (hck : (checkV p.spec).1 = 0) (hz : xs.length + 200000000 ≤ 140737488355328) (w0 w : World) (hb : Below w0.heap.size w0 w) (hD : ∀ k, k < w0.heap.size → D k) (hP : p.In w0 LA lc IA ic MA mc RA) (hL : SLaid w0) (h : Wr w g D c xs) :
 Calls Tryz.prog 114 #[.pointer (some ⟨g, 0, none⟩), .agg #[.int .i64 p.uid, .int .u64 p.rev, .string p.spec.name, .slice LA p.spec.labels.length lc, .slice IA p.spec.init.length ic, .slice MA p.spec.main.length mc, .int .i64 p.spec.restart, .int .i64 p.spec.grace, .int .i64 p.spec.prio, .int .i64 p.phase, .slice RA p.rs.length rc, .int .i64 p.mark, .int .i64 p.grace]] w fun e w' => e = .returned (.tuple #[]) ∧ Wr w' g D c (addB c xs (podC.put p)) ∧ Kept D w w' := by
 have HOK := Lib.hid (pod_parts hok)
 have HLT := Lib.hid hLt
 have HL := Lib.hid hL
 have HP := Lib.hid hP
 have HZ := Lib.hid hz
 have HB := Lib.hid hb
 have HD := Lib.hid hD
 have HCK := Lib.hid hck
 have L1 := Lib.hid (show (uidC.put p.uid).length ≤ 10 from int_put_len (pod_parts hok).uid)
 have L2 := Lib.hid (leb_le_ten (n := p.rev) hP.rev)
 have L3 := Lib.hid (spec_put_len (pod_parts hok).spec)
 have L4 := Lib.hid (show (phaseC.put p.phase).length ≤ 10 from int_put_len (pod_parts hok).phase)
 have L6 := Lib.hid (show (markC.put p.mark).length ≤ 10 from int_put_len (pod_parts hok).mark)
 have L7 := Lib.hid (show (graceC.put p.grace).length ≤ 10 from int_put_len (pod_parts hok).grace)
 have hn' : (p.rs.length : Int) ≤ 20 := by have := hLt.rs; omega
 clear hok hz hb hD hLt hL hP hck
 obtain ⟨w1, hw1⟩ : ∃ v, w.alloc (.cells #[.int .i64 p.uid, .int .u64 p.rev, .string p.spec.name, .slice LA p.spec.labels.length lc, .slice IA p.spec.init.length ic, .slice MA p.spec.main.length mc, .int .i64 p.spec.restart, .int .i64 p.spec.grace, .int .i64 p.spec.prio, .int .i64 p.phase, .slice RA p.rs.length rc, .int .i64 p.mark, .int .i64 p.grace] 42) = v := ⟨_, rfl⟩
 have hb1 : Below w.heap.size w w1 := by rw [← hw1]; exact (Below.refl _ _).alloc (Nat.le_refl _) _
 have X1 := Lib.hid (show w1.heap[w.heap.size]? = some (.cells #[.int .i64 p.uid, .int .u64 p.rev, .string p.spec.name, .slice LA p.spec.labels.length lc, .slice IA p.spec.init.length ic, .slice MA p.spec.main.length mc, .int .i64 p.spec.restart, .int .i64 p.spec.grace, .int .i64 p.spec.prio, .int .i64 p.phase, .slice RA p.rs.length rc, .int .i64 p.mark, .int .i64 p.grace] 42) by rw [← hw1]; exact heap_alloc_new w _)
 obtain ⟨D1, hD1⟩ : ∃ D1 : Nat → Prop, D1 = fun k => D k ∨ k = w.heap.size := ⟨_, rfl⟩
 have HD1 := Lib.hid hD1
 have HDX := Lib.hid (show D1 w.heap.size by rw [hD1]; exact .inr rfl)
 have HDD := Lib.hid (show ∀ k, D k → D1 k from fun k hk => by rw [hD1]; exact .inl hk)
 have HW1 := Lib.hid (show Wr w1 g D1 c xs by rw [hD1, ← hw1]; exact h.alloc _)
 have HK0 := Lib.hid (show Kept D w w1 from Kept.of_below hb1 (fun k hk => (h.1 k hk).1))
 have K1 := Lib.hid (Kept.refl D1 w1)
 have C1 := Lib.hid (HB.out.trans (hb1.mono HB.out.size))
 have HDL := Lib.hid (show ∀ k, k < w0.heap.size → D1 k from fun k hk => HDD.out k (HD.out k hk))
 clear hb1 hD1 h
 go_enter Tryz.func114, Tryz.ntmps114
 as_aux_lemma =>
  have c0 := box_cell X1.out 0 rfl
  have HRUN := Lib.hid (num_wr g D1 c xs (p.uid) 1073741824 (by decide) HOK.out.uid (by have HZ_ := HZ.out; have L1_ := L1.out; have L2_ := L2.out; have L3_ := L3.out; have L4_ := L4.out; have L6_ := L6.out; have L7_ := L7.out; omega) w1 HW1.out)
  go_wp2_with fail
  refine HRUN.out.mono ?_
  rintro e w2 ⟨rfl, h_, k_⟩
  have HW2 := Lib.hid (show Wr w2 g D1 c (addB c xs (uidC.put p.uid)) from h_)
  have K2 := Lib.hid (K1.out.trans k_)
  have C2 := Lib.hid (C1.out.trans (k_.below HDL.out))
  have X2 := Lib.hid ((k_.block w.heap.size HDX.out).trans X1.out)
  clear h_ k_ HRUN HW1 K1 C1 X1 hw1 c0
  as_aux_lemma =>
   have c1 := box_cell X2.out 1 rfl
   have HRUN := Lib.hid (big_any g D1 c (addB c xs (uidC.put p.uid)) p.rev HP.out.rev (fun _ => (by have HZ_ := HZ.out; have L1_ := L1.out; have L2_ := L2.out; have L3_ := L3.out; have L4_ := L4.out; have L6_ := L6.out; have L7_ := L7.out; have hz_ := addB_len c xs (uidC.put p.uid); (try simp only [List.length_append] at hz_); omega)) w2 HW2.out)
   go_wp2_with fail
   refine HRUN.out.mono ?_
   rintro e w3 ⟨rfl, h_, k_⟩
   rw [addB_two] at h_
   have HW3 := Lib.hid (show Wr w3 g D1 c (addB c xs (uidC.put p.uid ++ leb p.rev)) from h_)
   have K3 := Lib.hid (K2.out.trans k_)
   have C3 := Lib.hid (C2.out.trans (k_.below HDL.out))
   have X3 := Lib.hid ((k_.block w.heap.size HDX.out).trans X2.out)
   clear h_ k_ HRUN HW2 K2 C2 X2 c1
   as_aux_lemma =>
    have RG := Lib.hid (range_at X3.out 2 [.string p.spec.name, .slice LA p.spec.labels.length lc, .slice IA p.spec.init.length ic, .slice MA p.spec.main.length mc, .int .i64 p.spec.restart, .int .i64 p.spec.grace, .int .i64 p.spec.prio] rfl)
    have HRUN := Lib.hid (put_wr g D1 c (addB c xs (uidC.put p.uid ++ leb p.rev)) p.spec LA lc IA ic MA mc HLT.out.spec (by have HZ_ := HZ.out; have L1_ := L1.out; have L2_ := L2.out; have L3_ := L3.out; have L4_ := L4.out; have L6_ := L6.out; have L7_ := L7.out; have hz_ := addB_len c xs (uidC.put p.uid ++ leb p.rev); (try simp only [List.length_append] at hz_); omega) w0 w3 C3.out HDL.out HP.out.spec (HL.out.below C3.out) HW3.out)
    go_wp2_with (refine wpList_load_mid rfl _ _ rfl _ _ rfl _ _ RG.out Tryz.underlying28 rfl (by kernel_rfl) ?_)
    refine HRUN.out.mono ?_
    rintro e w4 ⟨rfl, k_, hcs⟩
    rcases hcs with ⟨_, h_⟩ | ⟨hno, _⟩
    rotate_left
    · exact absurd HCK.out hno
    rw [addB_two] at h_
    have HW4 := Lib.hid (show Wr w4 g D1 c (addB c xs (uidC.put p.uid ++ leb p.rev ++ specC.put p.spec)) from h_)
    have K4 := Lib.hid (K3.out.trans k_)
    have C4 := Lib.hid (C3.out.trans (k_.below HDL.out))
    have X4 := Lib.hid ((k_.block w.heap.size HDX.out).trans X3.out)
    clear h_ k_ HRUN RG HW3 K3 C3 X3 
    as_aux_lemma =>
     have c9 := box_cell X4.out 9 rfl
     have HRUN := Lib.hid (num_wr g D1 c (addB c xs (uidC.put p.uid ++ leb p.rev ++ specC.put p.spec)) (p.phase) 4 (by decide) HOK.out.phase (by have HZ_ := HZ.out; have L1_ := L1.out; have L2_ := L2.out; have L3_ := L3.out; have L4_ := L4.out; have L6_ := L6.out; have L7_ := L7.out; have hz_ := addB_len c xs (uidC.put p.uid ++ leb p.rev ++ specC.put p.spec); (try simp only [List.length_append] at hz_); omega) w4 HW4.out)
     go_wp2_with fail
     refine HRUN.out.mono ?_
     rintro e w5 ⟨rfl, h_, k_⟩
     rw [addB_two] at h_
     have HW5 := Lib.hid (show Wr w5 g D1 c (addB c xs (uidC.put p.uid ++ leb p.rev ++ specC.put p.spec ++ phaseC.put p.phase)) from h_)
     have K5 := Lib.hid (K4.out.trans k_)
     have C5 := Lib.hid (C4.out.trans (k_.below HDL.out))
     have X5 := Lib.hid ((k_.block w.heap.size HDX.out).trans X4.out)
     clear h_ k_ HRUN HW4 K4 C4 X4 c9
     as_aux_lemma =>
      have c10 := box_cell X5.out 10 rfl
      go_wp2_with fail
      have HW0 := Lib.hid (show Wr w5 g D1 c (addB c xs (uidC.put p.uid ++ leb p.rev ++ specC.put p.spec ++ phaseC.put p.phase ++ (p.rs.take 0).flatMap uidC.put)) by have h_ := HW5.out; simpa using h_)
      go_loopw [25] (fun i wr => ∃ j : Nat, j ≤ p.rs.length ∧ i = .int .i64 j ∧ Hid (Wr wr g D1 c (addB c xs (uidC.put p.uid ++ leb p.rev ++ specC.put p.spec ++ phaseC.put p.phase ++ (p.rs.take j).flatMap uidC.put))) ∧ Hid (Kept D1 w5 wr)) (fun i _ => p.rs.length - (RowKit.intOf i).toNat)
      case atStart => exact ⟨0, Nat.zero_le _, rfl, HW0.out, Kept.refl D1 _⟩
      case round =>
       obtain ⟨j, hj, rfl, HW, HK⟩ := hrel
       have CW := Lib.hid (show Below w0.heap.size w0 wr from C5.out.trans (HK.out.below HDL.out))
       have XW := Lib.hid ((HK.out.block w.heap.size HDX.out).trans X5.out)
       clear HW0 c10
       by_cases hlt : j < p.rs.length
       · have hlt' : (j : Int) < (p.rs.length : Int) := by omega
         obtain ⟨_, a, hRA, ha, hc⟩ := (Sd.Nums.below HP.out.rs CW.out) j _ (List.getElem?_eq_getElem hlt)
         have HRA := Lib.hid hRA
         have HOX := Lib.hid (HOK.out.rs _ (List.getElem_mem hlt))
         have HNX := Lib.hid (show (p.rs.take (j + 1)).flatMap uidC.put = (p.rs.take j).flatMap uidC.put ++ uidC.put p.rs[j] by
          rw [List.take_succ_eq_append_getElem hlt, List.flatMap_append]; simp)
         have HPL := Lib.hid (show ((p.rs.take j).flatMap uidC.put).length ≤ 20 * 10 from Nat.le_trans (flat_put_len uidC.put 10 (p.rs.take j) (fun y hy => int_put_len (HOK.out.rs y (List.mem_of_mem_take hy)))) (Nat.mul_le_mul_right _ (by rw [List.length_take]; have := HLT.out.rs; omega)))
         obtain ⟨x, hx⟩ : ∃ x, p.rs[j] = x := ⟨_, rfl⟩
         rw [hx] at hc HNX HOX
         clear hx ha hRA
         have HRUN := Lib.hid (num_wr g D1 c (addB c xs (uidC.put p.uid ++ leb p.rev ++ specC.put p.spec ++ phaseC.put p.phase ++ (p.rs.take j).flatMap uidC.put)) x 1073741824 (by decide) HOX.out (by have HZ_ := HZ.out; have L1_ := L1.out; have L2_ := L2.out; have L3_ := L3.out; have L4_ := L4.out; have L6_ := L6.out; have L7_ := L7.out; have hp_ := HPL.out; have hz_ := addB_len c xs (uidC.put p.uid ++ leb p.rev ++ specC.put p.spec ++ phaseC.put p.phase ++ (p.rs.take j).flatMap uidC.put); (try simp only [List.length_append] at hz_); omega) wr HW.out)
         rw [HRA.out]
         go_wp2_with fail
         refine HRUN.out.mono ?_
         rintro e wz ⟨rfl, h5, k5⟩
         have h5 : Wr wz g D1 c (addB c (addB c xs (uidC.put p.uid ++ leb p.rev ++ specC.put p.spec ++ phaseC.put p.phase ++ (p.rs.take j).flatMap uidC.put)) (uidC.put x)) := h5
         rw [addB_two, List.append_assoc, ← HNX.out] at h5
         have HWz := Lib.hid h5
         have HKz := Lib.hid (HK.out.trans k5)
         clear h5 k5 HRUN hc
         go_wp2
         go_roundw
         case rel => exact ⟨j + 1, by omega, by go_num, HWz.out, HKz.out⟩
         case measure => simp [RowKit.intOf]; omega
       · obtain rfl : j = p.rs.length := by omega
         have hlt' : ¬ (p.rs.length : Int) < (p.rs.length : Int) := by omega
         have hw_ := HW.out
         rw [List.take_length] at hw_
         have L5 := Lib.hid (show (p.rs.flatMap uidC.put).length ≤ 20 * 10 from Nat.le_trans (flat_put_len uidC.put 10 p.rs (fun y hy => int_put_len (HOK.out.rs y hy))) (Nat.mul_le_mul_right _ (by have := HLT.out.rs; omega)))
         obtain ⟨w6, hwr⟩ : ∃ v, v = wr := ⟨_, rfl⟩
         subst hwr
         have HW6 := Lib.hid hw_
         have K6 := Lib.hid (K5.out.trans HK.out)
         have C6 := CW
         have X6 := XW
         clear hw_ HW CW XW HK HW5 K5 C5 X5
         as_aux_lemma =>
          have c11 := box_cell X6.out 11 rfl
          have HRUN := Lib.hid (num_wr g D1 c (addB c xs (uidC.put p.uid ++ leb p.rev ++ specC.put p.spec ++ phaseC.put p.phase ++ p.rs.flatMap uidC.put)) (p.mark) 2 (by decide) HOK.out.mark (by have HZ_ := HZ.out; have L1_ := L1.out; have L2_ := L2.out; have L3_ := L3.out; have L4_ := L4.out; have L6_ := L6.out; have L7_ := L7.out; have L5_ := L5.out; have hz_ := addB_len c xs (uidC.put p.uid ++ leb p.rev ++ specC.put p.spec ++ phaseC.put p.phase ++ p.rs.flatMap uidC.put); (try simp only [List.length_append] at hz_); omega) w6 HW6.out)
          go_wp2_with fail
          refine HRUN.out.mono ?_
          rintro e w7 ⟨rfl, h_, k_⟩
          rw [addB_two] at h_
          have HW7 := Lib.hid (show Wr w7 g D1 c (addB c xs (uidC.put p.uid ++ leb p.rev ++ specC.put p.spec ++ phaseC.put p.phase ++ p.rs.flatMap uidC.put ++ markC.put p.mark)) from h_)
          have K7 := Lib.hid (K6.out.trans k_)
          have C7 := Lib.hid (C6.out.trans (k_.below HDL.out))
          have X7 := Lib.hid ((k_.block w.heap.size HDX.out).trans X6.out)
          clear h_ k_ HRUN HW6 K6 C6 X6 c11
          as_aux_lemma =>
           have c12 := box_cell X7.out 12 rfl
           have HRUN := Lib.hid (num_wr g D1 c (addB c xs (uidC.put p.uid ++ leb p.rev ++ specC.put p.spec ++ phaseC.put p.phase ++ p.rs.flatMap uidC.put ++ markC.put p.mark)) (p.grace) 1000 (by decide) HOK.out.grace (by have HZ_ := HZ.out; have L1_ := L1.out; have L2_ := L2.out; have L3_ := L3.out; have L4_ := L4.out; have L6_ := L6.out; have L7_ := L7.out; have L5_ := L5.out; have hz_ := addB_len c xs (uidC.put p.uid ++ leb p.rev ++ specC.put p.spec ++ phaseC.put p.phase ++ p.rs.flatMap uidC.put ++ markC.put p.mark); (try simp only [List.length_append] at hz_); omega) w7 HW7.out)
           go_wp2_with fail
           refine HRUN.out.mono ?_
           rintro e w8 ⟨rfl, h_, k_⟩
           rw [addB_two] at h_
           have HW8 := Lib.hid (show Wr w8 g D1 c (addB c xs (uidC.put p.uid ++ leb p.rev ++ specC.put p.spec ++ phaseC.put p.phase ++ p.rs.flatMap uidC.put ++ markC.put p.mark ++ graceC.put p.grace)) from h_)
           have K8 := Lib.hid (K7.out.trans k_)
           have C8 := Lib.hid (C7.out.trans (k_.below HDL.out))
           have X8 := Lib.hid ((k_.block w.heap.size HDX.out).trans X7.out)
           clear h_ k_ HRUN HW7 K7 C7 X7 c12
           as_aux_lemma =>
            go_wp2
            go_end0
            refine ⟨rfl, ?_, HK0.out.trans (K8.out.mono HDD.out)⟩
            have hE : uidC.put p.uid ++ leb p.rev ++ specC.put p.spec ++ phaseC.put p.phase ++ p.rs.flatMap uidC.put ++ markC.put p.mark ++ graceC.put p.grace = podC.put p := by
             rw [show podC.put p = (uidC.put p.uid ++ (leb p.rev ++ (specC.put p.spec ++ phaseC.put p.phase))) ++ (p.rs.flatMap uidC.put ++ (markC.put p.mark ++ graceC.put p.grace)) from rfl]
             first | rfl | (simp only [List.append_assoc]; done) | (simp only [List.append_assoc]; rfl)
            have hW_ := HW8.out
            rw [hE] at hW_
            exact hW_.less HDD.out

end Tl
end Go.Proofs.YtalnncgomlibbaaGreatDoor
