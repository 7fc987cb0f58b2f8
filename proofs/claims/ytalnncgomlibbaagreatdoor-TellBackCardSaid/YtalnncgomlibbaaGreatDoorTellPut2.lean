/-
 What writes replies (package tell): the writer's bytes behind. What was there, but the writer's, is left as it was. Conditions: as TellPut.
-/
import Derived.Test.YtalnncgomlibbaaGreatDoorTellPut
set_option linter.unusedVariables false
set_option linter.unusedSimpArgs false
namespace Go.Proofs.YtalnncgomlibbaaGreatDoor
open Go.ChangeShapes Go.WideShapes Go.ChangeAt Go.RowKit Go.Lib
open LebMath WirePure Sd Wire SpecOwn SpecRef Book Pk
namespace Tl
structure ReplyParts (y : Rp) : Prop where
 code : codeC.ok y.code
 uid : uidC.ok y.uid
 id : uidC.ok y.id
 rev : revC.ok y.rev
 data : y.data.size ≤ 32
 np : y.pods.length ≤ 16
 pods : ∀ p ∈ y.pods, podC.ok p
 nu : y.use.length ≤ 4
 use : ∀ u ∈ y.use, resC.ok u
theorem reply_parts {y : Rp} (h : replyC.ok y) : ReplyParts y := ⟨h.1.1, h.1.2.1, h.1.2.2.1, h.1.2.2.2.1, h.1.2.2.2.2.1, h.1.2.2.2.2.2.1.1, h.1.2.2.2.2.2.1.2, h.1.2.2.2.2.2.2.1, h.1.2.2.2.2.2.2.2⟩
set_option maxRecDepth 100000 in
set_option maxHeartbeats 4000000 in
theorem reply_wr (g : Nat) (D : Nat → Prop) (c : Int) (xs : List UInt8) (y : Rp) (PA : Option Addr) (pc : Nat) (UA : Option Addr) (uc : Nat) (hok : replyC.ok y) (hpo : ∀ p ∈ y.pods, podC.ok p ∧ (checkV p.spec).1 = 0) (hLt : LightR y) (hz : xs.length + 2000000000 ≤ 140737488355328) (w0 w : World) (hb : Below w0.heap.size w0 w) (hD : ∀ k, k < w0.heap.size → D k) (hP : y.In w0 PA UA) (hL : SLaid w0) (h : Wr w g D c xs) :
 Calls Tryz.prog 62 #[.pointer (some ⟨g, 0, none⟩), .agg #[.int .i64 y.code, .int .i64 y.uid, .int .i64 y.id, .int .u64 y.rev, .string y.data, .slice PA y.pods.length pc, .slice UA y.use.length uc]] w fun e w' => e = .returned (.tuple #[]) ∧ Wr w' g D c (addB c xs (replyC.put y)) ∧ Kept D w w' := by
 have HOK := Lib.hid hok
 have HLT := Lib.hid hLt
 have HL := Lib.hid hL
 have HP := Lib.hid hP
 have HZ := Lib.hid hz
 have HB := Lib.hid hb
 have HD := Lib.hid hD
 have HPO := Lib.hid hpo
 have HR := Lib.hid (reply_parts hok)
 have L1 := Lib.hid (show (codeC.put y.code).length ≤ 10 from int_put_len (reply_parts hok).code)
 have L2 := Lib.hid (show (uidC.put y.uid).length ≤ 10 from int_put_len (reply_parts hok).uid)
 have L3 := Lib.hid (show (uidC.put y.id).length ≤ 10 from int_put_len (reply_parts hok).id)
 have L4 := Lib.hid (leb_le_ten (n := y.rev) hP.rev)
 have L5 := Lib.hid (show (dataC.put y.data).length ≤ 10 + 32 from txB_le (reply_parts hok).data)
 have L6 := Lib.hid (leb_le_ten (n := y.pods.length) (by have := hLt.np; omega))
 have L7 := Lib.hid (leb_le_ten (n := y.use.length) (by have := hLt.nu; omega))
 have hnp' : (y.pods.length : Int) ≤ 20 := by have := hLt.np; omega
 have hnu' : (y.use.length : Int) ≤ 20 := by have := hLt.nu; omega
 clear hok hz hb hD hLt hL hP hpo
 obtain ⟨w1, hw1⟩ : ∃ v, w.alloc (.cells #[.int .i64 y.code, .int .i64 y.uid, .int .i64 y.id, .int .u64 y.rev, .string y.data, .slice PA y.pods.length pc, .slice UA y.use.length uc] 46) = v := ⟨_, rfl⟩
 have hb1 : Below w.heap.size w w1 := by rw [← hw1]; exact (Below.refl _ _).alloc (Nat.le_refl _) _
 have X1 := Lib.hid (show w1.heap[w.heap.size]? = some (.cells #[.int .i64 y.code, .int .i64 y.uid, .int .i64 y.id, .int .u64 y.rev, .string y.data, .slice PA y.pods.length pc, .slice UA y.use.length uc] 46) by rw [← hw1]; exact heap_alloc_new w _)
 obtain ⟨D1, hD1⟩ : ∃ D1 : Nat → Prop, D1 = fun k => D k ∨ k = w.heap.size := ⟨_, rfl⟩
 have HD1 := Lib.hid hD1
 have HDX := Lib.hid (show D1 w.heap.size by rw [hD1]; exact .inr rfl)
 have HDD := Lib.hid (show ∀ k, D k → D1 k from fun k hk => by rw [hD1]; exact .inl hk)
 have HW1 := Lib.hid (show Wr w1 g D1 c xs by rw [hD1, ← hw1]; exact h.alloc _)
 have HK0 := Lib.hid (show Kept D w w1 from Kept.of_below hb1 (fun k hk => (h.1 k hk).1))
 have K1 := Lib.hid (Kept.refl D1 w1)
 have C1 := Lib.hid (HB.out.trans (hb1.mono HB.out.size))
 have HDL := Lib.hid (show ∀ k, k < w0.heap.size → D1 k from fun k hk => HDD.out k (HD.out k hk))
 clear hb1 hD1 h
 go_enter Tryz.func62, Tryz.ntmps62
 as_aux_lemma =>
  have c0 := box_cell X1.out 0 rfl
  have HRUN := Lib.hid (num_wr g D1 c xs (y.code) 999 (by decide) HR.out.code (by have HZ_ := HZ.out; have L1_ := L1.out; have L2_ := L2.out; have L3_ := L3.out; have L4_ := L4.out; have L5_ := L5.out; have L6_ := L6.out; have L7_ := L7.out; omega) w1 HW1.out)
  go_wp2_with fail
  refine HRUN.out.mono ?_
  rintro e w2 ⟨rfl, h_, k_⟩
  have HW2 := Lib.hid (show Wr w2 g D1 c (addB c xs (codeC.put y.code)) from h_)
  have K2 := Lib.hid (K1.out.trans k_)
  have C2 := Lib.hid (C1.out.trans (k_.below HDL.out))
  have X2 := Lib.hid ((k_.block w.heap.size HDX.out).trans X1.out)
  clear h_ k_ HRUN HW1 K1 C1 X1 hw1 c0
  as_aux_lemma =>
   have c1 := box_cell X2.out 1 rfl
   have HRUN := Lib.hid (num_wr g D1 c (addB c xs (codeC.put y.code)) (y.uid) 1073741824 (by decide) HR.out.uid (by have HZ_ := HZ.out; have L1_ := L1.out; have L2_ := L2.out; have L3_ := L3.out; have L4_ := L4.out; have L5_ := L5.out; have L6_ := L6.out; have L7_ := L7.out; have hz_ := addB_len c xs (codeC.put y.code); (try simp only [List.length_append] at hz_); omega) w2 HW2.out)
   go_wp2_with fail
   refine HRUN.out.mono ?_
   rintro e w3 ⟨rfl, h_, k_⟩
   rw [addB_two] at h_
   have HW3 := Lib.hid (show Wr w3 g D1 c (addB c xs (codeC.put y.code ++ uidC.put y.uid)) from h_)
   have K3 := Lib.hid (K2.out.trans k_)
   have C3 := Lib.hid (C2.out.trans (k_.below HDL.out))
   have X3 := Lib.hid ((k_.block w.heap.size HDX.out).trans X2.out)
   clear h_ k_ HRUN HW2 K2 C2 X2 c1
   as_aux_lemma =>
    have c2 := box_cell X3.out 2 rfl
    have HRUN := Lib.hid (num_wr g D1 c (addB c xs (codeC.put y.code ++ uidC.put y.uid)) (y.id) 1073741824 (by decide) HR.out.id (by have HZ_ := HZ.out; have L1_ := L1.out; have L2_ := L2.out; have L3_ := L3.out; have L4_ := L4.out; have L5_ := L5.out; have L6_ := L6.out; have L7_ := L7.out; have hz_ := addB_len c xs (codeC.put y.code ++ uidC.put y.uid); (try simp only [List.length_append] at hz_); omega) w3 HW3.out)
    go_wp2_with fail
    refine HRUN.out.mono ?_
    rintro e w4 ⟨rfl, h_, k_⟩
    rw [addB_two] at h_
    have HW4 := Lib.hid (show Wr w4 g D1 c (addB c xs (codeC.put y.code ++ uidC.put y.uid ++ uidC.put y.id)) from h_)
    have K4 := Lib.hid (K3.out.trans k_)
    have C4 := Lib.hid (C3.out.trans (k_.below HDL.out))
    have X4 := Lib.hid ((k_.block w.heap.size HDX.out).trans X3.out)
    clear h_ k_ HRUN HW3 K3 C3 X3 c2
    as_aux_lemma =>
     have c3 := box_cell X4.out 3 rfl
     have HRUN := Lib.hid (big_any g D1 c (addB c xs (codeC.put y.code ++ uidC.put y.uid ++ uidC.put y.id)) y.rev HP.out.rev (fun _ => (by have HZ_ := HZ.out; have L1_ := L1.out; have L2_ := L2.out; have L3_ := L3.out; have L4_ := L4.out; have L5_ := L5.out; have L6_ := L6.out; have L7_ := L7.out; have hz_ := addB_len c xs (codeC.put y.code ++ uidC.put y.uid ++ uidC.put y.id); (try simp only [List.length_append] at hz_); omega)) w4 HW4.out)
     go_wp2_with fail
     refine HRUN.out.mono ?_
     rintro e w5 ⟨rfl, h_, k_⟩
     rw [addB_two] at h_
     have HW5 := Lib.hid (show Wr w5 g D1 c (addB c xs (codeC.put y.code ++ uidC.put y.uid ++ uidC.put y.id ++ leb y.rev)) from h_)
     have K5 := Lib.hid (K4.out.trans k_)
     have C5 := Lib.hid (C4.out.trans (k_.below HDL.out))
     have X5 := Lib.hid ((k_.block w.heap.size HDX.out).trans X4.out)
     clear h_ k_ HRUN HW4 K4 C4 X4 c3
     as_aux_lemma =>
      have c4 := box_cell X5.out 4 rfl
      have HRUN := Lib.hid (text_any g D1 c (addB c xs (codeC.put y.code ++ uidC.put y.uid ++ uidC.put y.id ++ leb y.rev)) y.data (by have h_ := HR.out.data; have q_ : (addB c xs (codeC.put y.code ++ uidC.put y.uid ++ uidC.put y.id ++ leb y.rev)).length + 1000 ≤ 140737488355328 := (by have HZ_ := HZ.out; have L1_ := L1.out; have L2_ := L2.out; have L3_ := L3.out; have L4_ := L4.out; have L5_ := L5.out; have L6_ := L6.out; have L7_ := L7.out; have hz_ := addB_len c xs (codeC.put y.code ++ uidC.put y.uid ++ uidC.put y.id ++ leb y.rev); (try simp only [List.length_append] at hz_); omega); omega) w5 HW5.out)
      go_wp2_with fail
      refine HRUN.out.mono ?_
      rintro e w6 ⟨rfl, h_, k_⟩
      rw [addB_two] at h_
      have HW6 := Lib.hid (show Wr w6 g D1 c (addB c xs (codeC.put y.code ++ uidC.put y.uid ++ uidC.put y.id ++ leb y.rev ++ dataC.put y.data)) from h_)
      have K6 := Lib.hid (K5.out.trans k_)
      have C6 := Lib.hid (C5.out.trans (k_.below HDL.out))
      have X6 := Lib.hid ((k_.block w.heap.size HDX.out).trans X5.out)
      clear h_ k_ HRUN HW5 K5 C5 X5 c4
      as_aux_lemma =>
       have c5 := box_cell X6.out 5 rfl
       have HRUN := Lib.hid (num_nat g D1 c (addB c xs (codeC.put y.code ++ uidC.put y.uid ++ uidC.put y.id ++ leb y.rev ++ dataC.put y.data)) y.pods.length (by unfold maxLen; have := HLT.out.np; omega) (fun _ => (by have HZ_ := HZ.out; have L1_ := L1.out; have L2_ := L2.out; have L3_ := L3.out; have L4_ := L4.out; have L5_ := L5.out; have L6_ := L6.out; have L7_ := L7.out; have hz_ := addB_len c xs (codeC.put y.code ++ uidC.put y.uid ++ uidC.put y.id ++ leb y.rev ++ dataC.put y.data); (try simp only [List.length_append] at hz_); omega)) w6 HW6.out)
       go_wp2_with fail
       refine HRUN.out.mono ?_
       rintro e w7 ⟨rfl, h_, k_⟩
       rw [addB_two] at h_
       have HW7 := Lib.hid (show Wr w7 g D1 c (addB c xs (codeC.put y.code ++ uidC.put y.uid ++ uidC.put y.id ++ leb y.rev ++ dataC.put y.data ++ leb y.pods.length)) from h_)
       have K7 := Lib.hid (K6.out.trans k_)
       have C7 := Lib.hid (C6.out.trans (k_.below HDL.out))
       have X7 := Lib.hid ((k_.block w.heap.size HDX.out).trans X6.out)
       clear h_ k_ HRUN HW6 K6 C6 X6 c5
       as_aux_lemma =>
        have c5 := box_cell X7.out 5 rfl
        go_wp2_with fail
        have HW0 := Lib.hid (show Wr w7 g D1 c (addB c xs (codeC.put y.code ++ uidC.put y.uid ++ uidC.put y.id ++ leb y.rev ++ dataC.put y.data ++ leb y.pods.length ++ (y.pods.take 0).flatMap podC.put)) by have h_ := HW7.out; simpa using h_)
        go_loopw [36] (fun i wr => ∃ j : Nat, j ≤ y.pods.length ∧ i = .int .i64 j ∧ Hid (Wr wr g D1 c (addB c xs (codeC.put y.code ++ uidC.put y.uid ++ uidC.put y.id ++ leb y.rev ++ dataC.put y.data ++ leb y.pods.length ++ (y.pods.take j).flatMap podC.put))) ∧ Hid (Kept D1 w7 wr)) (fun i _ => y.pods.length - (RowKit.intOf i).toNat)
        case atStart => exact ⟨0, Nat.zero_le _, rfl, HW0.out, Kept.refl D1 _⟩
        case round =>
         obtain ⟨j, hj, rfl, HW, HK⟩ := hrel
         have CW := Lib.hid (show Below w0.heap.size w0 wr from C7.out.trans (HK.out.below HDL.out))
         have XW := Lib.hid ((HK.out.block w.heap.size HDX.out).trans X7.out)
         clear HW0 c5
         by_cases hlt : j < y.pods.length
         · have hlt' : (j : Int) < (y.pods.length : Int) := by omega
           have hmem := List.getElem_mem hlt
           obtain ⟨a, LA, lc, IA, ic, MA, mc, RA, rc, hRA, ha, hcIN⟩ := (HP.out.pods).at hlt
           have HAB := Lib.hid ha
           have HRA := Lib.hid hRA
           have HIN := Lib.hid hcIN
           have HNX := Lib.hid (show (y.pods.take (j + 1)).flatMap podC.put = (y.pods.take j).flatMap podC.put ++ podC.put y.pods[j] by
            rw [List.take_succ_eq_append_getElem hlt, List.flatMap_append]; simp)
           have HPL := Lib.hid (show ((y.pods.take j).flatMap podC.put).length ≤ 20 * 3100000 from Nat.le_trans (flat_put_len podC.put 3100000 (y.pods.take j) (fun y hy => (fun y_ hy_ => pod_put_len (HPO.out y_ hy_).1 (HLT.out.pods y_ hy_).rs) y (List.mem_of_mem_take hy))) (Nat.mul_le_mul_right _ (by rw [List.length_take]; have h_ := HLT.out.np; omega)))
           obtain ⟨x, hx⟩ : ∃ x, y.pods[j] = x := ⟨_, rfl⟩
           rw [hx] at HIN HNX hmem
           have HMEM := Lib.hid hmem
           clear hx ha hRA hcIN hmem
           as_aux_lemma =>
            have CA := Lib.hid (show ∀ j_ v_, ([.int .i64 x.uid, .int .u64 x.rev, .string x.spec.name, .slice LA x.spec.labels.length lc, .slice IA x.spec.init.length ic, .slice MA x.spec.main.length mc, .int .i64 x.spec.restart, .int .i64 x.spec.grace, .int .i64 x.spec.prio, .int .i64 x.phase, .slice RA x.rs.length rc, .int .i64 x.mark, .int .i64 x.grace] : List Value)[j_]? = some v_ → wr.cell? ((a.add (j * 13)).add j_) = some v_ from CellsAt.all ((HIN.out.1).keep (by rw [Lists.add_block]; exact CW.out.block _ HAB.out)))
            obtain ⟨wy, hwy⟩ : ∃ v, wr.alloc (.cells #[.int .i64 x.uid, .int .u64 x.rev, .string x.spec.name, .slice LA x.spec.labels.length lc, .slice IA x.spec.init.length ic, .slice MA x.spec.main.length mc, .int .i64 x.spec.restart, .int .i64 x.spec.grace, .int .i64 x.spec.prio, .int .i64 x.phase, .slice RA x.rs.length rc, .int .i64 x.mark, .int .i64 x.grace] 42) = v := ⟨_, rfl⟩
            have hb3 : Below wr.heap.size wr wy := by rw [← hwy]; exact (Below.refl _ _).alloc (Nat.le_refl _) _
            have Z3 := Lib.hid (show wy.heap[wr.heap.size]? = some (.cells #[.int .i64 x.uid, .int .u64 x.rev, .string x.spec.name, .slice LA x.spec.labels.length lc, .slice IA x.spec.init.length ic, .slice MA x.spec.main.length mc, .int .i64 x.spec.restart, .int .i64 x.spec.grace, .int .i64 x.spec.prio, .int .i64 x.phase, .slice RA x.rs.length rc, .int .i64 x.mark, .int .i64 x.grace] 42) by rw [← hwy]; exact heap_alloc_new wr _)
            have RG := Lib.hid (range_at Z3.out 0 [.int .i64 x.uid, .int .u64 x.rev, .string x.spec.name, .slice LA x.spec.labels.length lc, .slice IA x.spec.init.length ic, .slice MA x.spec.main.length mc, .int .i64 x.spec.restart, .int .i64 x.spec.grace, .int .i64 x.spec.prio, .int .i64 x.phase, .slice RA x.rs.length rc, .int .i64 x.mark, .int .i64 x.grace] rfl)
            have HWy := Lib.hid (show Wr wy g D1 c (addB c xs (codeC.put y.code ++ uidC.put y.uid ++ uidC.put y.id ++ leb y.rev ++ dataC.put y.data ++ leb y.pods.length ++ (y.pods.take j).flatMap podC.put)) by rw [← hwy]; exact (HW.out.alloc _).less (fun k hk => .inl hk))
            have HKy := Lib.hid (show Kept D1 w7 wy from HK.out.trans (Kept.of_below hb3 (fun k hk => (HW.out.1 k hk).1)))
            have Cy := Lib.hid (show Below w0.heap.size w0 wy from CW.out.trans (hb3.mono CW.out.size))
            clear hb3
            have HRUN := Lib.hid (pod_wr g D1 c (addB c xs (codeC.put y.code ++ uidC.put y.uid ++ uidC.put y.id ++ leb y.rev ++ dataC.put y.data ++ leb y.pods.length ++ (y.pods.take j).flatMap podC.put)) x LA lc IA ic MA mc RA rc (HPO.out x HMEM.out).1 (HLT.out.pods x HMEM.out) (HPO.out x HMEM.out).2 (by have HZ_ := HZ.out; have L1_ := L1.out; have L2_ := L2.out; have L3_ := L3.out; have L4_ := L4.out; have L5_ := L5.out; have L6_ := L6.out; have L7_ := L7.out; have hp_ := HPL.out; have hz_ := addB_len c xs (codeC.put y.code ++ uidC.put y.uid ++ uidC.put y.id ++ leb y.rev ++ dataC.put y.data ++ leb y.pods.length ++ (y.pods.take j).flatMap podC.put); (try simp only [List.length_append] at hz_); omega) w0 wy Cy.out HDL.out HIN.out.2 HL.out HWy.out)
            rw [HRA.out]
            go_wp2_with (first | (refine wpList_load_addr rfl _ _ rfl _ rfl _ _ CA.out Tryz.underlying42 rfl (by kernel_rfl) ?_) | (refine wpList_load_mid rfl _ _ rfl _ _ rfl _ _ RG.out Tryz.underlying42 rfl (by kernel_rfl) ?_))
            first | rw [hwy] | skip
            refine HRUN.out.mono ?_
            rintro e wz ⟨rfl, h5, k5⟩
            have h5 : Wr wz g D1 c (addB c (addB c xs (codeC.put y.code ++ uidC.put y.uid ++ uidC.put y.id ++ leb y.rev ++ dataC.put y.data ++ leb y.pods.length ++ (y.pods.take j).flatMap podC.put)) (podC.put x)) := h5
            rw [addB_two, List.append_assoc, ← HNX.out] at h5
            have HWz := Lib.hid h5
            have HKz := Lib.hid (HKy.out.trans k5)
            clear h5 k5 HRUN hwy RG CA Z3
            go_wp2
            go_roundw
            case rel => exact ⟨j + 1, by omega, by go_num, HWz.out, HKz.out⟩
            case measure => simp [RowKit.intOf]; omega
         · obtain rfl : j = y.pods.length := by omega
           have hlt' : ¬ (y.pods.length : Int) < (y.pods.length : Int) := by omega
           have hw_ := HW.out
           rw [List.take_length] at hw_
           have LL7 := Lib.hid (show (y.pods.flatMap podC.put).length ≤ 20 * 3100000 from Nat.le_trans (flat_put_len podC.put 3100000 y.pods (fun y_ hy_ => pod_put_len (HPO.out y_ hy_).1 (HLT.out.pods y_ hy_).rs)) (Nat.mul_le_mul_right _ (by have h_ := HLT.out.np; omega)))
           obtain ⟨w8, hwr⟩ : ∃ v, v = wr := ⟨_, rfl⟩
           subst hwr
           have HW8 := Lib.hid hw_
           have K8 := Lib.hid (K7.out.trans HK.out)
           have C8 := CW
           have X8 := XW
           clear hw_ HW CW XW HK HW7 K7 C7 X7
           as_aux_lemma =>
            have c6 := box_cell X8.out 6 rfl
            have HRUN := Lib.hid (num_nat g D1 c (addB c xs (codeC.put y.code ++ uidC.put y.uid ++ uidC.put y.id ++ leb y.rev ++ dataC.put y.data ++ leb y.pods.length ++ y.pods.flatMap podC.put)) y.use.length (by unfold maxLen; have := HLT.out.nu; omega) (fun _ => (by have HZ_ := HZ.out; have L1_ := L1.out; have L2_ := L2.out; have L3_ := L3.out; have L4_ := L4.out; have L5_ := L5.out; have L6_ := L6.out; have L7_ := L7.out; have LL7_ := LL7.out; have hz_ := addB_len c xs (codeC.put y.code ++ uidC.put y.uid ++ uidC.put y.id ++ leb y.rev ++ dataC.put y.data ++ leb y.pods.length ++ y.pods.flatMap podC.put); (try simp only [List.length_append] at hz_); omega)) w8 HW8.out)
            go_wp2_with fail
            refine HRUN.out.mono ?_
            rintro e w9 ⟨rfl, h_, k_⟩
            rw [addB_two] at h_
            have HW9 := Lib.hid (show Wr w9 g D1 c (addB c xs (codeC.put y.code ++ uidC.put y.uid ++ uidC.put y.id ++ leb y.rev ++ dataC.put y.data ++ leb y.pods.length ++ y.pods.flatMap podC.put ++ leb y.use.length)) from h_)
            have K9 := Lib.hid (K8.out.trans k_)
            have C9 := Lib.hid (C8.out.trans (k_.below HDL.out))
            have X9 := Lib.hid ((k_.block w.heap.size HDX.out).trans X8.out)
            clear h_ k_ HRUN HW8 K8 C8 X8 c6
            as_aux_lemma =>
             have c6 := box_cell X9.out 6 rfl
             go_wp2_with fail
             have HW0 := Lib.hid (show Wr w9 g D1 c (addB c xs (codeC.put y.code ++ uidC.put y.uid ++ uidC.put y.id ++ leb y.rev ++ dataC.put y.data ++ leb y.pods.length ++ y.pods.flatMap podC.put ++ leb y.use.length ++ (y.use.take 0).flatMap resC.put)) by have h_ := HW9.out; simpa using h_)
             go_loopw [52] (fun i wr => ∃ j : Nat, j ≤ y.use.length ∧ i = .int .i64 j ∧ Hid (Wr wr g D1 c (addB c xs (codeC.put y.code ++ uidC.put y.uid ++ uidC.put y.id ++ leb y.rev ++ dataC.put y.data ++ leb y.pods.length ++ y.pods.flatMap podC.put ++ leb y.use.length ++ (y.use.take j).flatMap resC.put))) ∧ Hid (Kept D1 w9 wr)) (fun i _ => y.use.length - (RowKit.intOf i).toNat)
             case atStart => exact ⟨0, Nat.zero_le _, rfl, HW0.out, Kept.refl D1 _⟩
             case round =>
              obtain ⟨j, hj, rfl, HW, HK⟩ := hrel
              have CW := Lib.hid (show Below w0.heap.size w0 wr from C9.out.trans (HK.out.below HDL.out))
              have XW := Lib.hid ((HK.out.block w.heap.size HDX.out).trans X9.out)
              clear HW0 c6
              by_cases hlt : j < y.use.length
              · have hlt' : (j : Int) < (y.use.length : Int) := by omega
                have hmem := List.getElem_mem hlt
                obtain ⟨a, hRA, ha, hcIN⟩ := (HP.out.use).at hlt
                have HAB := Lib.hid ha
                have HRA := Lib.hid hRA
                have HIN := Lib.hid hcIN
                have HNX := Lib.hid (show (y.use.take (j + 1)).flatMap resC.put = (y.use.take j).flatMap resC.put ++ resC.put y.use[j] by
                 rw [List.take_succ_eq_append_getElem hlt, List.flatMap_append]; simp)
                have HPL := Lib.hid (show ((y.use.take j).flatMap resC.put).length ≤ 20 * 30 from Nat.le_trans (flat_put_len resC.put 30 (y.use.take j) (fun y hy => (fun y_ hy_ => res_put_len (HR.out.use y_ hy_)) y (List.mem_of_mem_take hy))) (Nat.mul_le_mul_right _ (by rw [List.length_take]; have h_ := HLT.out.nu; omega)))
                obtain ⟨x, hx⟩ : ∃ x, y.use[j] = x := ⟨_, rfl⟩
                rw [hx] at HIN HNX hmem
                have HMEM := Lib.hid hmem
                clear hx ha hRA hcIN hmem
                as_aux_lemma =>
                 have CA := Lib.hid (show ∀ j_ v_, ([.int .i64 x.1, .int .i64 x.2.1, .int .i64 x.2.2] : List Value)[j_]? = some v_ → wr.cell? ((a.add (j * 3)).add j_) = some v_ from CellsAt.all ((HIN.out).keep (by rw [Lists.add_block]; exact CW.out.block _ HAB.out)))
                 obtain ⟨wy, hwy⟩ : ∃ v, wr.alloc (.cells #[.int .i64 x.1, .int .i64 x.2.1, .int .i64 x.2.2] 70) = v := ⟨_, rfl⟩
                 have hb3 : Below wr.heap.size wr wy := by rw [← hwy]; exact (Below.refl _ _).alloc (Nat.le_refl _) _
                 have Z3 := Lib.hid (show wy.heap[wr.heap.size]? = some (.cells #[.int .i64 x.1, .int .i64 x.2.1, .int .i64 x.2.2] 70) by rw [← hwy]; exact heap_alloc_new wr _)
                 have RG := Lib.hid (range_at Z3.out 0 [.int .i64 x.1, .int .i64 x.2.1, .int .i64 x.2.2] rfl)
                 have HWy := Lib.hid (show Wr wy g D1 c (addB c xs (codeC.put y.code ++ uidC.put y.uid ++ uidC.put y.id ++ leb y.rev ++ dataC.put y.data ++ leb y.pods.length ++ y.pods.flatMap podC.put ++ leb y.use.length ++ (y.use.take j).flatMap resC.put)) by rw [← hwy]; exact (HW.out.alloc _).less (fun k hk => .inl hk))
                 have HKy := Lib.hid (show Kept D1 w9 wy from HK.out.trans (Kept.of_below hb3 (fun k hk => (HW.out.1 k hk).1)))
                 have Cy := Lib.hid (show Below w0.heap.size w0 wy from CW.out.trans (hb3.mono CW.out.size))
                 clear hb3
                 have HRUN := Lib.hid (use_wr g D1 c (addB c xs (codeC.put y.code ++ uidC.put y.uid ++ uidC.put y.id ++ leb y.rev ++ dataC.put y.data ++ leb y.pods.length ++ y.pods.flatMap podC.put ++ leb y.use.length ++ (y.use.take j).flatMap resC.put)) x (HR.out.use x HMEM.out) (by have HZ_ := HZ.out; have L1_ := L1.out; have L2_ := L2.out; have L3_ := L3.out; have L4_ := L4.out; have L5_ := L5.out; have L6_ := L6.out; have L7_ := L7.out; have LL7_ := LL7.out; have hp_ := HPL.out; have hz_ := addB_len c xs (codeC.put y.code ++ uidC.put y.uid ++ uidC.put y.id ++ leb y.rev ++ dataC.put y.data ++ leb y.pods.length ++ y.pods.flatMap podC.put ++ leb y.use.length ++ (y.use.take j).flatMap resC.put); (try simp only [List.length_append] at hz_); omega) w0 wy Cy.out HDL.out HWy.out)
                 rw [HRA.out]
                 go_wp2_with (first | (refine wpList_load_addr rfl _ _ rfl _ rfl _ _ CA.out Tryz.underlying70 rfl (by kernel_rfl) ?_) | (refine wpList_load_mid rfl _ _ rfl _ _ rfl _ _ RG.out Tryz.underlying70 rfl (by kernel_rfl) ?_))
                 first | rw [hwy] | skip
                 refine HRUN.out.mono ?_
                 rintro e wz ⟨rfl, h5, k5⟩
                 have h5 : Wr wz g D1 c (addB c (addB c xs (codeC.put y.code ++ uidC.put y.uid ++ uidC.put y.id ++ leb y.rev ++ dataC.put y.data ++ leb y.pods.length ++ y.pods.flatMap podC.put ++ leb y.use.length ++ (y.use.take j).flatMap resC.put)) (resC.put x)) := h5
                 rw [addB_two, List.append_assoc, ← HNX.out] at h5
                 have HWz := Lib.hid h5
                 have HKz := Lib.hid (HKy.out.trans k5)
                 clear h5 k5 HRUN hwy RG CA Z3
                 go_wp2
                 go_roundw
                 case rel => exact ⟨j + 1, by omega, by go_num, HWz.out, HKz.out⟩
                 case measure => simp [RowKit.intOf]; omega
              · obtain rfl : j = y.use.length := by omega
                have hlt' : ¬ (y.use.length : Int) < (y.use.length : Int) := by omega
                have hw_ := HW.out
                rw [List.take_length] at hw_
                have LL9 := Lib.hid (show (y.use.flatMap resC.put).length ≤ 20 * 30 from Nat.le_trans (flat_put_len resC.put 30 y.use (fun y_ hy_ => res_put_len (HR.out.use y_ hy_))) (Nat.mul_le_mul_right _ (by have h_ := HLT.out.nu; omega)))
                obtain ⟨w10, hwr⟩ : ∃ v, v = wr := ⟨_, rfl⟩
                subst hwr
                have HW10 := Lib.hid hw_
                have K10 := Lib.hid (K9.out.trans HK.out)
                have C10 := CW
                have X10 := XW
                clear hw_ HW CW XW HK HW9 K9 C9 X9
                as_aux_lemma =>
                 go_wp2
                 go_end0
                 refine ⟨rfl, ?_, HK0.out.trans (K10.out.mono HDD.out)⟩
                 have hE : codeC.put y.code ++ uidC.put y.uid ++ uidC.put y.id ++ leb y.rev ++ dataC.put y.data ++ leb y.pods.length ++ y.pods.flatMap podC.put ++ leb y.use.length ++ y.use.flatMap resC.put = replyC.put y := by
                  rw [show replyC.put y = codeC.put y.code ++ (uidC.put y.uid ++ (uidC.put y.id ++ (leb y.rev ++ (dataC.put y.data ++ ((leb y.pods.length ++ y.pods.flatMap podC.put) ++ (leb y.use.length ++ y.use.flatMap resC.put)))))) from rfl]
                  first | rfl | (simp only [List.append_assoc]; done) | (simp only [List.append_assoc]; rfl)
                 have hW_ := HW10.out
                 rw [hE] at hW_
                 exact hW_.less HDD.out

end Tl
end Go.Proofs.YtalnncgomlibbaaGreatDoor
