/-
 The walk of the law AskBack: it returns true, and leaves all that was there as it was. Condition: as AskCheck.
-/
import Derived.Test.YtakdhkhcndeiiaaGreatDoorAskBackPure
set_option linter.unusedVariables false
set_option linter.unusedSimpArgs false
namespace Go.Proofs.YtakdhkhcndeiiaaGreatDoor.AskBackWalk
open Go.ChangeShapes Go.WideShapes Go.ChangeAt Go.RowKit Go.Lib
open LebMath WirePure Sd Wire SpecOwn SpecRef Book Pk Ak

set_option maxRecDepth 100000 in
set_option maxHeartbeats 4000000 in
theorem walk_a2 (c : Cal) (LA : Option Addr) (lc : Nat) (IA : Option Addr) (ic : Nat) (MA : Option Addr) (mc : Nat) (SA : Option Addr) (sc : Nat) (t : ByteArray) (ht : t.size ≤ 140737488351232) (w : World) (hL : Laid w) (h : c.In w LA lc IA ic MA mc SA) (hlb : lightB c = true) (hsz : ¬ 3000 < t.size) (hcc : (checkC c).1 = 0) (hv : (ofC t.data.toList).1 ≠ 0) :
 Calls Tryz.prog 6 #[.agg #[.int .i64 c.kind, .int .i64 c.uid, .int .u64 c.rev, .string c.spec.name, .slice LA c.spec.labels.length lc, .slice IA c.spec.init.length ic, .slice MA c.spec.main.length mc, .int .i64 c.spec.restart, .int .i64 c.spec.grace, .int .i64 c.spec.prio, .int .i64 c.grace, .int .i64 c.ctr, .int .i64 c.id, .int .i64 c.most, .string c.data, .slice SA c.sel.length sc], .string t] w fun e w' => e = .returned (.bool true) ∧ Below w.heap.size w w' := by
 have HLB := Lib.hid hlb
 have HCC := Lib.hid hcc
 have HV := Lib.hid hv
 have hlen' : ¬ (3000 : Int) < (t.size : Int) := by omega
 clear hlb hcc hv
 have HL := Lib.hid hL
 have H := Lib.hid h
 have HFT := Lib.hid (show Few t.data.toList by show t.data.toList.length ≤ 281474976710656; rw [Array.length_toList]; show t.size ≤ _; omega)
 obtain ⟨w1, hw1⟩ : ∃ v, w.alloc (.cells #[.int .i64 c.kind, .int .i64 c.uid, .int .u64 c.rev, .string c.spec.name, .slice LA c.spec.labels.length lc, .slice IA c.spec.init.length ic, .slice MA c.spec.main.length mc, .int .i64 c.spec.restart, .int .i64 c.spec.grace, .int .i64 c.spec.prio, .int .i64 c.grace, .int .i64 c.ctr, .int .i64 c.id, .int .i64 c.most, .string c.data, .slice SA c.sel.length sc] 41) = v := ⟨_, rfl⟩
 have B1 := Lib.hid (show Below w.heap.size w w1 by rw [← hw1]; exact (Below.refl _ _).alloc (Nat.le_refl _) _)
 have X1 := Lib.hid (show w1.heap[w.heap.size]? = some (.cells #[.int .i64 c.kind, .int .i64 c.uid, .int .u64 c.rev, .string c.spec.name, .slice LA c.spec.labels.length lc, .slice IA c.spec.init.length ic, .slice MA c.spec.main.length mc, .int .i64 c.spec.restart, .int .i64 c.spec.grace, .int .i64 c.spec.prio, .int .i64 c.grace, .int .i64 c.ctr, .int .i64 c.id, .int .i64 c.most, .string c.data, .slice SA c.sel.length sc] 41) by rw [← hw1]; exact heap_alloc_new w _)
 clear hL h
 go_enter Tryz.func6, Tryz.ntmps6
 go_wp2_with fail
 refine (works_any w1 (HL.out.below B1.out)).mono ?_
 rintro e w2 ⟨rfl, hb2⟩
 have B2 := Lib.hid (B1.out.trans (hb2.mono B1.out.size))
 have X2 := Lib.hid ((hb2.block w.heap.size (lt_of_block X1.out)).trans X1.out)
 clear hb2 X1 hw1
 as_aux_lemma =>
  have c0 := box_cell X2.out 0 rfl
  have c1 := box_cell X2.out 1 rfl
  have c2 := box_cell X2.out 2 rfl
  have c3 := box_cell X2.out 3 rfl
  have c4 := box_cell X2.out 4 rfl
  have c5 := box_cell X2.out 5 rfl
  have c6 := box_cell X2.out 6 rfl
  have c7 := box_cell X2.out 7 rfl
  have c8 := box_cell X2.out 8 rfl
  have c9 := box_cell X2.out 9 rfl
  have c10 := box_cell X2.out 10 rfl
  have c11 := box_cell X2.out 11 rfl
  have c12 := box_cell X2.out 12 rfl
  have c13 := box_cell X2.out 13 rfl
  have c14 := box_cell X2.out 14 rfl
  have c15 := box_cell X2.out 15 rfl
  go_wp2_with fail
  refine (lightC_any c LA lc IA ic MA mc SA sc w2 (H.out.below B2.out)).mono ?_
  rintro e w3 ⟨rfl, hb3⟩
  have B3 := Lib.hid (B2.out.trans (hb3.mono B2.out.size))
  have X3 := Lib.hid ((hb3.block w.heap.size (lt_of_block X2.out)).trans X2.out)
  clear hb3 X2
  clear c0 c1 c2 c3 c4 c5 c6 c7 c8 c9 c10 c11 c12 c13 c14 c15
  rw [HLB.out]
  have HLT := Lib.hid (lightB_yes HLB.out)
  as_aux_lemma =>
   have c0 := box_cell X3.out 0 rfl
   have c1 := box_cell X3.out 1 rfl
   have c2 := box_cell X3.out 2 rfl
   have c3 := box_cell X3.out 3 rfl
   have c4 := box_cell X3.out 4 rfl
   have c5 := box_cell X3.out 5 rfl
   have c6 := box_cell X3.out 6 rfl
   have c7 := box_cell X3.out 7 rfl
   have c8 := box_cell X3.out 8 rfl
   have c9 := box_cell X3.out 9 rfl
   have c10 := box_cell X3.out 10 rfl
   have c11 := box_cell X3.out 11 rfl
   have c12 := box_cell X3.out 12 rfl
   have c13 := box_cell X3.out 13 rfl
   have c14 := box_cell X3.out 14 rfl
   have c15 := box_cell X3.out 15 rfl
   go_wp2_with fail
   refine (bytesC_any c LA lc IA ic MA mc SA sc HLT.out w3 (HL.out.below B3.out) (H.out.below B3.out)).mono ?_
   rintro e w4 ⟨hb4, hby⟩
   have B4 := Lib.hid (B3.out.trans (hb4.mono B3.out.size))
   have X4 := Lib.hid ((hb4.block w.heap.size (lt_of_block X3.out)).trans X3.out)
   clear hb4 X3
   clear c0 c1 c2 c3 c4 c5 c6 c7 c8 c9 c10 c11 c12 c13 c14 c15
   rcases hby with ⟨hc, rfl⟩ | ⟨hc, rfl⟩
   · have HC := Lib.hid hc
     clear hc
     have hbk := call_again HC.out H.out.rev
     have hfi := ofC_fine HC.out H.out.rev
     obtain ⟨bs, hbs⟩ : ∃ bs : ByteArray, (⟨(putC c).toArray⟩ : ByteArray) = bs := ⟨_, rfl⟩
     have hbl : bs.data.toList = putC c := by rw [← hbs]
     have HBL := Lib.hid hbl
     have hfw := put_few HC.out H.out.rev
     have HFB := Lib.hid (show Few bs.data.toList by rw [hbl]; exact hfw)
     have hne : bs.toList.isEmpty = false := text_some (fun h0 => put_some c (by rw [← hbl]; exact List.length_eq_zero_iff.1 (by rw [Array.length_toList]; exact h0)))
     rw [hbs]
     rw [← hbl] at hbk hfi
     have HBK := Lib.hid hbk
     have HFI := Lib.hid hfi
     clear hbk hfi hbs hbl hfw
     as_aux_lemma =>
      have c0 := box_cell X4.out 0 rfl
      have c1 := box_cell X4.out 1 rfl
      have c2 := box_cell X4.out 2 rfl
      have c3 := box_cell X4.out 3 rfl
      have c4 := box_cell X4.out 4 rfl
      have c5 := box_cell X4.out 5 rfl
      have c6 := box_cell X4.out 6 rfl
      have c7 := box_cell X4.out 7 rfl
      have c8 := box_cell X4.out 8 rfl
      have c9 := box_cell X4.out 9 rfl
      have c10 := box_cell X4.out 10 rfl
      have c11 := box_cell X4.out 11 rfl
      have c12 := box_cell X4.out 12 rfl
      have c13 := box_cell X4.out 13 rfl
      have c14 := box_cell X4.out 14 rfl
      have c15 := box_cell X4.out 15 rfl
      go_wp2_with fail
      refine (checkC_any c LA lc IA ic MA mc SA sc HLT.out w4 (HL.out.below B4.out) (H.out.below B4.out)).mono ?_
      rintro e w5 ⟨E5, rfl, hE5, hb5⟩
      obtain rfl : E5 = .nilIface := hE5.nil_iff.2 HC.out
      have B5 := Lib.hid (B4.out.trans (hb5.mono B4.out.size))
      have X5 := Lib.hid ((hb5.block w.heap.size (lt_of_block X4.out)).trans X4.out)
      clear hE5 hb5 X4
      clear c0 c1 c2 c3 c4 c5 c6 c7 c8 c9 c10 c11 c12 c13 c14 c15
      as_aux_lemma =>
       go_wp2_with fail
       refine (ofC_any bs HFB.out w5 (HL.out.below B5.out)).mono ?_
       rintro e w6 ⟨E6, hE6, hb6, hcase⟩
       rw [HFI.out] at hE6 hcase
       rw [HBK.out] at hcase
       obtain rfl : E6 = .nilIface := hE6.nil_iff.2 rfl
       have B6 := Lib.hid (B5.out.trans (hb6.mono B5.out.size))
       have X6 := Lib.hid ((hb6.block w.heap.size (lt_of_block X5.out)).trans X5.out)
       clear hE6 hb6 X5
       rcases hcase with ⟨_, LAx, lcx, IAx, icx, MAx, mcx, SAx, scx, rfl, hup⟩ | ⟨hno, _⟩
       rotate_left
       · exact absurd rfl hno
       have UP6 := Lib.hid (show CalUp w5.heap.size c w6 LAx IAx MAx SAx from hup)
       clear hup
       obtain ⟨w7, hw7⟩ : ∃ v, w6.alloc (.cells #[.int .i64 c.kind, .int .i64 c.uid, .int .u64 c.rev, .string c.spec.name, .slice LAx c.spec.labels.length lcx, .slice IAx c.spec.init.length icx, .slice MAx c.spec.main.length mcx, .int .i64 c.spec.restart, .int .i64 c.spec.grace, .int .i64 c.spec.prio, .int .i64 c.grace, .int .i64 c.ctr, .int .i64 c.id, .int .i64 c.most, .string c.data, .slice SAx c.sel.length scx] 41) = v := ⟨_, rfl⟩
       have hb : Below w6.heap.size w6 w7 := by rw [← hw7]; exact (Below.refl _ _).alloc (Nat.le_refl _) _
       have Y7 := Lib.hid (show w7.heap[w6.heap.size]? = some (.cells #[.int .i64 c.kind, .int .i64 c.uid, .int .u64 c.rev, .string c.spec.name, .slice LAx c.spec.labels.length lcx, .slice IAx c.spec.init.length icx, .slice MAx c.spec.main.length mcx, .int .i64 c.spec.restart, .int .i64 c.spec.grace, .int .i64 c.spec.prio, .int .i64 c.grace, .int .i64 c.ctr, .int .i64 c.id, .int .i64 c.most, .string c.data, .slice SAx c.sel.length scx] 41) by rw [← hw7]; exact heap_alloc_new w6 _)
       have B7 := Lib.hid (B6.out.trans (hb.mono B6.out.size))
       have X7 := Lib.hid ((hb.block w.heap.size (lt_of_block X6.out)).trans X6.out)
       have UP7 := Lib.hid (UP6.out.below hb)
       clear hb
       clear X6 UP6
       as_aux_lemma =>
        have c0 := box_cell X7.out 0 rfl
        have c1 := box_cell X7.out 1 rfl
        have c2 := box_cell X7.out 2 rfl
        have c3 := box_cell X7.out 3 rfl
        have c4 := box_cell X7.out 4 rfl
        have c5 := box_cell X7.out 5 rfl
        have c6 := box_cell X7.out 6 rfl
        have c7 := box_cell X7.out 7 rfl
        have c8 := box_cell X7.out 8 rfl
        have c9 := box_cell X7.out 9 rfl
        have c10 := box_cell X7.out 10 rfl
        have c11 := box_cell X7.out 11 rfl
        have c12 := box_cell X7.out 12 rfl
        have c13 := box_cell X7.out 13 rfl
        have c14 := box_cell X7.out 14 rfl
        have c15 := box_cell X7.out 15 rfl
        as_aux_lemma =>
         have y0 := box_cell Y7.out 0 rfl
         have y1 := box_cell Y7.out 1 rfl
         have y2 := box_cell Y7.out 2 rfl
         have y3 := box_cell Y7.out 3 rfl
         have y4 := box_cell Y7.out 4 rfl
         have y5 := box_cell Y7.out 5 rfl
         have y6 := box_cell Y7.out 6 rfl
         have y7 := box_cell Y7.out 7 rfl
         have y8 := box_cell Y7.out 8 rfl
         have y9 := box_cell Y7.out 9 rfl
         have y10 := box_cell Y7.out 10 rfl
         have y11 := box_cell Y7.out 11 rfl
         have y12 := box_cell Y7.out 12 rfl
         have y13 := box_cell Y7.out 13 rfl
         have y14 := box_cell Y7.out 14 rfl
         have y15 := box_cell Y7.out 15 rfl
         go_wp2_with fail
         first | rw [hw7] | skip
         clear hw7
         refine (sameC_yes c LA lc IA ic MA mc SA sc LAx lcx IAx icx MAx mcx SAx scx w7 (H.out.below B7.out) UP7.out.in).mono ?_
         rintro e w8 ⟨rfl, hb8⟩
         have B8 := Lib.hid (B7.out.trans (hb8.mono B7.out.size))
         clear hb8 X7 Y7 UP7 hne
         clear c0 c1 c2 c3 c4 c5 c6 c7 c8 c9 c10 c11 c12 c13 c14 c15
         clear y0 y1 y2 y3 y4 y5 y6 y7 y8 y9 y10 y11 y12 y13 y14 y15
         as_aux_lemma =>
          go_wp2_with fail
          refine (ofC_any t HFT.out w8 (HL.out.below B8.out)).mono ?_
          rintro e u1 ⟨E, hE, hbu, hcase⟩
          have BU1 := Lib.hid (B8.out.trans (hbu.mono B8.out.size))
          have HE := Lib.hid hE
          clear hbu hE
          rcases hcase with ⟨hy0, LAy, lcy, IAy, icy, MAy, mcy, SAy, scy, rfl, hup⟩ | ⟨hy0, rfl⟩
          · exact absurd hy0 HV.out
          · rcases HE.out.form with rfl | ⟨eu, ex, rfl⟩
            · exact absurd (HE.out.nil_iff.1 rfl) hy0
            clear HE hy0
            obtain ⟨qu2, hqu2⟩ : ∃ v, u1.alloc (.cells #[.int .i64 0, .int .i64 0, .int .u64 0, .string ⟨#[]⟩, .slice none 0 0, .slice none 0 0, .slice none 0 0, .int .i64 0, .int .i64 0, .int .i64 0, .int .i64 0, .int .i64 0, .int .i64 0, .int .i64 0, .string ⟨#[]⟩, .slice none 0 0] 41) = v := ⟨_, rfl⟩
            have hba_ : Below u1.heap.size u1 qu2 := by rw [← hqu2]; exact (Below.refl _ _).alloc (Nat.le_refl _) _
            have hbz_ : qu2.heap[u1.heap.size]? = some (.cells #[.int .i64 0, .int .i64 0, .int .u64 0, .string ⟨#[]⟩, .slice none 0 0, .slice none 0 0, .slice none 0 0, .int .i64 0, .int .i64 0, .int .i64 0, .int .i64 0, .int .i64 0, .int .i64 0, .int .i64 0, .string ⟨#[]⟩, .slice none 0 0] 41) := by rw [← hqu2]; exact heap_alloc_new u1 _
            have qu2vc0 := box_cell hbz_ 0 rfl
            have qu2vf0 := box_free hbz_ 0
            obtain ⟨qu2v1, qu2ve1⟩ : ∃ v, qu2.setCell ⟨(u1.heap.size), 0, none⟩ (.int .i64 0) = v := ⟨_, rfl⟩
            have qu2vz1 := box_set hbz_ 0 (.int .i64 0) (B := #[.int .i64 0, .int .i64 0, .int .u64 0, .string ⟨#[]⟩, .slice none 0 0, .slice none 0 0, .slice none 0 0, .int .i64 0, .int .i64 0, .int .i64 0, .int .i64 0, .int .i64 0, .int .i64 0, .int .i64 0, .string ⟨#[]⟩, .slice none 0 0]) rfl
            rw [qu2ve1] at qu2vz1
            have qu2vo1 : Only (u1.heap.size) qu2 qu2v1 := by rw [← qu2ve1]; exact (Only.refl (u1.heap.size) qu2).set 0 _
            have qu2vc1 := box_cell qu2vz1 1 rfl
            have qu2vf1 := box_free qu2vz1 1
            obtain ⟨qu2v2, qu2ve2⟩ : ∃ v, qu2v1.setCell ⟨(u1.heap.size), 1, none⟩ (.int .i64 0) = v := ⟨_, rfl⟩
            have qu2vz2 := box_set qu2vz1 1 (.int .i64 0) (B := #[.int .i64 0, .int .i64 0, .int .u64 0, .string ⟨#[]⟩, .slice none 0 0, .slice none 0 0, .slice none 0 0, .int .i64 0, .int .i64 0, .int .i64 0, .int .i64 0, .int .i64 0, .int .i64 0, .int .i64 0, .string ⟨#[]⟩, .slice none 0 0]) rfl
            rw [qu2ve2] at qu2vz2
            have qu2vo2 : Only (u1.heap.size) qu2 qu2v2 := by rw [← qu2ve2]; exact qu2vo1.set 1 _
            have qu2vc2 := box_cell qu2vz2 2 rfl
            have qu2vf2 := box_free qu2vz2 2
            obtain ⟨qu2v3, qu2ve3⟩ : ∃ v, qu2v2.setCell ⟨(u1.heap.size), 2, none⟩ (.int .u64 0) = v := ⟨_, rfl⟩
            have qu2vz3 := box_set qu2vz2 2 (.int .u64 0) (B := #[.int .i64 0, .int .i64 0, .int .u64 0, .string ⟨#[]⟩, .slice none 0 0, .slice none 0 0, .slice none 0 0, .int .i64 0, .int .i64 0, .int .i64 0, .int .i64 0, .int .i64 0, .int .i64 0, .int .i64 0, .string ⟨#[]⟩, .slice none 0 0]) rfl
            rw [qu2ve3] at qu2vz3
            have qu2vo3 : Only (u1.heap.size) qu2 qu2v3 := by rw [← qu2ve3]; exact qu2vo2.set 2 _
            have qu2vc3 := box_cell qu2vz3 3 rfl
            have qu2vf3 := box_free qu2vz3 3
            obtain ⟨qu2v4, qu2ve4⟩ : ∃ v, qu2v3.setCell ⟨(u1.heap.size), 3, none⟩ (.string ⟨#[]⟩) = v := ⟨_, rfl⟩
            have qu2vz4 := box_set qu2vz3 3 (.string ⟨#[]⟩) (B := #[.int .i64 0, .int .i64 0, .int .u64 0, .string ⟨#[]⟩, .slice none 0 0, .slice none 0 0, .slice none 0 0, .int .i64 0, .int .i64 0, .int .i64 0, .int .i64 0, .int .i64 0, .int .i64 0, .int .i64 0, .string ⟨#[]⟩, .slice none 0 0]) rfl
            rw [qu2ve4] at qu2vz4
            have qu2vo4 : Only (u1.heap.size) qu2 qu2v4 := by rw [← qu2ve4]; exact qu2vo3.set 3 _
            have qu2vc4 := box_cell qu2vz4 4 rfl
            have qu2vf4 := box_free qu2vz4 4
            obtain ⟨qu2v5, qu2ve5⟩ : ∃ v, qu2v4.setCell ⟨(u1.heap.size), 4, none⟩ (.slice none 0 0) = v := ⟨_, rfl⟩
            have qu2vz5 := box_set qu2vz4 4 (.slice none 0 0) (B := #[.int .i64 0, .int .i64 0, .int .u64 0, .string ⟨#[]⟩, .slice none 0 0, .slice none 0 0, .slice none 0 0, .int .i64 0, .int .i64 0, .int .i64 0, .int .i64 0, .int .i64 0, .int .i64 0, .int .i64 0, .string ⟨#[]⟩, .slice none 0 0]) rfl
            rw [qu2ve5] at qu2vz5
            have qu2vo5 : Only (u1.heap.size) qu2 qu2v5 := by rw [← qu2ve5]; exact qu2vo4.set 4 _
            have qu2vc5 := box_cell qu2vz5 5 rfl
            have qu2vf5 := box_free qu2vz5 5
            obtain ⟨qu2v6, qu2ve6⟩ : ∃ v, qu2v5.setCell ⟨(u1.heap.size), 5, none⟩ (.slice none 0 0) = v := ⟨_, rfl⟩
            have qu2vz6 := box_set qu2vz5 5 (.slice none 0 0) (B := #[.int .i64 0, .int .i64 0, .int .u64 0, .string ⟨#[]⟩, .slice none 0 0, .slice none 0 0, .slice none 0 0, .int .i64 0, .int .i64 0, .int .i64 0, .int .i64 0, .int .i64 0, .int .i64 0, .int .i64 0, .string ⟨#[]⟩, .slice none 0 0]) rfl
            rw [qu2ve6] at qu2vz6
            have qu2vo6 : Only (u1.heap.size) qu2 qu2v6 := by rw [← qu2ve6]; exact qu2vo5.set 5 _
            have qu2vc6 := box_cell qu2vz6 6 rfl
            have qu2vf6 := box_free qu2vz6 6
            obtain ⟨qu2v7, qu2ve7⟩ : ∃ v, qu2v6.setCell ⟨(u1.heap.size), 6, none⟩ (.slice none 0 0) = v := ⟨_, rfl⟩
            have qu2vz7 := box_set qu2vz6 6 (.slice none 0 0) (B := #[.int .i64 0, .int .i64 0, .int .u64 0, .string ⟨#[]⟩, .slice none 0 0, .slice none 0 0, .slice none 0 0, .int .i64 0, .int .i64 0, .int .i64 0, .int .i64 0, .int .i64 0, .int .i64 0, .int .i64 0, .string ⟨#[]⟩, .slice none 0 0]) rfl
            rw [qu2ve7] at qu2vz7
            have qu2vo7 : Only (u1.heap.size) qu2 qu2v7 := by rw [← qu2ve7]; exact qu2vo6.set 6 _
            have qu2vc7 := box_cell qu2vz7 7 rfl
            have qu2vf7 := box_free qu2vz7 7
            obtain ⟨qu2v8, qu2ve8⟩ : ∃ v, qu2v7.setCell ⟨(u1.heap.size), 7, none⟩ (.int .i64 0) = v := ⟨_, rfl⟩
            have qu2vz8 := box_set qu2vz7 7 (.int .i64 0) (B := #[.int .i64 0, .int .i64 0, .int .u64 0, .string ⟨#[]⟩, .slice none 0 0, .slice none 0 0, .slice none 0 0, .int .i64 0, .int .i64 0, .int .i64 0, .int .i64 0, .int .i64 0, .int .i64 0, .int .i64 0, .string ⟨#[]⟩, .slice none 0 0]) rfl
            rw [qu2ve8] at qu2vz8
            have qu2vo8 : Only (u1.heap.size) qu2 qu2v8 := by rw [← qu2ve8]; exact qu2vo7.set 7 _
            have qu2vc8 := box_cell qu2vz8 8 rfl
            have qu2vf8 := box_free qu2vz8 8
            obtain ⟨qu2v9, qu2ve9⟩ : ∃ v, qu2v8.setCell ⟨(u1.heap.size), 8, none⟩ (.int .i64 0) = v := ⟨_, rfl⟩
            have qu2vz9 := box_set qu2vz8 8 (.int .i64 0) (B := #[.int .i64 0, .int .i64 0, .int .u64 0, .string ⟨#[]⟩, .slice none 0 0, .slice none 0 0, .slice none 0 0, .int .i64 0, .int .i64 0, .int .i64 0, .int .i64 0, .int .i64 0, .int .i64 0, .int .i64 0, .string ⟨#[]⟩, .slice none 0 0]) rfl
            rw [qu2ve9] at qu2vz9
            have qu2vo9 : Only (u1.heap.size) qu2 qu2v9 := by rw [← qu2ve9]; exact qu2vo8.set 8 _
            have qu2vc9 := box_cell qu2vz9 9 rfl
            have qu2vf9 := box_free qu2vz9 9
            obtain ⟨qu2v10, qu2ve10⟩ : ∃ v, qu2v9.setCell ⟨(u1.heap.size), 9, none⟩ (.int .i64 0) = v := ⟨_, rfl⟩
            have qu2vz10 := box_set qu2vz9 9 (.int .i64 0) (B := #[.int .i64 0, .int .i64 0, .int .u64 0, .string ⟨#[]⟩, .slice none 0 0, .slice none 0 0, .slice none 0 0, .int .i64 0, .int .i64 0, .int .i64 0, .int .i64 0, .int .i64 0, .int .i64 0, .int .i64 0, .string ⟨#[]⟩, .slice none 0 0]) rfl
            rw [qu2ve10] at qu2vz10
            have qu2vo10 : Only (u1.heap.size) qu2 qu2v10 := by rw [← qu2ve10]; exact qu2vo9.set 9 _
            have qu2vc10 := box_cell qu2vz10 10 rfl
            have qu2vf10 := box_free qu2vz10 10
            obtain ⟨qu2v11, qu2ve11⟩ : ∃ v, qu2v10.setCell ⟨(u1.heap.size), 10, none⟩ (.int .i64 0) = v := ⟨_, rfl⟩
            have qu2vz11 := box_set qu2vz10 10 (.int .i64 0) (B := #[.int .i64 0, .int .i64 0, .int .u64 0, .string ⟨#[]⟩, .slice none 0 0, .slice none 0 0, .slice none 0 0, .int .i64 0, .int .i64 0, .int .i64 0, .int .i64 0, .int .i64 0, .int .i64 0, .int .i64 0, .string ⟨#[]⟩, .slice none 0 0]) rfl
            rw [qu2ve11] at qu2vz11
            have qu2vo11 : Only (u1.heap.size) qu2 qu2v11 := by rw [← qu2ve11]; exact qu2vo10.set 10 _
            have qu2vc11 := box_cell qu2vz11 11 rfl
            have qu2vf11 := box_free qu2vz11 11
            obtain ⟨qu2v12, qu2ve12⟩ : ∃ v, qu2v11.setCell ⟨(u1.heap.size), 11, none⟩ (.int .i64 0) = v := ⟨_, rfl⟩
            have qu2vz12 := box_set qu2vz11 11 (.int .i64 0) (B := #[.int .i64 0, .int .i64 0, .int .u64 0, .string ⟨#[]⟩, .slice none 0 0, .slice none 0 0, .slice none 0 0, .int .i64 0, .int .i64 0, .int .i64 0, .int .i64 0, .int .i64 0, .int .i64 0, .int .i64 0, .string ⟨#[]⟩, .slice none 0 0]) rfl
            rw [qu2ve12] at qu2vz12
            have qu2vo12 : Only (u1.heap.size) qu2 qu2v12 := by rw [← qu2ve12]; exact qu2vo11.set 11 _
            have qu2vc12 := box_cell qu2vz12 12 rfl
            have qu2vf12 := box_free qu2vz12 12
            obtain ⟨qu2v13, qu2ve13⟩ : ∃ v, qu2v12.setCell ⟨(u1.heap.size), 12, none⟩ (.int .i64 0) = v := ⟨_, rfl⟩
            have qu2vz13 := box_set qu2vz12 12 (.int .i64 0) (B := #[.int .i64 0, .int .i64 0, .int .u64 0, .string ⟨#[]⟩, .slice none 0 0, .slice none 0 0, .slice none 0 0, .int .i64 0, .int .i64 0, .int .i64 0, .int .i64 0, .int .i64 0, .int .i64 0, .int .i64 0, .string ⟨#[]⟩, .slice none 0 0]) rfl
            rw [qu2ve13] at qu2vz13
            have qu2vo13 : Only (u1.heap.size) qu2 qu2v13 := by rw [← qu2ve13]; exact qu2vo12.set 12 _
            have qu2vc13 := box_cell qu2vz13 13 rfl
            have qu2vf13 := box_free qu2vz13 13
            obtain ⟨qu2v14, qu2ve14⟩ : ∃ v, qu2v13.setCell ⟨(u1.heap.size), 13, none⟩ (.int .i64 0) = v := ⟨_, rfl⟩
            have qu2vz14 := box_set qu2vz13 13 (.int .i64 0) (B := #[.int .i64 0, .int .i64 0, .int .u64 0, .string ⟨#[]⟩, .slice none 0 0, .slice none 0 0, .slice none 0 0, .int .i64 0, .int .i64 0, .int .i64 0, .int .i64 0, .int .i64 0, .int .i64 0, .int .i64 0, .string ⟨#[]⟩, .slice none 0 0]) rfl
            rw [qu2ve14] at qu2vz14
            have qu2vo14 : Only (u1.heap.size) qu2 qu2v14 := by rw [← qu2ve14]; exact qu2vo13.set 13 _
            have qu2vc14 := box_cell qu2vz14 14 rfl
            have qu2vf14 := box_free qu2vz14 14
            obtain ⟨qu2v15, qu2ve15⟩ : ∃ v, qu2v14.setCell ⟨(u1.heap.size), 14, none⟩ (.string ⟨#[]⟩) = v := ⟨_, rfl⟩
            have qu2vz15 := box_set qu2vz14 14 (.string ⟨#[]⟩) (B := #[.int .i64 0, .int .i64 0, .int .u64 0, .string ⟨#[]⟩, .slice none 0 0, .slice none 0 0, .slice none 0 0, .int .i64 0, .int .i64 0, .int .i64 0, .int .i64 0, .int .i64 0, .int .i64 0, .int .i64 0, .string ⟨#[]⟩, .slice none 0 0]) rfl
            rw [qu2ve15] at qu2vz15
            have qu2vo15 : Only (u1.heap.size) qu2 qu2v15 := by rw [← qu2ve15]; exact qu2vo14.set 14 _
            have qu2vc15 := box_cell qu2vz15 15 rfl
            have qu2vf15 := box_free qu2vz15 15
            obtain ⟨u2, qu2ve16⟩ : ∃ v, qu2v15.setCell ⟨(u1.heap.size), 15, none⟩ (.slice none 0 0) = v := ⟨_, rfl⟩
            have qu2vz16 := box_set qu2vz15 15 (.slice none 0 0) (B := #[.int .i64 0, .int .i64 0, .int .u64 0, .string ⟨#[]⟩, .slice none 0 0, .slice none 0 0, .slice none 0 0, .int .i64 0, .int .i64 0, .int .i64 0, .int .i64 0, .int .i64 0, .int .i64 0, .int .i64 0, .string ⟨#[]⟩, .slice none 0 0]) rfl
            rw [qu2ve16] at qu2vz16
            have qu2vo16 : Only (u1.heap.size) qu2 u2 := by rw [← qu2ve16]; exact qu2vo15.set 15 _
            have qu2vr0 := box_cell qu2vz16 0 rfl
            have qu2vr1 := box_cell qu2vz16 1 rfl
            have qu2vr2 := box_cell qu2vz16 2 rfl
            have qu2vr3 := box_cell qu2vz16 3 rfl
            have qu2vr4 := box_cell qu2vz16 4 rfl
            have qu2vr5 := box_cell qu2vz16 5 rfl
            have qu2vr6 := box_cell qu2vz16 6 rfl
            have qu2vr7 := box_cell qu2vz16 7 rfl
            have qu2vr8 := box_cell qu2vz16 8 rfl
            have qu2vr9 := box_cell qu2vz16 9 rfl
            have qu2vr10 := box_cell qu2vz16 10 rfl
            have qu2vr11 := box_cell qu2vz16 11 rfl
            have qu2vr12 := box_cell qu2vz16 12 rfl
            have qu2vr13 := box_cell qu2vz16 13 rfl
            have qu2vr14 := box_cell qu2vz16 14 rfl
            have qu2vr15 := box_cell qu2vz16 15 rfl
            have qu2vO := Lib.hid qu2vo16
            have D2 := Lib.hid qu2vz16
            clear qu2vz1 qu2vo1 qu2vz2 qu2vo2 qu2vz3 qu2vo3 qu2vz4 qu2vo4 qu2vz5 qu2vo5 qu2vz6 qu2vo6 qu2vz7 qu2vo7 qu2vz8 qu2vo8 qu2vz9 qu2vo9 qu2vz10 qu2vo10 qu2vz11 qu2vo11 qu2vz12 qu2vo12 qu2vz13 qu2vo13 qu2vz14 qu2vo14 qu2vz15 qu2vo15 qu2vz16 qu2vo16
            have hb : Below u1.heap.size u1 u2 := (qu2vO.out.below hba_ (Nat.le_refl _))
            have BU2 := Lib.hid (BU1.out.trans (hb.mono BU1.out.size))
            clear hb hba_ hbz_ qu2vO qu2vr0 qu2vr1 qu2vr2 qu2vr3 qu2vr4 qu2vr5 qu2vr6 qu2vr7 qu2vr8 qu2vr9 qu2vr10 qu2vr11 qu2vr12 qu2vr13 qu2vr14 qu2vr15
            as_aux_lemma =>
             have d0 := box_cell D2.out 0 rfl
             have d1 := box_cell D2.out 1 rfl
             have d2 := box_cell D2.out 2 rfl
             have d3 := box_cell D2.out 3 rfl
             have d4 := box_cell D2.out 4 rfl
             have d5 := box_cell D2.out 5 rfl
             have d6 := box_cell D2.out 6 rfl
             have d7 := box_cell D2.out 7 rfl
             have d8 := box_cell D2.out 8 rfl
             have d9 := box_cell D2.out 9 rfl
             have d10 := box_cell D2.out 10 rfl
             have d11 := box_cell D2.out 11 rfl
             have d12 := box_cell D2.out 12 rfl
             have d13 := box_cell D2.out 13 rfl
             have d14 := box_cell D2.out 14 rfl
             have d15 := box_cell D2.out 15 rfl
             go_wp2_with fail
             refine (sameC_yes (zeroC 0) none 0 none 0 none 0 none 0 none 0 none 0 none 0 none 0 u2 (zero_in 0 u2) (zero_in 0 u2)).mono ?_
             rintro e u3 ⟨rfl, hb3⟩
             have BU3 := Lib.hid (BU2.out.trans (hb3.mono BU2.out.size))
             clear hb3
             as_aux_lemma =>
              go_wp2
              go_ret
              exact ⟨rfl, BU3.out⟩
   · exact absurd HCC.out hc

end Go.Proofs.YtakdhkhcndeiiaaGreatDoor.AskBackWalk
