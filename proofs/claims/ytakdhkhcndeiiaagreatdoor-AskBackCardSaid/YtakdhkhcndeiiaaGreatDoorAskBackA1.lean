/-
 The walk of the law AskBack: it returns true, and leaves all that was there as it was. Condition: as AskCheck.
-/
import Derived.Test.YtakdhkhcndeiiaaGreatDoorAskBackPure
set_option linter.unusedVariables false
set_option linter.unusedSimpArgs false
namespace Go.Proofs.YtakdhkhcndeiiaaGreatDoor.AskBackWalk
open Go.ChangeShapes Go.WideShapes Go.ChangeAt Go.RowKit Go.Lib
open LebMath WirePure Sd Wire SpecOwn SpecRef Book Pk Ak

set_option maxRecDepth 100000 in
set_option maxHeartbeats 4000000 in
theorem walk_a1 (c : Cal) (LA : Option Addr) (lc : Nat) (IA : Option Addr) (ic : Nat) (MA : Option Addr) (mc : Nat) (SA : Option Addr) (sc : Nat) (t : ByteArray) (ht : t.size ≤ 140737488351232) (w : World) (hL : Laid w) (h : c.In w LA lc IA ic MA mc SA) (hlb : lightB c = true) (hsz : ¬ 3000 < t.size) (hcc : (checkC c).1 = 0) (hv : (ofC t.data.toList).1 = 0) :
 Calls Tryz.prog 6 #[.agg #[.int .i64 c.kind, .int .i64 c.uid, .int .u64 c.rev, .string c.spec.name, .slice LA c.spec.labels.length lc, .slice IA c.spec.init.length ic, .slice MA c.spec.main.length mc, .int .i64 c.spec.restart, .int .i64 c.spec.grace, .int .i64 c.spec.prio, .int .i64 c.grace, .int .i64 c.ctr, .int .i64 c.id, .int .i64 c.most, .string c.data, .slice SA c.sel.length sc], .string t] w fun e w' => e = .returned (.bool true) ∧ Below w.heap.size w w' := by
 have HLB := Lib.hid hlb
 have HCC := Lib.hid hcc
 have HV := Lib.hid hv
 have hlen' : ¬ (3000 : Int) < (t.size : Int) := by omega
 clear hlb hcc hv
 have HL := Lib.hid hL
 have H := Lib.hid h
 have HFT := Lib.hid (show Few t.data.toList by show t.data.toList.length ≤ 281474976710656; rw [Array.length_toList]; show t.size ≤ _; omega)
 obtain ⟨w1, hw1⟩ : ∃ v, w.alloc (.cells #[.int .i64 c.kind, .int .i64 c.uid, .int .u64 c.rev, .string c.spec.name, .slice LA c.spec.labels.length lc, .slice IA c.spec.init.length ic, .slice MA c.spec.main.length mc, .int .i64 c.spec.restart, .int .i64 c.spec.grace, .int .i64 c.spec.prio, .int .i64 c.grace, .int .i64 c.ctr, .int .i64 c.id, .int .i64 c.most, .string c.data, .slice SA c.sel.length sc] 41) = v := ⟨_, rfl⟩
 have B1 := Lib.hid (show Below w.heap.size w w1 by rw [← hw1]; exact (Below.refl _ _).alloc (Nat.le_refl _) _)
 have X1 := Lib.hid (show w1.heap[w.heap.size]? = some (.cells #[.int .i64 c.kind, .int .i64 c.uid, .int .u64 c.rev, .string c.spec.name, .slice LA c.spec.labels.length lc, .slice IA c.spec.init.length ic, .slice MA c.spec.main.length mc, .int .i64 c.spec.restart, .int .i64 c.spec.grace, .int .i64 c.spec.prio, .int .i64 c.grace, .int .i64 c.ctr, .int .i64 c.id, .int .i64 c.most, .string c.data, .slice SA c.sel.length sc] 41) by rw [← hw1]; exact heap_alloc_new w _)
 clear hL h
 go_enter Tryz.func6, Tryz.ntmps6
 go_wp2_with fail
 refine (works_any w1 (HL.out.below B1.out)).mono ?_
 rintro e w2 ⟨rfl, hb2⟩
 have B2 := Lib.hid (B1.out.trans (hb2.mono B1.out.size))
 have X2 := Lib.hid ((hb2.block w.heap.size (lt_of_block X1.out)).trans X1.out)
 clear hb2 X1 hw1
 as_aux_lemma =>
  have c0 := box_cell X2.out 0 rfl
  have c1 := box_cell X2.out 1 rfl
  have c2 := box_cell X2.out 2 rfl
  have c3 := box_cell X2.out 3 rfl
  have c4 := box_cell X2.out 4 rfl
  have c5 := box_cell X2.out 5 rfl
  have c6 := box_cell X2.out 6 rfl
  have c7 := box_cell X2.out 7 rfl
  have c8 := box_cell X2.out 8 rfl
  have c9 := box_cell X2.out 9 rfl
  have c10 := box_cell X2.out 10 rfl
  have c11 := box_cell X2.out 11 rfl
  have c12 := box_cell X2.out 12 rfl
  have c13 := box_cell X2.out 13 rfl
  have c14 := box_cell X2.out 14 rfl
  have c15 := box_cell X2.out 15 rfl
  go_wp2_with fail
  refine (lightC_any c LA lc IA ic MA mc SA sc w2 (H.out.below B2.out)).mono ?_
  rintro e w3 ⟨rfl, hb3⟩
  have B3 := Lib.hid (B2.out.trans (hb3.mono B2.out.size))
  have X3 := Lib.hid ((hb3.block w.heap.size (lt_of_block X2.out)).trans X2.out)
  clear hb3 X2
  clear c0 c1 c2 c3 c4 c5 c6 c7 c8 c9 c10 c11 c12 c13 c14 c15
  rw [HLB.out]
  have HLT := Lib.hid (lightB_yes HLB.out)
  as_aux_lemma =>
   have c0 := box_cell X3.out 0 rfl
   have c1 := box_cell X3.out 1 rfl
   have c2 := box_cell X3.out 2 rfl
   have c3 := box_cell X3.out 3 rfl
   have c4 := box_cell X3.out 4 rfl
   have c5 := box_cell X3.out 5 rfl
   have c6 := box_cell X3.out 6 rfl
   have c7 := box_cell X3.out 7 rfl
   have c8 := box_cell X3.out 8 rfl
   have c9 := box_cell X3.out 9 rfl
   have c10 := box_cell X3.out 10 rfl
   have c11 := box_cell X3.out 11 rfl
   have c12 := box_cell X3.out 12 rfl
   have c13 := box_cell X3.out 13 rfl
   have c14 := box_cell X3.out 14 rfl
   have c15 := box_cell X3.out 15 rfl
   go_wp2_with fail
   refine (bytesC_any c LA lc IA ic MA mc SA sc HLT.out w3 (HL.out.below B3.out) (H.out.below B3.out)).mono ?_
   rintro e w4 ⟨hb4, hby⟩
   have B4 := Lib.hid (B3.out.trans (hb4.mono B3.out.size))
   have X4 := Lib.hid ((hb4.block w.heap.size (lt_of_block X3.out)).trans X3.out)
   clear hb4 X3
   clear c0 c1 c2 c3 c4 c5 c6 c7 c8 c9 c10 c11 c12 c13 c14 c15
   rcases hby with ⟨hc, rfl⟩ | ⟨hc, rfl⟩
   · have HC := Lib.hid hc
     clear hc
     have hbk := call_again HC.out H.out.rev
     have hfi := ofC_fine HC.out H.out.rev
     obtain ⟨bs, hbs⟩ : ∃ bs : ByteArray, (⟨(putC c).toArray⟩ : ByteArray) = bs := ⟨_, rfl⟩
     have hbl : bs.data.toList = putC c := by rw [← hbs]
     have HBL := Lib.hid hbl
     have hfw := put_few HC.out H.out.rev
     have HFB := Lib.hid (show Few bs.data.toList by rw [hbl]; exact hfw)
     have hne : bs.toList.isEmpty = false := text_some (fun h0 => put_some c (by rw [← hbl]; exact List.length_eq_zero_iff.1 (by rw [Array.length_toList]; exact h0)))
     rw [hbs]
     rw [← hbl] at hbk hfi
     have HBK := Lib.hid hbk
     have HFI := Lib.hid hfi
     clear hbk hfi hbs hbl hfw
     as_aux_lemma =>
      have c0 := box_cell X4.out 0 rfl
      have c1 := box_cell X4.out 1 rfl
      have c2 := box_cell X4.out 2 rfl
      have c3 := box_cell X4.out 3 rfl
      have c4 := box_cell X4.out 4 rfl
      have c5 := box_cell X4.out 5 rfl
      have c6 := box_cell X4.out 6 rfl
      have c7 := box_cell X4.out 7 rfl
      have c8 := box_cell X4.out 8 rfl
      have c9 := box_cell X4.out 9 rfl
      have c10 := box_cell X4.out 10 rfl
      have c11 := box_cell X4.out 11 rfl
      have c12 := box_cell X4.out 12 rfl
      have c13 := box_cell X4.out 13 rfl
      have c14 := box_cell X4.out 14 rfl
      have c15 := box_cell X4.out 15 rfl
      go_wp2_with fail
      refine (checkC_any c LA lc IA ic MA mc SA sc HLT.out w4 (HL.out.below B4.out) (H.out.below B4.out)).mono ?_
      rintro e w5 ⟨E5, rfl, hE5, hb5⟩
      obtain rfl : E5 = .nilIface := hE5.nil_iff.2 HC.out
      have B5 := Lib.hid (B4.out.trans (hb5.mono B4.out.size))
      have X5 := Lib.hid ((hb5.block w.heap.size (lt_of_block X4.out)).trans X4.out)
      clear hE5 hb5 X4
      clear c0 c1 c2 c3 c4 c5 c6 c7 c8 c9 c10 c11 c12 c13 c14 c15
      as_aux_lemma =>
       go_wp2_with fail
       refine (ofC_any bs HFB.out w5 (HL.out.below B5.out)).mono ?_
       rintro e w6 ⟨E6, hE6, hb6, hcase⟩
       rw [HFI.out] at hE6 hcase
       rw [HBK.out] at hcase
       obtain rfl : E6 = .nilIface := hE6.nil_iff.2 rfl
       have B6 := Lib.hid (B5.out.trans (hb6.mono B5.out.size))
       have X6 := Lib.hid ((hb6.block w.heap.size (lt_of_block X5.out)).trans X5.out)
       clear hE6 hb6 X5
       rcases hcase with ⟨_, LAx, lcx, IAx, icx, MAx, mcx, SAx, scx, rfl, hup⟩ | ⟨hno, _⟩
       rotate_left
       · exact absurd rfl hno
       have UP6 := Lib.hid (show CalUp w5.heap.size c w6 LAx IAx MAx SAx from hup)
       clear hup
       obtain ⟨w7, hw7⟩ : ∃ v, w6.alloc (.cells #[.int .i64 c.kind, .int .i64 c.uid, .int .u64 c.rev, .string c.spec.name, .slice LAx c.spec.labels.length lcx, .slice IAx c.spec.init.length icx, .slice MAx c.spec.main.length mcx, .int .i64 c.spec.restart, .int .i64 c.spec.grace, .int .i64 c.spec.prio, .int .i64 c.grace, .int .i64 c.ctr, .int .i64 c.id, .int .i64 c.most, .string c.data, .slice SAx c.sel.length scx] 41) = v := ⟨_, rfl⟩
       have hb : Below w6.heap.size w6 w7 := by rw [← hw7]; exact (Below.refl _ _).alloc (Nat.le_refl _) _
       have Y7 := Lib.hid (show w7.heap[w6.heap.size]? = some (.cells #[.int .i64 c.kind, .int .i64 c.uid, .int .u64 c.rev, .string c.spec.name, .slice LAx c.spec.labels.length lcx, .slice IAx c.spec.init.length icx, .slice MAx c.spec.main.length mcx, .int .i64 c.spec.restart, .int .i64 c.spec.grace, .int .i64 c.spec.prio, .int .i64 c.grace, .int .i64 c.ctr, .int .i64 c.id, .int .i64 c.most, .string c.data, .slice SAx c.sel.length scx] 41) by rw [← hw7]; exact heap_alloc_new w6 _)
       have B7 := Lib.hid (B6.out.trans (hb.mono B6.out.size))
       have X7 := Lib.hid ((hb.block w.heap.size (lt_of_block X6.out)).trans X6.out)
       have UP7 := Lib.hid (UP6.out.below hb)
       clear hb
       clear X6 UP6
       as_aux_lemma =>
        have c0 := box_cell X7.out 0 rfl
        have c1 := box_cell X7.out 1 rfl
        have c2 := box_cell X7.out 2 rfl
        have c3 := box_cell X7.out 3 rfl
        have c4 := box_cell X7.out 4 rfl
        have c5 := box_cell X7.out 5 rfl
        have c6 := box_cell X7.out 6 rfl
        have c7 := box_cell X7.out 7 rfl
        have c8 := box_cell X7.out 8 rfl
        have c9 := box_cell X7.out 9 rfl
        have c10 := box_cell X7.out 10 rfl
        have c11 := box_cell X7.out 11 rfl
        have c12 := box_cell X7.out 12 rfl
        have c13 := box_cell X7.out 13 rfl
        have c14 := box_cell X7.out 14 rfl
        have c15 := box_cell X7.out 15 rfl
        as_aux_lemma =>
         have y0 := box_cell Y7.out 0 rfl
         have y1 := box_cell Y7.out 1 rfl
         have y2 := box_cell Y7.out 2 rfl
         have y3 := box_cell Y7.out 3 rfl
         have y4 := box_cell Y7.out 4 rfl
         have y5 := box_cell Y7.out 5 rfl
         have y6 := box_cell Y7.out 6 rfl
         have y7 := box_cell Y7.out 7 rfl
         have y8 := box_cell Y7.out 8 rfl
         have y9 := box_cell Y7.out 9 rfl
         have y10 := box_cell Y7.out 10 rfl
         have y11 := box_cell Y7.out 11 rfl
         have y12 := box_cell Y7.out 12 rfl
         have y13 := box_cell Y7.out 13 rfl
         have y14 := box_cell Y7.out 14 rfl
         have y15 := box_cell Y7.out 15 rfl
         go_wp2_with fail
         first | rw [hw7] | skip
         clear hw7
         refine (sameC_yes c LA lc IA ic MA mc SA sc LAx lcx IAx icx MAx mcx SAx scx w7 (H.out.below B7.out) UP7.out.in).mono ?_
         rintro e w8 ⟨rfl, hb8⟩
         have B8 := Lib.hid (B7.out.trans (hb8.mono B7.out.size))
         clear hb8 X7 Y7 UP7 hne
         clear c0 c1 c2 c3 c4 c5 c6 c7 c8 c9 c10 c11 c12 c13 c14 c15
         clear y0 y1 y2 y3 y4 y5 y6 y7 y8 y9 y10 y11 y12 y13 y14 y15
         as_aux_lemma =>
          go_wp2_with fail
          refine (ofC_any t HFT.out w8 (HL.out.below B8.out)).mono ?_
          rintro e u1 ⟨E, hE, hbu, hcase⟩
          have BU1 := Lib.hid (B8.out.trans (hbu.mono B8.out.size))
          have HE := Lib.hid hE
          clear hbu hE
          rcases hcase with ⟨hy0, LAy, lcy, IAy, icy, MAy, mcy, SAy, scy, rfl, hup⟩ | ⟨hy0, rfl⟩
          · obtain ⟨hchk, hput⟩ := ofC_right hy0
            obtain rfl : E = .nilIface := HE.out.nil_iff.2 hy0
            have HCK := Lib.hid hchk
            have HPT := Lib.hid hput
            have UP1 := Lib.hid hup
            clear hy0 hchk hput hup HE
            obtain ⟨d, hd⟩ : ∃ d, (rdC t.data.toList).1 = d := ⟨_, rfl⟩
            rw [hd] at HCK HPT UP1 ⊢
            clear hd
            obtain ⟨u2, hu2⟩ : ∃ v, u1.alloc (.cells #[.int .i64 d.kind, .int .i64 d.uid, .int .u64 d.rev, .string d.spec.name, .slice LAy d.spec.labels.length lcy, .slice IAy d.spec.init.length icy, .slice MAy d.spec.main.length mcy, .int .i64 d.spec.restart, .int .i64 d.spec.grace, .int .i64 d.spec.prio, .int .i64 d.grace, .int .i64 d.ctr, .int .i64 d.id, .int .i64 d.most, .string d.data, .slice SAy d.sel.length scy] 41) = v := ⟨_, rfl⟩
            have hb : Below u1.heap.size u1 u2 := by rw [← hu2]; exact (Below.refl _ _).alloc (Nat.le_refl _) _
            have D2 := Lib.hid (show u2.heap[u1.heap.size]? = some (.cells #[.int .i64 d.kind, .int .i64 d.uid, .int .u64 d.rev, .string d.spec.name, .slice LAy d.spec.labels.length lcy, .slice IAy d.spec.init.length icy, .slice MAy d.spec.main.length mcy, .int .i64 d.spec.restart, .int .i64 d.spec.grace, .int .i64 d.spec.prio, .int .i64 d.grace, .int .i64 d.ctr, .int .i64 d.id, .int .i64 d.most, .string d.data, .slice SAy d.sel.length scy] 41) by rw [← hu2]; exact heap_alloc_new u1 _)
            have BU2 := Lib.hid (BU1.out.trans (hb.mono BU1.out.size))
            have UP2 := Lib.hid (UP1.out.below hb)
            clear hb
            clear UP1
            as_aux_lemma =>
             have d0 := box_cell D2.out 0 rfl
             have d1 := box_cell D2.out 1 rfl
             have d2 := box_cell D2.out 2 rfl
             have d3 := box_cell D2.out 3 rfl
             have d4 := box_cell D2.out 4 rfl
             have d5 := box_cell D2.out 5 rfl
             have d6 := box_cell D2.out 6 rfl
             have d7 := box_cell D2.out 7 rfl
             have d8 := box_cell D2.out 8 rfl
             have d9 := box_cell D2.out 9 rfl
             have d10 := box_cell D2.out 10 rfl
             have d11 := box_cell D2.out 11 rfl
             have d12 := box_cell D2.out 12 rfl
             have d13 := box_cell D2.out 13 rfl
             have d14 := box_cell D2.out 14 rfl
             have d15 := box_cell D2.out 15 rfl
             go_wp2_with fail
             first | rw [hu2] | skip
             clear hu2
             refine (bytesC_any d LAy lcy IAy icy MAy mcy SAy scy UP2.out.light u2 (HL.out.below BU2.out) UP2.out.in).mono ?_
             rintro e u3 ⟨hb3, hcase⟩
             rcases hcase with ⟨_, rfl⟩ | ⟨hno, _⟩
             rotate_left
             · exact absurd HCK.out hno
             rw [HPT.out, show (⟨t.data.toList.toArray⟩ : ByteArray) = t from bytes_back rfl]
             have BU3 := Lib.hid (BU2.out.trans (hb3.mono BU2.out.size))
             have D3 := Lib.hid ((hb3.block u1.heap.size (lt_of_block D2.out)).trans D2.out)
             have UP3 := Lib.hid (UP2.out.below hb3)
             clear hb3 D2 UP2 d0 d1 d2 d3 d4 d5 d6 d7 d8 d9 d10 d11 d12 d13 d14 d15
             as_aux_lemma =>
              have d0 := box_cell D3.out 0 rfl
              have d1 := box_cell D3.out 1 rfl
              have d2 := box_cell D3.out 2 rfl
              have d3 := box_cell D3.out 3 rfl
              have d4 := box_cell D3.out 4 rfl
              have d5 := box_cell D3.out 5 rfl
              have d6 := box_cell D3.out 6 rfl
              have d7 := box_cell D3.out 7 rfl
              have d8 := box_cell D3.out 8 rfl
              have d9 := box_cell D3.out 9 rfl
              have d10 := box_cell D3.out 10 rfl
              have d11 := box_cell D3.out 11 rfl
              have d12 := box_cell D3.out 12 rfl
              have d13 := box_cell D3.out 13 rfl
              have d14 := box_cell D3.out 14 rfl
              have d15 := box_cell D3.out 15 rfl
              go_wp2_with fail
              refine (checkC_any d LAy lcy IAy icy MAy mcy SAy scy UP3.out.light u3 (HL.out.below BU3.out) UP3.out.in).mono ?_
              rintro e u4 ⟨E4, rfl, hE4, hb4⟩
              obtain rfl : E4 = .nilIface := hE4.nil_iff.2 HCK.out
              have BU4 := Lib.hid (BU3.out.trans (hb4.mono BU3.out.size))
              clear hE4 hb4
              as_aux_lemma =>
               go_wp2
               go_ret
               exact ⟨rfl, BU4.out⟩
          · exact absurd HV.out hy0
   · exact absurd HCC.out hc

end Go.Proofs.YtakdhkhcndeiiaaGreatDoor.AskBackWalk
