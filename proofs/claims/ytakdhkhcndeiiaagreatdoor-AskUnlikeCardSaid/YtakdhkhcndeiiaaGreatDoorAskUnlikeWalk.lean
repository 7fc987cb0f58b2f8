/-
 The walk of the law AskUnlike: it returns true, and leaves all that was there as it was. Condition: as AskCheck.
-/
import Derived.Test.YtakdhkhcndeiiaaGreatDoorAskSameAll
import Derived.Test.YtakdhkhcndeiiaaGreatDoorAskWorks
set_option linter.unusedVariables false
set_option linter.unusedSimpArgs false
namespace Go.Proofs.YtakdhkhcndeiiaaGreatDoor.AskUnlikeWalk
open Go.ChangeShapes Go.WideShapes Go.ChangeAt Go.RowKit Go.Lib
open LebMath WirePure Sd Wire SpecOwn SpecRef Book Pk Ak

theorem bytes_same {c d : Cal} (hc : (checkC c).1 = 0) (hd : (checkC d).1 = 0) (rc : c.rev < 18446744073709551616) (rd : d.rev < 18446744073709551616) {bs bd : ByteArray} (hs : (⟨(putC c).toArray⟩ : ByteArray) = bs) (hd' : (⟨(putC d).toArray⟩ : ByteArray) = bd) : (bs.toList == bd.toList) = sameCB c d := by
 refine Book.same_bool ?_
 rw [beq_iff_eq, text_eq, sameCB_iff, ← put_same hc hd rc rd, ← hs, ← hd']
 constructor
 · intro h
   have := congrArg (fun z : ByteArray => z.data.toList) h
   simpa using this
 · intro h; rw [h]
theorem bytes_long {c d : Cal} (hc : (checkC c).1 = 0) (hd : (checkC d).1 = 0) (rc : c.rev < 18446744073709551616) (rd : d.rev < 18446744073709551616) {bs bd : ByteArray} (hs : (⟨(putC c).toArray⟩ : ByteArray) = bs) (hd' : (⟨(putC d).toArray⟩ : ByteArray) = bd) (hlt : bs.size < bd.size) : ((bd.extract 0 bs.size).toList == bs.toList) = false := by
 rw [beq_eq_false_iff_ne]
 intro h
 have h1 := congrArg (fun z : ByteArray => z.data.toList) ((text_eq _ _).1 h)
 have sz : bs.size = (putC c).length := by rw [← hs]; show (putC c).toArray.size = _; simp
 have sd : bd.size = (putC d).length := by rw [← hd']; show (putC d).toArray.size = _; simp
 have e1 : bs.data.toList = putC c := by rw [← hs]
 have e2 : bd.data.toList = putC d := by rw [← hd']
 have h2 : (bd.extract 0 bs.size).data.toList = bs.data.toList := h1
 rw [ByteArray.data_extract, Array.toList_extract, e1, e2, sz] at h2
 refine put_long hc hd rc rd (by omega) ?_
 simpa [List.extract_eq_take_drop] using h2

set_option maxRecDepth 100000 in
set_option maxHeartbeats 4000000 in
theorem walk (c d : Cal) (LA : Option Addr) (lc : Nat) (IA : Option Addr) (ic : Nat) (MA : Option Addr) (mc : Nat) (SA : Option Addr) (sc : Nat) (LAx : Option Addr) (lcx : Nat) (IAx : Option Addr) (icx : Nat) (MAx : Option Addr) (mcx : Nat) (SAx : Option Addr) (scx : Nat) (w : World) (hL : Laid w) (h : c.In w LA lc IA ic MA mc SA) (hx : d.In w LAx lcx IAx icx MAx mcx SAx) :
 Calls Tryz.prog 7 #[.agg #[.int .i64 c.kind, .int .i64 c.uid, .int .u64 c.rev, .string c.spec.name, .slice LA c.spec.labels.length lc, .slice IA c.spec.init.length ic, .slice MA c.spec.main.length mc, .int .i64 c.spec.restart, .int .i64 c.spec.grace, .int .i64 c.spec.prio, .int .i64 c.grace, .int .i64 c.ctr, .int .i64 c.id, .int .i64 c.most, .string c.data, .slice SA c.sel.length sc], .agg #[.int .i64 d.kind, .int .i64 d.uid, .int .u64 d.rev, .string d.spec.name, .slice LAx d.spec.labels.length lcx, .slice IAx d.spec.init.length icx, .slice MAx d.spec.main.length mcx, .int .i64 d.spec.restart, .int .i64 d.spec.grace, .int .i64 d.spec.prio, .int .i64 d.grace, .int .i64 d.ctr, .int .i64 d.id, .int .i64 d.most, .string d.data, .slice SAx d.sel.length scx]] w fun e w' => e = .returned (.bool true) ∧ Below w.heap.size w w' := by
 have HL := Lib.hid hL
 have H := Lib.hid h
 have HX := Lib.hid hx
 clear hL h hx
 obtain ⟨w2, hw2⟩ : ∃ v, (w.alloc (.cells #[.int .i64 c.kind, .int .i64 c.uid, .int .u64 c.rev, .string c.spec.name, .slice LA c.spec.labels.length lc, .slice IA c.spec.init.length ic, .slice MA c.spec.main.length mc, .int .i64 c.spec.restart, .int .i64 c.spec.grace, .int .i64 c.spec.prio, .int .i64 c.grace, .int .i64 c.ctr, .int .i64 c.id, .int .i64 c.most, .string c.data, .slice SA c.sel.length sc] 41)).alloc (.cells #[.int .i64 d.kind, .int .i64 d.uid, .int .u64 d.rev, .string d.spec.name, .slice LAx d.spec.labels.length lcx, .slice IAx d.spec.init.length icx, .slice MAx d.spec.main.length mcx, .int .i64 d.spec.restart, .int .i64 d.spec.grace, .int .i64 d.spec.prio, .int .i64 d.grace, .int .i64 d.ctr, .int .i64 d.id, .int .i64 d.most, .string d.data, .slice SAx d.sel.length scx] 41) = v := ⟨_, rfl⟩
 have hx : Below w.heap.size w w2 ∧ w2.heap[w.heap.size]? = some (.cells #[.int .i64 c.kind, .int .i64 c.uid, .int .u64 c.rev, .string c.spec.name, .slice LA c.spec.labels.length lc, .slice IA c.spec.init.length ic, .slice MA c.spec.main.length mc, .int .i64 c.spec.restart, .int .i64 c.spec.grace, .int .i64 c.spec.prio, .int .i64 c.grace, .int .i64 c.ctr, .int .i64 c.id, .int .i64 c.most, .string c.data, .slice SA c.sel.length sc] 41) ∧ w2.heap[w.heap.size + 1]? = some (.cells #[.int .i64 d.kind, .int .i64 d.uid, .int .u64 d.rev, .string d.spec.name, .slice LAx d.spec.labels.length lcx, .slice IAx d.spec.init.length icx, .slice MAx d.spec.main.length mcx, .int .i64 d.spec.restart, .int .i64 d.spec.grace, .int .i64 d.spec.prio, .int .i64 d.grace, .int .i64 d.ctr, .int .i64 d.id, .int .i64 d.most, .string d.data, .slice SAx d.sel.length scx] 41) := by
  subst hw2
  have a1 := heap_alloc_new w (.cells #[.int .i64 c.kind, .int .i64 c.uid, .int .u64 c.rev, .string c.spec.name, .slice LA c.spec.labels.length lc, .slice IA c.spec.init.length ic, .slice MA c.spec.main.length mc, .int .i64 c.spec.restart, .int .i64 c.spec.grace, .int .i64 c.spec.prio, .int .i64 c.grace, .int .i64 c.ctr, .int .i64 c.id, .int .i64 c.most, .string c.data, .slice SA c.sel.length sc] 41)
  have a2 := heap_alloc_new (w.alloc (.cells #[.int .i64 c.kind, .int .i64 c.uid, .int .u64 c.rev, .string c.spec.name, .slice LA c.spec.labels.length lc, .slice IA c.spec.init.length ic, .slice MA c.spec.main.length mc, .int .i64 c.spec.restart, .int .i64 c.spec.grace, .int .i64 c.spec.prio, .int .i64 c.grace, .int .i64 c.ctr, .int .i64 c.id, .int .i64 c.most, .string c.data, .slice SA c.sel.length sc] 41)) (.cells #[.int .i64 d.kind, .int .i64 d.uid, .int .u64 d.rev, .string d.spec.name, .slice LAx d.spec.labels.length lcx, .slice IAx d.spec.init.length icx, .slice MAx d.spec.main.length mcx, .int .i64 d.spec.restart, .int .i64 d.spec.grace, .int .i64 d.spec.prio, .int .i64 d.grace, .int .i64 d.ctr, .int .i64 d.id, .int .i64 d.most, .string d.data, .slice SAx d.sel.length scx] 41)
  have s1 : (w.alloc (.cells #[.int .i64 c.kind, .int .i64 c.uid, .int .u64 c.rev, .string c.spec.name, .slice LA c.spec.labels.length lc, .slice IA c.spec.init.length ic, .slice MA c.spec.main.length mc, .int .i64 c.spec.restart, .int .i64 c.spec.grace, .int .i64 c.spec.prio, .int .i64 c.grace, .int .i64 c.ctr, .int .i64 c.id, .int .i64 c.most, .string c.data, .slice SA c.sel.length sc] 41)).heap.size = w.heap.size + 1 := by simp
  have k2 := ((Below.refl (w.heap.size + 1) (w.alloc (.cells #[.int .i64 c.kind, .int .i64 c.uid, .int .u64 c.rev, .string c.spec.name, .slice LA c.spec.labels.length lc, .slice IA c.spec.init.length ic, .slice MA c.spec.main.length mc, .int .i64 c.spec.restart, .int .i64 c.spec.grace, .int .i64 c.spec.prio, .int .i64 c.grace, .int .i64 c.ctr, .int .i64 c.id, .int .i64 c.most, .string c.data, .slice SA c.sel.length sc] 41))).alloc (by omega) (.cells #[.int .i64 d.kind, .int .i64 d.uid, .int .u64 d.rev, .string d.spec.name, .slice LAx d.spec.labels.length lcx, .slice IAx d.spec.init.length icx, .slice MAx d.spec.main.length mcx, .int .i64 d.spec.restart, .int .i64 d.spec.grace, .int .i64 d.spec.prio, .int .i64 d.grace, .int .i64 d.ctr, .int .i64 d.id, .int .i64 d.most, .string d.data, .slice SAx d.sel.length scx] 41)).block
  rw [s1] at a2
  exact ⟨((Below.refl _ _).alloc (Nat.le_refl _) _).alloc (by omega) _, (k2 _ (by omega)).trans a1, a2⟩
 have B2 := Lib.hid hx.1
 have X2 := Lib.hid hx.2.1
 have Y2 := Lib.hid hx.2.2
 clear hx
 go_enter Tryz.func7, Tryz.ntmps7
 go_wp2_with fail
 refine (works_any w2 (HL.out.below B2.out)).mono ?_
 rintro e w3 ⟨rfl, hb3⟩
 clear hw2
 have B3 := Lib.hid (B2.out.trans (hb3.mono B2.out.size))
 have X3 := Lib.hid ((hb3.block w.heap.size (lt_of_block X2.out)).trans X2.out)
 have Y3 := Lib.hid ((hb3.block (w.heap.size + 1) (lt_of_block Y2.out)).trans Y2.out)
 clear hb3 X2 Y2
 as_aux_lemma =>
  have c0 := box_cell X3.out 0 rfl
  have c1 := box_cell X3.out 1 rfl
  have c2 := box_cell X3.out 2 rfl
  have c3 := box_cell X3.out 3 rfl
  have c4 := box_cell X3.out 4 rfl
  have c5 := box_cell X3.out 5 rfl
  have c6 := box_cell X3.out 6 rfl
  have c7 := box_cell X3.out 7 rfl
  have c8 := box_cell X3.out 8 rfl
  have c9 := box_cell X3.out 9 rfl
  have c10 := box_cell X3.out 10 rfl
  have c11 := box_cell X3.out 11 rfl
  have c12 := box_cell X3.out 12 rfl
  have c13 := box_cell X3.out 13 rfl
  have c14 := box_cell X3.out 14 rfl
  have c15 := box_cell X3.out 15 rfl
  go_wp2_with fail
  refine (lightC_any c LA lc IA ic MA mc SA sc w3 (H.out.below B3.out)).mono ?_
  rintro e w4 ⟨rfl, hb4⟩
  have B4 := Lib.hid (B3.out.trans (hb4.mono B3.out.size))
  have X4 := Lib.hid ((hb4.block w.heap.size (lt_of_block X3.out)).trans X3.out)
  have Y4 := Lib.hid ((hb4.block (w.heap.size + 1) (lt_of_block Y3.out)).trans Y3.out)
  clear hb4 X3 Y3
  clear c0 c1 c2 c3 c4 c5 c6 c7 c8 c9 c10 c11 c12 c13 c14 c15
  cases hlc : lightB c with
  | false =>
   go_wp2
   go_ret
   exact ⟨rfl, B4.out⟩

  | true =>
   have HLC := Lib.hid (lightB_yes hlc)
   clear hlc
   as_aux_lemma =>
    have d0 := box_cell Y4.out 0 rfl
    have d1 := box_cell Y4.out 1 rfl
    have d2 := box_cell Y4.out 2 rfl
    have d3 := box_cell Y4.out 3 rfl
    have d4 := box_cell Y4.out 4 rfl
    have d5 := box_cell Y4.out 5 rfl
    have d6 := box_cell Y4.out 6 rfl
    have d7 := box_cell Y4.out 7 rfl
    have d8 := box_cell Y4.out 8 rfl
    have d9 := box_cell Y4.out 9 rfl
    have d10 := box_cell Y4.out 10 rfl
    have d11 := box_cell Y4.out 11 rfl
    have d12 := box_cell Y4.out 12 rfl
    have d13 := box_cell Y4.out 13 rfl
    have d14 := box_cell Y4.out 14 rfl
    have d15 := box_cell Y4.out 15 rfl
    go_wp2_with fail
    refine (lightC_any d LAx lcx IAx icx MAx mcx SAx scx w4 (HX.out.below B4.out)).mono ?_
    rintro e w5 ⟨rfl, hb5⟩
    have B5 := Lib.hid (B4.out.trans (hb5.mono B4.out.size))
    have X5 := Lib.hid ((hb5.block w.heap.size (lt_of_block X4.out)).trans X4.out)
    have Y5 := Lib.hid ((hb5.block (w.heap.size + 1) (lt_of_block Y4.out)).trans Y4.out)
    clear hb5 X4 Y4
    clear d0 d1 d2 d3 d4 d5 d6 d7 d8 d9 d10 d11 d12 d13 d14 d15
    cases hld : lightB d with
    | false =>
     go_wp2
     go_ret
     exact ⟨rfl, B5.out⟩

    | true =>
     have HLD := Lib.hid (lightB_yes hld)
     clear hld
     as_aux_lemma =>
      have c0 := box_cell X5.out 0 rfl
      have c1 := box_cell X5.out 1 rfl
      have c2 := box_cell X5.out 2 rfl
      have c3 := box_cell X5.out 3 rfl
      have c4 := box_cell X5.out 4 rfl
      have c5 := box_cell X5.out 5 rfl
      have c6 := box_cell X5.out 6 rfl
      have c7 := box_cell X5.out 7 rfl
      have c8 := box_cell X5.out 8 rfl
      have c9 := box_cell X5.out 9 rfl
      have c10 := box_cell X5.out 10 rfl
      have c11 := box_cell X5.out 11 rfl
      have c12 := box_cell X5.out 12 rfl
      have c13 := box_cell X5.out 13 rfl
      have c14 := box_cell X5.out 14 rfl
      have c15 := box_cell X5.out 15 rfl
      go_wp2_with fail
      refine (checkC_any c LA lc IA ic MA mc SA sc HLC.out w5 (HL.out.below B5.out) (H.out.below B5.out)).mono ?_
      rintro e w6 ⟨E6, rfl, hE6, hb6⟩
      have B6 := Lib.hid (B5.out.trans (hb6.mono B5.out.size))
      have X6 := Lib.hid ((hb6.block w.heap.size (lt_of_block X5.out)).trans X5.out)
      have Y6 := Lib.hid ((hb6.block (w.heap.size + 1) (lt_of_block Y5.out)).trans Y5.out)
      clear hb6 X5 Y5
      clear c0 c1 c2 c3 c4 c5 c6 c7 c8 c9 c10 c11 c12 c13 c14 c15
      rcases hE6.form with rfl | ⟨eu, ex, rfl⟩
      rotate_left
      · clear hE6
        go_wp2
        go_ret
        exact ⟨rfl, B6.out⟩

      have HC := Lib.hid (hE6.nil_iff.1 rfl)
      clear hE6
      as_aux_lemma =>
       have d0 := box_cell Y6.out 0 rfl
       have d1 := box_cell Y6.out 1 rfl
       have d2 := box_cell Y6.out 2 rfl
       have d3 := box_cell Y6.out 3 rfl
       have d4 := box_cell Y6.out 4 rfl
       have d5 := box_cell Y6.out 5 rfl
       have d6 := box_cell Y6.out 6 rfl
       have d7 := box_cell Y6.out 7 rfl
       have d8 := box_cell Y6.out 8 rfl
       have d9 := box_cell Y6.out 9 rfl
       have d10 := box_cell Y6.out 10 rfl
       have d11 := box_cell Y6.out 11 rfl
       have d12 := box_cell Y6.out 12 rfl
       have d13 := box_cell Y6.out 13 rfl
       have d14 := box_cell Y6.out 14 rfl
       have d15 := box_cell Y6.out 15 rfl
       go_wp2_with fail
       refine (checkC_any d LAx lcx IAx icx MAx mcx SAx scx HLD.out w6 (HL.out.below B6.out) (HX.out.below B6.out)).mono ?_
       rintro e w7 ⟨E7, rfl, hE7, hb7⟩
       have B7 := Lib.hid (B6.out.trans (hb7.mono B6.out.size))
       have X7 := Lib.hid ((hb7.block w.heap.size (lt_of_block X6.out)).trans X6.out)
       have Y7 := Lib.hid ((hb7.block (w.heap.size + 1) (lt_of_block Y6.out)).trans Y6.out)
       clear hb7 X6 Y6
       clear d0 d1 d2 d3 d4 d5 d6 d7 d8 d9 d10 d11 d12 d13 d14 d15
       rcases hE7.form with rfl | ⟨eu, ex, rfl⟩
       rotate_left
       · clear hE7
         go_wp2
         go_ret
         exact ⟨rfl, B7.out⟩

       have HD := Lib.hid (hE7.nil_iff.1 rfl)
       clear hE7
       as_aux_lemma =>
        have c0 := box_cell X7.out 0 rfl
        have c1 := box_cell X7.out 1 rfl
        have c2 := box_cell X7.out 2 rfl
        have c3 := box_cell X7.out 3 rfl
        have c4 := box_cell X7.out 4 rfl
        have c5 := box_cell X7.out 5 rfl
        have c6 := box_cell X7.out 6 rfl
        have c7 := box_cell X7.out 7 rfl
        have c8 := box_cell X7.out 8 rfl
        have c9 := box_cell X7.out 9 rfl
        have c10 := box_cell X7.out 10 rfl
        have c11 := box_cell X7.out 11 rfl
        have c12 := box_cell X7.out 12 rfl
        have c13 := box_cell X7.out 13 rfl
        have c14 := box_cell X7.out 14 rfl
        have c15 := box_cell X7.out 15 rfl
        go_wp2_with fail
        refine (bytesC_any c LA lc IA ic MA mc SA sc HLC.out w7 (HL.out.below B7.out) (H.out.below B7.out)).mono ?_
        rintro e w8 ⟨hb8, hcase⟩
        rcases hcase with ⟨_, rfl⟩ | ⟨hno, _⟩
        rotate_left
        · exact absurd HC.out hno
        obtain ⟨bs, hbs⟩ : ∃ bs : ByteArray, (⟨(putC c).toArray⟩ : ByteArray) = bs := ⟨_, rfl⟩
        rw [hbs]
        have HBS := Lib.hid hbs
        clear hbs
        have B8 := Lib.hid (B7.out.trans (hb8.mono B7.out.size))
        have X8 := Lib.hid ((hb8.block w.heap.size (lt_of_block X7.out)).trans X7.out)
        have Y8 := Lib.hid ((hb8.block (w.heap.size + 1) (lt_of_block Y7.out)).trans Y7.out)
        clear hb8 X7 Y7
        clear c0 c1 c2 c3 c4 c5 c6 c7 c8 c9 c10 c11 c12 c13 c14 c15
        as_aux_lemma =>
         have d0 := box_cell Y8.out 0 rfl
         have d1 := box_cell Y8.out 1 rfl
         have d2 := box_cell Y8.out 2 rfl
         have d3 := box_cell Y8.out 3 rfl
         have d4 := box_cell Y8.out 4 rfl
         have d5 := box_cell Y8.out 5 rfl
         have d6 := box_cell Y8.out 6 rfl
         have d7 := box_cell Y8.out 7 rfl
         have d8 := box_cell Y8.out 8 rfl
         have d9 := box_cell Y8.out 9 rfl
         have d10 := box_cell Y8.out 10 rfl
         have d11 := box_cell Y8.out 11 rfl
         have d12 := box_cell Y8.out 12 rfl
         have d13 := box_cell Y8.out 13 rfl
         have d14 := box_cell Y8.out 14 rfl
         have d15 := box_cell Y8.out 15 rfl
         go_wp2_with fail
         refine (bytesC_any d LAx lcx IAx icx MAx mcx SAx scx HLD.out w8 (HL.out.below B8.out) (HX.out.below B8.out)).mono ?_
         rintro e w9 ⟨hb9, hcase⟩
         rcases hcase with ⟨_, rfl⟩ | ⟨hno, _⟩
         rotate_left
         · exact absurd HD.out hno
         obtain ⟨bd, hbd⟩ : ∃ bd : ByteArray, (⟨(putC d).toArray⟩ : ByteArray) = bd := ⟨_, rfl⟩
         rw [hbd]
         have HBD := Lib.hid hbd
         clear hbd
         have B9 := Lib.hid (B8.out.trans (hb9.mono B8.out.size))
         have X9 := Lib.hid ((hb9.block w.heap.size (lt_of_block X8.out)).trans X8.out)
         have Y9 := Lib.hid ((hb9.block (w.heap.size + 1) (lt_of_block Y8.out)).trans Y8.out)
         clear hb9 X8 Y8
         clear d0 d1 d2 d3 d4 d5 d6 d7 d8 d9 d10 d11 d12 d13 d14 d15
         have HEQ := Lib.hid (bytes_same (c := c) (d := d) HC.out HD.out H.out.rev HX.out.rev HBS.out HBD.out)
         have HNO := Lib.hid (fun hlt : bs.size < bd.size => bytes_long (c := c) (d := d) HC.out HD.out H.out.rev HX.out.rev HBS.out HBD.out hlt)
         by_cases hlt : bs.size < bd.size
         · have hno := HNO.out hlt
           clear HNO
           as_aux_lemma =>
            have c0 := box_cell X9.out 0 rfl
            have c1 := box_cell X9.out 1 rfl
            have c2 := box_cell X9.out 2 rfl
            have c3 := box_cell X9.out 3 rfl
            have c4 := box_cell X9.out 4 rfl
            have c5 := box_cell X9.out 5 rfl
            have c6 := box_cell X9.out 6 rfl
            have c7 := box_cell X9.out 7 rfl
            have c8 := box_cell X9.out 8 rfl
            have c9 := box_cell X9.out 9 rfl
            have c10 := box_cell X9.out 10 rfl
            have c11 := box_cell X9.out 11 rfl
            have c12 := box_cell X9.out 12 rfl
            have c13 := box_cell X9.out 13 rfl
            have c14 := box_cell X9.out 14 rfl
            have c15 := box_cell X9.out 15 rfl
            have d0 := box_cell Y9.out 0 rfl
            have d1 := box_cell Y9.out 1 rfl
            have d2 := box_cell Y9.out 2 rfl
            have d3 := box_cell Y9.out 3 rfl
            have d4 := box_cell Y9.out 4 rfl
            have d5 := box_cell Y9.out 5 rfl
            have d6 := box_cell Y9.out 6 rfl
            have d7 := box_cell Y9.out 7 rfl
            have d8 := box_cell Y9.out 8 rfl
            have d9 := box_cell Y9.out 9 rfl
            have d10 := box_cell Y9.out 10 rfl
            have d11 := box_cell Y9.out 11 rfl
            have d12 := box_cell Y9.out 12 rfl
            have d13 := box_cell Y9.out 13 rfl
            have d14 := box_cell Y9.out 14 rfl
            have d15 := box_cell Y9.out 15 rfl
            go_wp2_with fail
            refine (sameC_any c d LA lc IA ic MA mc SA sc LAx lcx IAx icx MAx mcx SAx scx w9 (H.out.below B9.out) (HX.out.below B9.out)).mono ?_
            rintro e w10 ⟨rfl, hb10⟩
            have B10 := Lib.hid (B9.out.trans (hb10.mono B9.out.size))
            have X10 := Lib.hid ((hb10.block w.heap.size (lt_of_block X9.out)).trans X9.out)
            have Y10 := Lib.hid ((hb10.block (w.heap.size + 1) (lt_of_block Y9.out)).trans Y9.out)
            clear hb10 X9 Y9
            clear c0 c1 c2 c3 c4 c5 c6 c7 c8 c9 c10 c11 c12 c13 c14 c15 d0 d1 d2 d3 d4 d5 d6 d7 d8 d9 d10 d11 d12 d13 d14 d15
            have heq := HEQ.out
            rw [← heq]
            go_wp2
            go_ret
            exact ⟨Book.ret_b (by simp), B10.out⟩
         · skip
           clear HNO
           as_aux_lemma =>
            have c0 := box_cell X9.out 0 rfl
            have c1 := box_cell X9.out 1 rfl
            have c2 := box_cell X9.out 2 rfl
            have c3 := box_cell X9.out 3 rfl
            have c4 := box_cell X9.out 4 rfl
            have c5 := box_cell X9.out 5 rfl
            have c6 := box_cell X9.out 6 rfl
            have c7 := box_cell X9.out 7 rfl
            have c8 := box_cell X9.out 8 rfl
            have c9 := box_cell X9.out 9 rfl
            have c10 := box_cell X9.out 10 rfl
            have c11 := box_cell X9.out 11 rfl
            have c12 := box_cell X9.out 12 rfl
            have c13 := box_cell X9.out 13 rfl
            have c14 := box_cell X9.out 14 rfl
            have c15 := box_cell X9.out 15 rfl
            have d0 := box_cell Y9.out 0 rfl
            have d1 := box_cell Y9.out 1 rfl
            have d2 := box_cell Y9.out 2 rfl
            have d3 := box_cell Y9.out 3 rfl
            have d4 := box_cell Y9.out 4 rfl
            have d5 := box_cell Y9.out 5 rfl
            have d6 := box_cell Y9.out 6 rfl
            have d7 := box_cell Y9.out 7 rfl
            have d8 := box_cell Y9.out 8 rfl
            have d9 := box_cell Y9.out 9 rfl
            have d10 := box_cell Y9.out 10 rfl
            have d11 := box_cell Y9.out 11 rfl
            have d12 := box_cell Y9.out 12 rfl
            have d13 := box_cell Y9.out 13 rfl
            have d14 := box_cell Y9.out 14 rfl
            have d15 := box_cell Y9.out 15 rfl
            go_wp2_with fail
            refine (sameC_any c d LA lc IA ic MA mc SA sc LAx lcx IAx icx MAx mcx SAx scx w9 (H.out.below B9.out) (HX.out.below B9.out)).mono ?_
            rintro e w10 ⟨rfl, hb10⟩
            have B10 := Lib.hid (B9.out.trans (hb10.mono B9.out.size))
            have X10 := Lib.hid ((hb10.block w.heap.size (lt_of_block X9.out)).trans X9.out)
            have Y10 := Lib.hid ((hb10.block (w.heap.size + 1) (lt_of_block Y9.out)).trans Y9.out)
            clear hb10 X9 Y9
            clear c0 c1 c2 c3 c4 c5 c6 c7 c8 c9 c10 c11 c12 c13 c14 c15 d0 d1 d2 d3 d4 d5 d6 d7 d8 d9 d10 d11 d12 d13 d14 d15
            have heq := HEQ.out
            rw [← heq]
            go_wp2
            go_ret
            exact ⟨Book.ret_b (by simp), B10.out⟩
end Go.Proofs.YtakdhkhcndeiiaaGreatDoor.AskUnlikeWalk
