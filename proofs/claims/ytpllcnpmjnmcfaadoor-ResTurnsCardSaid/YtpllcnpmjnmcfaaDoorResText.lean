/-
  Package res: Text, and the document's. What was there is left as it was. Conditions: the numbers are 64-bit integers; strconv's table of powers holds what the program's text lays.
-/
import Derived.Test.YtpllcnpmjnmcfaaDoorResCalls
import Derived.Test.YtpllcnpmjnmcfaaDoorRegionSlots
import Derived.Test.YtpllcnpmjnmcfaaDoorNumItoa
import Derived.Test.YtpllcnpmjnmcfaaDoorNumRefText
import Derived.Lib.Join
import Derived.Laws.Concat
import Derived.LoopN
set_option linter.unusedVariables false
set_option linter.unusedSimpArgs false
namespace Go.Proofs.YtpllcnpmjnmcfaaDoor
open Go.ChangeShapes Go.WideShapes Go.ChangeAt Go.RowKit Go.Lib
open NumMath
namespace Re
def tx (n : Int) : ByteArray := ⟨(itoa n).toArray⟩
def textR (a : Rx) : ByteArray := tx a.c ++ ⟨#[47]⟩ ++ tx a.m ++ ⟨#[47]⟩ ++ tx a.p
theorem tx_size {n : Int} (h : fits n = true) : (tx n).size ≤ 21 := by
  have := fits_iff.1 h
  have := itoa_length_le n (by omega) (by omega)
  show (itoa n).toArray.size ≤ 21
  simpa using this
theorem textR_join (a : Rx) : (⟨(Lib.join ([tx a.c, tx a.m, tx a.p].map (·.data.toList)) [47]).toArray⟩ : ByteArray) = textR a := by
  apply ByteArray.ext
  apply Array.toList_inj.1
  simp [textR, tx, Lib.join]
set_option maxRecDepth 100000 in
set_option maxHeartbeats 2000000 in
theorem text_any (a : Rx) (ha : a.Ok) (w : World) (hT : NumText.Tab w) : Calls Tryd.prog 17 #[.agg #[.int .i64 a.c, .int .i64 a.m, .int .i64 a.p]] w fun e w' => e = .returned (.string (textR a)) ∧ Below w.heap.size w w' := by
  have HA := Lib.hid ha
  have HT := Lib.hid hT
  clear ha hT
  have hb0 := fits_iff.1 HA.out.c
  have hb1 := fits_iff.1 HA.out.m
  have hb2 := fits_iff.1 HA.out.p
  have i0 : ∀ w, (Instr.index 56 (.agg #[.int .i64 a.c, .int .i64 a.m, .int .i64 a.p]) (.int .i64 0)).run Tryd.prog w = .ok (.int .i64 a.c) w := fun _ => by kernel_rfl
  have i1 : ∀ w, (Instr.index 56 (.agg #[.int .i64 a.c, .int .i64 a.m, .int .i64 a.p]) (.int .i64 1)).run Tryd.prog w = .ok (.int .i64 a.m) w := fun _ => by kernel_rfl
  have i2 : ∀ w, (Instr.index 56 (.agg #[.int .i64 a.c, .int .i64 a.m, .int .i64 a.p]) (.int .i64 2)).run Tryd.prog w = .ok (.int .i64 a.p) w := fun _ => by kernel_rfl
  obtain ⟨w0, hw0⟩ : ∃ v, (w.alloc (.cells #[.int .i64 a.c, .int .i64 a.m, .int .i64 a.p] 23)).alloc (.cells #[.string ⟨#[]⟩, .string ⟨#[]⟩, .string ⟨#[]⟩] 59) = v := ⟨_, rfl⟩
  have X := Lib.hid (show w0.heap[w.heap.size]? = some (.cells #[.int .i64 a.c, .int .i64 a.m, .int .i64 a.p] 23 (0, 0)) by rw [← hw0, Below.heap_alloc _ _ _ (by simp)]; exact heap_alloc_new w _)
  have G0 := Lib.hid (show w0.heap[w.heap.size + 1]? = some (.cells #[.string ⟨#[]⟩, .string ⟨#[]⟩, .string ⟨#[]⟩] 59 (0, 0)) by rw [← hw0]; have := heap_alloc_new (w.alloc (.cells #[.int .i64 a.c, .int .i64 a.m, .int .i64 a.p] 23)) (.cells #[.string ⟨#[]⟩, .string ⟨#[]⟩, .string ⟨#[]⟩] 59); simpa using this)
  have B0 := Lib.hid (show Below w.heap.size w w0 by rw [← hw0]; go_grown)
  have RX := Lib.hid (range_box (cs := R3 a) X.out)
  go_enter Tryd.func17, Tryd.ntmps17
  go_wp2_with (first | (refine wpList_load_mid rfl 23 _ rfl _ _ rfl _ _ RX.out Tryd.underlying23 rfl (by kernel_rfl) ?_))
  refine (apart_any _ _ _ w0).mono ?_
  rintro e w1 ⟨rfl, hb⟩
  have G1 := Lib.hid ((hb.block _ (lt_of_at G0.out)).trans G0.out)
  have B1 := Lib.hid (B0.out.trans (hb.mono B0.out.size))
  clear hb hw0 X RX G0 B0
  go_wp2_with fail
  refine wp_loop_rounds 4 ?_
  rw [rounds_succ]
  go_wp2_with fail
  refine (NumText.numtext_any a.c w1 hb0.1 hb0.2 (HT.out.below B1.out)).mono ?_
  rintro e w2 ⟨rfl, hb⟩
  rw [show (⟨(itoa a.c).toArray⟩ : ByteArray) = tx a.c from rfl]
  have G2 := Lib.hid ((hb.block _ (lt_of_at G1.out)).trans G1.out)
  have B2 := Lib.hid (B1.out.trans (hb.mono B1.out.size))
  have cg := cell_of G2.out 0 rfl
  have fg := free_of G2.out 0
  obtain ⟨v2, hv2⟩ : ∃ v, w2.setCell ⟨w.heap.size + 1, 0, none⟩ (.string (tx a.c)) = v := ⟨_, rfl⟩
  have G3 := Lib.hid (show v2.heap[w.heap.size + 1]? = some (.cells #[.string (tx a.c), .string ⟨#[]⟩, .string ⟨#[]⟩] 59 (0, 0)) by rw [← hv2]; have := heap_setCell_same w2 (w.heap.size + 1) 0 _ _ (.string (tx a.c)) G2.out; simpa using this)
  have B3 := Lib.hid (show Below w.heap.size w v2 by rw [← hv2]; exact B2.out.setCell (p := ⟨w.heap.size + 1, 0, none⟩) (by show w.heap.size ≤ w.heap.size + 1; omega) _)
  clear hb G1 B1
  go_wp2_with fail
  clear cg fg hv2 G2 B2
  rw [rounds_succ]
  go_wp2_with fail
  refine (NumText.numtext_any a.m v2 hb1.1 hb1.2 (HT.out.below B3.out)).mono ?_
  rintro e w3 ⟨rfl, hb⟩
  rw [show (⟨(itoa a.m).toArray⟩ : ByteArray) = tx a.m from rfl]
  have G4 := Lib.hid ((hb.block _ (lt_of_at G3.out)).trans G3.out)
  have B4 := Lib.hid (B3.out.trans (hb.mono B3.out.size))
  have cg := cell_of G4.out 1 rfl
  have fg := free_of G4.out 1
  obtain ⟨v3, hv3⟩ : ∃ v, w3.setCell ⟨w.heap.size + 1, 1, none⟩ (.string (tx a.m)) = v := ⟨_, rfl⟩
  have G5 := Lib.hid (show v3.heap[w.heap.size + 1]? = some (.cells #[.string (tx a.c), .string (tx a.m), .string ⟨#[]⟩] 59 (0, 0)) by rw [← hv3]; have := heap_setCell_same w3 (w.heap.size + 1) 1 _ _ (.string (tx a.m)) G4.out; simpa using this)
  have B5 := Lib.hid (show Below w.heap.size w v3 by rw [← hv3]; exact B4.out.setCell (p := ⟨w.heap.size + 1, 1, none⟩) (by show w.heap.size ≤ w.heap.size + 1; omega) _)
  clear hb G3 B3
  go_wp2_with fail
  clear cg fg hv3 G4 B4
  rw [rounds_succ]
  go_wp2_with fail
  refine (NumText.numtext_any a.p v3 hb2.1 hb2.2 (HT.out.below B5.out)).mono ?_
  rintro e w4 ⟨rfl, hb⟩
  rw [show (⟨(itoa a.p).toArray⟩ : ByteArray) = tx a.p from rfl]
  have G6 := Lib.hid ((hb.block _ (lt_of_at G5.out)).trans G5.out)
  have B6 := Lib.hid (B5.out.trans (hb.mono B5.out.size))
  have cg := cell_of G6.out 2 rfl
  have fg := free_of G6.out 2
  obtain ⟨v4, hv4⟩ : ∃ v, w4.setCell ⟨w.heap.size + 1, 2, none⟩ (.string (tx a.p)) = v := ⟨_, rfl⟩
  have G7 := Lib.hid (show v4.heap[w.heap.size + 1]? = some (.cells #[.string (tx a.c), .string (tx a.m), .string (tx a.p)] 59 (0, 0)) by rw [← hv4]; have := heap_setCell_same w4 (w.heap.size + 1) 2 _ _ (.string (tx a.p)) G6.out; simpa using this)
  have B7 := Lib.hid (show Below w.heap.size w v4 by rw [← hv4]; exact B6.out.setCell (p := ⟨w.heap.size + 1, 2, none⟩) (by show w.heap.size ≤ w.heap.size + 1; omega) _)
  clear hb G5 B5
  go_wp2_with fail
  clear cg fg hv4 G6 B6
  rw [rounds_succ]
  go_wp2_with fail
  have t0 := tx_size HA.out.c
  have t1 := tx_size HA.out.m
  have t2 := tx_size HA.out.p
  refine (Any.strings_Join Tryd.lays156 Tryd.Builder_Extra_156 (w.heap.size + 1) 0 3 [tx a.c, tx a.m, tx a.p] ⟨#[47]⟩ v4 ?_ (lt_of_at G7.out) (by simp) (by simp) ?_).mono ?_
  · intro j x hx
    rcases j with _ | _ | _ | j
    · injection hx with hx; subst hx; exact cell_of G7.out 0 rfl
    · injection hx with hx; subst hx; exact cell_of G7.out 1 rfl
    · injection hx with hx; subst hx; exact cell_of G7.out 2 rfl
    · simp at hx
  · simp [Lib.join]
    have e0 : (tx a.c).data.size = (tx a.c).size := rfl
    have e1 : (tx a.m).data.size = (tx a.m).size := rfl
    have e2 : (tx a.p).data.size = (tx a.p).size := rfl
    omega
  · rintro e w5 ⟨rfl, hb⟩
    have HE := Lib.hid (textR_join a)
    have B8 := Lib.hid (B7.out.trans (hb.mono B7.out.size))
    obtain ⟨z, hz⟩ : ∃ z : ByteArray, (⟨(Lib.join ([tx a.c, tx a.m, tx a.p].map (·.data.toList)) [47]).toArray⟩ : ByteArray) = z := ⟨_, rfl⟩
    rw [hz] at HE
    first | rw [hz] | (have hz' := hz; simp only [List.map_cons, List.map_nil] at hz'; rw [hz'])
    clear hb hz
    go_wp2_with fail
    go_ret
    rw [HE.out]
    exact ⟨rfl, B8.out⟩
def FT (a : Rx) (g : Nat) : Nat → Value → Prop
  | 0, v => v = .pointer (some ⟨g, 0, none⟩)
  | 1, v => v = .int .i64 a.c
  | 2, v => v = .string (tx a.c)
  | 3, v => v = .string (tx a.c ++ ⟨#[47]⟩)
  | 4, v => v = .pointer (some ⟨g, 1, none⟩)
  | 5, v => v = .int .i64 a.m
  | 6, v => v = .string (tx a.m)
  | 7, v => v = .string (tx a.c ++ ⟨#[47]⟩ ++ tx a.m)
  | 8, v => v = .string (tx a.c ++ ⟨#[47]⟩ ++ tx a.m ++ ⟨#[47]⟩)
  | 9, v => v = .pointer (some ⟨g, 2, none⟩)
  | 10, v => v = .int .i64 a.p
  | 11, v => v = .string (tx a.p)
  | _, v => v = .string (textR a)
set_option maxRecDepth 100000 in
set_option maxHeartbeats 2000000 in
theorem reftext_any (a : Rx) (ha : a.Ok) (w : World) : Calls Tryd.prog 18 #[.agg #[.int .i64 a.c, .int .i64 a.m, .int .i64 a.p]] w fun e w' => e = .returned (.string (textR a)) ∧ Below w.heap.size w w' := by
  have hb0 := fits_iff.1 ha.c
  have hb1 := fits_iff.1 ha.m
  have hb2 := fits_iff.1 ha.p
  have t0 := tx_size ha.c
  have t1 := tx_size ha.m
  have t2 := tx_size ha.p
  have s1 : (tx a.c ++ ⟨#[47]⟩ : ByteArray).size ≤ 22 := by rw [ByteArray.size_append]; show _ + 1 ≤ _; omega
  have s2 : (tx a.c ++ ⟨#[47]⟩ ++ tx a.m : ByteArray).size ≤ 43 := by rw [ByteArray.size_append]; omega
  have s3 : (tx a.c ++ ⟨#[47]⟩ ++ tx a.m ++ ⟨#[47]⟩ : ByteArray).size ≤ 44 := by rw [ByteArray.size_append]; show _ + 1 ≤ _; omega
  have a1 : ∀ v, (Op.stringOp .add (tx a.c) ⟨#[47]⟩).run Tryd.prog v = .ok (.string (tx a.c ++ ⟨#[47]⟩)) v := fun v => run_string_add_sum v _ _ (by show _ + 1 ≤ _; omega)
  have a2 : ∀ v, (Op.stringOp .add (tx a.c ++ ⟨#[47]⟩) (tx a.m)).run Tryd.prog v = .ok (.string (tx a.c ++ ⟨#[47]⟩ ++ tx a.m)) v := fun v => run_string_add_sum v _ _ (by omega)
  have a3 : ∀ v, (Op.stringOp .add (tx a.c ++ ⟨#[47]⟩ ++ tx a.m) ⟨#[47]⟩).run Tryd.prog v = .ok (.string (tx a.c ++ ⟨#[47]⟩ ++ tx a.m ++ ⟨#[47]⟩)) v := fun v => run_string_add_sum v _ _ (by show _ + 1 ≤ _; omega)
  have a4 : ∀ v, (Op.stringOp .add (tx a.c ++ ⟨#[47]⟩ ++ tx a.m ++ ⟨#[47]⟩) (tx a.p)).run Tryd.prog v = .ok (.string (textR a)) v := fun v => run_string_add_sum v _ _ (by omega)
  have H := Lib.hid ha
  clear ha t0 t1 t2 s1 s2 s3
  obtain ⟨w0, hw0⟩ : ∃ v, w.alloc (.cells #[.int .i64 a.c, .int .i64 a.m, .int .i64 a.p] 23) = v := ⟨_, rfl⟩
  have X := Lib.hid (show w0.heap[w.heap.size]? = some (.cells #[.int .i64 a.c, .int .i64 a.m, .int .i64 a.p] 23 (0, 0)) by rw [← hw0]; exact heap_alloc_new w _)
  have B0 := Lib.hid (show Below w.heap.size w w0 by rw [← hw0]; go_grown)
  go_enter Tryd.func18, Tryd.ntmps18
  go_wp2_with fail
  clear hw0
  refine Slt.wp_region (by kernel_rfl) (FT a w.heap.size) (fun _ v => Below w0.heap.size w0 v) (by kernel_rfl) (Below.drew (Below.refl _ _)) ?_ ?_
  · refine ⟨?_, ?_, ?_, ?_, ?_, ?_, ?_, ?_, ?_, ?_, ?_, ?_, ?_, ?_, trivial⟩
    · intro s a_ u hs hd hfr hpo hJ
      have f0 : a_.tmps.getD 1 undef = .pointer (some ⟨w.heap.size, 0, none⟩) := hfr 1 (by kernel_rfl)
      refine .inl ⟨rfl, ?_⟩
      unfold Oper.wp
      rw [show (execOp a_.eval _).run Tryd.prog u = .ok (.value (.pointer (some ⟨w.heap.size, 0, none⟩))) u from by simp [go_sem, Act.eval, f0]]
      exact ⟨_, rfl, rfl, hJ⟩
    · intro s a_ u hs hd hfr hpo hJ
      have e1 : a_.tmps.getD 3 undef = .pointer (some ⟨w.heap.size, 0, none⟩) := hpo 0 3 (by kernel_rfl)
      have cx : u.cell? ⟨w.heap.size, 0, none⟩ = some (.int .i64 a.c) := cell_of ((hJ.block _ (lt_of_at X.out)).trans X.out) 0 rfl
      refine .inl ⟨rfl, ?_⟩
      unfold Oper.wp
      rw [show (execOp a_.eval _).run Tryd.prog u = .ok (.value (.int .i64 a.c)) u from by simp [go_sem, Act.eval, e1, cx]]
      exact ⟨_, rfl, rfl, hJ⟩
    · intro s a_ u hs hd hfr hpo hJ
      have e1 : a_.tmps.getD 4 undef = .int .i64 a.c := hpo 1 4 (by kernel_rfl)
      refine .inl ⟨rfl, ?_⟩
      unfold Oper.wp
      rw [show (execOp a_.eval _).run Tryd.prog u = .ok (.enter 40 #[.int .i64 a.c]) u from by simp [go_sem, Act.eval, e1]]
      refine Calls.mono (NumRefText.refText_any a.c u hb0.1 hb0.2) ?_
      rintro e u2 ⟨rfl, hb⟩
      exact ⟨_, rfl, rfl, hJ.trans (hb.mono hJ.size)⟩
    · intro s a_ u hs hd hfr hpo hJ
      have e0 : a_.tmps.getD 5 undef = .string (tx a.c) := hpo 2 5 (by kernel_rfl)
      refine .inl ⟨rfl, ?_⟩
      unfold Oper.wp
      rw [show (execOp a_.eval _).run Tryd.prog u = .ok (.value (.string (tx a.c ++ ⟨#[47]⟩))) u from by simp [go_sem, Act.eval, e0, a1]]
      exact ⟨_, rfl, rfl, hJ⟩
    · intro s a_ u hs hd hfr hpo hJ
      have f0 : a_.tmps.getD 1 undef = .pointer (some ⟨w.heap.size, 0, none⟩) := hfr 1 (by kernel_rfl)
      refine .inl ⟨rfl, ?_⟩
      unfold Oper.wp
      rw [show (execOp a_.eval _).run Tryd.prog u = .ok (.value (.pointer (some ⟨w.heap.size, 1, none⟩))) u from by simp [go_sem, Act.eval, f0]]
      exact ⟨_, rfl, rfl, hJ⟩
    · intro s a_ u hs hd hfr hpo hJ
      have e1 : a_.tmps.getD 7 undef = .pointer (some ⟨w.heap.size, 1, none⟩) := hpo 4 7 (by kernel_rfl)
      have cx : u.cell? ⟨w.heap.size, 1, none⟩ = some (.int .i64 a.m) := cell_of ((hJ.block _ (lt_of_at X.out)).trans X.out) 1 rfl
      refine .inl ⟨rfl, ?_⟩
      unfold Oper.wp
      rw [show (execOp a_.eval _).run Tryd.prog u = .ok (.value (.int .i64 a.m)) u from by simp [go_sem, Act.eval, e1, cx]]
      exact ⟨_, rfl, rfl, hJ⟩
    · intro s a_ u hs hd hfr hpo hJ
      have e1 : a_.tmps.getD 8 undef = .int .i64 a.m := hpo 5 8 (by kernel_rfl)
      refine .inl ⟨rfl, ?_⟩
      unfold Oper.wp
      rw [show (execOp a_.eval _).run Tryd.prog u = .ok (.enter 40 #[.int .i64 a.m]) u from by simp [go_sem, Act.eval, e1]]
      refine Calls.mono (NumRefText.refText_any a.m u hb1.1 hb1.2) ?_
      rintro e u2 ⟨rfl, hb⟩
      exact ⟨_, rfl, rfl, hJ.trans (hb.mono hJ.size)⟩
    · intro s a_ u hs hd hfr hpo hJ
      have e0 : a_.tmps.getD 6 undef = .string (tx a.c ++ ⟨#[47]⟩) := hpo 3 6 (by kernel_rfl)
      have e1 : a_.tmps.getD 9 undef = .string (tx a.m) := hpo 6 9 (by kernel_rfl)
      refine .inl ⟨rfl, ?_⟩
      unfold Oper.wp
      rw [show (execOp a_.eval _).run Tryd.prog u = .ok (.value (.string (tx a.c ++ ⟨#[47]⟩ ++ tx a.m))) u from by simp [go_sem, Act.eval, e0, e1, a2]]
      exact ⟨_, rfl, rfl, hJ⟩
    · intro s a_ u hs hd hfr hpo hJ
      have e0 : a_.tmps.getD 10 undef = .string (tx a.c ++ ⟨#[47]⟩ ++ tx a.m) := hpo 7 10 (by kernel_rfl)
      refine .inl ⟨rfl, ?_⟩
      unfold Oper.wp
      rw [show (execOp a_.eval _).run Tryd.prog u = .ok (.value (.string (tx a.c ++ ⟨#[47]⟩ ++ tx a.m ++ ⟨#[47]⟩))) u from by simp [go_sem, Act.eval, e0, a3]]
      exact ⟨_, rfl, rfl, hJ⟩
    · intro s a_ u hs hd hfr hpo hJ
      have f0 : a_.tmps.getD 1 undef = .pointer (some ⟨w.heap.size, 0, none⟩) := hfr 1 (by kernel_rfl)
      refine .inl ⟨rfl, ?_⟩
      unfold Oper.wp
      rw [show (execOp a_.eval _).run Tryd.prog u = .ok (.value (.pointer (some ⟨w.heap.size, 2, none⟩))) u from by simp [go_sem, Act.eval, f0]]
      exact ⟨_, rfl, rfl, hJ⟩
    · intro s a_ u hs hd hfr hpo hJ
      have e1 : a_.tmps.getD 12 undef = .pointer (some ⟨w.heap.size, 2, none⟩) := hpo 9 12 (by kernel_rfl)
      have cx : u.cell? ⟨w.heap.size, 2, none⟩ = some (.int .i64 a.p) := cell_of ((hJ.block _ (lt_of_at X.out)).trans X.out) 2 rfl
      refine .inl ⟨rfl, ?_⟩
      unfold Oper.wp
      rw [show (execOp a_.eval _).run Tryd.prog u = .ok (.value (.int .i64 a.p)) u from by simp [go_sem, Act.eval, e1, cx]]
      exact ⟨_, rfl, rfl, hJ⟩
    · intro s a_ u hs hd hfr hpo hJ
      have e1 : a_.tmps.getD 13 undef = .int .i64 a.p := hpo 10 13 (by kernel_rfl)
      refine .inl ⟨rfl, ?_⟩
      unfold Oper.wp
      rw [show (execOp a_.eval _).run Tryd.prog u = .ok (.enter 40 #[.int .i64 a.p]) u from by simp [go_sem, Act.eval, e1]]
      refine Calls.mono (NumRefText.refText_any a.p u hb2.1 hb2.2) ?_
      rintro e u2 ⟨rfl, hb⟩
      exact ⟨_, rfl, rfl, hJ.trans (hb.mono hJ.size)⟩
    · intro s a_ u hs hd hfr hpo hJ
      have e0 : a_.tmps.getD 11 undef = .string (tx a.c ++ ⟨#[47]⟩ ++ tx a.m ++ ⟨#[47]⟩) := hpo 8 11 (by kernel_rfl)
      have e1 : a_.tmps.getD 14 undef = .string (tx a.p) := hpo 11 14 (by kernel_rfl)
      refine .inl ⟨rfl, ?_⟩
      unfold Oper.wp
      rw [show (execOp a_.eval _).run Tryd.prog u = .ok (.value (.string (textR a))) u from by simp [go_sem, Act.eval, e0, e1, a4]]
      exact ⟨_, rfl, rfl, hJ⟩
    · intro s a_ u hs hd hfr hpo hJ
      have e0 : a_.tmps.getD 15 undef = .string (textR a) := hpo 12 15 (by kernel_rfl)
      refine .inl ⟨rfl, ?_⟩
      unfold Oper.wp
      rw [show (execOp a_.eval _).run Tryd.prog u = .ok (.value (.string (textR a))) u from by simp [go_sem, Act.eval, e0]]
      exact ⟨_, rfl, rfl, hJ⟩
  · intro s V u hall hF hJ
    have e13 : V 13 = .string (textR a) := hF 13 _ _ rfl rfl
    have B2 := Lib.hid (B0.out.trans (hJ.mono B0.out.size))
    clear hall hF hJ
    simp only [Bxs.puts, Nat.reduceAdd, put_none, put_lit, List.set_cons_succ, List.set_cons_zero]
    rw [e13]
    go_wp2_with fail
    go_ret
    exact ⟨rfl, B2.out⟩
end Re
end Go.Proofs.YtpllcnpmjnmcfaaDoor
