/-
 The contracts of provostlaw08.light and provostbook.SameCall: is a call not too much; are two calls the same. All that was there is left as it was. No condition.
-/
import Derived.Test.YtakdhkhcndeiiaaGreatDoorAskAll
import Derived.Test.YtakdhkhcndeiiaaGreatDoorSpecDataAll
set_option linter.unusedVariables false
set_option linter.unusedSimpArgs false
namespace Go.Proofs.YtakdhkhcndeiiaaGreatDoor
open Go.ChangeShapes Go.WideShapes Go.ChangeAt Go.RowKit Go.Lib
open LebMath WirePure Sd Wire SpecOwn SpecRef Book Pk
namespace Ak

def selS (c : Cal) : Spc := ⟨⟨#[]⟩, c.sel, [], [], 0, 0, 0⟩
def lightB (c : Cal) : Bool := LightB c.spec && LightB (selS c) && decide (c.data.size < 300)
theorem lightB_yes {c : Cal} (h : lightB c = true) : LightC c := by
 unfold lightB at h
 simp only [Bool.and_eq_true, decide_eq_true_eq] at h
 obtain ⟨⟨h1, h2⟩, h3⟩ := h
 have h4 := LightB_iff.1 h2
 exact ⟨LightB_iff.1 h1, ⟨h4.1.2.1, h4.2.1⟩, h3⟩
theorem i64_0 : I64 0 := by unfold I64; decide
theorem sel_in {c : Cal} {w : World} {SA : Option Addr} {sc : Nat} (h : Lbls w SA c.sel) (hn : c.sel.length ≤ 9223372036854775807) : (selS c).In w SA sc none 0 none 0 :=
 ⟨h, fun k x hk => (by simp [selS] at hk), fun k x hk => (by simp [selS] at hk), hn, by simp [selS], by simp [selS], i64_0, i64_0, i64_0⟩

set_option maxRecDepth 100000 in
theorem lightC_any (c : Cal) (LA : Option Addr) (lc : Nat) (IA : Option Addr) (ic : Nat) (MA : Option Addr) (mc : Nat) (SA : Option Addr) (sc : Nat) (w : World) (h : c.In w LA lc IA ic MA mc SA) :
 Calls Tryz.prog 19 #[.agg #[.int .i64 c.kind, .int .i64 c.uid, .int .u64 c.rev, .string c.spec.name, .slice LA c.spec.labels.length lc, .slice IA c.spec.init.length ic, .slice MA c.spec.main.length mc, .int .i64 c.spec.restart, .int .i64 c.spec.grace, .int .i64 c.spec.prio, .int .i64 c.grace, .int .i64 c.ctr, .int .i64 c.id, .int .i64 c.most, .string c.data, .slice SA c.sel.length sc]] w fun e w' => e = .returned (.bool (lightB c)) ∧ Below w.heap.size w w' := by
 have H := Lib.hid h
 obtain ⟨w1, hw1⟩ : ∃ v, w.alloc (.cells #[.int .i64 c.kind, .int .i64 c.uid, .int .u64 c.rev, .string c.spec.name, .slice LA c.spec.labels.length lc, .slice IA c.spec.init.length ic, .slice MA c.spec.main.length mc, .int .i64 c.spec.restart, .int .i64 c.spec.grace, .int .i64 c.spec.prio, .int .i64 c.grace, .int .i64 c.ctr, .int .i64 c.id, .int .i64 c.most, .string c.data, .slice SA c.sel.length sc] 41) = v := ⟨_, rfl⟩
 have B1 := Lib.hid (show Below w.heap.size w w1 by rw [← hw1]; exact (Below.refl _ _).alloc (Nat.le_refl _) _)
 have X := Lib.hid (show w1.heap[w.heap.size]? = some (.cells #[.int .i64 c.kind, .int .i64 c.uid, .int .u64 c.rev, .string c.spec.name, .slice LA c.spec.labels.length lc, .slice IA c.spec.init.length ic, .slice MA c.spec.main.length mc, .int .i64 c.spec.restart, .int .i64 c.spec.grace, .int .i64 c.spec.prio, .int .i64 c.grace, .int .i64 c.ctr, .int .i64 c.id, .int .i64 c.most, .string c.data, .slice SA c.sel.length sc] 41) by rw [← hw1]; exact heap_alloc_new w _)
 clear h
 have c3 := box_cell X.out 3 rfl
 have c4 := box_cell X.out 4 rfl
 have c5 := box_cell X.out 5 rfl
 have c6 := box_cell X.out 6 rfl
 have c7 := box_cell X.out 7 rfl
 have c8 := box_cell X.out 8 rfl
 have c9 := box_cell X.out 9 rfl
 obtain ⟨b1, hb1⟩ : ∃ b, LightB c.spec = b := ⟨_, rfl⟩
 obtain ⟨b2, hb2⟩ : ∃ b, LightB (selS c) = b := ⟨_, rfl⟩
 have HL := Lib.hid (show lightB c = (b1 && b2 && decide (c.data.size < 300)) by unfold lightB; rw [hb1, hb2])
 have HB1 := Lib.hid hb1
 have HB2 := Lib.hid hb2
 clear hb1 hb2
 go_enter Tryz.func19, Tryz.ntmps19
 go_wp2_with fail
 refine (light_any c.spec LA lc IA ic MA mc w1 (H.out.spec.below B1.out)).mono ?_
 rintro e w2 ⟨rfl, hb⟩
 have B2 := Lib.hid (B1.out.trans (hb.mono B1.out.size))
 have X2 := Lib.hid ((hb.block w.heap.size (lt_of_block X.out)).trans X.out)
 clear hb X hw1 c3 c4 c5 c6 c7 c8 c9
 rw [HB1.out]
 cases b1 with
 | false =>
  go_wp2
  go_ret
  exact ⟨by rw [HL.out]; rfl, B2.out⟩
 | true =>
  have c15 := box_cell X2.out 15 rfl
  go_wp2_with fail
  refine (light_any (selS c) SA sc none 0 none 0 w2 (sel_in (H.out.sel.below B2.out) H.out.ns)).mono ?_
  rintro e w3 ⟨rfl, hb⟩
  have B3 := Lib.hid (B2.out.trans (hb.mono B2.out.size))
  have X3 := Lib.hid ((hb.block w.heap.size (lt_of_block X2.out)).trans X2.out)
  clear hb X2 c15
  rw [HB2.out]
  cases b2 with
  | false =>
   go_wp2
   go_ret
   exact ⟨by rw [HL.out]; rfl, B3.out⟩
  | true =>
   have c14 := box_cell X3.out 14 rfl
   by_cases hd : c.data.size < 300
   · have hd' : (c.data.size : Int) < 300 := by omega
     have HD := Lib.hid (show lightB c = true by rw [HL.out, decide_eq_true hd]; rfl)
     clear hd
     go_wp2
     go_ret
     exact ⟨by rw [HD.out]; rfl, B3.out⟩
   · have hd' : ¬ (c.data.size : Int) < 300 := by omega
     have HD := Lib.hid (show lightB c = false by rw [HL.out, decide_eq_false hd]; rfl)
     clear hd
     go_wp2
     go_ret
     exact ⟨by rw [HD.out]; first | rfl | simp [hd'], B3.out⟩

set_option maxRecDepth 100000 in
set_option maxHeartbeats 1000000 in
theorem sameC_yes (c : Cal) (LA : Option Addr) (lc : Nat) (IA : Option Addr) (ic : Nat) (MA : Option Addr) (mc : Nat) (SA : Option Addr) (sc : Nat) (LAx : Option Addr) (lcx : Nat) (IAx : Option Addr) (icx : Nat) (MAx : Option Addr) (mcx : Nat) (SAx : Option Addr) (scx : Nat) (w : World) (h : c.In w LA lc IA ic MA mc SA) (hx : c.In w LAx lcx IAx icx MAx mcx SAx) :
 Calls Tryz.prog 28 #[.agg #[.int .i64 c.kind, .int .i64 c.uid, .int .u64 c.rev, .string c.spec.name, .slice LA c.spec.labels.length lc, .slice IA c.spec.init.length ic, .slice MA c.spec.main.length mc, .int .i64 c.spec.restart, .int .i64 c.spec.grace, .int .i64 c.spec.prio, .int .i64 c.grace, .int .i64 c.ctr, .int .i64 c.id, .int .i64 c.most, .string c.data, .slice SA c.sel.length sc], .agg #[.int .i64 c.kind, .int .i64 c.uid, .int .u64 c.rev, .string c.spec.name, .slice LAx c.spec.labels.length lcx, .slice IAx c.spec.init.length icx, .slice MAx c.spec.main.length mcx, .int .i64 c.spec.restart, .int .i64 c.spec.grace, .int .i64 c.spec.prio, .int .i64 c.grace, .int .i64 c.ctr, .int .i64 c.id, .int .i64 c.most, .string c.data, .slice SAx c.sel.length scx]] w fun e w' => e = .returned (.bool true) ∧ Below w.heap.size w w' := by
 have H := Lib.hid h
 have HX := Lib.hid hx
 clear h hx
 obtain ⟨w2, hw2⟩ : ∃ v, (w.alloc (.cells #[.int .i64 c.kind, .int .i64 c.uid, .int .u64 c.rev, .string c.spec.name, .slice LA c.spec.labels.length lc, .slice IA c.spec.init.length ic, .slice MA c.spec.main.length mc, .int .i64 c.spec.restart, .int .i64 c.spec.grace, .int .i64 c.spec.prio, .int .i64 c.grace, .int .i64 c.ctr, .int .i64 c.id, .int .i64 c.most, .string c.data, .slice SA c.sel.length sc] 41)).alloc (.cells #[.int .i64 c.kind, .int .i64 c.uid, .int .u64 c.rev, .string c.spec.name, .slice LAx c.spec.labels.length lcx, .slice IAx c.spec.init.length icx, .slice MAx c.spec.main.length mcx, .int .i64 c.spec.restart, .int .i64 c.spec.grace, .int .i64 c.spec.prio, .int .i64 c.grace, .int .i64 c.ctr, .int .i64 c.id, .int .i64 c.most, .string c.data, .slice SAx c.sel.length scx] 41) = v := ⟨_, rfl⟩
 have hx : Below w.heap.size w w2 ∧ w2.heap[w.heap.size]? = some (.cells #[.int .i64 c.kind, .int .i64 c.uid, .int .u64 c.rev, .string c.spec.name, .slice LA c.spec.labels.length lc, .slice IA c.spec.init.length ic, .slice MA c.spec.main.length mc, .int .i64 c.spec.restart, .int .i64 c.spec.grace, .int .i64 c.spec.prio, .int .i64 c.grace, .int .i64 c.ctr, .int .i64 c.id, .int .i64 c.most, .string c.data, .slice SA c.sel.length sc] 41) ∧ w2.heap[w.heap.size + 1]? = some (.cells #[.int .i64 c.kind, .int .i64 c.uid, .int .u64 c.rev, .string c.spec.name, .slice LAx c.spec.labels.length lcx, .slice IAx c.spec.init.length icx, .slice MAx c.spec.main.length mcx, .int .i64 c.spec.restart, .int .i64 c.spec.grace, .int .i64 c.spec.prio, .int .i64 c.grace, .int .i64 c.ctr, .int .i64 c.id, .int .i64 c.most, .string c.data, .slice SAx c.sel.length scx] 41) := by
  subst hw2
  have a1 := heap_alloc_new w (.cells #[.int .i64 c.kind, .int .i64 c.uid, .int .u64 c.rev, .string c.spec.name, .slice LA c.spec.labels.length lc, .slice IA c.spec.init.length ic, .slice MA c.spec.main.length mc, .int .i64 c.spec.restart, .int .i64 c.spec.grace, .int .i64 c.spec.prio, .int .i64 c.grace, .int .i64 c.ctr, .int .i64 c.id, .int .i64 c.most, .string c.data, .slice SA c.sel.length sc] 41)
  have a2 := heap_alloc_new (w.alloc (.cells #[.int .i64 c.kind, .int .i64 c.uid, .int .u64 c.rev, .string c.spec.name, .slice LA c.spec.labels.length lc, .slice IA c.spec.init.length ic, .slice MA c.spec.main.length mc, .int .i64 c.spec.restart, .int .i64 c.spec.grace, .int .i64 c.spec.prio, .int .i64 c.grace, .int .i64 c.ctr, .int .i64 c.id, .int .i64 c.most, .string c.data, .slice SA c.sel.length sc] 41)) (.cells #[.int .i64 c.kind, .int .i64 c.uid, .int .u64 c.rev, .string c.spec.name, .slice LAx c.spec.labels.length lcx, .slice IAx c.spec.init.length icx, .slice MAx c.spec.main.length mcx, .int .i64 c.spec.restart, .int .i64 c.spec.grace, .int .i64 c.spec.prio, .int .i64 c.grace, .int .i64 c.ctr, .int .i64 c.id, .int .i64 c.most, .string c.data, .slice SAx c.sel.length scx] 41)
  have s1 : (w.alloc (.cells #[.int .i64 c.kind, .int .i64 c.uid, .int .u64 c.rev, .string c.spec.name, .slice LA c.spec.labels.length lc, .slice IA c.spec.init.length ic, .slice MA c.spec.main.length mc, .int .i64 c.spec.restart, .int .i64 c.spec.grace, .int .i64 c.spec.prio, .int .i64 c.grace, .int .i64 c.ctr, .int .i64 c.id, .int .i64 c.most, .string c.data, .slice SA c.sel.length sc] 41)).heap.size = w.heap.size + 1 := by simp
  have k2 := ((Below.refl (w.heap.size + 1) (w.alloc (.cells #[.int .i64 c.kind, .int .i64 c.uid, .int .u64 c.rev, .string c.spec.name, .slice LA c.spec.labels.length lc, .slice IA c.spec.init.length ic, .slice MA c.spec.main.length mc, .int .i64 c.spec.restart, .int .i64 c.spec.grace, .int .i64 c.spec.prio, .int .i64 c.grace, .int .i64 c.ctr, .int .i64 c.id, .int .i64 c.most, .string c.data, .slice SA c.sel.length sc] 41))).alloc (by omega) (.cells #[.int .i64 c.kind, .int .i64 c.uid, .int .u64 c.rev, .string c.spec.name, .slice LAx c.spec.labels.length lcx, .slice IAx c.spec.init.length icx, .slice MAx c.spec.main.length mcx, .int .i64 c.spec.restart, .int .i64 c.spec.grace, .int .i64 c.spec.prio, .int .i64 c.grace, .int .i64 c.ctr, .int .i64 c.id, .int .i64 c.most, .string c.data, .slice SAx c.sel.length scx] 41)).block
  rw [s1] at a2
  exact ⟨((Below.refl _ _).alloc (Nat.le_refl _) _).alloc (by omega) _, (k2 _ (by omega)).trans a1, a2⟩
 have B2 := Lib.hid hx.1
 have X2 := Lib.hid hx.2.1
 have Y2 := Lib.hid hx.2.2
 clear hx
 have c0 := box_cell X2.out 0 rfl
 have c1 := box_cell X2.out 1 rfl
 have c2 := box_cell X2.out 2 rfl
 have c3 := box_cell X2.out 3 rfl
 have c4 := box_cell X2.out 4 rfl
 have c5 := box_cell X2.out 5 rfl
 have c6 := box_cell X2.out 6 rfl
 have c7 := box_cell X2.out 7 rfl
 have c8 := box_cell X2.out 8 rfl
 have c9 := box_cell X2.out 9 rfl
 have d0 := box_cell Y2.out 0 rfl
 have d1 := box_cell Y2.out 1 rfl
 have d2 := box_cell Y2.out 2 rfl
 have d3 := box_cell Y2.out 3 rfl
 have d4 := box_cell Y2.out 4 rfl
 have d5 := box_cell Y2.out 5 rfl
 have d6 := box_cell Y2.out 6 rfl
 have d7 := box_cell Y2.out 7 rfl
 have d8 := box_cell Y2.out 8 rfl
 have d9 := box_cell Y2.out 9 rfl
 go_enter Tryz.func28, Tryz.ntmps28
 go_wp2_with fail
 have hrun := sameSpec_any c.spec LA lc IA ic MA mc c.spec LAx lcx IAx icx MAx mcx w2 (H.out.spec.below B2.out) (HX.out.spec.below B2.out)
 rw [(sameS_iff c.spec c.spec).2 rfl] at hrun
 refine hrun.mono ?_
 rintro e w3 ⟨rfl, hb3⟩
 have B3 := Lib.hid (B2.out.trans (hb3.mono B2.out.size))
 have X3 := Lib.hid ((hb3.block w.heap.size (lt_of_block X2.out)).trans X2.out)
 have Y3 := Lib.hid ((hb3.block (w.heap.size + 1) (lt_of_block Y2.out)).trans Y2.out)
 clear hrun hb3 X2 Y2 c0 d0 c1 d1 c2 d2 c3 d3 c4 d4 c5 d5 c6 d6 c7 d7 c8 d8 c9 d9
 have c10 := box_cell X3.out 10 rfl
 have c11 := box_cell X3.out 11 rfl
 have c12 := box_cell X3.out 12 rfl
 have c13 := box_cell X3.out 13 rfl
 have c14 := box_cell X3.out 14 rfl
 have c15 := box_cell X3.out 15 rfl
 have d10 := box_cell Y3.out 10 rfl
 have d11 := box_cell Y3.out 11 rfl
 have d12 := box_cell Y3.out 12 rfl
 have d13 := box_cell Y3.out 13 rfl
 have d14 := box_cell Y3.out 14 rfl
 have d15 := box_cell Y3.out 15 rfl
 go_wp2_with fail
 have hrun := sameLabels_any SA sc c.sel SAx scx c.sel H.out.ns H.out.ns w3 (H.out.sel.below B3.out) (HX.out.sel.below B3.out)
 rw [(sameLs_iff (a := c.sel) (b := c.sel)).2 rfl] at hrun
 refine hrun.mono ?_
 rintro e w4 ⟨rfl, hb4⟩
 have B4 := Lib.hid (B3.out.trans (hb4.mono B3.out.size))
 clear hrun hb4
 go_wp2
 go_ret
 exact ⟨rfl, B4.out⟩
end Ak
end Go.Proofs.YtakdhkhcndeiiaaGreatDoor
