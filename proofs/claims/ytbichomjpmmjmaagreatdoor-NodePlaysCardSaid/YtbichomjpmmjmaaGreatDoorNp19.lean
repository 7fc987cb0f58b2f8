/-
  The contract of spec.Check: what is said of a spec is the document's word. All that was there is left as it was. Conditions: as SpecStep; the spec is light (Book.Light).
-/
import Derived.Test.YtbichomjpmmjmaaGreatDoorNp17
import Derived.Test.YtbichomjpmmjmaaGreatDoorNp18
import Derived.Test.YtbichomjpmmjmaaGreatDoorNp14
import Derived.Test.YtbichomjpmmjmaaGreatDoorNp10
import Derived.Test.YtbichomjpmmjmaaGreatDoorNp9
namespace Go.Proofs.YtbichomjpmmjmaaGreatDoor
open Go.ChangeShapes Go.WideShapes Go.ChangeAt Go.RowKit Go.Lib
open Sd Lists SpecRef
namespace SpecOwn
theorem kb0 {D : Nat → Prop} {w w' : World} (hb : Below w.heap.size w w') : ∀ b, D b → b < w.heap.size → KB 0 w' b ∧ w'.heap[b]? = w.heap[b]? := fun b _ hl => ⟨Nat.zero_le b, hb.block b hl⟩
/-! the document's word -/
theorem listN_init (l : List Ctr) : listN t_init 0 3 0 0 [] [] l = if 3 < l.length then (2, t_init) else ctrsFrom t_init true 0 [] l := by
  unfold listN
  have := listFrom_eq t_init true l 0 []
  simp only [List.map_nil, List.flatMap_nil, if_true] at this
  rw [this]
  by_cases h : 3 < l.length
  · rw [if_pos h, if_pos (by omega)]
  · rw [if_neg h, if_neg (by omega)]
theorem listN_main (a l : List Ctr) : listN t_main 1 4 3 1000 (a.map (·.name)) (a.flatMap (·.ports)) l = if l.length < 1 ∨ 4 < l.length then (2, t_main) else ctrsFrom t_main false 0 a l := by
  unfold listN
  have := listFrom_eq t_main false l 0 a
  simp only [Bool.false_eq_true, if_false] at this
  rw [this]
  by_cases h : l.length < 1 ∨ 4 < l.length
  · rw [if_pos h, if_pos (by omega)]
  · rw [if_neg h, if_neg (by omega)]
theorem check_eq (S : Spc) (y1 y2 : Say) (h1 : y1 = listN t_init 0 3 0 0 [] [] S.init) (h2 : y1.1 = 0 → y2 = listN t_main 1 4 3 1000 (S.init.map (·.name)) (S.init.flatMap (·.ports)) S.main) :
    firstV [newV (Text.codeN (TextPure.nameL S.name.data.toList) 30) t_name, labelsV t_labels S.labels, y1, y2, withinV S.restart 1 3 t_restart, withinV S.grace 0 1000 t_grace, withinV S.prio 0 10 t_prio] = checkV S := by
  rw [listN_init] at h1
  simp only [listN_main] at h2
  unfold checkV
  have e0 : newV (Text.codeN (TextPure.nameL S.name.data.toList) 30) t_name = if isName S.name = false then (30, t_name) else fine := by
    unfold isName Text.codeN newV
    cases TextPure.nameL S.name.data.toList <;> rfl
  rw [e0]
  simp only [firstV_cons, firstV_nil]
  by_cases a1 : isName S.name = false
  · simp [a1]
  · by_cases a2 : (labelsV t_labels S.labels).1 = 0
    · by_cases a3 : y1.1 = 0
      · have a3' := h2 a3
        have b1 : ¬ 3 < S.init.length := fun h => by rw [h1, if_pos h] at a3; simp at a3
        rw [if_neg b1] at h1
        have b2 : (ctrsFrom t_init true 0 [] S.init).1 = 0 := h1 ▸ a3
        by_cases b3 : S.main.length < 1 ∨ 4 < S.main.length
        · rw [if_pos b3] at a3'
          simp only [a1, a2, a3, a3', b1, b2, b3, fine, if_true, if_false, ne_eq, not_true_eq_false]
          rfl
        · rw [if_neg b3] at a3'
          subst a3'
          by_cases b4 : (ctrsFrom t_main false 0 S.init S.main).1 = 0
          · simp only [a1, a2, a3, b1, b2, b3, b4, fine, if_true, if_false, ne_eq, not_true_eq_false, tailV, withinV]
            by_cases c1 : S.restart < 1 ∨ 3 < S.restart
            · simp [c1]
            · by_cases c2 : S.grace < 0 ∨ 1000 < S.grace
              · simp [c1, c2]
              · by_cases c3 : S.prio < 0 ∨ 10 < S.prio
                · simp [c1, c2, c3]
                · simp [c1, c2, c3]
          · simp only [a1, a2, a3, b1, b2, b3, b4, fine, if_true, if_false, ne_eq, not_true_eq_false, not_false_eq_true, Bool.true_eq_false]
      · by_cases b1 : 3 < S.init.length
        · rw [if_pos b1] at h1
          subst h1
          simp [a1, a2, b1, fine]
        · rw [if_neg b1] at h1
          subst h1
          simp [a1, a2, a3, b1, fine]
    · simp [a1, a2, fine]
/-- a call ends with what says y -/
def TellsA (y : Say) (w : World) (e : Ending) (w' : World) : Prop := ∃ E, e = .returned E ∧ Says (KB 0 w') w' E y ∧ Below w.heap.size w w'
/-- what each operation leaves -/
def FCheck (b1 : Nat) (S : Spc) (LA : Option Addr) (lc : Nat) (y1 y2 : Say) : Nat → Value → World → Prop
  | 0 => fun v _ => v = .pointer (some ⟨b1, 0, none⟩)
  | 1 => fun v _ => v = .string S.name
  | 2 => fun v _ => v = .int .i64 (Text.codeN (TextPure.nameL S.name.data.toList) 30)
  | 3 => TextK (KB 0) t_name
  | 4 => SaysK (KB 0) (newV (Text.codeN (TextPure.nameL S.name.data.toList) 30) t_name)
  | 5 => fun v _ => v = .pointer (some ⟨b1, 1, none⟩)
  | 6 => fun v _ => v = .slice LA S.labels.length lc
  | 7 => SaysK (KB 0) (labelsV t_labels S.labels)
  | 8 => SaysK (KB 0) (y1)
  | 9 => SaysK (KB 0) (y2)
  | 10 => fun v _ => v = .pointer (some ⟨b1, 4, none⟩)
  | 11 => fun v _ => v = .int .i64 S.restart
  | 12 => SaysK (KB 0) (withinV S.restart 1 3 t_restart)
  | 13 => fun v _ => v = .pointer (some ⟨b1, 5, none⟩)
  | 14 => fun v _ => v = .int .i64 S.grace
  | 15 => SaysK (KB 0) (withinV S.grace 0 1000 t_grace)
  | 16 => fun v _ => v = .pointer (some ⟨b1, 6, none⟩)
  | 17 => fun v _ => v = .int .i64 S.prio
  | 18 => SaysK (KB 0) (withinV S.prio 0 10 t_prio)
  | 19 => RowK (KB 0) [newV (Text.codeN (TextPure.nameL S.name.data.toList) 30) t_name, labelsV t_labels S.labels, y1, y2, withinV S.restart 1 3 t_restart, withinV S.grace 0 1000 t_grace, withinV S.prio 0 10 t_prio]
  | 20 => SaysK (KB 0) (firstV [newV (Text.codeN (TextPure.nameL S.name.data.toList) 30) t_name, labelsV t_labels S.labels, y1, y2, withinV S.restart 1 3 t_restart, withinV S.grace 0 1000 t_grace, withinV S.prio 0 10 t_prio])
  | _ => SaysK (KB 0) (firstV [newV (Text.codeN (TextPure.nameL S.name.data.toList) 30) t_name, labelsV t_labels S.labels, y1, y2, withinV S.restart 1 3 t_restart, withinV S.grace 0 1000 t_grace, withinV S.prio 0 10 t_prio])
theorem FCheck_keep (b1 : Nat) (S : Spc) (LA : Option Addr) (lc : Nat) (y1 y2 : Say) (i : Nat) (v : Value) (w w' : World) (h : FCheck b1 S LA lc y1 y2 i v w) (hb : Below w.heap.size w w') : FCheck b1 S LA lc y1 y2 i v w' := by
  unfold FCheck at h ⊢
  split at h <;> first | exact h | exact TextK.keep h (kb_keep hb) | exact SaysK.keep h (kb_keep hb) | exact RowK.keep h (kb_keep hb)
set_option maxRecDepth 100000 in
set_option maxHeartbeats 4000000 in
theorem check_any (S : Spc) (LA : Option Addr) (lc : Nat) (IA : Option Addr) (ic : Nat) (MA : Option Addr) (mc : Nat) (hLt : Book.Light S) (w : World) (hL : SLaid w) (h : S.In w LA lc IA ic MA mc) :
    Calls Tryz.prog 45 #[.agg #[.string S.name, .slice LA S.labels.length lc, .slice IA S.init.length ic, .slice MA S.main.length mc, .int .i64 S.restart, .int .i64 S.grace, .int .i64 S.prio]] w (TellsA (checkV S) w) := by
  have HL := Lib.hid hL
  have H := Lib.hid h
  have HLT := Lib.hid hLt
  have hnl := h.nl
  have hns : S.name.size ≤ 100 := hLt.1.1
  clear hL h hLt
  go_enter Tryz.func45, Tryz.ntmps45
  go_wp2_with fail
  obtain ⟨w3, hw3⟩ : ∃ w3, (w.alloc (.cells #[.string S.name, .slice LA S.labels.length lc, .slice IA S.init.length ic, .slice MA S.main.length mc, .int .i64 S.restart, .int .i64 S.grace, .int .i64 S.prio] 35)).alloc (.cells #[.slice none 0 0, .slice none 0 0] 120) = w3 := ⟨_, rfl⟩
  have hb3 : Below w.heap.size w w3 := by rw [← hw3]; exact ((Below.refl _ _).alloc (Nat.le_refl _) _).alloc (by simp) _
  have HB3 := Lib.hid hb3
  have HSB3 := Lib.hid (show SBox S LA lc IA ic MA mc w3 w.heap.size by
    unfold SBox
    rw [← hw3, Below.heap_alloc _ _ _ (by simp)]; exact heap_alloc_new w _)
  have HT3 := Lib.hid (show Tk w3 (w.heap.size + 1) [] [] from ⟨none, 0, none, 0, by
    have e : (w.alloc (.cells #[.string S.name, .slice LA S.labels.length lc, .slice IA S.init.length ic, .slice MA S.main.length mc, .int .i64 S.restart, .int .i64 S.grace, .int .i64 S.prio] 35)).heap.size = w.heap.size + 1 := by simp
    rw [← hw3, ← e]
    exact heap_alloc_new _ _, World.ownsRow_nil _ _ _ _, World.ownsRow_nil _ _ _ _⟩)
  rw [hw3]
  obtain ⟨b1, hb1⟩ : ∃ b, w.heap.size = b := ⟨_, rfl⟩
  have HBB := Lib.hid hb1
  have hg0 : w.heap.size ≤ b1 + 1 := by omega
  rw [hb1] at HSB3 HT3 ⊢
  obtain ⟨g, hg⟩ : ∃ g, b1 + 1 = g := ⟨_, rfl⟩
  rw [hg] at HT3 hg0 ⊢
  have hlg : b1 < g := by omega
  clear hw3 hb1 hg hb3
  refine (list_any w HL.out g hg0 t_init (by decide) IA ic S.init H.out.init HLT.out.2.2.1 0 3 0 0 (by decide) (by decide) (by decide) [] [] (by simp) (by simp) w3 HB3.out HT3.out).mono ?_
  rintro e w4 ⟨N1, P1, ⟨E1, rfl, hE1, hA1, hT1⟩, hf1, hn1, hp1⟩
  have HE4 := Lib.hid hE1
  have HA4 := Lib.hid hA1
  have HT4 := Lib.hid hT1
  have HF4 := Lib.hid hf1
  have HB4 := Lib.hid (hA1.base HB3.out hg0)
  have HSB4 := Lib.hid (show SBox S LA lc IA ic MA mc w4 b1 from (hA1.low b1 hlg HSB3.out.lt).trans HSB3.out)
  clear hE1 hA1 hT1 hf1
  have c3 := HSB4.out.cells.c3
  go_wp2_with fail
  refine (list_any w HL.out g hg0 t_main (by decide) MA mc S.main H.out.main HLT.out.2.2.2 1 4 3 1000 (by decide) (by decide) (by decide) N1 P1 (by simp at hn1; omega) (by simp at hp1; omega) w4 HB4.out HT4.out).mono ?_
  rintro e w5 ⟨N2, P2, ⟨E2, rfl, hE2, hA2, hT2⟩, _, _, _⟩
  have HE1 := Lib.hid (show Says (KB 0 w5) w5 E1 _ from Says.keep HE4.out fun b hd _ => ⟨Nat.zero_le b, ((hA2.ok HT4.out.ok).2 b hd).2⟩)
  have HE2 := Lib.hid (show Says (KB 0 w5) w5 E2 _ from Says.keep hE2 fun b _ _ => ⟨Nat.zero_le b, rfl⟩)
  have HB5 := Lib.hid (hA2.base HB4.out hg0)
  have HSB := Lib.hid (show SBox S LA lc IA ic MA mc w5 b1 from (hA2.low b1 hlg HSB4.out.lt).trans HSB4.out)
  clear hE2 hA2 hT2 c3
  obtain ⟨y1, hy1⟩ : ∃ y, listN t_init 0 3 0 0 [] [] S.init = y := ⟨_, rfl⟩
  obtain ⟨y2, hy2⟩ : ∃ y, listN t_main 1 4 3 1000 N1 P1 S.main = y := ⟨_, rfl⟩
  rw [hy1] at HE1 HF4
  rw [hy2] at HE2
  have HEQ := Lib.hid (check_eq S y1 y2 hy1.symm (fun h0 => by
    obtain ⟨e1, e2⟩ := HF4.out h0
    rw [← hy2, e1, e2, List.nil_append, List.nil_append]))
  clear hy1 hy2 hn1 hp1
  go_wp2_with fail
  have HB0 : 0 ≤ w5.heap.size := Nat.zero_le _
  refine Loose.wp_region_walk (by kernel_rfl) (by kernel_rfl) (FCheck b1 S LA lc y1 y2) (FCheck_keep b1 S LA lc y1 y2) ?_ ?_
  · refine ⟨?_, ?_, ?_, ?_, ?_, ?_, ?_, ?_, ?_, ?_, ?_, ?_, ?_, ?_, ?_, ?_, ?_, ?_, ?_, ?_, ?_, ?_, trivial⟩
    · intro a w1 hfr hdep
      have f0 : a.tmps.getD 1 undef = .pointer (some ⟨b1, 0, none⟩) := hfr.slot 1 (by kernel_rfl)
      refine Loose.Step.value rfl (v := .pointer (some ⟨b1, 0, none⟩)) (w' := w1) ?_ rfl (Below.refl _ _)
      simp [go_sem, Act.eval, f0]
    · intro a w1 hfr hdep
      have e0 : a.tmps.getD 14 undef = .pointer (some ⟨b1, 0, none⟩) := Loose.dep_of hdep 0 14 (by kernel_rfl)
      have hc := (HSB.out.below hfr.below).cells.c0
      refine Loose.Step.value rfl (v := .string S.name) (w' := w1) ?_ rfl (Below.refl _ _)
      simp [go_sem, Act.eval, e0, hc]
    · intro a w1 hfr hdep
      have e0 : a.tmps.getD 15 undef = .string S.name := Loose.dep_of hdep 1 15 (by kernel_rfl)
      refine Loose.Step.call rfl (f := 75) (args := #[.string S.name]) ?_ ?_
      · simp [go_sem, Act.eval, e0]
      · refine (Text.name_any S.name (by unfold maxLen; omega) w1 (HL.out.below (HB5.out.trans (hfr.below.mono HB5.out.size))).text).mono ?_
        rintro e w2 ⟨rfl, rfl⟩
        exact ⟨_, rfl, rfl, Below.refl _ _⟩
    · intro a w1 hfr hdep
      have hb : Below w1.heap.size w1 (w1.alloc (.cells #[.string t_name] 9)) := (Below.refl _ _).alloc (Nat.le_refl _) _
      refine Loose.Step.value rfl (v := .slice (some ⟨w1.heap.size, 0, none⟩) 1 1) (w' := w1.alloc (.cells #[.string t_name] 9)) ?_ (text_made _ (Nat.le_trans HB0 hfr.below.size)) hb
      simp [go_sem, t_name]
    · intro a w1 hfr hdep
      have e0 : a.tmps.getD 16 undef = .int .i64 (Text.codeN (TextPure.nameL S.name.data.toList) 30) := Loose.dep_of hdep 2 16 (by kernel_rfl)
      obtain ⟨gg, e1, _, hcg⟩ : TextK (KB 0) t_name (a.tmps.getD 17 undef) w1 := Loose.dep_of hdep 3 17 (by kernel_rfl)
      refine Loose.Step.call rfl (f := 74) (args := #[.int .i64 (Text.codeN (TextPure.nameL S.name.data.toList) 30), .slice (some ⟨gg, 0, none⟩) 1 1]) ?_ ?_
      · simp [go_sem, Act.eval, e0, e1]
      · have HSZ : 0 ≤ w1.heap.size := Nat.le_trans HB0 hfr.below.size
        refine (new_says (Text.codeN (TextPure.nameL S.name.data.toList) 30) t_name gg 1 w1 (by decide) hcg).mono ?_
        rintro e w2 ⟨E, rfl, hE, hb⟩
        exact ⟨E, rfl, kb_tells HSZ hE, hb⟩
    · intro a w1 hfr hdep
      have f0 : a.tmps.getD 1 undef = .pointer (some ⟨b1, 0, none⟩) := hfr.slot 1 (by kernel_rfl)
      refine Loose.Step.value rfl (v := .pointer (some ⟨b1, 1, none⟩)) (w' := w1) ?_ rfl (Below.refl _ _)
      simp [go_sem, Act.eval, f0]
    · intro a w1 hfr hdep
      have e0 : a.tmps.getD 19 undef = .pointer (some ⟨b1, 1, none⟩) := Loose.dep_of hdep 5 19 (by kernel_rfl)
      have hc := (HSB.out.below hfr.below).cells.c1
      refine Loose.Step.value rfl (v := .slice LA S.labels.length lc) (w' := w1) ?_ rfl (Below.refl _ _)
      simp [go_sem, Act.eval, e0, hc]
    · intro a w1 hfr hdep
      have e0 : a.tmps.getD 20 undef = .slice LA S.labels.length lc := Loose.dep_of hdep 6 20 (by kernel_rfl)
      refine Loose.Step.call rfl (f := 76) (args := #[.string ⟨#[108, 97, 98, 101, 108, 115]⟩, .slice LA S.labels.length lc]) ?_ ?_
      · simp [go_sem, Act.eval, e0]
      · have HSZ : 0 ≤ w1.heap.size := Nat.le_trans HB0 hfr.below.size
        refine (labels_any t_labels LA lc S.labels (by decide) hnl HLT.out.2.1 w1 (HL.out.below (HB5.out.trans (hfr.below.mono HB5.out.size))) (H.out.below (HB5.out.trans (hfr.below.mono HB5.out.size))).labels).mono ?_
        rintro e w2 ⟨E, rfl, hE, hb⟩
        exact ⟨E, rfl, kb_tells HSZ hE, hb⟩
    · intro a w1 hfr hdep
      have f0 : a.tmps.getD 4 undef = E1 := hfr.slot 4 (by kernel_rfl)
      refine Loose.Step.value rfl (v := E1) (w' := w1) ?_ (Says.keep HE1.out (kb0 hfr.below)) (Below.refl _ _)
      simp [go_sem, Act.eval, f0]
    · intro a w1 hfr hdep
      have f0 : a.tmps.getD 5 undef = E2 := hfr.slot 5 (by kernel_rfl)
      refine Loose.Step.value rfl (v := E2) (w' := w1) ?_ (Says.keep HE2.out (kb0 hfr.below)) (Below.refl _ _)
      simp [go_sem, Act.eval, f0]
    · intro a w1 hfr hdep
      have f0 : a.tmps.getD 1 undef = .pointer (some ⟨b1, 0, none⟩) := hfr.slot 1 (by kernel_rfl)
      refine Loose.Step.value rfl (v := .pointer (some ⟨b1, 4, none⟩)) (w' := w1) ?_ rfl (Below.refl _ _)
      simp [go_sem, Act.eval, f0]
    · intro a w1 hfr hdep
      have e0 : a.tmps.getD 24 undef = .pointer (some ⟨b1, 4, none⟩) := Loose.dep_of hdep 10 24 (by kernel_rfl)
      have hc := (HSB.out.below hfr.below).cells.c4
      refine Loose.Step.value rfl (v := .int .i64 S.restart) (w' := w1) ?_ rfl (Below.refl _ _)
      simp [go_sem, Act.eval, e0, hc]
    · intro a w1 hfr hdep
      have e0 : a.tmps.getD 25 undef = .int .i64 S.restart := Loose.dep_of hdep 11 25 (by kernel_rfl)
      refine Loose.Step.call rfl (f := 77) (args := #[.int .i64 S.restart, .int .i64 1, .int .i64 3, .string ⟨#[114, 101, 115, 116, 97, 114, 116]⟩]) ?_ ?_
      · simp [go_sem, Act.eval, e0]
      · have HSZ : 0 ≤ w1.heap.size := Nat.le_trans HB0 hfr.below.size
        refine (within_any S.restart 1 3 t_restart (by decide) w1).mono ?_
        rintro e w2 ⟨E, rfl, hE, hb⟩
        exact ⟨E, rfl, kb_tells HSZ hE, hb⟩
    · intro a w1 hfr hdep
      have f0 : a.tmps.getD 1 undef = .pointer (some ⟨b1, 0, none⟩) := hfr.slot 1 (by kernel_rfl)
      refine Loose.Step.value rfl (v := .pointer (some ⟨b1, 5, none⟩)) (w' := w1) ?_ rfl (Below.refl _ _)
      simp [go_sem, Act.eval, f0]
    · intro a w1 hfr hdep
      have e0 : a.tmps.getD 27 undef = .pointer (some ⟨b1, 5, none⟩) := Loose.dep_of hdep 13 27 (by kernel_rfl)
      have hc := (HSB.out.below hfr.below).cells.c5
      refine Loose.Step.value rfl (v := .int .i64 S.grace) (w' := w1) ?_ rfl (Below.refl _ _)
      simp [go_sem, Act.eval, e0, hc]
    · intro a w1 hfr hdep
      have e0 : a.tmps.getD 28 undef = .int .i64 S.grace := Loose.dep_of hdep 14 28 (by kernel_rfl)
      refine Loose.Step.call rfl (f := 77) (args := #[.int .i64 S.grace, .int .i64 0, .int .i64 1000, .string ⟨#[103, 114, 97, 99, 101]⟩]) ?_ ?_
      · simp [go_sem, Act.eval, e0]
      · have HSZ : 0 ≤ w1.heap.size := Nat.le_trans HB0 hfr.below.size
        refine (within_any S.grace 0 1000 t_grace (by decide) w1).mono ?_
        rintro e w2 ⟨E, rfl, hE, hb⟩
        exact ⟨E, rfl, kb_tells HSZ hE, hb⟩
    · intro a w1 hfr hdep
      have f0 : a.tmps.getD 1 undef = .pointer (some ⟨b1, 0, none⟩) := hfr.slot 1 (by kernel_rfl)
      refine Loose.Step.value rfl (v := .pointer (some ⟨b1, 6, none⟩)) (w' := w1) ?_ rfl (Below.refl _ _)
      simp [go_sem, Act.eval, f0]
    · intro a w1 hfr hdep
      have e0 : a.tmps.getD 30 undef = .pointer (some ⟨b1, 6, none⟩) := Loose.dep_of hdep 16 30 (by kernel_rfl)
      have hc := (HSB.out.below hfr.below).cells.c6
      refine Loose.Step.value rfl (v := .int .i64 S.prio) (w' := w1) ?_ rfl (Below.refl _ _)
      simp [go_sem, Act.eval, e0, hc]
    · intro a w1 hfr hdep
      have e0 : a.tmps.getD 31 undef = .int .i64 S.prio := Loose.dep_of hdep 17 31 (by kernel_rfl)
      refine Loose.Step.call rfl (f := 77) (args := #[.int .i64 S.prio, .int .i64 0, .int .i64 10, .string ⟨#[112, 114, 105, 111]⟩]) ?_ ?_
      · simp [go_sem, Act.eval, e0]
      · have HSZ : 0 ≤ w1.heap.size := Nat.le_trans HB0 hfr.below.size
        refine (within_any S.prio 0 10 t_prio (by decide) w1).mono ?_
        rintro e w2 ⟨E, rfl, hE, hb⟩
        exact ⟨E, rfl, kb_tells HSZ hE, hb⟩
    · intro a w1 hfr hdep
      have h0 : SaysK (KB 0) (newV (Text.codeN (TextPure.nameL S.name.data.toList) 30) t_name) (a.tmps.getD 18 undef) w1 := Loose.dep_of hdep 4 18 (by kernel_rfl)
      have h1 : SaysK (KB 0) (labelsV t_labels S.labels) (a.tmps.getD 21 undef) w1 := Loose.dep_of hdep 7 21 (by kernel_rfl)
      have h2 : SaysK (KB 0) (y1) (a.tmps.getD 22 undef) w1 := Loose.dep_of hdep 8 22 (by kernel_rfl)
      have h3 : SaysK (KB 0) (y2) (a.tmps.getD 23 undef) w1 := Loose.dep_of hdep 9 23 (by kernel_rfl)
      have h4 : SaysK (KB 0) (withinV S.restart 1 3 t_restart) (a.tmps.getD 26 undef) w1 := Loose.dep_of hdep 12 26 (by kernel_rfl)
      have h5 : SaysK (KB 0) (withinV S.grace 0 1000 t_grace) (a.tmps.getD 29 undef) w1 := Loose.dep_of hdep 15 29 (by kernel_rfl)
      have h6 : SaysK (KB 0) (withinV S.prio 0 10 t_prio) (a.tmps.getD 32 undef) w1 := Loose.dep_of hdep 18 32 (by kernel_rfl)
      have r := build7 (a.tmps.getD 18 undef) (a.tmps.getD 21 undef) (a.tmps.getD 22 undef) (a.tmps.getD 23 undef) (a.tmps.getD 26 undef) (a.tmps.getD 29 undef) (a.tmps.getD 32 undef) w1 (cells_form (Says.form h0)) (cells_form (Says.form h1)) (cells_form (Says.form h2)) (cells_form (Says.form h3)) (cells_form (Says.form h4)) (cells_form (Says.form h5)) (cells_form (Says.form h6))
      have hb : Below w1.heap.size w1 (w1.alloc (.cells #[a.tmps.getD 18 undef, a.tmps.getD 21 undef, a.tmps.getD 22 undef, a.tmps.getD 23 undef, a.tmps.getD 26 undef, a.tmps.getD 29 undef, a.tmps.getD 32 undef] 83)) := (Below.refl _ _).alloc (Nat.le_refl _) _
      refine Loose.Step.value rfl (v := .slice (some ⟨w1.heap.size, 0, none⟩) 7 7) (w' := w1.alloc (.cells #[a.tmps.getD 18 undef, a.tmps.getD 21 undef, a.tmps.getD 22 undef, a.tmps.getD 23 undef, a.tmps.getD 26 undef, a.tmps.getD 29 undef, a.tmps.getD 32 undef] 83)) ?_ (row_made [a.tmps.getD 18 undef, a.tmps.getD 21 undef, a.tmps.getD 22 undef, a.tmps.getD 23 undef, a.tmps.getD 26 undef, a.tmps.getD 29 undef, a.tmps.getD 32 undef] _ 7 rfl (Nat.le_trans HB0 hfr.below.size) (kb_keep hb) ⟨h0, h1, h2, h3, h4, h5, h6, trivial⟩) hb
      clear hb h0 h1 h2 h3 h4 h5 h6 hdep
      simp only [Array.getD_eq_getD_getElem?] at r
      simp [execOp, Act.eval, r]
    · intro a w1 hfr hdep
      have h0 : RowK (KB 0) [newV (Text.codeN (TextPure.nameL S.name.data.toList) 30) t_name, labelsV t_labels S.labels, y1, y2, withinV S.restart 1 3 t_restart, withinV S.grace 0 1000 t_grace, withinV S.prio 0 10 t_prio] (a.tmps.getD 33 undef) w1 := Loose.dep_of hdep 19 33 (by kernel_rfl)
      refine Loose.Step.call rfl (f := 73) (args := #[a.tmps.getD 33 undef]) ?_ (row_first h0 (by simp))
      simp [go_sem, Act.eval]
    · intro a w1 hfr hdep
      have h0 : SaysK (KB 0) (firstV [newV (Text.codeN (TextPure.nameL S.name.data.toList) 30) t_name, labelsV t_labels S.labels, y1, y2, withinV S.restart 1 3 t_restart, withinV S.grace 0 1000 t_grace, withinV S.prio 0 10 t_prio]) (a.tmps.getD 34 undef) w1 := Loose.dep_of hdep 20 34 (by kernel_rfl)
      refine Loose.Step.value rfl (v := a.tmps.getD 34 undef) (w' := w1) ?_ h0 (Below.refl _ _)
      simp [go_sem, Act.eval]
  · intro v0 v1 v2 v3 v4 v5 v6 v7 v8 v9 v10 v11 v12 v13 v14 v15 v16 v17 v18 v19 v20 v21 w6 hb hC
    have hE : SaysK (KB 0) (firstV [newV (Text.codeN (TextPure.nameL S.name.data.toList) 30) t_name, labelsV t_labels S.labels, y1, y2, withinV S.restart 1 3 t_restart, withinV S.grace 0 1000 t_grace, withinV S.prio 0 10 t_prio]) v21 w6 := hC.2
    clear hC
    have HX := Lib.hid (show TellsA (checkV S) w (.returned v21) w6 from ⟨_, rfl, HEQ.out ▸ hE, HB5.out.trans (hb.mono HB5.out.size)⟩)
    clear hE hb HB0
    simp only [put_lit, List.set_cons_succ, List.set_cons_zero]
    go_wp2_with fail
    go_ret
    exact HX.out
end SpecOwn
end Go.Proofs.YtbichomjpmmjmaaGreatDoor

/-
  The program's node: Fits. Conditions: the node is one (Nn); the spec is not too long and lies in memory; the listed variables are laid.
-/
set_option linter.unusedVariables false
set_option linter.unusedSimpArgs false
namespace Go.Proofs.YtbichomjpmmjmaaGreatDoor
open Go.ChangeShapes Go.WideShapes Go.ChangeAt Go.RowKit Go.Lib
open NumMath
namespace Nn
open Re Nd Sd SpecOwn
theorem nums_own {B n : Nat} {w : World} {A : Option Addr} {c : Nat} {ps : List Int} (h : w.ownsRow B 3 1 (.slice A n c) n (ps.map (Value.int .i64))) (hn : ps.length = n) (hp : ∀ p ∈ ps, 1 ≤ p ∧ p ≤ 65535) : Lists.Nums .i64 w A ps := fun k z hz => by
  have hk := (List.getElem?_eq_some_iff.1 hz).1
  obtain ⟨h1, h2⟩ := hp z (List.mem_of_getElem? hz)
  refine ⟨by simp [Lit.wf, IntKind.min, IntKind.max, IntKind.signed, IntKind.bits]; omega, ?_⟩
  rcases Pt.own_addr h with ⟨_, h2, _⟩ | ⟨r, hA, _, hr⟩
  · omega
  · refine ⟨_, hA, hr, ?_⟩
    rw [hA] at h
    rw [at_one, h.cellAt k (by omega)]
    simp [hz]
set_option maxRecDepth 100000 in
set_option maxHeartbeats 4000000 in
theorem fits_any {B : Nat} {g : Nat} {has : Rx} {l : Pods} (S : Spc) (LA : Option Addr) (lc : Nat) (IA : Option Addr) (ic : Nat) (MA : Option Addr) (mc : Nat) (hL : Book.Light S) (w : World) (h : Nn B w g has l) (hSL : SLaid w) (hS : S.In w LA lc IA ic MA mc) : Calls Tryz.prog 24 #[.pointer (some ⟨g, 0, none⟩), .agg #[.string S.name, .slice LA S.labels.length lc, .slice IA S.init.length ic, .slice MA S.main.length mc, .int .i64 S.restart, .int .i64 S.grace, .int .i64 S.prio]] w fun e w' => e = .returned (.int .i64 (fitC has l (askS S))) ∧ Below w.heap.size w w' := by
  have H := Lib.hid h
  have HS := Lib.hid hS
  have HL := Lib.hid hL
  have HSL := Lib.hid hSL
  obtain ⟨w0, hw0⟩ : ∃ v, w.alloc (.cells #[.string S.name, .slice LA S.labels.length lc, .slice IA S.init.length ic, .slice MA S.main.length mc, .int .i64 S.restart, .int .i64 S.grace, .int .i64 S.prio] 35) = v := ⟨_, rfl⟩
  have S0 := Lib.hid (show w0.heap[w.heap.size]? = some (.cells ([.string S.name, .slice LA S.labels.length lc, .slice IA S.init.length ic, .slice MA S.main.length mc, .int .i64 S.restart, .int .i64 S.grace, .int .i64 S.prio] : List Value).toArray 35 (0, 0)) by rw [← hw0]; exact heap_alloc_new w _)
  have B0 := Lib.hid (show Below w.heap.size w w0 by rw [← hw0]; exact (Below.refl _ _).alloc (Nat.le_refl _) _)
  have RS := Lib.hid (range_box S0.out)
  obtain ⟨F, hF⟩ : ∃ F, fitC has l (askS S) = F := ⟨_, rfl⟩
  have HF := Lib.hid hF
  rw [hF]
  clear h hS hL hSL hF
  go_enter Tryz.func24, Tryz.ntmps24
  go_wp2_with (first | (refine wpList_load_mid rfl 35 _ rfl _ _ rfl _ _ RS.out Tryz.underlying35 rfl (by kernel_rfl) ?_))
  clear hw0 RS
  refine (check_any S LA lc IA ic MA mc HL.out w0 (HSL.out.below B0.out) (HS.out.below B0.out)).mono ?_
  rintro e wc ⟨E, rfl, hsy, hbc⟩
  have BC := Lib.hid (B0.out.trans (hbc.mono B0.out.size))
  have HSY := Lib.hid hsy
  have SC := Lib.hid ((hbc.block _ (lt_of_block S0.out)).trans S0.out)
  clear hbc hsy
  rcases HSY.out.form with rfl | ⟨ut, ux, rfl⟩
  · have HR := Lib.hid (show (askS S).right = true from decide_eq_true (HSY.out.nil_iff.1 rfl))
    obtain ⟨hq, hof, hfew⟩ := ask_ok HR.out
    have HQ := Lib.hid hq
    have RS := Lib.hid (range_box SC.out)
    obtain ⟨a, ha⟩ : ∃ a, (askS S).ask = a := ⟨_, rfl⟩
    have HA := Lib.hid ha
    have hl2 := HL.out.1.2.2
    have CO := Re.of_any S.init S.main (.string S.name) (.slice LA S.labels.length lc) (.int .i64 S.restart) (.int .i64 S.grace) (.int .i64 S.prio) IA ic MA mc (by omega) (by omega) wc (HS.out.below BC.out).init (HS.out.below BC.out).main
    rw [show ofR (S.init.map rq) (S.main.map rq) = (a, true) from Prod.ext ha hof] at CO
    have CO := Lib.hid CO
    clear ha hq hof hl2
    go_wp2_with (first | (refine wpList_load_mid rfl 35 _ rfl _ _ rfl _ _ RS.out Tryz.underlying35 rfl (by kernel_rfl) ?_))
    refine CO.out.mono ?_
    rintro e w1 ⟨rfl, hb1⟩
    clear CO RS
    have B1 := Lib.hid (BC.out.trans (hb1.mono BC.out.size))
    have S1 := Lib.hid ((hb1.block _ (lt_of_block SC.out)).trans SC.out)
    obtain ⟨w2a, hw2a⟩ : ∃ v, w1.alloc (.cells #[.int .i64 0, .int .i64 0, .int .i64 0] 23) = v := ⟨_, rfl⟩
    have ZB := Lib.hid (show w2a.heap[w1.heap.size]? = some (.cells #[.int .i64 0, .int .i64 0, .int .i64 0] 23 (0, 0)) by rw [← hw2a]; exact heap_alloc_new _ _)
    have BU := Lib.hid (show Below w1.heap.size w1 w2a by rw [← hw2a]; exact (Below.refl _ _).alloc (Nat.le_refl _) _)
    obtain ⟨w2, hw2⟩ : ∃ v, w2a.setCells w1.heap.size 0 (R3 a) = v := ⟨_, rfl⟩
    have THz := Lib.hid (show w2a.there w1.heap.size 0 3 from Back.th ZB.out rfl)
    have ONEz := Lib.hid (show ((R3 a) : List Value).toArray.all (·.oneCell') = true by simp [Value.oneCell'])
    have HVz := Lib.hid hw2
    have ZA := Lib.hid (show w2.heap[w1.heap.size]? = some (.cells ((R3 a) : List Value).toArray 23 (0, 0)) by rw [← hw2]; exact Back.st ZB.out rfl)
    have BX := Lib.hid (show Below w1.heap.size w1 w2 by rw [← hw2]; exact bel_set BU.out (Nat.le_refl _))
    clear hw2
    have B2 := Lib.hid (B1.out.trans (BX.out.mono B1.out.size))
    have S2 := Lib.hid ((BX.out.block _ (lt_of_block S1.out)).trans S1.out)
    obtain ⟨lf, hlf⟩ : ∃ lf, (subR has (usedR l)).1 = lf := ⟨_, rfl⟩
    have HRM := Lib.hid (show Nd.room has l (askS S) = fitsR a lf by rw [← hlf, ← HA.out]; exact room_left H.out.ok HQ.out)
    have CL := Lib.hid (show ∀ u, Below w.heap.size w u → Calls Tryz.prog 14 #[.pointer (some ⟨g, 0, none⟩)] u (Told1 lf u) from fun u hu => by rw [← hlf]; exact left_any u (H.out.below hu))
    obtain ⟨ft, hft⟩ : ∃ ft, fitsR a lf = ft := ⟨_, rfl⟩
    rw [hft] at HRM
    have CF := Lib.hid (show ∀ u, Calls Tryz.prog 46 #[.agg (R3 a).toArray, .agg (R3 lf).toArray] u (fun e w' => e = .returned (.bool ft) ∧ Below u.heap.size u w') from fun u => by rw [← hft]; exact Re.fits_any a lf u)
    clear hlf hft hb1 HSY
    go_wp2_with (first | (refine wpList_store_at rfl 23 _ _ rfl _ _ _ rfl rfl THz.out (by kernel_rfl) ONEz.out HVz.out ?_))
    clear hw2a THz ONEz HVz ZB BX BU
    refine Vls.wp_region (by kernel_rfl) (Jx.JX (fun u => Below w2.heap.size w2 u) (fun u => Below w2.heap.size w2 u) 100 101 (fun _ _ => True) [(1, 0), (2, 1), (3, 2), (4, 2), (5, 4), (5, 2), (6, 3), (6, 5), (6, 2), (7, 6), (7, 2), (8, 2), (8, 7)] [.bool true, .bool false, .bool false, .agg (R3 a).toArray, .pointer (some ⟨g, 0, none⟩), .agg (R3 lf).toArray, .bool ft, .bool (!ft), .bool (!ft)]) (by kernel_rfl) (fun _ => undef) (Jx.JX.start (Below.drew (Below.refl _ _)) _) ?_ ?_
    · refine ⟨?_, ?_, ?_, ?_, ?_, ?_, ?_, ?_, ?_, trivial⟩
      · intro s_ a_ u V hs hd hfr hpo hJ
        have f6 : a_.tmps.getD 6 undef = .bool true := hfr 6 (by kernel_rfl)
        refine .inl ⟨rfl, ?_⟩
        unfold Oper.wp
        rw [show (execOp a_.eval _).run Tryz.prog u = .ok (.value (.bool true)) u from by simp [go_sem, Act.eval, f6]]
        exact ⟨_, rfl, hJ.stay 0 (by decide) (by decide) rfl rfl⟩
      · intro s_ a_ u V hs hd hfr hpo hJ
        have e0 : a_.tmps.getD 15 undef = .bool true := (hpo 0 15 (by kernel_rfl)).trans (hJ.get 0 (by decide) (by decide) (hd 0 (by kernel_rfl)) rfl)
        refine .inl ⟨rfl, ?_⟩
        unfold Oper.wp
        rw [show (execOp a_.eval _).run Tryz.prog u = .ok (.value (.bool false)) u from by simp [go_sem, Act.eval, e0]]
        exact ⟨_, rfl, hJ.stay 1 (by decide) (by decide) (by show (s_ 0 && true) = true; rw [hd 0 (by kernel_rfl)]; rfl) rfl⟩
      · intro s_ a_ u V hs hd hfr hpo hJ
        have e1 : a_.tmps.getD 16 undef = .bool false := (hpo 1 16 (by kernel_rfl)).trans (hJ.get 1 (by decide) (by decide) (hd 1 (by kernel_rfl)) rfl)
        refine .inl ⟨rfl, ?_⟩
        unfold Oper.wp
        rw [show (execOp a_.eval _).run Tryz.prog u = .ok (.value (.bool false)) u from by simp [go_sem, Act.eval, e1]]
        exact ⟨_, rfl, hJ.stay 2 (by decide) (by decide) (by show (s_ 1 && true) = true; rw [hd 1 (by kernel_rfl)]; rfl) rfl⟩
      · intro s_ a_ u V hs hd hfr hpo hJ
        have f5 : a_.tmps.getD 5 undef = .pointer (some ⟨w1.heap.size, 0, none⟩) := hfr 5 (by kernel_rfl)
        have e2 : a_.tmps.getD 17 undef = .bool false := (hpo 2 17 (by kernel_rfl)).trans (hJ.get 2 (by decide) (by decide) (hd 2 (by kernel_rfl)) rfl)
        have hP := hJ.both
        refine .inl ⟨Jx.wanted_of rfl rfl e2, ?_⟩
        exact wp_load_mid 23 (.tmp 5) rfl (w1.heap.size) (0) f5 (R3 a) _ (range_box ((hP.block _ (lt_of_block ZA.out)).trans ZA.out)) Tryz.underlying23 rfl (by kernel_rfl) ⟨_, rfl, hJ.stay 3 (by decide) (by decide) (by show (s_ 2 && true) = true; rw [hd 2 (by kernel_rfl)]; rfl) rfl⟩
      · intro s_ a_ u V hs hd hfr hpo hJ
        have f0 : a_.tmps.getD 0 undef = .pointer (some ⟨g, 0, none⟩) := hfr 0 (by kernel_rfl)
        have e2 : a_.tmps.getD 17 undef = .bool false := (hpo 2 17 (by kernel_rfl)).trans (hJ.get 2 (by decide) (by decide) (hd 2 (by kernel_rfl)) rfl)
        refine .inl ⟨Jx.wanted_of rfl rfl e2, ?_⟩
        unfold Oper.wp
        rw [show (execOp a_.eval _).run Tryz.prog u = .ok (.value (.pointer (some ⟨g, 0, none⟩))) u from by simp [go_sem, Act.eval, f0, e2]]
        exact ⟨_, rfl, hJ.stay 4 (by decide) (by decide) (by show (s_ 2 && true) = true; rw [hd 2 (by kernel_rfl)]; rfl) rfl⟩
      · intro s_ a_ u V hs hd hfr hpo hJ
        have e4 : a_.tmps.getD 19 undef = .pointer (some ⟨g, 0, none⟩) := (hpo 4 19 (by kernel_rfl)).trans (hJ.get 4 (by decide) (by decide) (hd 4 (by kernel_rfl)) rfl)
        have e2 : a_.tmps.getD 17 undef = .bool false := (hpo 2 17 (by kernel_rfl)).trans (hJ.get 2 (by decide) (by decide) (hd 2 (by kernel_rfl)) rfl)
        have hP := hJ.both
        refine .inl ⟨Jx.wanted_of rfl rfl e2, ?_⟩
        unfold Oper.wp
        rw [show (execOp a_.eval _).run Tryz.prog u = .ok (.enter 14 #[.pointer (some ⟨g, 0, none⟩)]) u from by simp [go_sem, Act.eval, e4, e2]]
        refine Calls.mono (CL.out u (B2.out.trans (hP.mono B2.out.size))) ?_
        rintro e u2 ⟨rfl, hb⟩
        exact ⟨_, rfl, hJ.step 5 (by decide) (by decide) (by show (s_ 4 && (s_ 2 && true)) = true; rw [hd 4 (by kernel_rfl), hd 2 (by kernel_rfl)]; rfl) (fun _ hP => hP.trans (hb.mono hP.size)) (fun _ hP => hP.trans (hb.mono hP.size)) (fun _ _ hR => hR) rfl⟩
      · intro s_ a_ u V hs hd hfr hpo hJ
        have e3 : a_.tmps.getD 18 undef = .agg (R3 a).toArray := (hpo 3 18 (by kernel_rfl)).trans (hJ.get 3 (by decide) (by decide) (hd 3 (by kernel_rfl)) rfl)
        have e5 : a_.tmps.getD 20 undef = .agg (R3 lf).toArray := (hpo 5 20 (by kernel_rfl)).trans (hJ.get 5 (by decide) (by decide) (hd 5 (by kernel_rfl)) rfl)
        have e2 : a_.tmps.getD 17 undef = .bool false := (hpo 2 17 (by kernel_rfl)).trans (hJ.get 2 (by decide) (by decide) (hd 2 (by kernel_rfl)) rfl)
        have hP := hJ.both
        refine .inl ⟨Jx.wanted_of rfl rfl e2, ?_⟩
        unfold Oper.wp
        rw [show (execOp a_.eval _).run Tryz.prog u = .ok (.enter 46 #[.agg (R3 a).toArray, .agg (R3 lf).toArray]) u from by simp [go_sem, Act.eval, e3, e5, e2]]
        refine Calls.mono (CF.out u) ?_
        rintro e u2 ⟨rfl, hb⟩
        exact ⟨_, rfl, hJ.step 6 (by decide) (by decide) (by show (s_ 3 && (s_ 5 && (s_ 2 && true))) = true; rw [hd 3 (by kernel_rfl), hd 5 (by kernel_rfl), hd 2 (by kernel_rfl)]; rfl) (fun _ hP => hP.trans (hb.mono hP.size)) (fun _ hP => hP.trans (hb.mono hP.size)) (fun _ _ hR => hR) rfl⟩
      · intro s_ a_ u V hs hd hfr hpo hJ
        have e6 : a_.tmps.getD 21 undef = .bool ft := (hpo 6 21 (by kernel_rfl)).trans (hJ.get 6 (by decide) (by decide) (hd 6 (by kernel_rfl)) rfl)
        have e2 : a_.tmps.getD 17 undef = .bool false := (hpo 2 17 (by kernel_rfl)).trans (hJ.get 2 (by decide) (by decide) (hd 2 (by kernel_rfl)) rfl)
        refine .inl ⟨Jx.wanted_of rfl rfl e2, ?_⟩
        unfold Oper.wp
        rw [show (execOp a_.eval _).run Tryz.prog u = .ok (.value (.bool (!ft))) u from by simp [go_sem, Act.eval, e6, e2]]
        exact ⟨_, rfl, hJ.stay 7 (by decide) (by decide) (by show (s_ 6 && (s_ 2 && true)) = true; rw [hd 6 (by kernel_rfl), hd 2 (by kernel_rfl)]; rfl) rfl⟩
      · intro s_ a_ u V hs hd hfr hpo hJ
        have e2 : a_.tmps.getD 17 undef = .bool false := (hpo 2 17 (by kernel_rfl)).trans (hJ.get 2 (by decide) (by decide) (hd 2 (by kernel_rfl)) rfl)
        have e7 : a_.tmps.getD 22 undef = .bool (!ft) := (hpo 7 22 (by kernel_rfl)).trans (hJ.get 7 (by decide) (by decide) (hd 7 (by kernel_rfl)) rfl)
        refine .inl ⟨rfl, ?_⟩
        unfold Oper.wp
        rw [show (execOp a_.eval _).run Tryz.prog u = .ok (.value (.bool (!ft))) u from by simp [go_sem, Act.eval, e2, e7]]
        exact ⟨_, rfl, hJ.stay 8 (by decide) (by decide) (by show (s_ 2 && (s_ 7 && true)) = true; rw [hd 2 (by kernel_rfl), hd 7 (by kernel_rfl)]; rfl) rfl⟩
    · intro s_ V w5 hall hJ
      have e8 : V 8 = .bool (!ft) := hJ.get 8 (by decide) (by decide) (hall 8 (by decide)) rfl
      have B5 := Lib.hid (B2.out.trans (hJ.both.mono B2.out.size))
      have S5 := Lib.hid ((hJ.both.block _ (lt_of_block S2.out)).trans S2.out)
      clear hall hJ CL CF ZA
      simp only [Bxs.puts, Nat.reduceAdd, put_none, Re.put_lit, List.set_cons_succ, List.set_cons_zero]
      rw [e8]
      clear e8
      cases ft with
      | false =>
        have HE := Lib.hid (show F = 160 from HF.out.symm.trans (fit_no HR.out HRM.out))
        go_wp2
        go_ret
        exact ⟨by rw [HE.out]; rfl, B5.out⟩
      | true =>
        have RS := Lib.hid (range_box S5.out)
        go_wp2_with (first | (refine wpList_load_mid rfl 35 _ rfl _ _ rfl _ _ RS.out Tryz.underlying35 rfl (by kernel_rfl) ?_))
        clear RS
        refine (ports_any S LA lc IA ic MA mc HL.out.2.2.2 (by have := HL.out.1.2.2; omega) w5 (HS.out.below B5.out)).mono ?_
        rintro e w7 ⟨v, rfl, ho7, hb7⟩
        obtain ⟨PA, pc, rfl⟩ := Pt.own_form ho7
        have B7 := Lib.hid (B5.out.trans (hb7.mono B5.out.size))
        obtain ⟨ps, hps⟩ : ∃ ps, S.main.flatMap (·.ports) = ps := ⟨_, rfl⟩
        have HPS := Lib.hid (show (askS S).ports = ps from hps)
        rw [hps] at ho7 ⊢
        have CC := contains_any PA pc ps w7 (H.out.below B7.out) ho7 (by rw [← HPS.out]; omega)
        obtain ⟨n, hn⟩ : ∃ n, ps.length = n := ⟨_, rfl⟩
        rw [hn] at CC ⊢
        obtain ⟨b, hb⟩ : ∃ b, anyOwn l ps = b := ⟨_, rfl⟩
        have HB := Lib.hid (show anyOwn l (askS S).ports = b by rw [HPS.out]; exact hb)
        rw [hb] at CC
        clear hps ho7 hb7 hn hb hfew
        have CC := Lib.hid CC
        go_wp2_with fail
        refine CC.out.mono ?_
        rintro e w8 ⟨rfl, hb8⟩
        have B8 := Lib.hid (B7.out.trans (hb8.mono B7.out.size))
        clear hb8 CC
        cases b with
        | true =>
          have HE := Lib.hid (show F = 150 from HF.out.symm.trans (by obtain ⟨p, h1, h2⟩ := anyOwn_iff.1 HB.out; exact fit_own HR.out HRM.out h1 h2))
          go_wp2
          go_ret
          exact ⟨by rw [HE.out]; rfl, B8.out⟩
        | false =>
          have HE := Lib.hid (show F = 0 from HF.out.symm.trans (fit_yes HR.out HRM.out fun p hp => by
            refine Classical.byContradiction fun h => ?_
            have := anyOwn_iff.2 ⟨p, hp, h⟩
            rw [HB.out] at this
            cases this))
          go_wp2
          go_ret
          exact ⟨by rw [HE.out]; rfl, B8.out⟩
  · have HE := Lib.hid (show F = 1 from HF.out.symm.trans (fit_wrong (decide_eq_false fun h => by have := HSY.out.nil_iff.2 h; cases this)))
    go_wp2
    go_ret
    exact ⟨by rw [HE.out]; rfl, BC.out⟩
end Nn
end Go.Proofs.YtbichomjpmmjmaaGreatDoor

/-
  The program's node: New, what a pod asks for. Conditions: numbers that can be; the node is one (Nn).
-/
set_option linter.unusedVariables false
set_option linter.unusedSimpArgs false
namespace Go.Proofs.YtbichomjpmmjmaaGreatDoor
open Go.ChangeShapes Go.WideShapes Go.ChangeAt Go.RowKit Go.Lib
open NumMath
namespace Nn
open Re Nd
set_option maxRecDepth 100000 in
set_option maxHeartbeats 1000000 in
theorem new_any (has : Rx) (hh : has.Ok) (w : World) : Calls Tryz.prog 6 #[.agg (R3 has).toArray] w fun e w' => ∃ g, e = .returned (.pointer (some ⟨g, 0, none⟩)) ∧ Nn w.heap.size w' g (maxR has z3) [] ∧ Below w.heap.size w w' := by
  obtain ⟨w0, hw0⟩ : ∃ v, w.alloc (.cells (R3 has).toArray 23) = v := ⟨_, rfl⟩
  have R0 := Lib.hid (show w0.heap[w.heap.size]? = some (.cells (R3 has).toArray 23 (0, 0)) by rw [← hw0]; exact heap_alloc_new w _)
  have B0 := Lib.hid (show Below w.heap.size w w0 by rw [← hw0]; exact (Below.refl _ _).alloc (Nat.le_refl _) _)
  have RR := Lib.hid (range_box R0.out)
  have HO := Lib.hid (Nd.Ok.new hh)
  obtain ⟨m, hm⟩ : ∃ m, maxR has z3 = m := ⟨_, rfl⟩
  have CM := Lib.hid (show ∀ u, Calls Tryz.prog 28 #[.agg (R3 has).toArray, .agg (R3 z3).toArray] u (fun e w' => e = .returned (.agg (R3 m).toArray) ∧ Below u.heap.size u w') from fun u => by rw [← hm]; exact max_any has z3 u)
  rw [hm] at HO ⊢
  clear hm hh
  have hmm : ∀ u : World, (Instr.makeMap 64 none).run Tryz.prog u = .ok (.map (some u.heap.size)) (u.alloc (.map #[] 0)) := fun _ => rfl
  go_enter Tryz.func6, Tryz.ntmps6
  go_wp2_with (first
    | (refine wpList_load_mid rfl 23 _ rfl _ _ rfl _ _ RR.out Tryz.underlying23 rfl (by kernel_rfl) ?_)
    | (go_at_call 28; refine (CM.out _).mono ?_; rintro e w1 ⟨rfl, hb1⟩; have B1 := Lib.hid (B0.out.trans (hb1.mono B0.out.size)); clear hb1)
    | (go_at_call 29; obtain ⟨w2, hw2⟩ : ∃ v, w1.alloc (.map #[] 0) = v := ⟨_, rfl⟩; have M2 := Lib.hid (show Mp.MapAt w2 w1.heap.size [] by rw [← hw2]; exact Mp.new_map w1); have B2 := Lib.hid (show Below w.heap.size w w2 by rw [← hw2]; exact B1.out.alloc B1.out.size _); rw [hw2]; clear hw2; refine (Pt.new_any w2).mono ?_; rintro e w3 ⟨rfl, hT, hb3⟩; have T3 := Lib.hid hT; have B3 := Lib.hid (B2.out.trans (hb3.mono B2.out.size)); have M3 := Lib.hid (M2.out.keep (hb3.block _ M2.out.lt)); clear hb3 hT))
  go_ret
  have hb4 : Below w3.heap.size w3 (w3.alloc (.cells (cells8 m z3 w1.heap.size w2.heap.size).toArray 68)) := (Below.refl _ _).alloc (Nat.le_refl _) _
  have hs2 := B2.out.size
  have hs1 := B1.out.size
  have hs3 := B3.out.size
  exact ⟨w3.heap.size, rfl, ⟨w1.heap.size, w2.heap.size, [], ⟨hs3, heap_alloc_new w3 (.cells (cells8 m z3 w1.heap.size w2.heap.size).toArray 68), hs1, M3.out.keep (hb4.block _ M3.out.lt), (T3.out _ hs2).below hb4, Nd.Same.nil, HO.out⟩⟩, B3.out.trans (hb4.mono hs3)⟩
theorem res_of (tmps : Array Value) (w : World) (p : Nat) (xs : List Value) (x : Value) (h2 : tmps.getD 4 undef = .pointer (some ⟨p, 0, none⟩)) (h3 : tmps.getD 5 undef = x) (hX : w.heap[p]? = some (.cells xs.toArray 23 (0, 0))) (hm : xs.length = 3) :
    (results Tryz.f20 tmps).run Tryz.prog w = .ok (.tuple #[.agg xs.toArray, x]) w := by
  have h1 : (loadVar 23 ⟨p, 0, none⟩).run Tryz.prog w = .ok (.agg xs.toArray) w := run_loadVar_mid w p 0 23 _ _ (range_box hX) Tryz.underlying23 rfl (by rw [hm]; kernel_rfl)
  simp only [results, Tryz.results20]
  simp only [Array.getD_eq_getD_getElem?] at h2 h3
  have ha : (asAddr (tmps[4]?.getD undef)).run Tryz.prog w = .ok ⟨p, 0, none⟩ w := by rw [h2]; rfl
  simp [Sem.run_bind, h1, ha, h3]
theorem zero_res (w : World) : (zeroValue 23).run Tryz.prog w = .ok (rv z3) w := by kernel_rfl
/-- a look into the node's map -/
theorem look_any {B : Nat} {w : World} {g : Nat} {has : Rx} {l : Pods} {m p : Nat} {T : Pt.Tab} (h : NnAt B w g has l m p T) (u : Int) : (Instr.lookup 64 (.map (some m)) (.int .i64 u) true).run Tryz.prog w = .ok (.tuple #[.agg (R3 (ofU l u)).toArray, .bool (isIn u l)]) w := by
  cases hi : isIn u l with
  | true =>
    obtain ⟨x, h1, h2⟩ := idx_at hi
    rw [ofU_in h1]
    exact (Mp.run_lookup_some Tryz.underlying64 Tryz.underlying3 h.map (look_in h1 h2)).1
  | false =>
    rw [ofU_out hi]
    exact Mp.run_lookup_none Tryz.underlying64 Tryz.underlying3 (zero_res w) h.map (look_out hi)
set_option maxRecDepth 100000 in
set_option maxHeartbeats 1000000 in
theorem of_any {B : Nat} {g : Nat} {has : Rx} {l : Pods} (u : Int) (w : World) (h : Nn B w g has l) : Calls Tryz.prog 20 #[.pointer (some ⟨g, 0, none⟩), .int .i64 u] w (Told3 (ofU l u, isIn u l) w) := by
  obtain ⟨m, p, T, h⟩ := h
  obtain ⟨w0, hw0⟩ : ∃ v, w.alloc (.cells #[.int .i64 0, .int .i64 0, .int .i64 0] 23) = v := ⟨_, rfl⟩
  have B0 := Lib.hid (show Below w.heap.size w w0 by rw [← hw0]; exact (Below.refl _ _).alloc (Nat.le_refl _) _)
  have Z0 := Lib.hid (show w0.heap[w.heap.size]? = some (.cells #[.int .i64 0, .int .i64 0, .int .i64 0] 23 (0, 0)) by rw [← hw0]; exact heap_alloc_new w _)
  have H0 := h.below B0.out
  have HLK := Lib.hid (look_any H0 u)
  have c6 := H0.asked
  obtain ⟨a, ha⟩ : ∃ a, ofU l u = a := ⟨_, rfl⟩
  obtain ⟨b, hb⟩ : ∃ b, isIn u l = b := ⟨_, rfl⟩
  rw [ha, hb] at HLK ⊢
  clear ha hb h H0
  obtain ⟨w1, hw1⟩ : ∃ v, w0.alloc (.cells #[.int .i64 0, .int .i64 0, .int .i64 0] 23) = v := ⟨_, rfl⟩
  have Z1 := Lib.hid (show w1.heap[w0.heap.size]? = some (.cells #[.int .i64 0, .int .i64 0, .int .i64 0] 23 (0, 0)) by rw [← hw1]; exact heap_alloc_new w0 _)
  have hb1 : Below w0.heap.size w0 w1 := by rw [← hw1]; exact (Below.refl _ _).alloc (Nat.le_refl _) _
  have B1 := Lib.hid (B0.out.trans (hb1.mono B0.out.size))
  have Y1 := Lib.hid ((hb1.block _ (lt_of_block Z0.out)).trans Z0.out)
  have HNE := Lib.hid (show w.heap.size ≠ w0.heap.size by have := lt_of_block Z0.out; omega)
  obtain ⟨w2, hw2⟩ : ∃ v, w1.setCells w0.heap.size 0 (R3 a) = v := ⟨_, rfl⟩
  have TH1 := Lib.hid (show w1.there w0.heap.size 0 3 from Back.th Z1.out rfl)
  have ONE1 := Lib.hid (show (R3 a).toArray.all (·.oneCell') = true by simp [Value.oneCell'])
  have HV1 := Lib.hid hw2
  have Z2 := Lib.hid (show w2.heap[w0.heap.size]? = some (.cells (R3 a).toArray 23 (0, 0)) by rw [← hw2]; exact Back.st Z1.out rfl)
  have B2 := Lib.hid (show Below w.heap.size w w2 by rw [← hw2]; exact bel_set B1.out B0.out.size)
  have Y2 := Lib.hid (show w2.heap[w.heap.size]? = some (.cells #[.int .i64 0, .int .i64 0, .int .i64 0] 23 (0, 0)) by rw [← hw2]; exact ((Back.far w0.heap.size (R3 a) 0 w1).2.2.2.2 _ HNE.out).trans Y1.out)
  have RR := Lib.hid (range_box Z2.out)
  obtain ⟨w6, hw6⟩ : ∃ v, w2.setCells w.heap.size 0 (R3 a) = v := ⟨_, rfl⟩
  have THy := Lib.hid (show w2.there w.heap.size 0 3 from Back.th Y2.out rfl)
  have HVy := Lib.hid hw6
  have Z6 := Lib.hid (show w6.heap[w.heap.size]? = some (.cells (R3 a).toArray 23 (0, 0)) by rw [← hw6]; exact Back.st Y2.out rfl)
  have B6 := Lib.hid (show Below w.heap.size w w6 by rw [← hw6]; exact bel_set B2.out (Nat.le_refl _))
  clear hw2 hw6 hb1
  go_enter Tryz.func20, Tryz.ntmps20
  go_wp2_with (first
    | (refine Mp.wpList_lookup_run rfl _ _ _ _ rfl _ _ _ rfl rfl HLK.out ?_)
    | (refine wpList_store_at rfl 23 _ _ rfl _ _ _ rfl rfl TH1.out (by kernel_rfl) ONE1.out HV1.out ?_)
    | (refine wpList_load_mid rfl 23 _ rfl _ _ rfl _ _ RR.out Tryz.underlying23 rfl (by kernel_rfl) ?_)
    | (refine wpList_store_at rfl 23 _ _ rfl _ _ _ rfl rfl THy.out (by kernel_rfl) ONE1.out HVy.out ?_))
  refine bodyPost_ret (v := .tuple #[.agg (R3 a).toArray, .bool b]) (res_of _ _ _ (R3 a) _ rfl rfl Z6.out rfl) rfl ?_
  exact ⟨rfl, B6.out⟩
end Nn
end Go.Proofs.YtbichomjpmmjmaaGreatDoor

/-
  The program's node while a call is under way: its parts, when its box, its map or its table alone is written. No condition.
-/
set_option linter.unusedVariables false
set_option linter.unusedSimpArgs false
namespace Go.Proofs.YtbichomjpmmjmaaGreatDoor
open Go.ChangeShapes Go.WideShapes Go.ChangeAt Go.RowKit Go.Lib
namespace Nn
open Re Nd
section
variable {B : Nat} {w u : World} {g : Nat} {has us : Rx} {l : Pods} {m p : Nat} {T : Pt.Tab}
theorem th_mid {A : Array Value} {t : TypeId} (h : w.heap[g]? = some (.cells A t (0, 0))) (o n : Nat) (hn : o + n ≤ A.size) : w.there g o n := fun j hj =>
  ⟨by rw [Pt.box_cell h (o + j) (Array.getElem?_eq_getElem (by omega))]; rfl, Pt.box_free h _⟩
theorem set_used {t : TypeId} (us2 : Rx) (h : w.heap[g]? = some (.cells (cells8 has us m p).toArray t (0, 0))) : (w.setCells g 3 (R3 us2)).heap[g]? = some (.cells (cells8 has us2 m p).toArray t (0, 0)) := Jx.set_mid g t (R3 us2) 3 w _ h
theorem but_set {v : World} (h : Below v.heap.size v u) (o : Nat) (vs : List Value) : Jx.But v.heap.size g v (u.setCells g o vs) := by
  have f := Back.far g vs o u
  exact ⟨f.1.trans h.os, f.2.1.trans h.tape, f.2.2.1.trans h.output, by rw [f.2.2.2.1]; exact h.size, fun k hk hn => (f.2.2.2.2 k hn).trans (h.block k hk)⟩
theorem Kn.of_but (h : Jx.But w.heap.size g w u) (hg : B ≤ g) (hn : IsN w g) : Kn B w u :=
  ⟨h.os, h.tape, h.output, h.size, fun k hk hd => h.block k hk fun e => by
    rcases hd with hd | hd
    · omega
    · subst e; exact hd hn⟩
theorem NnAt.ne_gm (h : NnAt B w g has l m p T) : m ≠ g := fun e => by
  obtain ⟨es, c, hm, _⟩ := h.map
  rw [e, h.box] at hm
  injection hm with hm
  cases hm
theorem NnAt.ne_gp (h : NnAt B w g has l m p T) : p ≠ g := fun e => by
  obtain ⟨A, c, ht⟩ := h.tab
  have hb := ht.box
  rw [e, h.box] at hb
  injection hb with hb
  injection hb with _ hb _
  exact absurd hb (by decide)
theorem NnAt.isN (h : NnAt B w g has l m p T) : IsN w g := .inl ⟨_, h.box⟩
theorem not_t {k : Nat} {A : Array Value} {t : TypeId} (h : w.heap[k]? = some (.cells A t (0, 0))) (ht : t ≠ 110) : ¬ Pt.IsT w k := by
  rintro ⟨cur, e⟩
  rw [h] at e
  injection e with e
  injection e with _ e _
  exact ht e
/-- the box alone is written -/
theorem NnAt.but (h : NnAt B w g has l m p T) (hb : Jx.But w.heap.size g w u) : Mp.MapAt u m (kvs l) ∧ Pt.Tb B u p T := by
  refine ⟨h.map.keep (hb.block m h.map.lt h.ne_gm), ?_⟩
  have hp := h.ne_gp
  have hbox := h.box
  obtain ⟨A, c, ht⟩ := h.tab
  refine ⟨A, c, ht.keep fun k hk hd => hb.block k hk fun e => ?_⟩
  rcases hd with rfl | hd
  · exact hp e
  · subst e; exact not_t hbox (by decide) hd
/-- the map alone is written -/
theorem only_box {A : Array Value} {t : TypeId} (ho : Pt.OnlyB m w u) (h : w.heap[g]? = some (.cells A t (0, 0))) (hm : Mp.MapAt w m (kvs l)) : u.heap[g]? = some (.cells A t (0, 0)) := (ho.block g fun e => by
  obtain ⟨es, c, hm, _⟩ := hm
  rw [← e, h] at hm
  injection hm with hm
  cases hm).trans h
theorem only_tab (ho : Pt.OnlyB m w u) (hm : Mp.MapAt w m (kvs l)) (ht : Pt.Tb B w p T) : Pt.Tb B u p T := by
  obtain ⟨es, cl, hm, _⟩ := hm
  obtain ⟨A, c, ht⟩ := ht
  refine ⟨A, c, ht.keep fun k hk hd => ho.block k fun e => ?_⟩
  subst e
  rcases hd with rfl | ⟨cur, hd⟩
  · have := ht.box
    rw [hm] at this
    injection this with this
    cases this
  · rw [hm] at hd
    injection hd with hd
    cases hd
/-- the table alone is written -/
theorem kt_box {A : Array Value} (hk : Pt.Kt B p w u) (ht : Pt.Tb B w p T) (h : w.heap[g]? = some (.cells A 68 (0, 0))) : u.heap[g]? = some (.cells A 68 (0, 0)) := by
  refine (hk.block g (Pt.lt_of_block h) (fun e => ?_) (.inr (not_t h (by decide)))).trans h
  obtain ⟨A, c, ht⟩ := ht
  have hb := ht.box
  rw [← e, h] at hb
  injection hb with hb
  injection hb with _ hb _
  exact absurd hb (by decide)
theorem kt_map {L : List (Int × Value)} (hk : Pt.Kt B p w u) (ht : Pt.Tb B w p T) (h : Mp.MapAt w m L) : Mp.MapAt u m L := by
  refine h.keep (hk.block m h.lt (fun e => ?_) (.inr fun e => ?_))
  · obtain ⟨A, c, ht⟩ := ht
    obtain ⟨es, cl, hm, _⟩ := h
    have hb := ht.box
    rw [← e, hm] at hb
    injection hb with hb
    cases hb
  · obtain ⟨cur, e⟩ := e
    obtain ⟨es, cl, hm, _⟩ := h
    rw [hm] at e
    injection e with e
    cases e
end
theorem fit_zero {has : Rx} {l : Pods} {q : Nd.Ask} (h : fitC has l q = 0) : q.right = true ∧ Nd.room has l q = true ∧ anyOwn l q.ports = false := by
  unfold fitC at h
  split at h
  · exact absurd h (by decide)
  split at h
  · exact absurd h (by decide)
  split at h
  · exact absurd h (by decide)
  rename_i h1 h2 h3
  exact ⟨by simpa using h1, by simpa using h2, by simpa using h3⟩
theorem adm_fit {has : Rx} {l : Pods} {u : Int} {q : Nd.Ask} (hu : 1 ≤ u) (hi : isIn u l = false) : admC has l u q = fitC has l q := by
  unfold admC
  rw [if_neg (by omega), if_neg (by rw [hi]; decide)]
theorem adm_low {has : Rx} {l : Pods} {u : Int} {q : Nd.Ask} (hu : u < 1) : admC has l u q = 1 := by unfold admC; rw [if_pos hu]
theorem adm_there {has : Rx} {l : Pods} {u : Int} {q : Nd.Ask} (hu : 1 ≤ u) (hi : isIn u l = true) : admC has l u q = 7 := by
  unfold admC
  rw [if_neg (by omega), if_pos hi]
theorem adm_stay {has : Rx} {l : Pods} {u : Int} {q : Nd.Ask} (h : admC has l u q ≠ 0) : admL has l u q = l := by unfold admL; rw [if_neg h]
theorem adm_come {has : Rx} {l : Pods} {u : Int} {q : Nd.Ask} (h : admC has l u q = 0) : admL has l u q = insP ⟨u, q.ask, q.ports⟩ l := by unfold admL; rw [if_pos h]
end Nn
end Go.Proofs.YtbichomjpmmjmaaGreatDoor
