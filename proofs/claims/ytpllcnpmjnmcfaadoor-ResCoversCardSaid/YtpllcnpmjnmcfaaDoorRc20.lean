/-
  The contract of spec.Check: what is said of a spec is the document's word. All that was there is left as it was. Conditions: as SpecStep; the spec is light (Book.Light).
-/
import Derived.Test.YtpllcnpmjnmcfaaDoorRc18
import Derived.Test.YtpllcnpmjnmcfaaDoorRc19
namespace Go.Proofs.YtpllcnpmjnmcfaaDoor
open Go.ChangeShapes Go.WideShapes Go.ChangeAt Go.RowKit Go.Lib
open Sd Lists SpecRef
namespace SpecOwn

theorem kb0 {D : Nat → Prop} {w w' : World} (hb : Below w.heap.size w w') : ∀ b, D b → b < w.heap.size → KB 0 w' b ∧ w'.heap[b]? = w.heap[b]? := fun b _ hl => ⟨Nat.zero_le b, hb.block b hl⟩

/-! the document's word -/
theorem listN_init (l : List Ctr) : listN t_init 0 3 0 0 [] [] l = if 3 < l.length then (2, t_init) else ctrsFrom t_init true 0 [] l := by
  unfold listN
  have := listFrom_eq t_init true l 0 []
  simp only [List.map_nil, List.flatMap_nil, if_true] at this
  rw [this]
  by_cases h : 3 < l.length
  · rw [if_pos h, if_pos (by omega)]
  · rw [if_neg h, if_neg (by omega)]
theorem listN_main (a l : List Ctr) : listN t_main 1 4 3 1000 (a.map (·.name)) (a.flatMap (·.ports)) l = if l.length < 1 ∨ 4 < l.length then (2, t_main) else ctrsFrom t_main false 0 a l := by
  unfold listN
  have := listFrom_eq t_main false l 0 a
  simp only [Bool.false_eq_true, if_false] at this
  rw [this]
  by_cases h : l.length < 1 ∨ 4 < l.length
  · rw [if_pos h, if_pos (by omega)]
  · rw [if_neg h, if_neg (by omega)]
theorem oneV_zero (x : Ctr) (a : List Ctr) (init : Bool) : (oneV x a init).1 = 0 → True := fun _ => trivial
theorem labelsFrom_fine (name : ByteArray) : ∀ (l : List Lbl) (i : Nat) (p : Option Lbl), (labelsFrom name i p l).1 = 0 → labelsFrom name i p l = fine
  | [], i, p, _ => by cases p <;> rfl
  | x :: l, i, p, h => by
    rw [labelsFrom_cons] at h ⊢
    split at h
    · simp at h
    · rename_i h1
      rw [if_neg h1]
      split at h
      · simp at h
      · rename_i h2
        rw [if_neg h2]
        split at h
        · simp at h
        · rename_i h3
          rw [if_neg h3]
          exact labelsFrom_fine name l (i + 1) (some x) h
theorem check_eq (S : Spc) (y1 y2 : Say) (h1 : y1 = listN t_init 0 3 0 0 [] [] S.init) (h2 : y1.1 = 0 → y2 = listN t_main 1 4 3 1000 (S.init.map (·.name)) (S.init.flatMap (·.ports)) S.main) :
    firstV [newV (Text.codeN (TextPure.nameL S.name.data.toList) 30) t_name, labelsV t_labels S.labels, y1, y2, withinV S.restart 1 3 t_restart, withinV S.grace 0 1000 t_grace, withinV S.prio 0 10 t_prio] = checkV S := by
  rw [listN_init] at h1
  simp only [listN_main] at h2
  unfold checkV
  have e0 : newV (Text.codeN (TextPure.nameL S.name.data.toList) 30) t_name = if isName S.name = false then (30, t_name) else fine := by
    unfold isName Text.codeN newV
    cases TextPure.nameL S.name.data.toList <;> rfl
  rw [e0]
  simp only [firstV_cons, firstV_nil]
  by_cases a1 : isName S.name = false
  · simp [a1]
  · by_cases a2 : (labelsV t_labels S.labels).1 = 0
    · by_cases a3 : y1.1 = 0
      · have a3' := h2 a3
        have b1 : ¬ 3 < S.init.length := fun h => by rw [h1, if_pos h] at a3; simp at a3
        rw [if_neg b1] at h1
        have b2 : (ctrsFrom t_init true 0 [] S.init).1 = 0 := h1 ▸ a3
        by_cases b3 : S.main.length < 1 ∨ 4 < S.main.length
        · rw [if_pos b3] at a3'
          simp only [a1, a2, a3, a3', b1, b2, b3, fine, if_true, if_false, ne_eq, not_true_eq_false]
          rfl
        · rw [if_neg b3] at a3'
          subst a3'
          by_cases b4 : (ctrsFrom t_main false 0 S.init S.main).1 = 0
          · simp only [a1, a2, a3, b1, b2, b3, b4, fine, if_true, if_false, ne_eq, not_true_eq_false, tailV, withinV]
            by_cases c1 : S.restart < 1 ∨ 3 < S.restart
            · simp [c1]
            · by_cases c2 : S.grace < 0 ∨ 1000 < S.grace
              · simp [c1, c2]
              · by_cases c3 : S.prio < 0 ∨ 10 < S.prio
                · simp [c1, c2, c3]
                · simp [c1, c2, c3]
          · simp only [a1, a2, a3, b1, b2, b3, b4, fine, if_true, if_false, ne_eq, not_true_eq_false, not_false_eq_true, Bool.true_eq_false]
      · by_cases b1 : 3 < S.init.length
        · rw [if_pos b1] at h1
          subst h1
          simp [a1, a2, b1, fine]
        · rw [if_neg b1] at h1
          subst h1
          simp [a1, a2, a3, b1, fine]
    · simp [a1, a2, fine]

/-- a call ends with what says y -/
def TellsA (y : Say) (w : World) (e : Ending) (w' : World) : Prop := ∃ E, e = .returned E ∧ Says (KB 0 w') w' E y ∧ Below w.heap.size w w'

/-- what each operation leaves -/
def FCheck (b1 : Nat) (S : Spc) (LA : Option Addr) (lc : Nat) (y1 y2 : Say) : Nat → Value → World → Prop
  | 0 => fun v _ => v = .pointer (some ⟨b1, 0, none⟩)
  | 1 => fun v _ => v = .string S.name
  | 2 => fun v _ => v = .int .i64 (Text.codeN (TextPure.nameL S.name.data.toList) 30)
  | 3 => TextK (KB 0) t_name
  | 4 => SaysK (KB 0) (newV (Text.codeN (TextPure.nameL S.name.data.toList) 30) t_name)
  | 5 => fun v _ => v = .pointer (some ⟨b1, 1, none⟩)
  | 6 => fun v _ => v = .slice LA S.labels.length lc
  | 7 => SaysK (KB 0) (labelsV t_labels S.labels)
  | 8 => SaysK (KB 0) (y1)
  | 9 => SaysK (KB 0) (y2)
  | 10 => fun v _ => v = .pointer (some ⟨b1, 4, none⟩)
  | 11 => fun v _ => v = .int .i64 S.restart
  | 12 => SaysK (KB 0) (withinV S.restart 1 3 t_restart)
  | 13 => fun v _ => v = .pointer (some ⟨b1, 5, none⟩)
  | 14 => fun v _ => v = .int .i64 S.grace
  | 15 => SaysK (KB 0) (withinV S.grace 0 1000 t_grace)
  | 16 => fun v _ => v = .pointer (some ⟨b1, 6, none⟩)
  | 17 => fun v _ => v = .int .i64 S.prio
  | 18 => SaysK (KB 0) (withinV S.prio 0 10 t_prio)
  | 19 => RowK (KB 0) [newV (Text.codeN (TextPure.nameL S.name.data.toList) 30) t_name, labelsV t_labels S.labels, y1, y2, withinV S.restart 1 3 t_restart, withinV S.grace 0 1000 t_grace, withinV S.prio 0 10 t_prio]
  | 20 => SaysK (KB 0) (firstV [newV (Text.codeN (TextPure.nameL S.name.data.toList) 30) t_name, labelsV t_labels S.labels, y1, y2, withinV S.restart 1 3 t_restart, withinV S.grace 0 1000 t_grace, withinV S.prio 0 10 t_prio])
  | _ => SaysK (KB 0) (firstV [newV (Text.codeN (TextPure.nameL S.name.data.toList) 30) t_name, labelsV t_labels S.labels, y1, y2, withinV S.restart 1 3 t_restart, withinV S.grace 0 1000 t_grace, withinV S.prio 0 10 t_prio])
theorem FCheck_keep (b1 : Nat) (S : Spc) (LA : Option Addr) (lc : Nat) (y1 y2 : Say) (i : Nat) (v : Value) (w w' : World) (h : FCheck b1 S LA lc y1 y2 i v w) (hb : Below w.heap.size w w') : FCheck b1 S LA lc y1 y2 i v w' := by
  unfold FCheck at h ⊢
  split at h <;> first | exact h | exact TextK.keep h (kb_keep hb) | exact SaysK.keep h (kb_keep hb) | exact RowK.keep h (kb_keep hb)

set_option maxRecDepth 100000 in
set_option maxHeartbeats 4000000 in
theorem check_any (S : Spc) (LA : Option Addr) (lc : Nat) (IA : Option Addr) (ic : Nat) (MA : Option Addr) (mc : Nat) (hLt : Book.Light S) (w : World) (hL : SLaid w) (h : S.In w LA lc IA ic MA mc) :
    Calls Tryd.prog 25 #[.agg #[.string S.name, .slice LA S.labels.length lc, .slice IA S.init.length ic, .slice MA S.main.length mc, .int .i64 S.restart, .int .i64 S.grace, .int .i64 S.prio]] w (TellsA (checkV S) w) := by
  have HL := Lib.hid hL
  have H := Lib.hid h
  have HLT := Lib.hid hLt
  have hnl := h.nl
  have hns : S.name.size ≤ 100 := hLt.1.1
  clear hL h hLt
  go_enter Tryd.func25, Tryd.ntmps25
  go_wp2_with fail
  obtain ⟨w3, hw3⟩ : ∃ w3, (w.alloc (.cells #[.string S.name, .slice LA S.labels.length lc, .slice IA S.init.length ic, .slice MA S.main.length mc, .int .i64 S.restart, .int .i64 S.grace, .int .i64 S.prio] 40)).alloc (.cells #[.slice none 0 0, .slice none 0 0] 67) = w3 := ⟨_, rfl⟩
  have hb3 : Below w.heap.size w w3 := by rw [← hw3]; exact ((Below.refl _ _).alloc (Nat.le_refl _) _).alloc (by simp) _
  have HB3 := Lib.hid hb3
  have HSB3 := Lib.hid (show SBox S LA lc IA ic MA mc w3 w.heap.size by
    unfold SBox
    rw [← hw3, Below.heap_alloc _ _ _ (by simp)]; exact heap_alloc_new w _)
  have HT3 := Lib.hid (show Tk w3 (w.heap.size + 1) [] [] from ⟨none, 0, none, 0, by
    have e : (w.alloc (.cells #[.string S.name, .slice LA S.labels.length lc, .slice IA S.init.length ic, .slice MA S.main.length mc, .int .i64 S.restart, .int .i64 S.grace, .int .i64 S.prio] 40)).heap.size = w.heap.size + 1 := by simp
    rw [← hw3, ← e]
    exact heap_alloc_new _ _, World.ownsRow_nil _ _ _ _, World.ownsRow_nil _ _ _ _⟩)
  rw [hw3]
  obtain ⟨b1, hb1⟩ : ∃ b, w.heap.size = b := ⟨_, rfl⟩
  have HBB := Lib.hid hb1
  have hg0 : w.heap.size ≤ b1 + 1 := by omega
  rw [hb1] at HSB3 HT3 ⊢
  obtain ⟨g, hg⟩ : ∃ g, b1 + 1 = g := ⟨_, rfl⟩
  rw [hg] at HT3 hg0 ⊢
  have hlg : b1 < g := by omega
  clear hw3 hb1 hg hb3
  refine (list_any w HL.out g hg0 t_init (by decide) IA ic S.init H.out.init HLT.out.2.2.1 0 3 0 0 (by decide) (by decide) (by decide) [] [] (by simp) (by simp) w3 HB3.out HT3.out).mono ?_
  rintro e w4 ⟨N1, P1, ⟨E1, rfl, hE1, hA1, hT1⟩, hf1, hn1, hp1⟩
  have HE4 := Lib.hid hE1
  have HA4 := Lib.hid hA1
  have HT4 := Lib.hid hT1
  have HF4 := Lib.hid hf1
  have HB4 := Lib.hid (hA1.base HB3.out hg0)
  have HSB4 := Lib.hid (show SBox S LA lc IA ic MA mc w4 b1 from (hA1.low b1 hlg HSB3.out.lt).trans HSB3.out)
  clear hE1 hA1 hT1 hf1
  have c3 := HSB4.out.cells.c3
  go_wp2_with fail
  refine (list_any w HL.out g hg0 t_main (by decide) MA mc S.main H.out.main HLT.out.2.2.2 1 4 3 1000 (by decide) (by decide) (by decide) N1 P1 (by simp at hn1; omega) (by simp at hp1; omega) w4 HB4.out HT4.out).mono ?_
  rintro e w5 ⟨N2, P2, ⟨E2, rfl, hE2, hA2, hT2⟩, _, _, _⟩
  have HE1 := Lib.hid (show Says (KB 0 w5) w5 E1 _ from Says.keep HE4.out fun b hd _ => ⟨Nat.zero_le b, ((hA2.ok HT4.out.ok).2 b hd).2⟩)
  have HE2 := Lib.hid (show Says (KB 0 w5) w5 E2 _ from Says.keep hE2 fun b _ _ => ⟨Nat.zero_le b, rfl⟩)
  have HB5 := Lib.hid (hA2.base HB4.out hg0)
  have HSB := Lib.hid (show SBox S LA lc IA ic MA mc w5 b1 from (hA2.low b1 hlg HSB4.out.lt).trans HSB4.out)
  clear hE2 hA2 hT2 c3
  obtain ⟨y1, hy1⟩ : ∃ y, listN t_init 0 3 0 0 [] [] S.init = y := ⟨_, rfl⟩
  obtain ⟨y2, hy2⟩ : ∃ y, listN t_main 1 4 3 1000 N1 P1 S.main = y := ⟨_, rfl⟩
  rw [hy1] at HE1 HF4
  rw [hy2] at HE2
  have HEQ := Lib.hid (check_eq S y1 y2 hy1.symm (fun h0 => by
    obtain ⟨e1, e2⟩ := HF4.out h0
    rw [← hy2, e1, e2, List.nil_append, List.nil_append]))
  clear hy1 hy2 hn1 hp1
  go_wp2_with fail
  have HB0 : 0 ≤ w5.heap.size := Nat.zero_le _
  refine Loose.wp_region_walk (by kernel_rfl) (by kernel_rfl) (FCheck b1 S LA lc y1 y2) (FCheck_keep b1 S LA lc y1 y2) ?_ ?_
  · refine ⟨?_, ?_, ?_, ?_, ?_, ?_, ?_, ?_, ?_, ?_, ?_, ?_, ?_, ?_, ?_, ?_, ?_, ?_, ?_, ?_, ?_, ?_, trivial⟩
    · intro a w1 hfr hdep
      have f0 : a.tmps.getD 1 undef = .pointer (some ⟨b1, 0, none⟩) := hfr.slot 1 (by kernel_rfl)
      refine Loose.Step.value rfl (v := .pointer (some ⟨b1, 0, none⟩)) (w' := w1) ?_ rfl (Below.refl _ _)
      simp [go_sem, Act.eval, f0]
    · intro a w1 hfr hdep
      have e0 : a.tmps.getD 14 undef = .pointer (some ⟨b1, 0, none⟩) := Loose.dep_of hdep 0 14 (by kernel_rfl)
      have hc := (HSB.out.below hfr.below).cells.c0
      refine Loose.Step.value rfl (v := .string S.name) (w' := w1) ?_ rfl (Below.refl _ _)
      simp [go_sem, Act.eval, e0, hc]
    · intro a w1 hfr hdep
      have e0 : a.tmps.getD 15 undef = .string S.name := Loose.dep_of hdep 1 15 (by kernel_rfl)
      refine Loose.Step.call rfl (f := 45) (args := #[.string S.name]) ?_ ?_
      · simp [go_sem, Act.eval, e0]
      · refine (Text.name_any S.name (by unfold maxLen; omega) w1 (HL.out.below (HB5.out.trans (hfr.below.mono HB5.out.size))).text).mono ?_
        rintro e w2 ⟨rfl, rfl⟩
        exact ⟨_, rfl, rfl, Below.refl _ _⟩
    · intro a w1 hfr hdep
      have hb : Below w1.heap.size w1 (w1.alloc (.cells #[.string t_name] 9)) := (Below.refl _ _).alloc (Nat.le_refl _) _
      refine Loose.Step.value rfl (v := .slice (some ⟨w1.heap.size, 0, none⟩) 1 1) (w' := w1.alloc (.cells #[.string t_name] 9)) ?_ (text_made _ (Nat.le_trans HB0 hfr.below.size)) hb
      simp [go_sem, t_name]
    · intro a w1 hfr hdep
      have e0 : a.tmps.getD 16 undef = .int .i64 (Text.codeN (TextPure.nameL S.name.data.toList) 30) := Loose.dep_of hdep 2 16 (by kernel_rfl)
      obtain ⟨gg, e1, _, hcg⟩ : TextK (KB 0) t_name (a.tmps.getD 17 undef) w1 := Loose.dep_of hdep 3 17 (by kernel_rfl)
      refine Loose.Step.call rfl (f := 44) (args := #[.int .i64 (Text.codeN (TextPure.nameL S.name.data.toList) 30), .slice (some ⟨gg, 0, none⟩) 1 1]) ?_ ?_
      · simp [go_sem, Act.eval, e0, e1]
      · have HSZ : 0 ≤ w1.heap.size := Nat.le_trans HB0 hfr.below.size
        refine (new_says (Text.codeN (TextPure.nameL S.name.data.toList) 30) t_name gg 1 w1 (by decide) hcg).mono ?_
        rintro e w2 ⟨E, rfl, hE, hb⟩
        exact ⟨E, rfl, kb_tells HSZ hE, hb⟩
    · intro a w1 hfr hdep
      have f0 : a.tmps.getD 1 undef = .pointer (some ⟨b1, 0, none⟩) := hfr.slot 1 (by kernel_rfl)
      refine Loose.Step.value rfl (v := .pointer (some ⟨b1, 1, none⟩)) (w' := w1) ?_ rfl (Below.refl _ _)
      simp [go_sem, Act.eval, f0]
    · intro a w1 hfr hdep
      have e0 : a.tmps.getD 19 undef = .pointer (some ⟨b1, 1, none⟩) := Loose.dep_of hdep 5 19 (by kernel_rfl)
      have hc := (HSB.out.below hfr.below).cells.c1
      refine Loose.Step.value rfl (v := .slice LA S.labels.length lc) (w' := w1) ?_ rfl (Below.refl _ _)
      simp [go_sem, Act.eval, e0, hc]
    · intro a w1 hfr hdep
      have e0 : a.tmps.getD 20 undef = .slice LA S.labels.length lc := Loose.dep_of hdep 6 20 (by kernel_rfl)
      refine Loose.Step.call rfl (f := 46) (args := #[.string ⟨#[108, 97, 98, 101, 108, 115]⟩, .slice LA S.labels.length lc]) ?_ ?_
      · simp [go_sem, Act.eval, e0]
      · have HSZ : 0 ≤ w1.heap.size := Nat.le_trans HB0 hfr.below.size
        refine (labels_any t_labels LA lc S.labels (by decide) hnl HLT.out.2.1 w1 (HL.out.below (HB5.out.trans (hfr.below.mono HB5.out.size))) (H.out.below (HB5.out.trans (hfr.below.mono HB5.out.size))).labels).mono ?_
        rintro e w2 ⟨E, rfl, hE, hb⟩
        exact ⟨E, rfl, kb_tells HSZ hE, hb⟩
    · intro a w1 hfr hdep
      have f0 : a.tmps.getD 4 undef = E1 := hfr.slot 4 (by kernel_rfl)
      refine Loose.Step.value rfl (v := E1) (w' := w1) ?_ (Says.keep HE1.out (kb0 hfr.below)) (Below.refl _ _)
      simp [go_sem, Act.eval, f0]
    · intro a w1 hfr hdep
      have f0 : a.tmps.getD 5 undef = E2 := hfr.slot 5 (by kernel_rfl)
      refine Loose.Step.value rfl (v := E2) (w' := w1) ?_ (Says.keep HE2.out (kb0 hfr.below)) (Below.refl _ _)
      simp [go_sem, Act.eval, f0]
    · intro a w1 hfr hdep
      have f0 : a.tmps.getD 1 undef = .pointer (some ⟨b1, 0, none⟩) := hfr.slot 1 (by kernel_rfl)
      refine Loose.Step.value rfl (v := .pointer (some ⟨b1, 4, none⟩)) (w' := w1) ?_ rfl (Below.refl _ _)
      simp [go_sem, Act.eval, f0]
    · intro a w1 hfr hdep
      have e0 : a.tmps.getD 24 undef = .pointer (some ⟨b1, 4, none⟩) := Loose.dep_of hdep 10 24 (by kernel_rfl)
      have hc := (HSB.out.below hfr.below).cells.c4
      refine Loose.Step.value rfl (v := .int .i64 S.restart) (w' := w1) ?_ rfl (Below.refl _ _)
      simp [go_sem, Act.eval, e0, hc]
    · intro a w1 hfr hdep
      have e0 : a.tmps.getD 25 undef = .int .i64 S.restart := Loose.dep_of hdep 11 25 (by kernel_rfl)
      refine Loose.Step.call rfl (f := 47) (args := #[.int .i64 S.restart, .int .i64 1, .int .i64 3, .string ⟨#[114, 101, 115, 116, 97, 114, 116]⟩]) ?_ ?_
      · simp [go_sem, Act.eval, e0]
      · have HSZ : 0 ≤ w1.heap.size := Nat.le_trans HB0 hfr.below.size
        refine (within_any S.restart 1 3 t_restart (by decide) w1).mono ?_
        rintro e w2 ⟨E, rfl, hE, hb⟩
        exact ⟨E, rfl, kb_tells HSZ hE, hb⟩
    · intro a w1 hfr hdep
      have f0 : a.tmps.getD 1 undef = .pointer (some ⟨b1, 0, none⟩) := hfr.slot 1 (by kernel_rfl)
      refine Loose.Step.value rfl (v := .pointer (some ⟨b1, 5, none⟩)) (w' := w1) ?_ rfl (Below.refl _ _)
      simp [go_sem, Act.eval, f0]
    · intro a w1 hfr hdep
      have e0 : a.tmps.getD 27 undef = .pointer (some ⟨b1, 5, none⟩) := Loose.dep_of hdep 13 27 (by kernel_rfl)
      have hc := (HSB.out.below hfr.below).cells.c5
      refine Loose.Step.value rfl (v := .int .i64 S.grace) (w' := w1) ?_ rfl (Below.refl _ _)
      simp [go_sem, Act.eval, e0, hc]
    · intro a w1 hfr hdep
      have e0 : a.tmps.getD 28 undef = .int .i64 S.grace := Loose.dep_of hdep 14 28 (by kernel_rfl)
      refine Loose.Step.call rfl (f := 47) (args := #[.int .i64 S.grace, .int .i64 0, .int .i64 1000, .string ⟨#[103, 114, 97, 99, 101]⟩]) ?_ ?_
      · simp [go_sem, Act.eval, e0]
      · have HSZ : 0 ≤ w1.heap.size := Nat.le_trans HB0 hfr.below.size
        refine (within_any S.grace 0 1000 t_grace (by decide) w1).mono ?_
        rintro e w2 ⟨E, rfl, hE, hb⟩
        exact ⟨E, rfl, kb_tells HSZ hE, hb⟩
    · intro a w1 hfr hdep
      have f0 : a.tmps.getD 1 undef = .pointer (some ⟨b1, 0, none⟩) := hfr.slot 1 (by kernel_rfl)
      refine Loose.Step.value rfl (v := .pointer (some ⟨b1, 6, none⟩)) (w' := w1) ?_ rfl (Below.refl _ _)
      simp [go_sem, Act.eval, f0]
    · intro a w1 hfr hdep
      have e0 : a.tmps.getD 30 undef = .pointer (some ⟨b1, 6, none⟩) := Loose.dep_of hdep 16 30 (by kernel_rfl)
      have hc := (HSB.out.below hfr.below).cells.c6
      refine Loose.Step.value rfl (v := .int .i64 S.prio) (w' := w1) ?_ rfl (Below.refl _ _)
      simp [go_sem, Act.eval, e0, hc]
    · intro a w1 hfr hdep
      have e0 : a.tmps.getD 31 undef = .int .i64 S.prio := Loose.dep_of hdep 17 31 (by kernel_rfl)
      refine Loose.Step.call rfl (f := 47) (args := #[.int .i64 S.prio, .int .i64 0, .int .i64 10, .string ⟨#[112, 114, 105, 111]⟩]) ?_ ?_
      · simp [go_sem, Act.eval, e0]
      · have HSZ : 0 ≤ w1.heap.size := Nat.le_trans HB0 hfr.below.size
        refine (within_any S.prio 0 10 t_prio (by decide) w1).mono ?_
        rintro e w2 ⟨E, rfl, hE, hb⟩
        exact ⟨E, rfl, kb_tells HSZ hE, hb⟩
    · intro a w1 hfr hdep
      have h0 : SaysK (KB 0) (newV (Text.codeN (TextPure.nameL S.name.data.toList) 30) t_name) (a.tmps.getD 18 undef) w1 := Loose.dep_of hdep 4 18 (by kernel_rfl)
      have h1 : SaysK (KB 0) (labelsV t_labels S.labels) (a.tmps.getD 21 undef) w1 := Loose.dep_of hdep 7 21 (by kernel_rfl)
      have h2 : SaysK (KB 0) (y1) (a.tmps.getD 22 undef) w1 := Loose.dep_of hdep 8 22 (by kernel_rfl)
      have h3 : SaysK (KB 0) (y2) (a.tmps.getD 23 undef) w1 := Loose.dep_of hdep 9 23 (by kernel_rfl)
      have h4 : SaysK (KB 0) (withinV S.restart 1 3 t_restart) (a.tmps.getD 26 undef) w1 := Loose.dep_of hdep 12 26 (by kernel_rfl)
      have h5 : SaysK (KB 0) (withinV S.grace 0 1000 t_grace) (a.tmps.getD 29 undef) w1 := Loose.dep_of hdep 15 29 (by kernel_rfl)
      have h6 : SaysK (KB 0) (withinV S.prio 0 10 t_prio) (a.tmps.getD 32 undef) w1 := Loose.dep_of hdep 18 32 (by kernel_rfl)
      have r := build7 (a.tmps.getD 18 undef) (a.tmps.getD 21 undef) (a.tmps.getD 22 undef) (a.tmps.getD 23 undef) (a.tmps.getD 26 undef) (a.tmps.getD 29 undef) (a.tmps.getD 32 undef) w1 (cells_form (Says.form h0)) (cells_form (Says.form h1)) (cells_form (Says.form h2)) (cells_form (Says.form h3)) (cells_form (Says.form h4)) (cells_form (Says.form h5)) (cells_form (Says.form h6))
      have hb : Below w1.heap.size w1 (w1.alloc (.cells #[a.tmps.getD 18 undef, a.tmps.getD 21 undef, a.tmps.getD 22 undef, a.tmps.getD 23 undef, a.tmps.getD 26 undef, a.tmps.getD 29 undef, a.tmps.getD 32 undef] 43)) := (Below.refl _ _).alloc (Nat.le_refl _) _
      refine Loose.Step.value rfl (v := .slice (some ⟨w1.heap.size, 0, none⟩) 7 7) (w' := w1.alloc (.cells #[a.tmps.getD 18 undef, a.tmps.getD 21 undef, a.tmps.getD 22 undef, a.tmps.getD 23 undef, a.tmps.getD 26 undef, a.tmps.getD 29 undef, a.tmps.getD 32 undef] 43)) ?_ (row_made [a.tmps.getD 18 undef, a.tmps.getD 21 undef, a.tmps.getD 22 undef, a.tmps.getD 23 undef, a.tmps.getD 26 undef, a.tmps.getD 29 undef, a.tmps.getD 32 undef] _ 7 rfl (Nat.le_trans HB0 hfr.below.size) (kb_keep hb) ⟨h0, h1, h2, h3, h4, h5, h6, trivial⟩) hb
      clear hb h0 h1 h2 h3 h4 h5 h6 hdep
      simp only [Array.getD_eq_getD_getElem?] at r
      simp [execOp, Act.eval, r]
    · intro a w1 hfr hdep
      have h0 : RowK (KB 0) [newV (Text.codeN (TextPure.nameL S.name.data.toList) 30) t_name, labelsV t_labels S.labels, y1, y2, withinV S.restart 1 3 t_restart, withinV S.grace 0 1000 t_grace, withinV S.prio 0 10 t_prio] (a.tmps.getD 33 undef) w1 := Loose.dep_of hdep 19 33 (by kernel_rfl)
      refine Loose.Step.call rfl (f := 43) (args := #[a.tmps.getD 33 undef]) ?_ (row_first h0 (by simp))
      simp [go_sem, Act.eval]
    · intro a w1 hfr hdep
      have h0 : SaysK (KB 0) (firstV [newV (Text.codeN (TextPure.nameL S.name.data.toList) 30) t_name, labelsV t_labels S.labels, y1, y2, withinV S.restart 1 3 t_restart, withinV S.grace 0 1000 t_grace, withinV S.prio 0 10 t_prio]) (a.tmps.getD 34 undef) w1 := Loose.dep_of hdep 20 34 (by kernel_rfl)
      refine Loose.Step.value rfl (v := a.tmps.getD 34 undef) (w' := w1) ?_ h0 (Below.refl _ _)
      simp [go_sem, Act.eval]
  · intro v0 v1 v2 v3 v4 v5 v6 v7 v8 v9 v10 v11 v12 v13 v14 v15 v16 v17 v18 v19 v20 v21 w6 hb hC
    have hE : SaysK (KB 0) (firstV [newV (Text.codeN (TextPure.nameL S.name.data.toList) 30) t_name, labelsV t_labels S.labels, y1, y2, withinV S.restart 1 3 t_restart, withinV S.grace 0 1000 t_grace, withinV S.prio 0 10 t_prio]) v21 w6 := hC.2
    clear hC
    have HX := Lib.hid (show TellsA (checkV S) w (.returned v21) w6 from ⟨_, rfl, HEQ.out ▸ hE, HB5.out.trans (hb.mono HB5.out.size)⟩)
    clear hE hb HB0
    simp only [put_lit, List.set_cons_succ, List.set_cons_zero]
    go_wp2_with fail
    go_ret
    exact HX.out
end SpecOwn
end Go.Proofs.YtpllcnpmjnmcfaaDoor
