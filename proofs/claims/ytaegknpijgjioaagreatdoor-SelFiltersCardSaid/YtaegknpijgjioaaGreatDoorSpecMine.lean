/-
  The contract of spec.Check: what is said of a spec is the document's word. All that was there is left as it was. Conditions: as SpecStep; the spec is light (Book.Light).
-/
import Derived.Test.YtaegknpijgjioaaGreatDoorSpecList
import Derived.Test.YtaegknpijgjioaaGreatDoorSpecErrAll
import Derived.Test.YtaegknpijgjioaaGreatDoorSpecCheck
namespace Go.Proofs.YtaegknpijgjioaaGreatDoor
open Go.ChangeShapes Go.WideShapes Go.ChangeAt Go.RowKit Go.Lib
open Sd Lists SpecRef
namespace SpecOwn

theorem kb0 {D : Nat → Prop} {w w' : World} (hb : Below w.heap.size w w') : ∀ b, D b → b < w.heap.size → KB 0 w' b ∧ w'.heap[b]? = w.heap[b]? := fun b _ hl => ⟨Nat.zero_le b, hb.block b hl⟩
/-! the document's word -/
theorem listN_init (l : List Ctr) : listN t_init 0 3 0 0 [] [] l = if 3 < l.length then (2, t_init) else ctrsFrom t_init true 0 [] l := by
  unfold listN
  have := listFrom_eq t_init true l 0 []
  simp only [List.map_nil, List.flatMap_nil, if_true] at this
  rw [this]
  by_cases h : 3 < l.length
  · rw [if_pos h, if_pos (by omega)]
  · rw [if_neg h, if_neg (by omega)]
theorem listN_main (a l : List Ctr) : listN t_main 1 4 3 1000 (a.map (·.name)) (a.flatMap (·.ports)) l = if l.length < 1 ∨ 4 < l.length then (2, t_main) else ctrsFrom t_main false 0 a l := by
  unfold listN
  have := listFrom_eq t_main false l 0 a
  simp only [Bool.false_eq_true, if_false] at this
  rw [this]
  by_cases h : l.length < 1 ∨ 4 < l.length
  · rw [if_pos h, if_pos (by omega)]
  · rw [if_neg h, if_neg (by omega)]
theorem oneV_zero (x : Ctr) (a : List Ctr) (init : Bool) : (oneV x a init).1 = 0 → True := fun _ => trivial
theorem labelsFrom_fine (name : ByteArray) : ∀ (l : List Lbl) (i : Nat) (p : Option Lbl), (labelsFrom name i p l).1 = 0 → labelsFrom name i p l = fine
  | [], i, p, _ => by cases p <;> rfl
  | x :: l, i, p, h => by
    rw [labelsFrom_cons] at h ⊢
    split at h
    · simp at h
    · rename_i h1
      rw [if_neg h1]
      split at h
      · simp at h
      · rename_i h2
        rw [if_neg h2]
        split at h
        · simp at h
        · rename_i h3
          rw [if_neg h3]
          exact labelsFrom_fine name l (i + 1) (some x) h
theorem check_eq (S : Spc) (y1 y2 : Say) (h1 : y1 = listN t_init 0 3 0 0 [] [] S.init) (h2 : y1.1 = 0 → y2 = listN t_main 1 4 3 1000 (S.init.map (·.name)) (S.init.flatMap (·.ports)) S.main) :
    firstV [newV (Text.codeN (TextPure.nameL S.name.data.toList) 30) t_name, labelsV t_labels S.labels, y1, y2, withinV S.restart 1 3 t_restart, withinV S.grace 0 1000 t_grace, withinV S.prio 0 10 t_prio] = checkV S := by
  rw [listN_init] at h1
  simp only [listN_main] at h2
  unfold checkV
  have e0 : newV (Text.codeN (TextPure.nameL S.name.data.toList) 30) t_name = if isName S.name = false then (30, t_name) else fine := by
    unfold isName Text.codeN newV
    cases TextPure.nameL S.name.data.toList <;> rfl
  rw [e0]
  simp only [firstV_cons, firstV_nil]
  by_cases a1 : isName S.name = false
  · simp [a1]
  · by_cases a2 : (labelsV t_labels S.labels).1 = 0
    · by_cases a3 : y1.1 = 0
      · have a3' := h2 a3
        have b1 : ¬ 3 < S.init.length := fun h => by rw [h1, if_pos h] at a3; simp at a3
        rw [if_neg b1] at h1
        have b2 : (ctrsFrom t_init true 0 [] S.init).1 = 0 := h1 ▸ a3
        by_cases b3 : S.main.length < 1 ∨ 4 < S.main.length
        · rw [if_pos b3] at a3'
          simp only [a1, a2, a3, a3', b1, b2, b3, fine, if_true, if_false, ne_eq, not_true_eq_false]
          rfl
        · rw [if_neg b3] at a3'
          subst a3'
          by_cases b4 : (ctrsFrom t_main false 0 S.init S.main).1 = 0
          · simp only [a1, a2, a3, b1, b2, b3, b4, fine, if_true, if_false, ne_eq, not_true_eq_false, tailV, withinV]
            by_cases c1 : S.restart < 1 ∨ 3 < S.restart
            · simp [c1]
            · by_cases c2 : S.grace < 0 ∨ 1000 < S.grace
              · simp [c1, c2]
              · by_cases c3 : S.prio < 0 ∨ 10 < S.prio
                · simp [c1, c2, c3]
                · simp [c1, c2, c3]
          · simp only [a1, a2, a3, b1, b2, b3, b4, fine, if_true, if_false, ne_eq, not_true_eq_false, not_false_eq_true, Bool.true_eq_false]
      · by_cases b1 : 3 < S.init.length
        · rw [if_pos b1] at h1
          subst h1
          simp [a1, a2, b1, fine]
        · rw [if_neg b1] at h1
          subst h1
          simp [a1, a2, a3, b1, fine]
    · simp [a1, a2, fine]
/-- a call ends with what says y -/
def TellsA (y : Say) (w : World) (e : Ending) (w' : World) : Prop := ∃ E, e = .returned E ∧ Says (KB 0 w') w' E y ∧ Below w.heap.size w w'
/-- what each operation leaves -/
def FCheck (b1 : Nat) (S : Spc) (LA : Option Addr) (lc : Nat) (y1 y2 : Say) : Nat → Value → World → Prop
  | 0 => fun v _ => v = .pointer (some ⟨b1, 0, none⟩)
  | 1 => fun v _ => v = .string S.name
  | 2 => fun v _ => v = .int .i64 (Text.codeN (TextPure.nameL S.name.data.toList) 30)
  | 3 => TextK (KB 0) t_name
  | 4 => SaysK (KB 0) (newV (Text.codeN (TextPure.nameL S.name.data.toList) 30) t_name)
  | 5 => fun v _ => v = .pointer (some ⟨b1, 1, none⟩)
  | 6 => fun v _ => v = .slice LA S.labels.length lc
  | 7 => SaysK (KB 0) (labelsV t_labels S.labels)
  | 8 => SaysK (KB 0) (y1)
  | 9 => SaysK (KB 0) (y2)
  | 10 => fun v _ => v = .pointer (some ⟨b1, 4, none⟩)
  | 11 => fun v _ => v = .int .i64 S.restart
  | 12 => SaysK (KB 0) (withinV S.restart 1 3 t_restart)
  | 13 => fun v _ => v = .pointer (some ⟨b1, 5, none⟩)
  | 14 => fun v _ => v = .int .i64 S.grace
  | 15 => SaysK (KB 0) (withinV S.grace 0 1000 t_grace)
  | 16 => fun v _ => v = .pointer (some ⟨b1, 6, none⟩)
  | 17 => fun v _ => v = .int .i64 S.prio
  | 18 => SaysK (KB 0) (withinV S.prio 0 10 t_prio)
  | 19 => RowK (KB 0) [newV (Text.codeN (TextPure.nameL S.name.data.toList) 30) t_name, labelsV t_labels S.labels, y1, y2, withinV S.restart 1 3 t_restart, withinV S.grace 0 1000 t_grace, withinV S.prio 0 10 t_prio]
  | 20 => SaysK (KB 0) (firstV [newV (Text.codeN (TextPure.nameL S.name.data.toList) 30) t_name, labelsV t_labels S.labels, y1, y2, withinV S.restart 1 3 t_restart, withinV S.grace 0 1000 t_grace, withinV S.prio 0 10 t_prio])
  | _ => SaysK (KB 0) (firstV [newV (Text.codeN (TextPure.nameL S.name.data.toList) 30) t_name, labelsV t_labels S.labels, y1, y2, withinV S.restart 1 3 t_restart, withinV S.grace 0 1000 t_grace, withinV S.prio 0 10 t_prio])
theorem FCheck_keep (b1 : Nat) (S : Spc) (LA : Option Addr) (lc : Nat) (y1 y2 : Say) (i : Nat) (v : Value) (w w' : World) (h : FCheck b1 S LA lc y1 y2 i v w) (hb : Below w.heap.size w w') : FCheck b1 S LA lc y1 y2 i v w' := by
  unfold FCheck at h ⊢
  split at h <;> first | exact h | exact TextK.keep h (kb_keep hb) | exact SaysK.keep h (kb_keep hb) | exact RowK.keep h (kb_keep hb)
end SpecOwn
end Go.Proofs.YtaegknpijgjioaaGreatDoor
