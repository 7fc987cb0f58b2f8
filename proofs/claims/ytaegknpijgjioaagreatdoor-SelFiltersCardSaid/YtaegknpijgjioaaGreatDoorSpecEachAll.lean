/-
  What follows of what may be a spec, in plain functions: what may be may be without its last labels and containers. No condition. And what follows of it, part by part, each with its conditions.
-/
import Derived.Test.YtaegknpijgjioaaGreatDoorSpecRefAll
/- What follows of what may be a spec, in plain functions: what may be may be without its last labels and containers. No condition. -/
namespace Go.Proofs.YtaegknpijgjioaaGreatDoor
namespace Sd

theorem hasV_mono {a a' : List Ctr} (h : ∀ x ∈ a', x ∈ a) {p : Int} (hp : hasV a p = false) : hasV a' p = false := by
  unfold hasV at *
  rw [List.any_eq_false] at *
  exact fun x hx => hp x (h x hx)
theorem portsFrom_mono {a a' : List Ctr} (h : ∀ x ∈ a', x ∈ a) : ∀ (l : List Int) (k : Nat) (seen : List Int), (portsFrom a k seen l).1 = 0 → (portsFrom a' k seen l).1 = 0
  | [], _, _, _ => rfl
  | p :: l, k, seen, h0 => by
    rw [portsFrom] at h0 ⊢
    split at h0
    · simp at h0
    · rename_i h1
      rw [if_neg h1]
      split at h0
      · simp at h0
      · rename_i h2
        have h3 : (hasV a p || seen.contains p) = false := by simpa using h2
        rw [Bool.or_eq_false_iff] at h3
        rw [if_neg (by rw [hasV_mono h h3.1, h3.2]; simp)]
        exact portsFrom_mono h l (k + 1) _ h0
theorem oneV_ok (x : Ctr) (a : List Ctr) (init : Bool) : (oneV x a init).1 = 0 ↔ isName x.name = true ∧ a.any (fun c => c.name.toList == x.name.toList) = false ∧ isImage x.image = true ∧ ¬ 0 ≤ numsV false x.rc x.rm x.rp 0 0 0 ∧ ¬ 0 ≤ numsV true x.lc x.lm x.lp x.rc x.rm x.rp ∧
    ¬ (3 < x.ports.length ∨ (init = true ∧ 0 < x.ports.length)) ∧ (portsFrom a 0 [] x.ports).1 = 0 ∧ (probeV x.ev x.fl init).1 = 0 := by
  unfold oneV
  by_cases h1 : isName x.name = false
  · simp [h1]
  · by_cases h2 : a.any (fun c => c.name.toList == x.name.toList) = true
    · rw [if_neg h1, if_pos h2, h2]; simp
    · by_cases h3 : isImage x.image = false
      · rw [if_neg h1, if_neg h2, if_pos h3, h3]; simp
      · by_cases h4 : 0 ≤ numsV false x.rc x.rm x.rp 0 0 0
        · rw [if_neg h1, if_neg h2, if_neg h3, if_pos h4]; simp [h4]
        · by_cases h5 : 0 ≤ numsV true x.lc x.lm x.lp x.rc x.rm x.rp
          · rw [if_neg h1, if_neg h2, if_neg h3, if_neg h4, if_pos h5]; simp [h5]
          · by_cases h6 : 3 < x.ports.length ∨ (init = true ∧ 0 < x.ports.length)
            · rw [if_neg h1, if_neg h2, if_neg h3, if_neg h4, if_neg h5, if_pos h6]
              constructor
              · intro h; simp at h
              · intro h; exact absurd h6 h.2.2.2.2.2.1
            · rw [if_neg h1, if_neg h2, if_neg h3, if_neg h4, if_neg h5, if_neg h6]
              have e1 : isName x.name = true := by simpa using h1
              have e2 : a.any (fun c => c.name.toList == x.name.toList) = false := by simpa using h2
              have e3 : isImage x.image = true := by simpa using h3
              by_cases h7 : (portsFrom a 0 [] x.ports).1 = 0
              · rw [if_neg (by simpa using h7)]
                exact ⟨fun h => ⟨e1, e2, e3, h4, h5, h6, h7, h⟩, fun h => h.2.2.2.2.2.2.2⟩
              · rw [if_pos h7]
                exact ⟨fun h => absurd h h7, fun h => h.2.2.2.2.2.2.1⟩
theorem oneV_mono {x : Ctr} {a a' : List Ctr} {init : Bool} (h : ∀ y ∈ a', y ∈ a) (h0 : (oneV x a init).1 = 0) : (oneV x a' init).1 = 0 := by
  rw [oneV_ok] at *
  obtain ⟨e1, e2, e3, e4, e5, e6, e7, e8⟩ := h0
  refine ⟨e1, ?_, e3, e4, e5, e6, portsFrom_mono h _ _ _ e7, e8⟩
  rw [List.any_eq_false] at *
  exact fun y hy => e2 y (h y hy)
theorem ctrs_mono {name : ByteArray} {init : Bool} : ∀ (l : List Ctr) (i : Nat) {a a' : List Ctr}, (∀ y ∈ a', y ∈ a) → (ctrsFrom name init i a l).1 = 0 → (ctrsFrom name init i a' l).1 = 0
  | [], _, _, _, _, _ => rfl
  | x :: l, i, a, a', h, h0 => by
    rw [ctrsFrom] at h0 ⊢
    split at h0
    · rename_i h1
      exact absurd h0 h1
    · rename_i h1
      have h2 : (oneV x a init).1 = 0 := by simpa using h1
      rw [if_neg (by rw [oneV_mono h h2]; simp)]
      refine ctrs_mono l (i + 1) (fun y hy => ?_) h0
      rcases List.mem_append.1 hy with hy | hy
      · exact List.mem_append.2 (.inl (h y hy))
      · exact List.mem_append.2 (.inr hy)
theorem ctrs_take {name : ByteArray} {init : Bool} : ∀ (l : List Ctr) (i n : Nat) {a : List Ctr}, (ctrsFrom name init i a l).1 = 0 → (ctrsFrom name init i a (l.take n)).1 = 0
  | [], _, n, _, _ => by simp [ctrsFrom, fine]
  | x :: l, i, 0, a, _ => rfl
  | x :: l, i, n + 1, a, h0 => by
    rw [List.take_succ_cons]
    rw [ctrsFrom] at h0 ⊢
    split at h0
    · rename_i h1
      exact absurd h0 h1
    · rename_i h1
      rw [if_neg h1]
      exact ctrs_take l (i + 1) n h0
theorem labelsFrom_take {name : ByteArray} : ∀ (l : List Lbl) (i n : Nat) (p : Option Lbl), (labelsFrom name i p l).1 = 0 → (labelsFrom name i p (l.take n)).1 = 0
  | [], i, n, p, _ => by cases p <;> simp [labelsFrom, fine]
  | x :: l, i, 0, p, _ => by cases p <;> rfl
  | x :: l, i, n + 1, p, h0 => by
    rw [List.take_succ_cons]
    rw [labelsFrom_cons] at h0 ⊢
    split at h0
    · simp at h0
    · rename_i h1
      rw [if_neg h1]
      split at h0
      · simp at h0
      · rename_i h2
        rw [if_neg h2]
        split at h0
        · simp at h0
        · rename_i h3
          rw [if_neg h3]
          exact labelsFrom_take l (i + 1) n (some x) h0
theorem labels_take {name : ByteArray} {l : List Lbl} (n : Nat) (h : (labelsV name l).1 = 0) : (labelsV name (l.take n)).1 = 0 := by
  unfold labelsV at *
  split at h
  · simp at h
  · rename_i h1
    rw [if_neg (by rw [List.length_take]; omega)]
    exact labelsFrom_take l 0 n none h
theorem check_ok (S : Spc) : (checkV S).1 = 0 ↔ isName S.name = true ∧ (labelsV t_labels S.labels).1 = 0 ∧ S.init.length ≤ 3 ∧ (ctrsFrom t_init true 0 [] S.init).1 = 0 ∧ (1 ≤ S.main.length ∧ S.main.length ≤ 4) ∧ (ctrsFrom t_main false 0 S.init S.main).1 = 0 ∧ (tailV S).1 = 0 := by
  unfold checkV
  by_cases h1 : isName S.name = false
  · rw [if_pos h1, h1]; simp
  · have e1 : isName S.name = true := by simpa using h1
    rw [if_neg h1]
    by_cases h2 : (labelsV t_labels S.labels).1 = 0
    · rw [if_neg (by simpa using h2)]
      by_cases h3 : 3 < S.init.length
      · rw [if_pos h3]
        exact ⟨fun h => by simp at h, fun h => absurd h.2.2.1 (by omega)⟩
      · rw [if_neg h3]
        by_cases h4 : (ctrsFrom t_init true 0 [] S.init).1 = 0
        · rw [if_neg (by simpa using h4)]
          by_cases h5 : S.main.length < 1 ∨ 4 < S.main.length
          · rw [if_pos h5]
            exact ⟨fun h => by simp at h, fun h => absurd h.2.2.2.2.1 (by omega)⟩
          · rw [if_neg h5]
            by_cases h6 : (ctrsFrom t_main false 0 S.init S.main).1 = 0
            · rw [if_neg (by simpa using h6)]
              exact ⟨fun h => ⟨e1, h2, by omega, h4, by omega, h6, h⟩, fun h => h.2.2.2.2.2.2⟩
            · rw [if_pos h6]
              exact ⟨fun h => absurd h h6, fun h => h.2.2.2.2.2.1⟩
        · rw [if_pos h4]
          exact ⟨fun h => absurd h h4, fun h => h.2.2.2.1⟩
    · rw [if_pos h2]
      exact ⟨fun h => absurd h h2, fun h => h.2.1⟩
/-- without its last label, its last init container, its last main one -/
def cutL (S : Spc) : Spc := { S with labels := S.labels.take (S.labels.length - 1) }
def cutI (S : Spc) : Spc := { S with init := S.init.take (S.init.length - 1) }
def cutM (S : Spc) : Spc := { S with main := S.main.take (S.main.length - 1) }
theorem cutL_ok {S : Spc} (h : (checkV S).1 = 0) : (checkV (cutL S)).1 = 0 := by
  rw [check_ok] at *
  exact ⟨h.1, labels_take _ h.2.1, h.2.2⟩
theorem cutI_ok {S : Spc} (h : (checkV S).1 = 0) : (checkV (cutI S)).1 = 0 := by
  rw [check_ok] at *
  obtain ⟨e1, e2, e3, e4, e5, e6, e7⟩ := h
  exact ⟨e1, e2, by show (S.init.take _).length ≤ 3; rw [List.length_take]; omega, ctrs_take _ _ _ e4, e5, ctrs_mono _ _ (fun y hy => List.mem_of_mem_take hy) e6, e7⟩
theorem cutM_ok {S : Spc} (h : (checkV S).1 = 0) (h1 : 1 < S.main.length) : (checkV (cutM S)).1 = 0 := by
  rw [check_ok] at *
  obtain ⟨e1, e2, e3, e4, e5, e6, e7⟩ := h
  exact ⟨e1, e2, e3, e4, by show 1 ≤ (S.main.take _).length ∧ (S.main.take _).length ≤ 4; rw [List.length_take]; omega, ctrs_take _ _ _ e6, e7⟩
end Sd
end Go.Proofs.YtaegknpijgjioaaGreatDoor

/- Each container of a list that may be may be by itself. No condition. -/
set_option linter.unusedVariables false
set_option linter.unusedSimpArgs false
namespace Go.Proofs.YtaegknpijgjioaaGreatDoor
open TextPure Sd
namespace SpecOwn

theorem ctrs_each {name : ByteArray} {init : Bool} : ∀ (l : List Ctr) (i : Nat) {a : List Ctr}, (ctrsFrom name init i a l).1 = 0 → ∀ x ∈ l, ∃ a', (oneV x a' init).1 = 0
  | [], _, _, _, x, hx => by cases hx
  | y :: l, i, a, h, x, hx => by
    rw [ctrsFrom] at h
    split at h
    · rename_i h1
      exact absurd h h1
    · rename_i h1
      rcases List.mem_cons.1 hx with rfl | hx
      · exact ⟨a, by simpa using h1⟩
      · exact ctrs_each l (i + 1) h x hx
end SpecOwn
end Go.Proofs.YtaegknpijgjioaaGreatDoor
