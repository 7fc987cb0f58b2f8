/-
  The walk of the law FailFirst: it returns true, and leaves all that was there as it was. Condition: errors.errorType holds the type error (Laid).
-/
import Derived.Test.YtikaghinkpcknaaDoorErrOpt
import Derived.Test.YtikaghinkpcknaaDoorFailWorks
import Derived.Test.YtikaghinkpcknaaDoorRegionLoose
namespace Go.Proofs.YtikaghinkpcknaaDoor.FailFirstWalk
open Go.RowKit Err Loose

/-- the first number that is not 0 -/
def fc : List Int → Int
  | [] => 0
  | x :: l => if x = 0 then fc l else x
theorem fc_snoc (l : List Int) (x : Int) : fc (l ++ [x]) = if fc l = 0 then x else fc l := by
  induction l with
  | nil => by_cases h : x = 0 <;> simp [fc, h]
  | cons y l ih => by_cases h : y = 0 <;> simp [fc, h, ih]

/-- a list of one text, in a block of its own -/
def OneText (s : ByteArray) (v : Value) (w : World) : Prop := ∃ g, v = .slice (some ⟨g, 0, none⟩) 1 1 ∧ w.cell? ⟨g, 0, none⟩ = some (.string s)
theorem OneText.keep {s : ByteArray} {v : Value} {w w' : World} (h : OneText s v w) (hb : Below w.heap.size w w') : OneText s v w' := by
  obtain ⟨g, h1, h2⟩ := h
  exact ⟨g, h1, (hb.cell (lt_of_cell h2)).trans h2⟩
/-- some error of a code -/
def Some1 (c : Int) (v : Value) (w : World) : Prop := ∃ p, Opt w v c p
theorem Some1.keep {c : Int} {v : Value} {w w' : World} (h : Some1 c v w) (hb : Below w.heap.size w w') : Some1 c v w' := by
  obtain ⟨p, h⟩ := h
  exact ⟨p, h.keep hb⟩
/-- a list of four errors -/
def Four (c0 c1 c2 c3 : Int) (v : Value) (w : World) : Prop := ∃ g E0 E1 E2 E3, v = .slice (some ⟨g, 0, none⟩) 4 4 ∧ w.cell? ⟨g, 0, none⟩ = some E0 ∧ w.cell? ⟨g, 1, none⟩ = some E1 ∧ w.cell? ⟨g, 2, none⟩ = some E2 ∧ w.cell? ⟨g, 3, none⟩ = some E3 ∧
  Some1 c0 E0 w ∧ Some1 c1 E1 w ∧ Some1 c2 E2 w ∧ Some1 c3 E3 w
theorem Four.keep {c0 c1 c2 c3 : Int} {v : Value} {w w' : World} (h : Four c0 c1 c2 c3 v w) (hb : Below w.heap.size w w') : Four c0 c1 c2 c3 v w' := by
  obtain ⟨g, E0, E1, E2, E3, h, a0, a1, a2, a3, b0, b1, b2, b3⟩ := h
  exact ⟨g, E0, E1, E2, E3, h, (hb.cell (lt_of_cell a0)).trans a0, (hb.cell (lt_of_cell a1)).trans a1, (hb.cell (lt_of_cell a2)).trans a2, (hb.cell (lt_of_cell a3)).trans a3, b0.keep hb, b1.keep hb, b2.keep hb, b3.keep hb⟩

theorem Some1.form {c : Int} {v : Value} {w : World} (h : Some1 c v w) : v = .nilIface ∨ ∃ u x, v = .iface u x := by
  obtain ⟨p, ⟨_, _, h⟩ | ⟨_, h⟩⟩ := h
  · exact .inl h
  · exact .inr h.iface

/-- the first of some errors has the first code -/
theorem first_some {w : World} : ∀ {Es : List Value} {cs : List Int}, Es.length = cs.length → (∀ (k : Nat) (E : Value) (c : Int), Es[k]? = some E → cs[k]? = some c → Some1 c E w) → Some1 (fc cs) (firstOf Es) w
  | [], [], _, _ => ⟨[], .inl ⟨rfl, rfl, rfl⟩⟩
  | [], _ :: _, h, _ => by simp at h
  | _ :: _, [], h, _ => by simp at h
  | E :: Es, c :: cs, hl, h => by
    have h0 := h 0 E c rfl rfl
    have ih := first_some (Es := Es) (cs := cs) (by simpa using hl) (fun k E' c' h1 h2 => h (k + 1) E' c' (by simpa using h1) (by simpa using h2))
    obtain ⟨p, ⟨hc, _, rfl⟩ | ⟨hc, hE⟩⟩ := h0
    · subst hc
      simpa [fc, firstOf] using ih
    · obtain ⟨u, x, rfl⟩ := hE.iface
      have : Some1 c (.iface u x) w := ⟨p, .inr ⟨hc, hE⟩⟩
      simpa [fc, firstOf, hc] using this

theorem build_four (E0 E1 E2 E3 : Value) (f0 : E0 = .nilIface ∨ ∃ u x, E0 = .iface u x) (f1 : E1 = .nilIface ∨ ∃ u x, E1 = .iface u x) (f2 : E2 = .nilIface ∨ ∃ u x, E2 = .iface u x) (f3 : E3 = .nilIface ∨ ∃ u x, E3 = .iface u x) (w : World) :
    (Instr.buildSlice 55 4 #[(0, E0), (1, E1), (2, E2), (3, E3)]).run Tryd.prog w = .ok (.slice (some ⟨w.heap.size, 0, none⟩) 4 4) (w.alloc (.cells #[E0, E1, E2, E3] 26)) := by
  rcases f0 with rfl | ⟨_, _, rfl⟩ <;> rcases f1 with rfl | ⟨_, _, rfl⟩ <;> rcases f2 with rfl | ⟨_, _, rfl⟩ <;> rcases f3 with rfl | ⟨_, _, rfl⟩ <;> kernel_rfl

/-- what each operation of the statement leaves -/
def F (B : Nat) (c0 c1 c2 c3 : Int) : Nat → Value → World → Prop
  | 0 => fun v _ => v = .pointer (some ⟨B, 0, none⟩)
  | 1 => fun v _ => v = .int .i64 c0
  | 2 => OneText ⟨#[97]⟩
  | 3 => Some1 c0
  | 4 => fun v _ => v = .pointer (some ⟨B, 1, none⟩)
  | 5 => fun v _ => v = .int .i64 c1
  | 6 => OneText ⟨#[98]⟩
  | 7 => Some1 c1
  | 8 => fun v _ => v = .pointer (some ⟨B, 2, none⟩)
  | 9 => fun v _ => v = .int .i64 c2
  | 10 => OneText ⟨#[99]⟩
  | 11 => Some1 c2
  | 12 => fun v _ => v = .pointer (some ⟨B, 3, none⟩)
  | 13 => fun v _ => v = .int .i64 c3
  | 14 => OneText ⟨#[100]⟩
  | 15 => Some1 c3
  | 16 => Four c0 c1 c2 c3
  | _ => Some1 (fc [c0, c1, c2, c3])

theorem F_keep (B : Nat) (c0 c1 c2 c3 : Int) (i : Nat) (v : Value) (w w' : World) (h : F B c0 c1 c2 c3 i v w) (hb : Below w.heap.size w w') : F B c0 c1 c2 c3 i v w' := by
  unfold F at h ⊢
  split at h <;> first | exact h | exact OneText.keep h hb | exact Some1.keep h hb | exact Four.keep h hb

set_option maxRecDepth 100000 in
set_option maxHeartbeats 1000000 in
theorem walk (c0 c1 c2 c3 : Int) (w : World) (hL : Laid w) :
    Calls Tryd.prog 4 #[.agg #[.int .i64 c0, .int .i64 c1, .int .i64 c2, .int .i64 c3]] w fun e w' => e = .returned (.bool true) ∧ Below w.heap.size w w' := by
  have HL := Lib.hid hL
  clear hL
  go_enter Tryd.func4, Tryd.ntmps4
  go_wp2_with fail
  go_loop [3, 4] (fun s i => ∃ k : Nat, k ≤ 4 ∧ i = .int .i64 k ∧ s = .int .i64 (fc ([c0, c1, c2, c3].take k))) (fun _ i => 4 - (intOf i).toNat)
  case atStart => exact ⟨0, by omega, rfl, rfl⟩
  case round =>
    obtain ⟨k, hk, rfl, rfl⟩ := hrel
    obtain rfl | rfl | rfl | rfl | rfl : k = 0 ∨ k = 1 ∨ k = 2 ∨ k = 3 ∨ k = 4 := by omega
    · simp only [List.take_zero]
      have HS : Hid (fc [c0] = if fc [] = 0 then c0 else fc []) := Lib.hid (fc_snoc [] c0)
      cases hz : (fc [] == 0)
      all_goals
        have HZ := Lib.hid hz
        go_wp2
        clear hz
        go_round
        case rel => exact ⟨1, by omega, rfl, by simp only [List.take_succ_cons, List.take_zero]; rw [HS.out]; first | rw [if_pos (by simpa using HZ.out)] | rw [if_neg (by simpa using HZ.out)]⟩
        case measure => simp [intOf]
    · simp only [List.take_succ_cons, List.take_zero]
      have HS : Hid (fc [c0, c1] = if fc [c0] = 0 then c1 else fc [c0]) := Lib.hid (fc_snoc [c0] c1)
      cases hz : (fc [c0] == 0)
      all_goals
        have HZ := Lib.hid hz
        go_wp2
        clear hz
        go_round
        case rel => exact ⟨2, by omega, rfl, by simp only [List.take_succ_cons, List.take_zero]; rw [HS.out]; first | rw [if_pos (by simpa using HZ.out)] | rw [if_neg (by simpa using HZ.out)]⟩
        case measure => simp [intOf]
    · simp only [List.take_succ_cons, List.take_zero]
      have HS : Hid (fc [c0, c1, c2] = if fc [c0, c1] = 0 then c2 else fc [c0, c1]) := Lib.hid (fc_snoc [c0, c1] c2)
      cases hz : (fc [c0, c1] == 0)
      all_goals
        have HZ := Lib.hid hz
        go_wp2
        clear hz
        go_round
        case rel => exact ⟨3, by omega, rfl, by simp only [List.take_succ_cons, List.take_zero]; rw [HS.out]; first | rw [if_pos (by simpa using HZ.out)] | rw [if_neg (by simpa using HZ.out)]⟩
        case measure => simp [intOf]
    · simp only [List.take_succ_cons, List.take_zero]
      have HS : Hid (fc [c0, c1, c2, c3] = if fc [c0, c1, c2] = 0 then c3 else fc [c0, c1, c2]) := Lib.hid (fc_snoc [c0, c1, c2] c3)
      cases hz : (fc [c0, c1, c2] == 0)
      all_goals
        have HZ := Lib.hid hz
        go_wp2
        clear hz
        go_round
        case rel => exact ⟨4, by omega, rfl, by simp only [List.take_succ_cons, List.take_zero]; rw [HS.out]; first | rw [if_pos (by simpa using HZ.out)] | rw [if_neg (by simpa using HZ.out)]⟩
        case measure => simp [intOf]
    · go_wp2
      refine wp_region_walk (by kernel_rfl) (by kernel_rfl) (F w.heap.size c0 c1 c2 c3) (F_keep w.heap.size c0 c1 c2 c3) ?_ ?_
      · refine ⟨?_, ?_, ?_, ?_, ?_, ?_, ?_, ?_, ?_, ?_, ?_, ?_, ?_, ?_, ?_, ?_, ?_, ?_, ?_, trivial⟩
        · intro a w1 hfr _
          have e1 := hfr.slot 1 (by kernel_rfl)
          refine Step.value rfl (v := .pointer (some ⟨w.heap.size, 0, none⟩)) (w' := w1) ?_ rfl (Below.refl _ _)
          simp [go_sem, Act.eval, e1]
        · intro a w1 hfr hdep
          have e1 : a.tmps.getD 15 undef = .pointer (some ⟨w.heap.size, 0, none⟩) := hdep ⟨0, .data⟩ (by simp) rfl _ _ rfl rfl
          have hc : w1.cell? ⟨w.heap.size, 0, none⟩ = some (.int .i64 c0) := (hfr.below.cell (by simp)).trans (by simp)
          refine Step.value rfl (v := .int .i64 c0) (w' := w1) ?_ rfl (Below.refl _ _)
          simp [go_sem, Act.eval, e1, hc]
        · intro a w1 _ _
          refine Step.value rfl (v := .slice (some ⟨w1.heap.size, 0, none⟩) 1 1) (w' := w1.alloc (.cells #[.string ⟨#[97]⟩] 9)) ?_ ⟨w1.heap.size, rfl, by simp⟩ ((Below.refl _ _).alloc (Nat.le_refl _) _)
          simp [go_sem]
        · intro a w1 _ hdep
          have e1 : a.tmps.getD 16 undef = .int .i64 c0 := hdep ⟨1, .data⟩ (by simp) rfl _ _ rfl rfl
          obtain ⟨g, e2, hc⟩ : OneText ⟨#[97]⟩ (a.tmps.getD 17 undef) w1 := hdep ⟨2, .data⟩ (by simp) rfl _ _ rfl rfl
          refine Step.call rfl (f := 8) (args := #[.int .i64 c0, .slice (some ⟨g, 0, none⟩) 1 1]) ?_ ?_
          · simp [go_sem, Act.eval, e1, e2]
          · refine (new_opt c0 (some ⟨g, 0, none⟩) 1 [⟨#[97]⟩] w1 ?_ (by simp)).mono ?_
            · intro k x hx
              rcases k with _ | k
              · simp at hx; subst hx; exact ⟨_, rfl, hc⟩
              · simp at hx
            · rintro e w' ⟨E, rfl, hE, hb⟩
              exact ⟨E, rfl, ⟨_, hE⟩, hb⟩
        · intro a w1 hfr _
          have e1 := hfr.slot 1 (by kernel_rfl)
          refine Step.value rfl (v := .pointer (some ⟨w.heap.size, 1, none⟩)) (w' := w1) ?_ rfl (Below.refl _ _)
          simp [go_sem, Act.eval, e1]
        · intro a w1 hfr hdep
          have e1 : a.tmps.getD 19 undef = .pointer (some ⟨w.heap.size, 1, none⟩) := hdep ⟨4, .data⟩ (by simp) rfl _ _ rfl rfl
          have hc : w1.cell? ⟨w.heap.size, 1, none⟩ = some (.int .i64 c1) := (hfr.below.cell (by simp)).trans (by simp)
          refine Step.value rfl (v := .int .i64 c1) (w' := w1) ?_ rfl (Below.refl _ _)
          simp [go_sem, Act.eval, e1, hc]
        · intro a w1 _ _
          refine Step.value rfl (v := .slice (some ⟨w1.heap.size, 0, none⟩) 1 1) (w' := w1.alloc (.cells #[.string ⟨#[98]⟩] 9)) ?_ ⟨w1.heap.size, rfl, by simp⟩ ((Below.refl _ _).alloc (Nat.le_refl _) _)
          simp [go_sem]
        · intro a w1 _ hdep
          have e1 : a.tmps.getD 20 undef = .int .i64 c1 := hdep ⟨5, .data⟩ (by simp) rfl _ _ rfl rfl
          obtain ⟨g, e2, hc⟩ : OneText ⟨#[98]⟩ (a.tmps.getD 21 undef) w1 := hdep ⟨6, .data⟩ (by simp) rfl _ _ rfl rfl
          refine Step.call rfl (f := 8) (args := #[.int .i64 c1, .slice (some ⟨g, 0, none⟩) 1 1]) ?_ ?_
          · simp [go_sem, Act.eval, e1, e2]
          · refine (new_opt c1 (some ⟨g, 0, none⟩) 1 [⟨#[98]⟩] w1 ?_ (by simp)).mono ?_
            · intro k x hx
              rcases k with _ | k
              · simp at hx; subst hx; exact ⟨_, rfl, hc⟩
              · simp at hx
            · rintro e w' ⟨E, rfl, hE, hb⟩
              exact ⟨E, rfl, ⟨_, hE⟩, hb⟩
        · intro a w1 hfr _
          have e1 := hfr.slot 1 (by kernel_rfl)
          refine Step.value rfl (v := .pointer (some ⟨w.heap.size, 2, none⟩)) (w' := w1) ?_ rfl (Below.refl _ _)
          simp [go_sem, Act.eval, e1]
        · intro a w1 hfr hdep
          have e1 : a.tmps.getD 23 undef = .pointer (some ⟨w.heap.size, 2, none⟩) := hdep ⟨8, .data⟩ (by simp) rfl _ _ rfl rfl
          have hc : w1.cell? ⟨w.heap.size, 2, none⟩ = some (.int .i64 c2) := (hfr.below.cell (by simp)).trans (by simp)
          refine Step.value rfl (v := .int .i64 c2) (w' := w1) ?_ rfl (Below.refl _ _)
          simp [go_sem, Act.eval, e1, hc]
        · intro a w1 _ _
          refine Step.value rfl (v := .slice (some ⟨w1.heap.size, 0, none⟩) 1 1) (w' := w1.alloc (.cells #[.string ⟨#[99]⟩] 9)) ?_ ⟨w1.heap.size, rfl, by simp⟩ ((Below.refl _ _).alloc (Nat.le_refl _) _)
          simp [go_sem]
        · intro a w1 _ hdep
          have e1 : a.tmps.getD 24 undef = .int .i64 c2 := hdep ⟨9, .data⟩ (by simp) rfl _ _ rfl rfl
          obtain ⟨g, e2, hc⟩ : OneText ⟨#[99]⟩ (a.tmps.getD 25 undef) w1 := hdep ⟨10, .data⟩ (by simp) rfl _ _ rfl rfl
          refine Step.call rfl (f := 8) (args := #[.int .i64 c2, .slice (some ⟨g, 0, none⟩) 1 1]) ?_ ?_
          · simp [go_sem, Act.eval, e1, e2]
          · refine (new_opt c2 (some ⟨g, 0, none⟩) 1 [⟨#[99]⟩] w1 ?_ (by simp)).mono ?_
            · intro k x hx
              rcases k with _ | k
              · simp at hx; subst hx; exact ⟨_, rfl, hc⟩
              · simp at hx
            · rintro e w' ⟨E, rfl, hE, hb⟩
              exact ⟨E, rfl, ⟨_, hE⟩, hb⟩
        · intro a w1 hfr _
          have e1 := hfr.slot 1 (by kernel_rfl)
          refine Step.value rfl (v := .pointer (some ⟨w.heap.size, 3, none⟩)) (w' := w1) ?_ rfl (Below.refl _ _)
          simp [go_sem, Act.eval, e1]
        · intro a w1 hfr hdep
          have e1 : a.tmps.getD 27 undef = .pointer (some ⟨w.heap.size, 3, none⟩) := hdep ⟨12, .data⟩ (by simp) rfl _ _ rfl rfl
          have hc : w1.cell? ⟨w.heap.size, 3, none⟩ = some (.int .i64 c3) := (hfr.below.cell (by simp)).trans (by simp)
          refine Step.value rfl (v := .int .i64 c3) (w' := w1) ?_ rfl (Below.refl _ _)
          simp [go_sem, Act.eval, e1, hc]
        · intro a w1 _ _
          refine Step.value rfl (v := .slice (some ⟨w1.heap.size, 0, none⟩) 1 1) (w' := w1.alloc (.cells #[.string ⟨#[100]⟩] 9)) ?_ ⟨w1.heap.size, rfl, by simp⟩ ((Below.refl _ _).alloc (Nat.le_refl _) _)
          simp [go_sem]
        · intro a w1 _ hdep
          have e1 : a.tmps.getD 28 undef = .int .i64 c3 := hdep ⟨13, .data⟩ (by simp) rfl _ _ rfl rfl
          obtain ⟨g, e2, hc⟩ : OneText ⟨#[100]⟩ (a.tmps.getD 29 undef) w1 := hdep ⟨14, .data⟩ (by simp) rfl _ _ rfl rfl
          refine Step.call rfl (f := 8) (args := #[.int .i64 c3, .slice (some ⟨g, 0, none⟩) 1 1]) ?_ ?_
          · simp [go_sem, Act.eval, e1, e2]
          · refine (new_opt c3 (some ⟨g, 0, none⟩) 1 [⟨#[100]⟩] w1 ?_ (by simp)).mono ?_
            · intro k x hx
              rcases k with _ | k
              · simp at hx; subst hx; exact ⟨_, rfl, hc⟩
              · simp at hx
            · rintro e w' ⟨E, rfl, hE, hb⟩
              exact ⟨E, rfl, ⟨_, hE⟩, hb⟩
        · intro a w1 _ hdep
          have h0 : Some1 c0 (a.tmps.getD 18 undef) w1 := hdep ⟨3, .data⟩ (by simp) rfl _ _ rfl rfl
          have h1 : Some1 c1 (a.tmps.getD 22 undef) w1 := hdep ⟨7, .data⟩ (by simp) rfl _ _ rfl rfl
          have h2 : Some1 c2 (a.tmps.getD 26 undef) w1 := hdep ⟨11, .data⟩ (by simp) rfl _ _ rfl rfl
          have h3 : Some1 c3 (a.tmps.getD 30 undef) w1 := hdep ⟨15, .data⟩ (by simp) rfl _ _ rfl rfl
          have hb : Below w1.heap.size w1 (w1.alloc (.cells #[a.tmps.getD 18 undef, a.tmps.getD 22 undef, a.tmps.getD 26 undef, a.tmps.getD 30 undef] 26)) := (Below.refl _ _).alloc (Nat.le_refl _) _
          refine Step.value rfl (v := .slice (some ⟨w1.heap.size, 0, none⟩) 4 4) (w' := w1.alloc (.cells #[a.tmps.getD 18 undef, a.tmps.getD 22 undef, a.tmps.getD 26 undef, a.tmps.getD 30 undef] 26)) ?_ ⟨w1.heap.size, _, _, _, _, rfl, by simp, by simp, by simp, by simp, h0.keep hb, h1.keep hb, h2.keep hb, h3.keep hb⟩ hb
          have f0 := h0.form
          have f1 := h1.form
          have f2 := h2.form
          have f3 := h3.form
          clear hb h0 h1 h2 h3 hdep
          have r := build_four _ _ _ _ f0 f1 f2 f3 w1
          simp only [Array.getD_eq_getD_getElem?] at r
          simp [execOp, Act.eval, r]
        · intro a w1 _ hdep
          obtain ⟨g, E0, E1, E2, E3, e1, a0, a1, a2, a3, b0, b1, b2, b3⟩ : Four c0 c1 c2 c3 (a.tmps.getD 31 undef) w1 := hdep ⟨16, .data⟩ (by simp) rfl _ _ rfl rfl
          refine Step.call rfl (f := 19) (args := #[.slice (some ⟨g, 0, none⟩) 4 4]) ?_ ?_
          · simp [go_sem, Act.eval, e1]
          · refine (first_any [E0, E1, E2, E3] (some ⟨g, 0, none⟩) 4 w1 ?_ ?_ (by simp)).mono ?_
            · intro k E hk
              rcases k with _ | _ | _ | _ | k <;> simp at hk <;> subst hk
              · exact b0.form
              · exact b1.form
              · exact b2.form
              · exact b3.form
            · intro k E hk
              rcases k with _ | _ | _ | _ | k <;> simp at hk <;> subst hk
              · exact ⟨_, rfl, a0⟩
              · exact ⟨_, rfl, a1⟩
              · exact ⟨_, rfl, a2⟩
              · exact ⟨_, rfl, a3⟩
            · rintro e w' ⟨rfl, rfl⟩
              refine ⟨_, rfl, first_some (Es := [E0, E1, E2, E3]) (cs := [c0, c1, c2, c3]) rfl ?_, Below.refl _ _⟩
              intro k E c hk hc
              rcases k with _ | _ | _ | _ | k <;> simp at hk hc <;> subst hk <;> subst hc
              · exact b0
              · exact b1
              · exact b2
              · exact b3
        · intro a w1 _ hdep
          have h0 : Some1 (fc [c0, c1, c2, c3]) (a.tmps.getD 32 undef) w1 := hdep ⟨17, .data⟩ (by simp) rfl _ _ rfl rfl
          refine Step.value rfl (v := a.tmps.getD 32 undef) (w' := w1) ?_ h0 (Below.refl _ _)
          simp [go_sem, Act.eval]
      · intro v0 v1 v2 v3 v4 v5 v6 v7 v8 v9 v10 v11 v12 v13 v14 v15 v16 v17 v18 w1 hb hC
        have hE : Some1 (fc [c0, c1, c2, c3]) v18 w1 := hC.2
        clear hC
        have hb1 : Below w.heap.size w w1 := ((Below.refl w.heap.size w).alloc (Nat.le_refl _) _).trans (hb.mono (by simp))
        generalize fc [c0, c1, c2, c3] = z at *
        obtain ⟨p, ⟨rfl, _, rfl⟩ | ⟨h0, hE⟩⟩ := hE
        · clear hb
          go_wp2_with fail
          refine (code_nil _).mono ?_
          rintro e w2 ⟨rfl, rfl⟩
          go_wp2_with fail
          refine (works _ (HL.out.keep hb1)).mono ?_
          rintro e w2 ⟨rfl, hb2⟩
          go_wp2_with fail
          go_ret
          exact ⟨rfl, hb1.trans (hb2.mono hb1.size)⟩
        · obtain ⟨u, x, rfl⟩ := hE.iface
          have H0 := Lib.hid hE
          have hz : (z == 0) = false := beq_eq_false_iff_ne.2 h0
          clear hb hE h0
          go_wp2_with fail
          refine (code_some z p _ H0.out (HL.out.keep hb1)).mono ?_
          rintro e w2 ⟨rfl, hb2⟩
          have hbb2 := hb1.trans (hb2.mono hb1.size)
          clear hb2
          go_wp2_with fail
          refine (works _ (HL.out.keep hbb2)).mono ?_
          rintro e w3 ⟨rfl, hb3⟩
          go_wp2_with fail
          go_ret
          exact ⟨rfl, hbb2.trans (hb3.mono hbb2.size)⟩
end Go.Proofs.YtikaghinkpcknaaDoor.FailFirstWalk
