/-
  The contract of the laws' own helper LightSpec: is a spec not too long? No condition.
-/
import Derived.Test.YtmeilidjomjocaaGreatDoorSpecData
import Derived.Test.YtmeilidjomjocaaGreatDoorChecked
import Derived.WalkKit
import Derived.ProofKit
namespace Go.Proofs.YtmeilidjomjocaaGreatDoor
open Go.ChangeShapes Go.WideShapes Go.ChangeAt Go.RowKit Go.Lib
open Sd Lists
namespace Book

def lightC (x : Ctr) : Prop := x.name.size ≤ 100 ∧ x.image.size ≤ 100 ∧ x.ports.length ≤ 10
def lightL (x : Lbl) : Prop := x.key.size ≤ 100 ∧ x.val.size ≤ 100
/-- a list of containers that is not too long -/
def lightCs (l : List Ctr) : Prop := ∀ x ∈ l, lightC x
def lightLs (l : List Lbl) : Prop := ∀ x ∈ l, lightL x
/-- a spec that is not too long -/
def Light (S : Spc) : Prop := (S.name.size ≤ 100 ∧ S.labels.length ≤ 10 ∧ S.init.length ≤ 8 ∧ S.main.length ≤ 8) ∧ lightLs S.labels ∧ lightCs S.init ∧ lightCs S.main

def lightCsB (l : List Ctr) : Bool := l.all fun x => decide (x.name.size ≤ 100) && decide (x.image.size ≤ 100) && decide (x.ports.length ≤ 10)
def lightLsB (l : List Lbl) : Bool := l.all fun x => decide (x.key.size ≤ 100) && decide (x.val.size ≤ 100)
def LightB (S : Spc) : Bool := decide (S.name.size ≤ 100) && decide (S.labels.length ≤ 10) && decide (S.init.length ≤ 8) && decide (S.main.length ≤ 8) && lightLsB S.labels && lightCsB S.init && lightCsB S.main

theorem lightCsB_iff {l : List Ctr} : lightCsB l = true ↔ lightCs l := by simp [lightCsB, lightCs, lightC, and_assoc]
theorem lightLsB_iff {l : List Lbl} : lightLsB l = true ↔ lightLs l := by simp [lightLsB, lightLs, lightL]
theorem LightB_iff {S : Spc} : LightB S = true ↔ Light S := by simp [LightB, Light, lightCsB_iff, lightLsB_iff, and_assoc]
theorem lightCsB_of {l : List Ctr} (h : lightCs l) : lightCsB l = true := lightCsB_iff.2 h
theorem lightCsB_not {l : List Ctr} (h : ¬ lightCs l) : lightCsB l = false := by
  cases e : lightCsB l
  · rfl
  · exact absurd (lightCsB_iff.1 e) h
theorem LightB_not {S : Spc} (h : ¬ Light S) : LightB S = false := by
  cases e : LightB S
  · rfl
  · exact absurd (LightB_iff.1 e) h
theorem ret_bool {a b : Bool} (h : a = b) : Ending.returned (.bool a) = .returned (.bool b) := by rw [h]

set_option maxRecDepth 100000 in
theorem lightCs_any (A : Option Addr) (cap : Nat) (l : List Ctr) (hl : l.length ≤ 9223372036854775807) (w : World) (h : Ctrs w A l) :
    Calls Tryz.prog 109 #[.slice A l.length cap] w fun e w' => e = .returned (.bool (lightCsB l)) ∧ w = w' := by
  have H := Lib.hid h
  clear h
  have hl' : (l.length : Int) ≤ 9223372036854775807 := by omega
  clear hl
  go_enter Tryz.func109, Tryz.ntmps109
  go_wp2_with fail
  go_loop [3] (fun i => ∃ k : Nat, k ≤ l.length ∧ i = .int .i64 k ∧ Hid (∀ x ∈ l.take k, lightC x)) (fun i => l.length - (RowKit.intOf i).toNat)
  case atStart => exact ⟨0, Nat.zero_le _, rfl, fun x hx => by simp at hx⟩
  case round =>
    obtain ⟨k, hk, rfl, HA⟩ := hrel
    by_cases hlt : k < l.length
    · obtain ⟨hF, a, P, c, rfl, ha, hc, hN⟩ := H.out.at hlt
      have hp := hF.ports
      obtain ⟨x, hx⟩ : ∃ x, l[k] = x := ⟨_, rfl⟩
      rw [hx] at hc hp
      obtain ⟨h0, h1, _, _, _, _, _, _, h8, _, _⟩ := hc
      have HX := Lib.hid hx
      clear hx hF ha hN
      by_cases hy : lightC x
      · obtain ⟨y0, y1, y2⟩ := hy
        have HY := Lib.hid (show lightC x from ⟨y0, y1, y2⟩)
        go_wp2
        go_round
        case rel =>
          refine ⟨k + 1, by omega, by go_num, ?_⟩
          intro z hz
          rw [List.take_succ_eq_append_getElem hlt, HX.out] at hz
          rcases List.mem_append.1 hz with hz | hz
          · exact HA.out z hz
          · rw [List.mem_singleton.1 hz]; exact HY.out
        case measure => simp [RowKit.intOf]; omega
      · have HN := Lib.hid (show lightCsB l = false from lightCsB_not (fun hh => hy (hh x (HX.out ▸ List.getElem_mem hlt))))
        have hy' : 100 < x.name.size ∨ 100 < x.image.size ∨ 10 < x.ports.length := by
          unfold lightC at hy
          omega
        clear hy
        by_cases y0 : 100 < x.name.size
        · clear hy'
          go_wp2
          go_ret
          exact ⟨ret_bool HN.out.symm, rfl⟩
        · by_cases y1 : 100 < x.image.size
          · clear hy'
            go_wp2
            go_ret
            exact ⟨ret_bool HN.out.symm, rfl⟩
          · have y2 : 10 < x.ports.length := by omega
            clear hy'
            go_wp2
            go_ret
            exact ⟨ret_bool HN.out.symm, rfl⟩
    · have HN := Lib.hid (show lightCsB l = true from lightCsB_of (fun x hx => HA.out x (by rw [List.take_of_length_le (by omega)]; exact hx)))
      go_wp2
      go_ret
      exact ⟨ret_bool HN.out.symm, rfl⟩

set_option maxRecDepth 100000 in
set_option maxHeartbeats 1000000 in
/-- LIGHTSPEC -/
theorem light_any (S : Spc) (LA : Option Addr) (lc : Nat) (IA : Option Addr) (ic : Nat) (MA : Option Addr) (mc : Nat) (w : World) (h : S.In w LA lc IA ic MA mc) :
    Calls Tryz.prog 59 #[.agg #[.string S.name, .slice LA S.labels.length lc, .slice IA S.init.length ic, .slice MA S.main.length mc, .int .i64 S.restart, .int .i64 S.grace, .int .i64 S.prio]] w fun e w' => e = .returned (.bool (LightB S)) ∧ Below w.heap.size w w' := by
  have H := Lib.hid h
  have hl' : (S.labels.length : Int) ≤ 9223372036854775807 := by have := h.nl; omega
  have hi' : (S.init.length : Int) ≤ 9223372036854775807 := by have := h.ni; omega
  have hm' : (S.main.length : Int) ≤ 9223372036854775807 := by have := h.nm; omega
  clear h
  have HB := fun o => Lib.hid (show Below w.heap.size w (w.alloc o) from (Below.refl _ _).alloc (Nat.le_refl _) _)
  by_cases hc : S.name.size ≤ 100 ∧ S.labels.length ≤ 10 ∧ S.init.length ≤ 8 ∧ S.main.length ≤ 8
  · obtain ⟨y0, y1, y2, y3⟩ := hc
    have HC := Lib.hid (show S.name.size ≤ 100 ∧ S.labels.length ≤ 10 ∧ S.init.length ≤ 8 ∧ S.main.length ≤ 8 from ⟨y0, y1, y2, y3⟩)
    go_enter Tryz.func59, Tryz.ntmps59
    go_wp2_with fail
    have HI := Lib.hid (H.out.below (HB (.cells #[.string S.name, .slice LA S.labels.length lc, .slice IA S.init.length ic, .slice MA S.main.length mc, .int .i64 S.restart, .int .i64 S.grace, .int .i64 S.prio] 28)).out)
    go_loop [4] (fun i => ∃ k : Nat, k ≤ S.labels.length ∧ i = .int .i64 k ∧ Hid (∀ x ∈ S.labels.take k, lightL x)) (fun i => S.labels.length - (RowKit.intOf i).toNat)
    case atStart => exact ⟨0, Nat.zero_le _, rfl, fun x hx => by simp at hx⟩
    case round =>
      obtain ⟨k, hk, rfl, HA⟩ := hrel
      by_cases hlt : k < S.labels.length
      · obtain ⟨a, rfl, ha, hc⟩ := HI.out.labels.at hlt
        obtain ⟨x, hx⟩ : ∃ x, S.labels[k] = x := ⟨_, rfl⟩
        rw [hx] at hc
        obtain ⟨h0, h1⟩ := hc
        have HX := Lib.hid hx
        clear hx ha
        by_cases hy : lightL x
        · obtain ⟨y0, y1⟩ := hy
          have HY := Lib.hid (show lightL x from ⟨y0, y1⟩)
          go_wp2
          go_round
          case rel =>
            refine ⟨k + 1, by omega, by go_num, ?_⟩
            intro z hz
            rw [List.take_succ_eq_append_getElem hlt, HX.out] at hz
            rcases List.mem_append.1 hz with hz | hz
            · exact HA.out z hz
            · rw [List.mem_singleton.1 hz]; exact HY.out
          case measure => simp [RowKit.intOf]; omega
        · have HN := Lib.hid (show LightB S = false from LightB_not (fun hh => hy (hh.2.1 x (HX.out ▸ List.getElem_mem hlt))))
          have hy' : 100 < x.key.size ∨ 100 < x.val.size := by
            unfold lightL at hy
            omega
          clear hy
          by_cases y0 : 100 < x.key.size
          · clear hy'
            go_wp2
            go_ret
            exact ⟨ret_bool HN.out.symm, (HB _).out⟩
          · have y1 : 100 < x.val.size := by omega
            clear hy'
            go_wp2
            go_ret
            exact ⟨ret_bool HN.out.symm, (HB _).out⟩
      · have HLS := Lib.hid (show lightLs S.labels from fun x hx => HA.out x (by rw [List.take_of_length_le (by omega)]; exact hx))
        go_wp2_with fail
        refine (lightCs_any IA ic S.init HI.out.ni _ HI.out.init).mono ?_
        rintro e w' ⟨rfl, rfl⟩
        cases hci : lightCsB S.init with
        | false =>
          have HN := Lib.hid (show LightB S = false from LightB_not (fun hh => by rw [lightCsB_of hh.2.2.1] at hci; cases hci))
          clear hci
          go_wp2
          go_ret
          exact ⟨ret_bool HN.out.symm, (HB _).out⟩
        | true =>
          have HCI := Lib.hid (lightCsB_iff.1 hci)
          clear hci
          go_wp2_with fail
          refine (lightCs_any MA mc S.main HI.out.nm _ HI.out.main).mono ?_
          rintro e w' ⟨rfl, rfl⟩
          cases hcm : lightCsB S.main with
          | false =>
            have HN := Lib.hid (show LightB S = false from LightB_not (fun hh => by rw [lightCsB_of hh.2.2.2] at hcm; cases hcm))
            clear hcm
            go_wp2
            go_ret
            exact ⟨ret_bool HN.out.symm, (HB _).out⟩
          | true =>
            have HN := Lib.hid (show LightB S = true from LightB_iff.2 ⟨HC.out, HLS.out, HCI.out, lightCsB_iff.1 hcm⟩)
            clear hcm
            go_wp2
            go_ret
            exact ⟨ret_bool HN.out.symm, (HB _).out⟩
  · have HN := Lib.hid (show LightB S = false from LightB_not (fun hh => hc hh.1))
    have hc' : 100 < S.name.size ∨ 10 < S.labels.length ∨ 8 < S.init.length ∨ 8 < S.main.length := by omega
    clear hc
    by_cases y0 : 100 < S.name.size
    · clear hc'
      go_enter Tryz.func59, Tryz.ntmps59
      go_wp2
      go_ret
      exact ⟨ret_bool HN.out.symm, (HB _).out⟩
    · by_cases y1 : 10 < S.labels.length
      · clear hc'
        go_enter Tryz.func59, Tryz.ntmps59
        go_wp2
        go_ret
        exact ⟨ret_bool HN.out.symm, (HB _).out⟩
      · by_cases y2 : 8 < S.init.length
        · clear hc'
          go_enter Tryz.func59, Tryz.ntmps59
          go_wp2
          go_ret
          exact ⟨ret_bool HN.out.symm, (HB _).out⟩
        · have y3 : 8 < S.main.length := by omega
          clear hc'
          go_enter Tryz.func59, Tryz.ntmps59
          go_wp2
          go_ret
          exact ⟨ret_bool HN.out.symm, (HB _).out⟩
end Book
end Go.Proofs.YtmeilidjomjocaaGreatDoor
