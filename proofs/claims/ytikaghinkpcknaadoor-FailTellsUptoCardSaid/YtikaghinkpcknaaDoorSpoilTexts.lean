/-
  The contract of provostbook.SpoilTexts at a row of the call's own: it returns, and leaves all below that row's base as it was. Condition: fewer than 2^63 texts.
-/
import Derived.Test.YtikaghinkpcknaaDoorErr
import Derived.Laws.OwnMore
namespace Go.Proofs.YtikaghinkpcknaaDoor
open Go.RowKit
namespace Err

/-- a row of texts of one's own, whatever they are -/
def SomeRow (base : Nat) (v : Value) (n : Nat) (w : World) : Prop := ∃ vs, w.ownsRow base 9 1 v n vs

theorem spoil_texts (base : Nat) (v : Value) (n : Nat) (xs : List Value) (w : World) (h : w.ownsRow base 9 1 v n xs) (hn : n ≤ 1000000) :
    Calls Tryd.prog 17 #[v] w fun e w' => e = .returned (.tuple #[]) ∧ Below base w w' := by
  rcases h.2 with ⟨rfl, rfl⟩ | ⟨g, cap, cur, rfl, hg, hh, hnc, hcm, hcs, htk⟩
  · go_enter Tryd.func17, Tryd.ntmps17
    go_wp2
    refine wp_loop_rounds 1 ?_
    rw [rounds_succ]
    go_wp2
    go_end0
    exact ⟨rfl, Below.refl _ _⟩
  · have H := Lib.hid h
    clear h hh hnc hcm hcs htk
    go_enter Tryd.func17, Tryd.ntmps17
    go_wp2
    go_loopw [5] (fun i wl => ∃ k : Nat, k ≤ n ∧ i = .int .i64 k ∧ SomeRow base (.slice (some ⟨g, 0, none⟩) n cap) n wl ∧ Below base w wl) (fun i _ => n - (intOf i).toNat)
    case atStart => exact ⟨0, Nat.zero_le _, rfl, ⟨xs, H.out⟩, Below.refl _ _⟩
    case round =>
      obtain ⟨k, hk, rfl, ⟨vs, hown⟩, hb⟩ := hrel
      by_cases hlt : k < n
      · have hz := hown.frozenAt k
        have hvl : vs.length = n := by have := hown.1; omega
        have hc := hown.cellAt k (by omega)
        rw [List.getElem?_eq_getElem (by omega)] at hc
        have HS := Lib.hid (hown.stored k (.string ⟨#[115, 112, 111, 105, 108, 116]⟩))
        clear hown
        have hj : (k : Int) < (n : Int) := by omega
        go_wp2
        go_roundw
        case rel => exact ⟨k + 1, by omega, by go_num, ⟨_, HS.out.1⟩, hb.setCell hg _⟩
        case measure => simp [intOf]; omega
      · go_wp2
        go_end0
        exact ⟨rfl, hb⟩
end Err
end Go.Proofs.YtikaghinkpcknaaDoor
