/-
  The place of a port in a table by binary search, its owner. What was there is left as it was. Condition: the table is one (Tb), its ports rise.
-/
import Derived.Test.YtgnfpcacpcnanaaPtMem
import Derived.Deep.LoopGhost
import Derived.Shelf.Abstract
set_option linter.unusedVariables false
set_option linter.unusedSimpArgs false
namespace Go.Proofs.Ytgnfpcacpcnanaa
open Go.ChangeShapes Go.WideShapes Go.ChangeAt Go.RowKit Go.Lib
namespace Pt

def cmpI (a b : Int) : Int := if a < b then -1 else if b < a then 1 else 0
theorem cmp_any (a b : Int) (w : World) : Calls Try.prog 33 #[.int .i64 a, .int .i64 b] w fun e w' => e = .returned (.int .i64 (cmpI a b)) ∧ w' = w := by
  obtain ⟨z, hz⟩ : ∃ z, cmpI a b = z := ⟨_, rfl⟩
  rw [hz]
  have HZ := Lib.hid hz
  clear hz
  go_enter Try.func33, Try.ntmps33
  go_wp2
  all_goals (go_ret; refine ⟨?_, rfl⟩; rw [← HZ.out]; unfold cmpI; simp_all)
  all_goals omega
theorem close_any (a o p : Int) (w : World) : Calls Try.prog 32 #[.agg #[.int .i64 a, .int .i64 o], .int .i64 p] w fun e w' => e = .returned (.int .i64 (cmpI a p)) ∧ Below w.heap.size w w' := by
  go_enter Try.func32, Try.ntmps32
  go_wp2_with (go_at_call 33; refine (cmp_any _ _ _).mono ?_; rintro e w' ⟨rfl, rfl⟩)
  go_ret
  exact ⟨rfl, (Below.refl _ _).alloc (Nat.le_refl _) _⟩
def hasP (l : Tab) (p : Int) : Bool := match l[lo p l]? with | some x => decide (x.1 = p) | none => false
set_option maxRecDepth 100000 in
set_option maxHeartbeats 1000000 in
theorem search_any {B : Nat} {l : Tab} {A : Option Addr} {c : Nat} (p : Int) (w : World) (h : w.ownsRow B 59 2 (.slice A l.length c) l.length (flat l)) (hu : l.Pairwise fun a b => a.1 < b.1) (hn : l.length ≤ 100000) :
    Calls Try.prog 31 #[.slice A l.length c, .int .i64 p, .func (.func 32) #[] #[]] w fun e w' => e = .returned (.tuple #[.int .i64 (lo p l : Int), .bool (hasP l p)]) ∧ Below w.heap.size w w' := by
  have H := Lib.hid h
  have HU := Lib.hid hu
  obtain ⟨n, hln⟩ : ∃ n, l.length = n := ⟨_, rfl⟩
  have HLN := Lib.hid hln
  rw [hln] at hn ⊢
  have eg := enters_of Try.func32 (by kernel_rfl) rfl
  clear h hu hln
  go_enter Try.func31, Try.ntmps31
  go_wp2
  go_loopg [9, 10] n (fun kx s9 s10 wr => ∃ lw hi : Nat, s9 = .int .i64 lw ∧ s10 = .int .i64 hi ∧ lw ≤ hi ∧ hi ≤ n ∧ hi - lw ≤ kx ∧ Hid (Below w.heap.size w wr) ∧
    Hid ((∀ t x, t < lw → l[t]? = some x → x.1 < p) ∧ (∀ t x, hi ≤ t → l[t]? = some x → p ≤ x.1)))
  case atStart => exact ⟨0, n, rfl, rfl, Nat.zero_le _, Nat.le_refl _, by omega, Below.refl _ _, (⟨fun t x ht => absurd ht (Nat.not_lt_zero _), fun t x h1 h2 => by have := (List.getElem?_eq_some_iff.1 h2).1; have := HLN.out; omega⟩ : (∀ t x, t < 0 → l[t]? = some x → x.1 < p) ∧ (∀ t x, n ≤ t → l[t]? = some x → p ≤ x.1))⟩
  case round =>
    obtain ⟨lw, hi, rfl, rfl, hlh, hin, hg, HW, I⟩ := hrel
    by_cases hlt : lw < hi
    · obtain ⟨y, hy⟩ : ∃ y, l[(lw + hi) / 2]? = some y := ⟨_, List.getElem?_eq_getElem (by have := HLN.out; omega)⟩
      obtain ⟨r, rfl, hr, k1, k2⟩ := row_at (owns_below H.out HW.out) hy
      have HY := Lib.hid hy
      clear hy
      have hc := close_any y.1 y.2 p wr
      by_cases hyx : y.1 < p
      · have ez : cmpI y.1 p = -1 := by unfold cmpI; rw [if_pos hyx]
        rw [ez] at hc
        go_wp2_with (go_at_call 32; refine hc.mono ?_; rintro e w' ⟨rfl, hb⟩; have HBB := Lib.hid hb; clear hb)
        go_roundg (hi - ((lw + hi) / 2 + 1))
        case measure => omega
        case rel =>
          exact ⟨(lw + hi) / 2 + 1, hi, by rw [show ((lw : Int) + (hi : Int)) / 2 + 1 = (((lw + hi) / 2 + 1 : Nat) : Int) by omega], rfl, by omega, hin, Nat.le_refl _, HW.out.trans (HBB.out.mono HW.out.size), (⟨fun t x ht hx => by
            rcases Nat.lt_or_ge t ((lw + hi) / 2) with h1 | h1
            · have h2 := (List.getElem?_eq_some_iff.1 hx)
              have h3 := (List.getElem?_eq_some_iff.1 HY.out)
              obtain ⟨h2, rfl⟩ := h2
              obtain ⟨h3, rfl⟩ := h3
              have := List.pairwise_iff_getElem.1 HU.out t _ h2 h3 h1
              omega
            · rw [show t = (lw + hi) / 2 by omega, HY.out] at hx
              injection hx with hx; subst hx; exact hyx, I.out.2⟩ : (∀ t x, t < (lw + hi) / 2 + 1 → l[t]? = some x → x.1 < p) ∧ (∀ t x, hi ≤ t → l[t]? = some x → p ≤ x.1))⟩
      · obtain ⟨z, ez, hz⟩ : ∃ z, cmpI y.1 p = z ∧ ¬ z < 0 := ⟨_, rfl, by unfold cmpI; rw [if_neg hyx]; split <;> omega⟩
        rw [ez] at hc
        have EZ := Lib.hid ez
        clear ez
        go_wp2_with (go_at_call 32; refine hc.mono ?_; rintro e w' ⟨rfl, hb⟩; have HBB := Lib.hid hb; clear hb)
        go_roundg ((lw + hi) / 2 - lw)
        case measure => omega
        case rel =>
          exact ⟨lw, (lw + hi) / 2, rfl, by rw [show ((lw : Int) + (hi : Int)) / 2 = (((lw + hi) / 2 : Nat) : Int) by omega], by omega, by omega, Nat.le_refl _, HW.out.trans (HBB.out.mono HW.out.size), (⟨I.out.1, fun t x ht hx => by
            rcases Nat.eq_or_lt_of_le ht with h1 | h1
            · rw [← h1, HY.out] at hx
              injection hx with hx; subst hx; omega
            · obtain ⟨h2, rfl⟩ := (List.getElem?_eq_some_iff.1 hx)
              obtain ⟨h3, rfl⟩ := (List.getElem?_eq_some_iff.1 HY.out)
              have := List.pairwise_iff_getElem.1 HU.out _ t h3 h2 h1
              omega⟩ : (∀ t x, t < lw → l[t]? = some x → x.1 < p) ∧ (∀ t x, (lw + hi) / 2 ≤ t → l[t]? = some x → p ≤ x.1))⟩
    · obtain rfl : hi = lw := by omega
      have hlo : lo p l = hi := lo_eq HU.out (by rw [HLN.out]; exact hin) I.out.1 I.out.2
      by_cases hn2 : hi < n
      · obtain ⟨y, hy⟩ : ∃ y, l[hi]? = some y := ⟨_, List.getElem?_eq_getElem (by have := HLN.out; omega)⟩
        obtain ⟨r, rfl, hr, k1, k2⟩ := row_at (owns_below H.out HW.out) hy
        have hc := close_any y.1 y.2 p wr
        have HHAS := Lib.hid (show hasP l p = decide (y.1 = p) by unfold hasP; rw [hlo, hy])
        have HLO := Lib.hid hlo
        have HGE := Lib.hid (I.out.2 hi y (Nat.le_refl _) hy)
        clear hy hlo
        by_cases hyx : y.1 = p
        · have ez : cmpI y.1 p = 0 := by unfold cmpI; rw [if_neg (by omega), if_neg (by omega)]
          rw [ez] at hc
          have HYX := Lib.hid hyx
          clear hyx
          go_wp2_with (go_at_call 32; refine hc.mono ?_; rintro e w' ⟨rfl, hb⟩; have HBB := Lib.hid hb; clear hb)
          go_ret2
          exact ⟨by rw [HLO.out, HHAS.out, HYX.out]; simp, HW.out.trans (HBB.out.mono HW.out.size)⟩
        · have ez : cmpI y.1 p = 1 := by unfold cmpI; have := HGE.out; rw [if_neg (by omega), if_pos (by omega)]
          rw [ez] at hc
          have HYX := Lib.hid hyx
          clear hyx
          go_wp2_with (go_at_call 32; refine hc.mono ?_; rintro e w' ⟨rfl, hb⟩; have HBB := Lib.hid hb; clear hb)
          go_ret2
          exact ⟨by rw [HLO.out, HHAS.out, decide_eq_false HYX.out]; rfl, HW.out.trans (HBB.out.mono HW.out.size)⟩
      · have HHAS := Lib.hid (show hasP l p = false by unfold hasP; rw [hlo, List.getElem?_eq_none (by have := HLN.out; omega)])
        have HLO := Lib.hid hlo
        clear hlo
        go_wp2
        go_ret2
        exact ⟨by rw [HLO.out, HHAS.out]; rfl, HW.out⟩
theorem find_any {B g : Nat} {l : Tab} (p : Int) (w : World) (h : Tb B w g l) (hu : l.Pairwise fun a b => a.1 < b.1) (hn : l.length ≤ 100000) :
    Calls Try.prog 22 #[.pointer (some ⟨g, 0, none⟩), .int .i64 p] w fun e w' => e = .returned (.tuple #[.int .i64 (lo p l : Int), .bool (hasP l p)]) ∧ Below w.heap.size w w' := by
  obtain ⟨A, c, h⟩ := h
  have c0 := h.cell
  have hs := search_any p w h.row hu hn
  clear h
  generalize l.length = n at *
  generalize lo p l = k at *
  generalize hasP l p = b at *
  go_enter Try.func22, Try.ntmps22
  go_wp2_with (go_at_call 31; refine hs.mono ?_; rintro e w' ⟨rfl, hb⟩)
  go_ret2
  exact ⟨rfl, hb⟩
set_option maxRecDepth 100000 in
theorem owner_any {B g : Nat} {l : Tab} (p : Int) (w : World) (h : Tb B w g l) (ho : Ok l) (hn : l.length ≤ 100000) :
    Calls Try.prog 12 #[.pointer (some ⟨g, 0, none⟩), .int .i64 p] w fun e w' => e = .returned (.int .i64 (ownerL l p)) ∧ Below w.heap.size w w' := by
  have hf := find_any p w h ho.up hn
  have H := Lib.hid h
  have HO := Lib.hid (owner_lo ho p)
  have HLE := Lib.hid (lo_le p l)
  have e1 : hasP l p = match l[lo p l]? with | some x => decide (x.1 = p) | none => false := rfl
  clear h ho
  cases hl : l[lo p l]? with
  | none =>
    rw [hl] at e1
    have HO2 := Lib.hid (show ownerL l p = 0 by rw [HO.out, hl])
    rw [e1] at hf
    clear e1 hl
    generalize lo p l = k at *
    go_enter Try.func12, Try.ntmps12
    go_wp2_with (go_at_call 22; refine hf.mono ?_; rintro e w' ⟨rfl, hb⟩)
    go_ret
    exact ⟨by rw [HO2.out]; rfl, hb⟩
  | some x =>
    rw [hl] at e1
    by_cases hx : x.1 = p
    · have HO2 := Lib.hid (show ownerL l p = x.2 by rw [HO.out, hl]; simp only; rw [if_pos hx])
      simp only [hx, decide_true] at e1
      rw [e1] at hf
      have HL := Lib.hid hl
      have hk := (List.getElem?_eq_some_iff.1 hl).1
      clear e1 hl
      generalize lo p l = k at *
      have hk' : (k : Int) < (l.length : Int) := by omega
      go_enter Try.func12, Try.ntmps12
      go_wp2_with (first | (go_at_call 22; refine hf.mono ?_; rintro e w' ⟨rfl, hb⟩; obtain ⟨A, c, hA⟩ := H.out.below hb; have c0 := hA.cell; obtain ⟨r, rfl, hr, k1, k2⟩ := row_at hA.row HL.out; have HBB := Lib.hid hb; clear hA hb))
      go_ret
      exact ⟨by rw [HO2.out]; rfl, HBB.out⟩
    · have HO2 := Lib.hid (show ownerL l p = 0 by rw [HO.out, hl]; simp only; rw [if_neg hx])
      simp only [hx, decide_false] at e1
      rw [e1] at hf
      clear e1 hl
      generalize lo p l = k at *
      go_enter Try.func12, Try.ntmps12
      go_wp2_with (go_at_call 22; refine hf.mono ?_; rintro e w' ⟨rfl, hb⟩)
      go_ret
      exact ⟨by rw [HO2.out]; rfl, hb⟩
end Pt
end Go.Proofs.Ytgnfpcacpcnanaa
