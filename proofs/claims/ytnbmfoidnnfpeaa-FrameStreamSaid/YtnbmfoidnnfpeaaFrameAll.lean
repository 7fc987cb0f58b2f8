/-
  The contracts of All, of the iterator that it hands back, and of the law's list of all texts that are whole. No condition.
-/
import Derived.Test.YtnbmfoidnnfpeaaFrameNext
import Derived.Test.YtnbmfoidnnfpeaaRangeTurns
import Derived.RangeFuncBox
import Derived.Shelf.Abstract
import Derived.OwnWalkIn
import Derived.TacticsInMore
import Derived.LoopNIn
import Derived.LoopIn
import Derived.Maps.AppendAt
import Derived.WalkMore
namespace Go.Proofs.Ytnbmfoidnnfpeaa
open Go.ChangeShapes Go.WideShapes Go.ChangeAt Go.RowKit Go.Lib
open FramePure RangeTurns
namespace Spl

attribute [local go_sem] Oper.semAt_some

/-- how many bytes the splitter at g has, read off the world -/
def leftN (g : Nat) (w : World) : Nat := match w.cell? ⟨g, 0, none⟩ with
  | some (.slice _ n _) => n
  | _ => 0
theorem Sp.leftN {w : World} {g : Nat} {r : Option Nat} {cl : Bool} {xs : List UInt8} (h : Sp w g r cl xs) : Spl.leftN g w = xs.length := by
  obtain ⟨_, _, A, cap, h1, _⟩ := h
  unfold Spl.leftN
  rw [(two_cells h1).1]

/-- what a round keeps for the iterator: the splitter, its row, the box -/
def Kp (g : Nat) (r : Option Nat) (b : Nat) (A B : World) : Prop := ∀ k, (k = g ∨ r = some k ∨ k = b) → B.heap[k]? = A.heap[k]?
theorem Kp.trans {g : Nat} {r : Option Nat} {b : Nat} {A B C : World} (h : Kp g r b A B) (k : Kp g r b B C) : Kp g r b A C := fun i hi => (k i hi).trans (h i hi)
theorem Sp.kp {w w' : World} {g : Nat} {r r' : Option Nat} {b : Nat} {cl : Bool} {xs : List UInt8} (h : Sp w g r cl xs) (hr : r = r' ∨ r = none) (hk : Kp g r' b w w') : Sp w' g r cl xs := by
  refine h.keep (hk g (.inl rfl)) (fun q hq => hk q (.inr (.inl ?_)))
  rcases hr with rfl | rfl
  · exact hq
  · cases hq

/-- where the iterator stops: texts came, of what is left none is told -/
def Stop (g : Nat) (r : Option Nat) (xs0 : List UInt8) (pre : List (List UInt8)) (W : World) : Prop :=
  ∃ xs r', Came xs0 pre xs ∧ nextE false xs ≠ 0 ∧ Sp W g r' (nextC false xs) (nextL false xs) ∧ (r' = r ∨ r' = none)

/-- the iterator's loop: what came -/
def Here (g : Nat) (r : Option Nat) (b : Nat) (xs0 : List UInt8) (pre : List (List UInt8)) (xs : List UInt8) (r' : Option Nat) (W : World) : Prop :=
  Came xs0 pre xs ∧ Sp W g r' false xs ∧ (r' = r ∨ r' = none) ∧ Boxed W b 31 (.pointer (some ⟨g, 0, none⟩))

theorem turned_to {g : Nat} {r r' : Option Nat} {A B : World} (hr : r' = r ∨ r' = none) (h : Turned g r' A B) : Turned g r A B := by
  rcases hr with rfl | rfl
  · exact h
  · exact h.some_of_none
theorem to_none {r r' r1 : Option Nat} (hr : r' = r ∨ r' = none) (h : r1 = r' ∨ r1 = none) : r1 = r ∨ r1 = none := by
  rcases h with rfl | rfl
  · exact hr
  · exact .inr rfl
theorem box_ne {w : World} {g b : Nat} {r : Option Nat} {cl : Bool} {xs : List UInt8} {v : Value} (h : Sp w g r cl xs) (hb : Boxed w b 31 v) (e : b = g) : False := by
  obtain ⟨_, _, A, cap, h1, _⟩ := h
  subst e
  have := h1.symm.trans hb
  simp at this
theorem box_row {w : World} {g b : Nat} {r : Option Nat} {cl : Bool} {xs : List UInt8} {v : Value} (h : Sp w g r cl xs) (hb : Boxed w b 31 v) (e : some b = r) : False := by
  obtain ⟨_, _, A, cap, h1, h2, h3⟩ := h
  exact hb.not_row (by decide) h2 (e.trans h3.symm)

theorem scope_wide {P : Program} {n : Nat} {c : Code} {Q : Exit → Act → World → Prop} {a : Act} {w : World} (h : c.wpIn Fence.wide n P (Exit.noGoto Q) a w) : (Code.scope c).wpIn Fence.wide n P Q a w :=
  wpIn_wide.2 (wp_scope_straight (wpIn_wide.1 h))

set_option maxRecDepth 100000 in
set_option maxHeartbeats 1000000 in
theorem all_gives (g : Nat) (r : Option Nat) (b : Nat) (xs0 : List UInt8) (w : World) (hs : Sp w g r false xs0) (hb : Boxed w b 31 (.pointer (some ⟨g, 0, none⟩))) :
    Gives Try.prog 20 #[.pointer (some ⟨b, 0, none⟩)] (fun t : List UInt8 => #[Value.string ⟨t.toArray⟩]) (Turned g r) (Kp g r b) (Stop g r xs0) 8192 w := by
  intro l J W hW hJ hY h0
  have H0 := Lib.hid (show Here g r b xs0 [] xs0 r W from ⟨.none, (hs.below hW), .inl rfl, (hW.block b hb.lt).trans hb⟩)
  have H0J := Lib.hid h0
  have HJ := Lib.hid hJ
  have HY := Lib.hid hY
  have HX := Lib.hid hs.len
  clear hs hb hW hJ hY h0
  refine callsIn_of_wp Try.func20 rfl trivial ?_ rfl
  simp only [Try.ntmps20, List.size_toArray, List.length_cons, List.length_nil, Nat.reduceAdd, Nat.reduceSub, Array.replicate_succ, Array.replicate_zero, List.push_toArray, List.append_toArray, List.nil_append, List.cons_append]
  gi_wp2
  refine scope_wide ?_
  gi_wp2
  refine wpIn_label ?_
  gi_wp2
  gi_loopw [4] (fun _ wr => ∃ (pre : List (List UInt8)) (xs : List UInt8) (r' : Option Nat), Hid (Here g r b xs0 pre xs r' wr) ∧ Hid (J pre wr)) (fun _ wr => leftN g wr)
  case atStart => exact ⟨[], xs0, r, H0.out, H0J.out⟩
  case round =>
    obtain ⟨pre, xs, r', HH, HP⟩ := hrel
    have hc := HH.out.2.2.2.cell
    gi_wp2_with fail
    refine ⟨trivial, (callsIn_wide.2 (next_any g r' false xs wr HH.out.2.1)).mono ?_⟩
    rintro e w1 ⟨rfl, r1, h1, hr1, t1⟩
    have hJ1 : J pre w1 := HJ.out _ _ _ HP.out (turned_to HH.out.2.2.1 t1)
    have hB1 : Boxed w1 b 31 (.pointer (some ⟨g, 0, none⟩)) := (t1.block b HH.out.2.2.2.lt (fun e => box_ne HH.out.2.1 HH.out.2.2.2 e) (fun e => box_row HH.out.2.1 HH.out.2.2.2 e)).trans HH.out.2.2.2
    have hR1 := to_none HH.out.2.2.1 hr1
    by_cases h0 : nextE false xs = 0
    · have HC := Lib.hid (Came.more HH.out.1 h0)
      have hlen := (Came.len HH.out.1)
      have HL := Lib.hid (nextE_zero h0).2
      rw [show nextC false xs = false by simp [nextC, h0]] at h1
      have H1 := Lib.hid h1
      have HB := Lib.hid hB1
      have HR := Lib.hid hR1
      have hx0 := (HH.out.2.1).len
      obtain ⟨fn, tmps, assign, body, hy, hR⟩ := HY.out pre (nextT false xs) w1 hJ1 (by have := HL.out.1; have := HX.out; omega)
      rw [h0]
      clear h1 hB1 hR1 hJ1 t1 hr1 hc
      gi_wp2
      refine hR.mono ?_
      rintro e W3 ⟨rfl, hJ3, hk3⟩
      have HJ3 := Lib.hid hJ3
      have HH3 := Lib.hid (show Here g r b xs0 (pre ++ [nextT false xs]) (nextL false xs) r1 W3 from ⟨HC.out, H1.out.kp HR.out hk3, HR.out, (hk3 b (.inr (.inr rfl))).trans HB.out⟩)
      have HM := Lib.hid (show leftN g W3 < leftN g wr by
        rw [HH3.out.2.1.leftN, HH.out.2.1.leftN]
        unfold nextL
        rw [if_pos h0, List.length_drop]
        have := HL.out.1
        omega)
      clear hJ3 hk3 hR hy
      gi_wp2
      go_roundw
      case rel => exact ⟨_, _, _, HH3.out, HJ3.out⟩
      case measure => exact HM.out
    · have HS := Lib.hid (show Stop g r xs0 pre w1 from ⟨xs, r1, HH.out.1, h0, h1, hR1⟩)
      have HJ1 := Lib.hid hJ1
      have hb : ((nextE false xs : Int) == 0) = false := by simpa using h0
      clear h1 hB1 hR1 hJ1 t1 hr1 hc
      gi_wp2
      simp only [Exit.noGoto_normal]
      gi_wp2
      go_end0
      exact ⟨⟨_, rfl⟩, pre, HS.out, HJ1.out⟩
end Spl
end Go.Proofs.Ytnbmfoidnnfpeaa
