/-
  A region that draws its order, whatever it does: what is true of each operation that is done (F: of the values and the world) and of the world (W). Condition: what is true of one speaks of what it waits for alone (Loc).
-/
import Derived.Test.YtbichomjpmmjmaaGreatDoorNu7
import Derived.Test.YtbichomjpmmjmaaGreatDoorNu1
import Derived.Test.YtbichomjpmmjmaaGreatDoorNu10
import Derived.Test.YtbichomjpmmjmaaGreatDoorNu9
import Derived.Test.YtbichomjpmmjmaaGreatDoorNu8
import Derived.Test.YtbichomjpmmjmaaGreatDoorNu13
import Derived.Test.YtbichomjpmmjmaaGreatDoorNu12
import Derived.Test.YtbichomjpmmjmaaGreatDoorNu15
import Derived.Test.YtbichomjpmmjmaaGreatDoorNu14
import Derived.Test.YtbichomjpmmjmaaGreatDoorNu2
import Derived.Test.YtbichomjpmmjmaaGreatDoorNu6
import Derived.Test.YtbichomjpmmjmaaGreatDoorNu5
import Derived.StillTailTactics
set_option linter.unusedVariables false
set_option linter.unusedSimpArgs false
namespace Go.Proofs.YtbichomjpmmjmaaGreatDoor
open Go.RowKit
namespace Jx
abbrev Fs := Nat → (Nat → Bool) → (Nat → Value) → World → Prop
def Loc (F : Fs) (D : List (Nat × Nat)) : Prop := ∀ j s V V' u, (∀ k, k = j ∨ (j, k) ∈ D → V' k = V k) → F j s V u → F j s V' u
def Mono (F : Fs) : Prop := ∀ j s i V u u', Below u.heap.size u u' → F j s V u → F j (fun k => s k || k == i) V u'
structure GJ (F : Fs) (D : List (Nat × Nat)) (W : (Nat → Bool) → World → Prop) (s : Nat → Bool) (V : Nat → Value) (u : World) : Prop where
  f : ∀ j, s j = true → F j s V u
  cl : ∀ p ∈ D, s p.1 = true → s p.2 = true
  w : W s u
variable {F : Fs} {D : List (Nat × Nat)} {W : (Nat → Bool) → World → Prop} {s : Nat → Bool} {V : Nat → Value} {u : World}
theorem GJ.start (h : W (fun _ => false) u) (V : Nat → Value) : GJ F D W (fun _ => false) V u :=
  ⟨fun _ h => Bool.noConfusion h, fun _ _ h => Bool.noConfusion h, h⟩
theorem GJ.step (h : GJ F D W s V u) (i : Nat) (hi : s i = false) (hc : (D.filter fun p => p.1 == i).all (fun p => s p.2) = true) (hL : Loc F D) {u' : World} {v : Value}
    (hs : ∀ j, s j = true → F j s V u → F j (fun k => s k || k == i) V u') (hw : W (fun k => s k || k == i) u')
    (hf : F i (fun k => s k || k == i) (fun k => if k = i then v else V k) u') : GJ F D W (fun k => s k || k == i) (fun k => if k = i then v else V k) u' := by
  refine ⟨fun j hj => ?_, cl_add h.cl hc, hw⟩
  by_cases hji : j = i
  · subst hji; exact hf
  · have hj' : s j = true := by simpa [hji] using hj
    refine hL j _ V _ u' (fun k hk => ?_) (hs j hj' (h.f j hj'))
    have hki : ¬ k = i := by
      rcases hk with rfl | hk
      · exact hji
      · intro e
        have := h.cl _ hk hj'
        rw [e, hi] at this
        cases this
    rw [if_neg hki]
theorem GJ.back (h : GJ F D W s V u) {j : Nat} (k : Nat) (hp : (k, j) ∈ D) (hs : s j = false) : s k = false := by
  cases hk : s k with
  | false => rfl
  | true => rw [h.cl _ hp hk] at hs; cases hs
end Jx
end Go.Proofs.YtbichomjpmmjmaaGreatDoor

/-
  The contract of text.Same. Condition: the texts have fewer than 4294967281 bytes; Text.Laid.
-/
namespace Go.Proofs.YtbichomjpmmjmaaGreatDoor
open Go.ChangeShapes Go.WideShapes Go.ChangeAt Go.RowKit
open TextPure
namespace Text
end Text
end Go.Proofs.YtbichomjpmmjmaaGreatDoor

/-
  The contract of the laws' own helper SameSpec: are two specs one? No condition.
-/
namespace Go.Proofs.YtbichomjpmmjmaaGreatDoor
open Go.ChangeShapes Go.WideShapes Go.ChangeAt Go.RowKit Go.Lib
open Sd Lists
namespace Book
end Book
end Go.Proofs.YtbichomjpmmjmaaGreatDoor

/-
  The contracts of slices.Equal on labels, slices.EqualFunc on containers, spec.Same: whether labels, containers, specs are the same. All that was there is left as it was. No condition.
-/
namespace Go.Proofs.YtbichomjpmmjmaaGreatDoor
open Go.ChangeShapes Go.WideShapes Go.ChangeAt Go.RowKit Go.Lib
open Sd Lists Book
namespace SpecOwn
end SpecOwn
end Go.Proofs.YtbichomjpmmjmaaGreatDoor

/-
  The contracts of spec.frozen, spec.Frozen, spec.Ports: what an update may not change; the ports of the main containers. All that was there is left as it was. Conditions: as SpecStep; specs are light (Book.Light).
-/
namespace Go.Proofs.YtbichomjpmmjmaaGreatDoor
open Go.ChangeShapes Go.WideShapes Go.ChangeAt Go.RowKit Go.Lib
open Sd Lists Book
namespace SpecOwn
end SpecOwn
end Go.Proofs.YtbichomjpmmjmaaGreatDoor

/-
  The contract of provostlaw06.works: the chapter's example holds. All that was there is left as it was. Condition: as SpecStep.
-/
namespace Go.Proofs.YtbichomjpmmjmaaGreatDoor
open Go.ChangeShapes Go.WideShapes Go.ChangeAt Go.RowKit Go.Lib
open Sd Lists SpecRef
namespace SpecOwn
theorem i64_0 : I64 0 := by unfold I64; decide
end SpecOwn
end Go.Proofs.YtbichomjpmmjmaaGreatDoor

/-
  The chapter's example of package node holds. All that was there is left as it was. Condition: the listed variables are laid.
-/
set_option linter.unusedVariables false
set_option linter.unusedSimpArgs false
namespace Go.Proofs.YtbichomjpmmjmaaGreatDoor
open Go.ChangeShapes Go.WideShapes Go.ChangeAt Go.RowKit Go.Lib
open NumMath
namespace Nn
open Re Nd Sd SpecOwn
def wC (a : Rx) : Ctr := ⟨⟨#[97]⟩, ⟨#[98, 58, 49]⟩, a.c, a.m, a.p, 0, 0, 0, [], 0, 0⟩
def wS (a : Rx) : Spc := ⟨⟨#[119]⟩, [], [], [wC a], 1, 0, 0⟩
def a310 : Rx := ⟨3, 1, 0⟩
def n444 : Rx := ⟨4, 4, 4⟩
theorem w_fine : checkV (wS a310) = fine := by decide +kernel
theorem w_ask : askS (wS a310) = ⟨true, a310, []⟩ := by
  unfold askS
  rw [w_fine]
  rfl
theorem w_light (a : Rx) : Book.Light (wS a) := by
  refine ⟨⟨show (⟨#[119]⟩ : ByteArray).size ≤ 100 by decide, by simp [wS], by simp [wS], by simp [wS]⟩, ?_, ?_, ?_⟩
  · intro x hx; cases hx
  · intro x hx; cases hx
  · intro x hx
    simp only [wS, List.mem_cons, List.not_mem_nil, or_false] at hx
    subst hx
    exact ⟨show (⟨#[97]⟩ : ByteArray).size ≤ 100 by decide, show (⟨#[98, 58, 49]⟩ : ByteArray).size ≤ 100 by decide, by simp [wC]⟩
theorem w_adm1 : admC n444 [] 1 (askS (wS a310)) = 0 := by rw [w_ask]; decide +kernel
theorem w_adm1l : admL n444 [] 1 (askS (wS a310)) = [⟨1, a310, []⟩] := by rw [adm_come w_adm1, w_ask]; rfl
theorem w_adm2 : admC n444 [⟨1, a310, []⟩] 2 (askS (wS a310)) = 160 := by rw [w_ask]; decide +kernel
theorem w_adm2l : admL n444 [⟨1, a310, []⟩] 2 (askS (wS a310)) = [⟨1, a310, []⟩] := adm_stay (by rw [w_adm2]; decide)
theorem w_left : (subR n444 (usedR [⟨1, a310, []⟩])).1 = ⟨1, 3, 4⟩ := by rfl
/-- the example's container -/
def WcIn (w : World) (q : Nat) (a : Rx) : Prop := w.heap[q]? = some (.cells ([.string ⟨#[97]⟩, .string ⟨#[98, 58, 49]⟩, .int .i64 a.c, .int .i64 a.m, .int .i64 a.p, .int .i64 0, .int .i64 0, .int .i64 0, .slice none 0 0, .int .i64 0, .int .i64 0] : List Value).toArray 105 (0, 0))
theorem WcIn.spec {w : World} {q : Nat} {a : Rx} (h : WcIn w q a) (ha : a.Ok) : (wS a).In w none 0 none 0 (some ⟨q, 0, none⟩) 1 := by
  have lt1 := lt_of_block h
  have h1 := fits_iff.1 ha.c; have h2 := fits_iff.1 ha.m; have h3 := fits_iff.1 ha.p
  refine ⟨?_, ?_, ?_, by simp [wS], by simp [wS], by simp [wS], by show I64 1; unfold I64; decide, i64_0, i64_0⟩
  · intro k x hk; simp [wS] at hk
  · intro k x hk; simp [wS] at hk
  · intro k x hk
    rcases k with _ | k
    · simp only [wS, List.getElem?_cons_zero, Option.some.injEq] at hk
      subst hk
      refine ⟨⟨by show I64 a.c; unfold I64; omega, by show I64 a.m; unfold I64; omega, by show I64 a.p; unfold I64; omega, i64_0, i64_0, i64_0, i64_0, i64_0, by simp [wC]⟩, ⟨q, 0, none⟩, none, 0, rfl, lt1, ?_, fun k z hz => by simp [wC] at hz⟩
      unfold WcIn at h
      simp [Ctr.cellsAt, wC, World.cell?, Addr.add, h]
    · simp [wS] at hk
theorem WcIn.kn {B : Nat} {w u : World} {q : Nat} {a : Rx} (h : WcIn w q a) (hk : Kn B w u) : WcIn u q a := (hk.block q (lt_of_block h) (.inr (not_n h (by decide) (by decide) (by decide)))).trans h
theorem res_asks (tmps : Array Value) (w : World) (p : Nat) (xs : List Value) (h2 : tmps.getD 2 undef = .pointer (some ⟨p, 0, none⟩)) (hX : w.heap[p]? = some (.cells xs.toArray 35 (0, 0))) (hm : xs.length = 7) :
    (results Tryz.f32 tmps).run Tryz.prog w = .ok (.agg xs.toArray) w := by
  have h1 : (loadVar 35 ⟨p, 0, none⟩).run Tryz.prog w = .ok (.agg xs.toArray) w := run_loadVar_mid w p 0 35 _ _ (range_box hX) Tryz.underlying35 rfl (by rw [hm]; kernel_rfl)
  simp only [results, Tryz.results32]
  simp only [Array.getD_eq_getD_getElem?] at h2
  have ha : (asAddr (tmps[2]?.getD undef)).run Tryz.prog w = .ok ⟨p, 0, none⟩ w := by rw [h2]; rfl
  simp [Sem.run_bind, h1, ha]
set_option maxRecDepth 100000 in
set_option maxHeartbeats 1000000 in
theorem asks_any (a : Rx) (w : World) : Calls Tryz.prog 32 #[.agg (R3 a).toArray] w fun e w' => ∃ q, e = .returned (.agg ([.string ⟨#[119]⟩, .slice none 0 0, .slice none 0 0, .slice (some ⟨q, 0, none⟩) 1 1, .int .i64 1, .int .i64 0, .int .i64 0] : List Value).toArray) ∧ WcIn w' q a ∧ Below w.heap.size w w' := by
  obtain ⟨w1, hw1⟩ : ∃ v, w.alloc (.cells (R3 a).toArray 23) = v := ⟨_, rfl⟩
  have hs1 : w1.heap.size = w.heap.size + 1 := by rw [← hw1]; simp
  have R1 : w1.heap[w.heap.size]? = some (.cells (R3 a).toArray 23 (0, 0)) := by rw [← hw1]; exact heap_alloc_new w _
  have B1 := Lib.hid (show Below w.heap.size w w1 by rw [← hw1]; exact (Below.refl _ _).alloc (Nat.le_refl _) _)
  obtain ⟨w2, hw2⟩ : ∃ v, w1.alloc (.cells #[.string ⟨#[]⟩, .slice none 0 0, .slice none 0 0, .slice none 0 0, .int .i64 0, .int .i64 0, .int .i64 0] 35) = v := ⟨_, rfl⟩
  have hb2 : Below w1.heap.size w1 w2 := by rw [← hw2]; exact (Below.refl _ _).alloc (Nat.le_refl _) _
  have Z2 : w2.heap[w1.heap.size]? = some (.cells #[.string ⟨#[]⟩, .slice none 0 0, .slice none 0 0, .slice none 0 0, .int .i64 0, .int .i64 0, .int .i64 0] 35 (0, 0)) := by rw [← hw2]; exact heap_alloc_new w1 _
  have RR := Lib.hid (range_box ((hb2.block _ (lt_of_block R1)).trans R1))
  have B2 := Lib.hid (B1.out.trans (hb2.mono B1.out.size))
  obtain ⟨w3, hw3⟩ : ∃ v, w2.alloc (.cells ([.string ⟨#[97]⟩, .string ⟨#[98, 58, 49]⟩, .int .i64 a.c, .int .i64 a.m, .int .i64 a.p, .int .i64 0, .int .i64 0, .int .i64 0, .slice none 0 0, .int .i64 0, .int .i64 0] : List Value).toArray 105) = v := ⟨_, rfl⟩
  have hb3 : Below w2.heap.size w2 w3 := by rw [← hw3]; exact (Below.refl _ _).alloc (Nat.le_refl _) _
  have C3 : WcIn w3 w2.heap.size a := by rw [← hw3]; exact heap_alloc_new w2 _
  have Z3 := (hb3.block _ (lt_of_block Z2)).trans Z2
  have B3 := Lib.hid (B2.out.trans (hb3.mono B2.out.size))
  obtain ⟨w4, hw4⟩ : ∃ v, w3.setCells w1.heap.size 0 ([.string ⟨#[119]⟩, .slice none 0 0, .slice none 0 0, .slice (some ⟨w2.heap.size, 0, none⟩) 1 1, .int .i64 1, .int .i64 0, .int .i64 0]) = v := ⟨_, rfl⟩
  have THy := Lib.hid (show w3.there w1.heap.size 0 7 from Back.th Z3 rfl)
  have ONEy := Lib.hid (show ([.string ⟨#[119]⟩, .slice none 0 0, .slice none 0 0, .slice (some ⟨w2.heap.size, 0, none⟩) 1 1, .int .i64 1, .int .i64 0, .int .i64 0] : List Value).toArray.all (·.oneCell') = true by simp [Value.oneCell'])
  have HVy := Lib.hid hw4
  have Z4 := Lib.hid (show w4.heap[w1.heap.size]? = some (.cells ([.string ⟨#[119]⟩, .slice none 0 0, .slice none 0 0, .slice (some ⟨w2.heap.size, 0, none⟩) 1 1, .int .i64 1, .int .i64 0, .int .i64 0] : List Value).toArray 35 (0, 0)) by rw [← hw4]; exact Back.st Z3 rfl)
  have B4 := Lib.hid (show Below w.heap.size w w4 by rw [← hw4]; exact bel_set B3.out B1.out.size)
  have C4 := Lib.hid (show WcIn w4 w2.heap.size a by rw [← hw4]; exact ((Back.far w1.heap.size ([.string ⟨#[119]⟩, .slice none 0 0, .slice none 0 0, .slice (some ⟨w2.heap.size, 0, none⟩) 1 1, .int .i64 1, .int .i64 0, .int .i64 0]) 0 w3).2.2.2.2 _ (by have := lt_of_block Z2; omega)).trans C3)
  clear hw4 Z2 Z3 R1 hb2 hb3 C3 hs1
  go_enter Tryz.func32, Tryz.ntmps32
  go_wp2_with (first
    | (refine wpList_load_mid rfl 23 _ rfl _ _ rfl _ _ RR.out Tryz.underlying23 rfl (by kernel_rfl) ?_)
    | (refine wpList_store_at rfl 35 _ _ rfl _ _ _ rfl rfl THy.out (by kernel_rfl) ONEy.out HVy.out ?_))
  refine bodyPost_ret (v := .agg ([.string ⟨#[119]⟩, .slice none 0 0, .slice none 0 0, .slice (some ⟨w2.heap.size, 0, none⟩) 1 1, .int .i64 1, .int .i64 0, .int .i64 0] : List Value).toArray) (res_asks _ _ _ ([.string ⟨#[119]⟩, .slice none 0 0, .slice none 0 0, .slice (some ⟨w2.heap.size, 0, none⟩) 1 1, .int .i64 1, .int .i64 0, .int .i64 0]) rfl Z4.out rfl) rfl ?_
  exact ⟨_, rfl, C4.out, B4.out⟩
theorem a310_ok : a310.Ok := ⟨by decide, by decide, by decide⟩
theorem n444_ok : n444.Ok := ⟨by decide, by decide, by decide⟩
def wkF (g q : Nat) (j : Nat) (s : Nat → Bool) (V : Nat → Value) (u : World) : Prop := match j with
  | 0 => V 0 = .pointer (some ⟨g, 0, none⟩)
  | 1 => V 1 = .agg ([.string ⟨#[119]⟩, .slice none 0 0, .slice none 0 0, .slice (some ⟨q, 0, none⟩) 1 1, .int .i64 1, .int .i64 0, .int .i64 0] : List Value).toArray
  | 2 => V 2 = .int .i64 0
  | 3 => V 3 = .pointer (some ⟨g, 0, none⟩)
  | 4 => V 4 = .agg ([.string ⟨#[119]⟩, .slice none 0 0, .slice none 0 0, .slice (some ⟨q, 0, none⟩) 1 1, .int .i64 1, .int .i64 0, .int .i64 0] : List Value).toArray
  | 5 => V 5 = .int .i64 160
  | 6 => V 6 = .int .i64 0
  | 7 => V 7 = .int .i64 160
  | _ => True
theorem wkF_loc (g q : Nat) : Jx.Loc (wkF g q) [(2, 0), (2, 1), (5, 3), (5, 4), (5, 2), (6, 2), (7, 5)] := fun j s V V' u hk h => match j, hk, h with
  | 0, hk, h => by
    show V' 0 = .pointer (some ⟨g, 0, none⟩)
    rw [hk 0 (.inl rfl)]
    exact h
  | 1, hk, h => by
    show V' 1 = .agg ([.string ⟨#[119]⟩, .slice none 0 0, .slice none 0 0, .slice (some ⟨q, 0, none⟩) 1 1, .int .i64 1, .int .i64 0, .int .i64 0] : List Value).toArray
    rw [hk 1 (.inl rfl)]
    exact h
  | 2, hk, h => by
    show V' 2 = .int .i64 0
    rw [hk 2 (.inl rfl)]
    exact h
  | 3, hk, h => by
    show V' 3 = .pointer (some ⟨g, 0, none⟩)
    rw [hk 3 (.inl rfl)]
    exact h
  | 4, hk, h => by
    show V' 4 = .agg ([.string ⟨#[119]⟩, .slice none 0 0, .slice none 0 0, .slice (some ⟨q, 0, none⟩) 1 1, .int .i64 1, .int .i64 0, .int .i64 0] : List Value).toArray
    rw [hk 4 (.inl rfl)]
    exact h
  | 5, hk, h => by
    show V' 5 = .int .i64 160
    rw [hk 5 (.inl rfl)]
    exact h
  | 6, hk, h => by
    show V' 6 = .int .i64 0
    rw [hk 6 (.inl rfl)]
    exact h
  | 7, hk, h => by
    show V' 7 = .int .i64 160
    rw [hk 7 (.inl rfl)]
    exact h
  | n + 8, _, _ => trivial
theorem wkF_mono (g q : Nat) : Jx.Mono (wkF g q) := fun j s i V u u' hb h => match j, h with
  | 0, h => h
  | 1, h => h
  | 2, h => h
  | 3, h => h
  | 4, h => h
  | 5, h => h
  | 6, h => h
  | 7, h => h
  | n + 8, _ => trivial
theorem wk_keep (g q : Nat) (j : Nat) (s s' : Nat → Bool) (V : Nat → Value) (u u' : World) (h : wkF g q j s V u) : wkF g q j s' V u' := match j, h with
  | 0, h => h
  | 1, h => h
  | 2, h => h
  | 3, h => h
  | 4, h => h
  | 5, h => h
  | 6, h => h
  | 7, h => h
  | n + 8, _ => trivial
set_option maxRecDepth 100000 in
set_option maxHeartbeats 4000000 in
theorem works_any (w : World) (hSL : SLaid w) : Calls Tryz.prog 9 #[] w fun e w' => e = .returned (.bool true) ∧ Below w.heap.size w w' := by
  have HSL := Lib.hid hSL
  clear hSL
  go_enter Tryz.func9, Tryz.ntmps9
  go_wp2_with fail
  refine (show Calls Tryz.prog 6 #[.agg (R3 n444).toArray] w _ from new_any n444 n444_ok w).mono ?_
  rintro e w1 ⟨g, rfl, hN, hb1⟩
  have N1 := Lib.hid (show Nn w.heap.size w1 g n444 [] from hN)
  have B1 := Lib.hid hb1
  clear hN hb1
  go_wp2_with fail
  refine (show Calls Tryz.prog 32 #[.agg (R3 a310).toArray] w1 _ from asks_any a310 w1).mono ?_
  rintro e w2 ⟨q, rfl, hC, hb2⟩
  have B2 := Lib.hid (B1.out.trans (hb2.mono B1.out.size))
  have N2 := Lib.hid (N1.out.below hb2)
  have C2 := Lib.hid hC
  clear hC hb2
  obtain ⟨w3, hw3⟩ : ∃ v, w2.alloc (.cells #[.string ⟨#[]⟩, .slice none 0 0, .slice none 0 0, .slice none 0 0, .int .i64 0, .int .i64 0, .int .i64 0] 35) = v := ⟨_, rfl⟩
  have hb3 : Below w2.heap.size w2 w3 := by rw [← hw3]; exact (Below.refl _ _).alloc (Nat.le_refl _) _
  have Z3 : w3.heap[w2.heap.size]? = some (.cells #[.string ⟨#[]⟩, .slice none 0 0, .slice none 0 0, .slice none 0 0, .int .i64 0, .int .i64 0, .int .i64 0] 35 (0, 0)) := by rw [← hw3]; exact heap_alloc_new w2 _
  obtain ⟨w4, hw4⟩ : ∃ v, w3.setCells w2.heap.size 0 ([.string ⟨#[119]⟩, .slice none 0 0, .slice none 0 0, .slice (some ⟨q, 0, none⟩) 1 1, .int .i64 1, .int .i64 0, .int .i64 0]) = v := ⟨_, rfl⟩
  have THy := Lib.hid (show w3.there w2.heap.size 0 7 from Back.th Z3 rfl)
  have ONEy := Lib.hid (show ([.string ⟨#[119]⟩, .slice none 0 0, .slice none 0 0, .slice (some ⟨q, 0, none⟩) 1 1, .int .i64 1, .int .i64 0, .int .i64 0] : List Value).toArray.all (·.oneCell') = true by simp [Value.oneCell'])
  have HVy := Lib.hid hw4
  have Z4 := Lib.hid (show w4.heap[w2.heap.size]? = some (.cells ([.string ⟨#[119]⟩, .slice none 0 0, .slice none 0 0, .slice (some ⟨q, 0, none⟩) 1 1, .int .i64 1, .int .i64 0, .int .i64 0] : List Value).toArray 35 (0, 0)) by rw [← hw4]; exact Back.st Z3 rfl)
  have hb4 : Below w2.heap.size w2 w4 := by rw [← hw4]; exact bel_set hb3 (Nat.le_refl _)
  have B4 := Lib.hid (B2.out.trans (hb4.mono B2.out.size))
  have N4 := Lib.hid (N2.out.below hb4)
  have C4 := Lib.hid (show WcIn w4 q a310 from (hb4.block _ (lt_of_block C2.out)).trans C2.out)
  clear hw4 Z3 hb3 hb4
  go_wp2_with (first
    | (refine wpList_store_at rfl 35 _ _ rfl _ _ _ rfl rfl THy.out (by kernel_rfl) ONEy.out HVy.out ?_))
  clear hw3 THy ONEy HVy
  refine Vls.wp_region (by kernel_rfl) (Jx.GJ (wkF g q) [(2, 0), (2, 1), (5, 3), (5, 4), (5, 2), (6, 2), (7, 5)] (fun s u => Kn w.heap.size w4 u ∧ Nn w.heap.size u g n444 (if s 2 = true then [⟨1, a310, []⟩] else []))) (by kernel_rfl) (fun _ => undef) (Jx.GJ.start (⟨Kn.of_below (Below.drew (Below.refl _ _)), by rw [if_neg (by decide)]; exact N4.out.below (Below.drew (Below.refl _ _))⟩) _) ?_ ?_
  · refine ⟨?_, ?_, ?_, ?_, ?_, ?_, ?_, ?_, trivial⟩
    · intro s_ a_ u V hs hd hfr hpo hJ
      have hW := hJ.w
      have f1 : a_.tmps.getD 1 undef = .pointer (some ⟨g, 0, none⟩) := hfr 1 (by kernel_rfl)
      refine .inl ⟨rfl, ?_⟩
      unfold Oper.wp
      rw [show (execOp a_.eval _).run Tryz.prog u = .ok (.value (.pointer (some ⟨g, 0, none⟩))) u from by simp [go_sem, Act.eval, f1]]
      exact ⟨_, rfl, hJ.step 0 hs rfl (wkF_loc g q) (fun j _ h => wkF_mono g q j _ _ _ _ _ (Below.refl _ _) h) (by simpa using hW) (rfl)⟩
    · intro s_ a_ u V hs hd hfr hpo hJ
      have hW := hJ.w
      have f2 : a_.tmps.getD 2 undef = .pointer (some ⟨w2.heap.size, 0, none⟩) := hfr 2 (by kernel_rfl)
      refine .inl ⟨rfl, ?_⟩
      exact wp_load_mid 35 (.tmp 2) rfl (w2.heap.size) (0) f2 [.string ⟨#[119]⟩, .slice none 0 0, .slice none 0 0, .slice (some ⟨q, 0, none⟩) 1 1, .int .i64 1, .int .i64 0, .int .i64 0] _ (range_box ((hW.1.block _ (lt_of_block Z4.out) (.inr (not_n Z4.out (by decide) (by decide) (by decide)))).trans Z4.out)) Tryz.underlying35 rfl (by kernel_rfl) ⟨_, rfl, hJ.step 1 hs rfl (wkF_loc g q) (fun j _ h => wkF_mono g q j _ _ _ _ _ (Below.refl _ _) h) (by simpa using hW) (rfl)⟩
    · intro s_ a_ u V hs hd hfr hpo hJ
      have hW := hJ.w
      have e0 : a_.tmps.getD 11 undef = .pointer (some ⟨g, 0, none⟩) := (hpo 0 11 (by kernel_rfl)).trans (show V 0 = .pointer (some ⟨g, 0, none⟩) from hJ.f 0 (hd 0 (by kernel_rfl)))
      have e1 : a_.tmps.getD 12 undef = .agg ([.string ⟨#[119]⟩, .slice none 0 0, .slice none 0 0, .slice (some ⟨q, 0, none⟩) 1 1, .int .i64 1, .int .i64 0, .int .i64 0] : List Value).toArray := (hpo 1 12 (by kernel_rfl)).trans (show V 1 = .agg ([.string ⟨#[119]⟩, .slice none 0 0, .slice none 0 0, .slice (some ⟨q, 0, none⟩) 1 1, .int .i64 1, .int .i64 0, .int .i64 0] : List Value).toArray from hJ.f 1 (hd 1 (by kernel_rfl)))
      have hW := (show Kn w.heap.size w4 u ∧ Nn w.heap.size u g n444 [] from ⟨hW.1, by have := hW.2; rw [if_neg (by rw [hs]; decide)] at this; exact this⟩)
      refine .inl ⟨rfl, ?_⟩
      unfold Oper.wp
      rw [show (execOp a_.eval _).run Tryz.prog u = .ok (.enter 21 #[.pointer (some ⟨g, 0, none⟩), .int .i64 1, .agg ([.string ⟨#[119]⟩, .slice none 0 0, .slice none 0 0, .slice (some ⟨q, 0, none⟩) 1 1, .int .i64 1, .int .i64 0, .int .i64 0] : List Value).toArray]) u from by simp [go_sem, Act.eval, e0, e1]]
      have CA := admit_any 1 (wS a310) none 0 none 0 (some ⟨q, 0, none⟩) 1 (by decide) (w_light _) u hW.2 (HSL.out.below (hW.1.below B4.out.size (Nat.le_refl _) |> B4.out.trans)) (fun v hv => ((C4.out.kn hW.1).kn hv).spec a310_ok)
      rw [w_adm1, w_adm1l] at CA
      refine Calls.mono CA ?_
      rintro e u2 ⟨rfl, hn2, hk2⟩
      have hb : Kn w.heap.size u u2 := hk2
      exact ⟨_, rfl, hJ.step 2 hs (by show (s_ 0 && (s_ 1 && true)) = true; rw [hd 0 (by kernel_rfl), hd 1 (by kernel_rfl)]; rfl) (wkF_loc g q) (fun j _ h => wk_keep g q j _ _ _ _ _ h) (⟨hW.1.trans hb, by rw [if_pos (by simp)]; exact hn2⟩) (rfl)⟩
    · intro s_ a_ u V hs hd hfr hpo hJ
      have hW := hJ.w
      have f1 : a_.tmps.getD 1 undef = .pointer (some ⟨g, 0, none⟩) := hfr 1 (by kernel_rfl)
      refine .inl ⟨rfl, ?_⟩
      unfold Oper.wp
      rw [show (execOp a_.eval _).run Tryz.prog u = .ok (.value (.pointer (some ⟨g, 0, none⟩))) u from by simp [go_sem, Act.eval, f1]]
      exact ⟨_, rfl, hJ.step 3 hs rfl (wkF_loc g q) (fun j _ h => wkF_mono g q j _ _ _ _ _ (Below.refl _ _) h) (by simpa using hW) (rfl)⟩
    · intro s_ a_ u V hs hd hfr hpo hJ
      have hW := hJ.w
      have f2 : a_.tmps.getD 2 undef = .pointer (some ⟨w2.heap.size, 0, none⟩) := hfr 2 (by kernel_rfl)
      refine .inl ⟨rfl, ?_⟩
      exact wp_load_mid 35 (.tmp 2) rfl (w2.heap.size) (0) f2 [.string ⟨#[119]⟩, .slice none 0 0, .slice none 0 0, .slice (some ⟨q, 0, none⟩) 1 1, .int .i64 1, .int .i64 0, .int .i64 0] _ (range_box ((hW.1.block _ (lt_of_block Z4.out) (.inr (not_n Z4.out (by decide) (by decide) (by decide)))).trans Z4.out)) Tryz.underlying35 rfl (by kernel_rfl) ⟨_, rfl, hJ.step 4 hs rfl (wkF_loc g q) (fun j _ h => wkF_mono g q j _ _ _ _ _ (Below.refl _ _) h) (by simpa using hW) (rfl)⟩
    · intro s_ a_ u V hs hd hfr hpo hJ
      have hW := hJ.w
      have e3 : a_.tmps.getD 14 undef = .pointer (some ⟨g, 0, none⟩) := (hpo 3 14 (by kernel_rfl)).trans (show V 3 = .pointer (some ⟨g, 0, none⟩) from hJ.f 3 (hd 3 (by kernel_rfl)))
      have e4 : a_.tmps.getD 15 undef = .agg ([.string ⟨#[119]⟩, .slice none 0 0, .slice none 0 0, .slice (some ⟨q, 0, none⟩) 1 1, .int .i64 1, .int .i64 0, .int .i64 0] : List Value).toArray := (hpo 4 15 (by kernel_rfl)).trans (show V 4 = .agg ([.string ⟨#[119]⟩, .slice none 0 0, .slice none 0 0, .slice (some ⟨q, 0, none⟩) 1 1, .int .i64 1, .int .i64 0, .int .i64 0] : List Value).toArray from hJ.f 4 (hd 4 (by kernel_rfl)))
      have e2 : a_.tmps.getD 13 undef = .int .i64 0 := (hpo 2 13 (by kernel_rfl)).trans (show V 2 = .int .i64 0 from hJ.f 2 (hd 2 (by kernel_rfl)))
      have h2_ : s_ 2 = true := hd 2 (by kernel_rfl)
      have hW := (show Kn w.heap.size w4 u ∧ Nn w.heap.size u g n444 [⟨1, a310, []⟩] from ⟨hW.1, by have := hW.2; rw [if_pos h2_] at this; exact this⟩)
      refine .inl ⟨rfl, ?_⟩
      unfold Oper.wp
      rw [show (execOp a_.eval _).run Tryz.prog u = .ok (.enter 21 #[.pointer (some ⟨g, 0, none⟩), .int .i64 2, .agg ([.string ⟨#[119]⟩, .slice none 0 0, .slice none 0 0, .slice (some ⟨q, 0, none⟩) 1 1, .int .i64 1, .int .i64 0, .int .i64 0] : List Value).toArray]) u from by simp [go_sem, Act.eval, e3, e4]]
      have CA := admit_any 2 (wS a310) none 0 none 0 (some ⟨q, 0, none⟩) 1 (by decide) (w_light _) u hW.2 (HSL.out.below (hW.1.below B4.out.size (Nat.le_refl _) |> B4.out.trans)) (fun v hv => ((C4.out.kn hW.1).kn hv).spec a310_ok)
      rw [w_adm2, w_adm2l] at CA
      refine Calls.mono CA ?_
      rintro e u2 ⟨rfl, hn2, hk2⟩
      have hb : Kn w.heap.size u u2 := hk2
      exact ⟨_, rfl, hJ.step 5 hs (by show (s_ 3 && (s_ 4 && (s_ 2 && true))) = true; rw [hd 3 (by kernel_rfl), hd 4 (by kernel_rfl), hd 2 (by kernel_rfl)]; rfl) (wkF_loc g q) (fun j _ h => wk_keep g q j _ _ _ _ _ h) (⟨hW.1.trans hb, by rw [if_pos (by simp [h2_])]; exact hn2⟩) (rfl)⟩
    · intro s_ a_ u V hs hd hfr hpo hJ
      have hW := hJ.w
      have e2 : a_.tmps.getD 13 undef = .int .i64 0 := (hpo 2 13 (by kernel_rfl)).trans (show V 2 = .int .i64 0 from hJ.f 2 (hd 2 (by kernel_rfl)))
      refine .inl ⟨rfl, ?_⟩
      unfold Oper.wp
      rw [show (execOp a_.eval _).run Tryz.prog u = .ok (.value (.int .i64 0)) u from by simp [go_sem, Act.eval, e2]]
      exact ⟨_, rfl, hJ.step 6 hs (by show (s_ 2 && true) = true; rw [hd 2 (by kernel_rfl)]; rfl) (wkF_loc g q) (fun j _ h => wkF_mono g q j _ _ _ _ _ (Below.refl _ _) h) (by simpa using hW) (rfl)⟩
    · intro s_ a_ u V hs hd hfr hpo hJ
      have hW := hJ.w
      have e5 : a_.tmps.getD 16 undef = .int .i64 160 := (hpo 5 16 (by kernel_rfl)).trans (show V 5 = .int .i64 160 from hJ.f 5 (hd 5 (by kernel_rfl)))
      refine .inl ⟨rfl, ?_⟩
      unfold Oper.wp
      rw [show (execOp a_.eval _).run Tryz.prog u = .ok (.value (.int .i64 160)) u from by simp [go_sem, Act.eval, e5]]
      exact ⟨_, rfl, hJ.step 7 hs (by show (s_ 5 && true) = true; rw [hd 5 (by kernel_rfl)]; rfl) (wkF_loc g q) (fun j _ h => wkF_mono g q j _ _ _ _ _ (Below.refl _ _) h) (by simpa using hW) (rfl)⟩
  · intro s_ V w5 hall hJ
    have hW := hJ.w
    rw [if_pos (hall 2 (by decide))] at hW
    have e6 : V 6 = .int .i64 0 := hJ.f 6 (hall 6 (by decide))
    have e7 : V 7 = .int .i64 160 := hJ.f 7 (hall 7 (by decide))
    have N5 := Lib.hid hW.2
    have B5 := Lib.hid (B4.out.trans (hW.1.below B4.out.size (Nat.le_refl _)))
    clear hall hJ hW N4 Z4 C4
    simp only [Bxs.puts, Nat.reduceAdd, put_none, Re.put_lit, List.set_cons_succ, List.set_cons_zero]
    rw [e6, e7]
    clear e6 e7
    have CL := left_any w5 N5.out
    rw [w_left] at CL
    go_wp2_with (first
      | (go_at_call 14; refine CL.mono ?_; clear CL; rintro e w6 ⟨rfl, hb6⟩; have N6 := Lib.hid (N5.out.below hb6); have B6 := Lib.hid (B5.out.trans (hb6.mono B5.out.size)); clear hb6)
      | (go_at_call 26; refine (pods_any w6 N6.out (by decide)).mono ?_; rintro e w7 ⟨A, c, rfl, _, hb7⟩; have B7 := Lib.hid (B6.out.trans (hb7.mono B6.out.size)); clear hb7))
    go_ret
    exact ⟨rfl, B7.out⟩
end Nn
end Go.Proofs.YtbichomjpmmjmaaGreatDoor

/-
  The program's node: Release. Condition: the node is one (Nn).
-/
set_option linter.unusedVariables false
set_option linter.unusedSimpArgs false
namespace Go.Proofs.YtbichomjpmmjmaaGreatDoor
open Go.ChangeShapes Go.WideShapes Go.ChangeAt Go.RowKit Go.Lib
open NumMath
namespace Nn
open Re Nd
theorem rel_in {l : Pods} {u : Int} (h : isIn u l = true) : relC l u = 0 := by unfold relC; rw [if_pos h]
theorem rel_out {l : Pods} {u : Int} (h : isIn u l = false) : relC l u = 390 := by unfold relC; rw [if_neg (by rw [h]; decide)]
set_option maxRecDepth 100000 in
set_option maxHeartbeats 4000000 in
theorem release_any {B : Nat} {g : Nat} {has : Rx} {l : Pods} (ui : Int) (w : World) (h : Nn B w g has l) : Calls Tryz.prog 23 #[.pointer (some ⟨g, 0, none⟩), .int .i64 ui] w fun e w' => e = .returned (.int .i64 (relC l ui)) ∧ Nn B w' g has (cut ui l) ∧ Kn B w w' := by
  obtain ⟨m, p, T, h⟩ := h
  have H := Lib.hid h
  have HLK := Lib.hid (look_any h ui)
  have c6 := h.asked
  obtain ⟨l2, hl2⟩ : ∃ l2, cut ui l = l2 := ⟨_, rfl⟩
  have HL2 := Lib.hid hl2
  cases hi : isIn ui l with
  | false =>
    rw [rel_out hi]
    have HN := Lib.hid (cut_none hi)
    rw [hi] at HLK
    obtain ⟨a, ha⟩ : ∃ a, ofU l ui = a := ⟨_, rfl⟩
    rw [ha] at HLK
    clear hi ha h hl2
    obtain ⟨w2a, hw2a⟩ : ∃ v, w.alloc (.cells #[.int .i64 0, .int .i64 0, .int .i64 0] 23) = v := ⟨_, rfl⟩
    have ZB := Lib.hid (show w2a.heap[w.heap.size]? = some (.cells #[.int .i64 0, .int .i64 0, .int .i64 0] 23 (0, 0)) by rw [← hw2a]; exact heap_alloc_new _ _)
    have BU := Lib.hid (show Below w.heap.size w w2a by rw [← hw2a]; exact (Below.refl _ _).alloc (Nat.le_refl _) _)
    obtain ⟨w2, hw2⟩ : ∃ v, w2a.setCells w.heap.size 0 (R3 a) = v := ⟨_, rfl⟩
    have THz := Lib.hid (show w2a.there w.heap.size 0 3 from Back.th ZB.out rfl)
    have ONEz := Lib.hid (show ((R3 a) : List Value).toArray.all (·.oneCell') = true by simp [Value.oneCell'])
    have HVz := Lib.hid hw2
    have ZA := Lib.hid (show w2.heap[w.heap.size]? = some (.cells ((R3 a) : List Value).toArray 23 (0, 0)) by rw [← hw2]; exact Back.st ZB.out rfl)
    have BX := Lib.hid (show Below w.heap.size w w2 by rw [← hw2]; exact bel_set BU.out (Nat.le_refl _))
    clear hw2
    go_enter Tryz.func23, Tryz.ntmps23
    go_wp2_with (first | (refine Mp.wpList_lookup_run rfl _ _ _ _ rfl _ _ _ rfl rfl HLK.out ?_) | (refine wpList_store_at rfl 23 _ _ rfl _ _ _ rfl rfl THz.out (by kernel_rfl) ONEz.out HVz.out ?_))
    go_ret
    exact ⟨rfl, by rw [HN.out]; exact ⟨m, p, T, H.out.below BX.out⟩, Kn.of_below BX.out⟩
  | true =>
    rw [rel_in hi]
    obtain ⟨x, hx1, hx2⟩ := idx_at hi
    have HSUB := Lib.hid (used_cut h.ok hx1)
    have HSAME := Lib.hid (h.same.free h.ok (u := ui) (by have := (h.ok.one x (List.mem_of_getElem? hx1)).1.1; omega))
    have HOK := Lib.hid (h.ok.cut ui)
    have HIN := Lib.hid hi
    have HXO := Lib.hid (show x.ask.Ok by
      have h1 := (h.ok.one x (List.mem_of_getElem? hx1)).2
      have h2 := h.ok.within
      have e := h.ok.used
      have s := congrArg Prod.fst (used_cut h.ok hx1)
      have g1 := (h.ok.cut ui).within
      have h4 := h.ok.hc; have h5 := h.ok.hm; have h6 := h.ok.hp
      have q := tot_perm Rx.c ((cut_perm hx1).map Pod.ask)
      have q2 := tot_perm Rx.m ((cut_perm hx1).map Pod.ask)
      have q3 := tot_perm Rx.p ((cut_perm hx1).map Pod.ask)
      simp only [List.map_cons, tot_cons] at q q2 q3
      have f := (h.ok.cut ui).used
      rw [e] at h2
      rw [f] at g1
      dsimp only at h2 g1
      exact ⟨fits_iff.2 (by omega), fits_iff.2 (by omega), fits_iff.2 (by omega)⟩)
    rw [hi, ofU_in hx1] at HLK
    obtain ⟨a, ha⟩ : ∃ a, x.ask = a := ⟨_, rfl⟩
    rw [ha] at HLK HSUB HXO
    obtain ⟨us, hus⟩ : ∃ us, usedR l = us := ⟨_, rfl⟩
    obtain ⟨us2, hus2⟩ : ∃ us2, usedR (cut ui l) = us2 := ⟨_, rfl⟩
    have HUS2 := Lib.hid hus2
    rw [hus, hus2] at HSUB
    clear hi ha h hl2 hx1 hx2 hus2
    obtain ⟨w4a, hw4a⟩ : ∃ v, w.alloc (.cells #[.int .i64 0, .int .i64 0, .int .i64 0] 23) = v := ⟨_, rfl⟩
    have ZB := Lib.hid (show w4a.heap[w.heap.size]? = some (.cells #[.int .i64 0, .int .i64 0, .int .i64 0] 23 (0, 0)) by rw [← hw4a]; exact heap_alloc_new _ _)
    have BU := Lib.hid (show Below w.heap.size w w4a by rw [← hw4a]; exact (Below.refl _ _).alloc (Nat.le_refl _) _)
    obtain ⟨w4, hw4⟩ : ∃ v, w4a.setCells w.heap.size 0 (R3 a) = v := ⟨_, rfl⟩
    have THz := Lib.hid (show w4a.there w.heap.size 0 3 from Back.th ZB.out rfl)
    have ONEz := Lib.hid (show ((R3 a) : List Value).toArray.all (·.oneCell') = true by simp [Value.oneCell'])
    have HVz := Lib.hid hw4
    have ZA := Lib.hid (show w4.heap[w.heap.size]? = some (.cells ((R3 a) : List Value).toArray 23 (0, 0)) by rw [← hw4]; exact Back.st ZB.out rfl)
    have BX := Lib.hid (show Below w.heap.size w w4 by rw [← hw4]; exact bel_set BU.out (Nat.le_refl _))
    clear hw4
    have B4 := Lib.hid BX.out
    have H4 := Lib.hid (H.out.below B4.out)
    have HG := Lib.hid (show ∀ v, Below w4.heap.size w4 v → v.heap[g]? = some (.cells (cells8 has us m p).toArray 68 (0, 0)) from fun v hv => by rw [← hus]; exact (H4.out.below hv).box)
    have HU := Lib.hid (show ∀ v, Below w4.heap.size w4 v → v.rangeAt g 3 (R3 us) from fun v hv => by rw [← hus]; exact (H4.out.below hv).used3)
    have HO := Lib.hid (show us.Ok by rw [← hus]; exact H.out.ok.used_ok)
    have CA := Lib.hid (fun v => sub_any us a HO.out HXO.out v)
    rw [HSUB.out] at CA
    clear hus
    go_enter Tryz.func23, Tryz.ntmps23
    go_wp2_with (first | (refine Mp.wpList_lookup_run rfl _ _ _ _ rfl _ _ _ rfl rfl HLK.out ?_) | (refine wpList_store_at rfl 23 _ _ rfl _ _ _ rfl rfl THz.out (by kernel_rfl) ONEz.out HVz.out ?_))
    clear hw4a THz ONEz HVz ZB BX BU c6 HLK
    refine Vls.wp_region (by kernel_rfl) (Jx.JX (fun u => Below w4.heap.size w4 u) (fun u => u.heap[g]? = some (.cells (cells8 has us2 m p).toArray 68 (0, 0)) ∧ Jx.But w4.heap.size g w4 u) 12 101 (fun _ _ => True) [(2, 1), (3, 2), (4, 3), (6, 4), (6, 5), (7, 6), (8, 7), (9, 7), (10, 0), (11, 10), (12, 11), (12, 8)] [.pointer (some ⟨g, 0, none⟩), .pointer (some ⟨g, 0, none⟩), .pointer (some ⟨g, 0, none⟩), .pointer (some ⟨g, 3, none⟩), .agg (R3 us).toArray, .agg (R3 a).toArray, .tuple #[.agg (R3 us2).toArray, .bool true], .tuple #[.agg (R3 us2).toArray, .bool true], .agg (R3 us2).toArray, .bool true, .pointer (some ⟨g, 0, none⟩), .pointer (some ⟨g, 3, none⟩), undef]) (by kernel_rfl) (fun _ => undef) (Jx.JX.start (P := fun u => Below w4.heap.size w4 u) (Below.drew (Below.refl _ _)) _) ?_ ?_
    · refine ⟨?_, ?_, ?_, ?_, ?_, ?_, ?_, ?_, ?_, ?_, ?_, ?_, ?_, trivial⟩
      · intro s_ a_ u V hs hd hfr hpo hJ
        have f0 : a_.tmps.getD 0 undef = .pointer (some ⟨g, 0, none⟩) := hfr 0 (by kernel_rfl)
        refine .inl ⟨rfl, ?_⟩
        unfold Oper.wp
        rw [show (execOp a_.eval _).run Tryz.prog u = .ok (.value (.pointer (some ⟨g, 0, none⟩))) u from by simp [go_sem, Act.eval, f0]]
        exact ⟨_, rfl, hJ.stay 0 (by decide) (by decide) rfl rfl⟩
      · intro s_ a_ u V hs hd hfr hpo hJ
        have f0 : a_.tmps.getD 0 undef = .pointer (some ⟨g, 0, none⟩) := hfr 0 (by kernel_rfl)
        refine .inl ⟨rfl, ?_⟩
        unfold Oper.wp
        rw [show (execOp a_.eval _).run Tryz.prog u = .ok (.value (.pointer (some ⟨g, 0, none⟩))) u from by simp [go_sem, Act.eval, f0]]
        exact ⟨_, rfl, hJ.stay 1 (by decide) (by decide) rfl rfl⟩
      · intro s_ a_ u V hs hd hfr hpo hJ
        have e1 : a_.tmps.getD 20 undef = .pointer (some ⟨g, 0, none⟩) := (hpo 1 20 (by kernel_rfl)).trans (hJ.get 1 (by decide) (by decide) (hd 1 (by kernel_rfl)) rfl)
        refine .inl ⟨rfl, ?_⟩
        unfold Oper.wp
        rw [show (execOp a_.eval _).run Tryz.prog u = .ok (.value (.pointer (some ⟨g, 0, none⟩))) u from by simp [go_sem, Act.eval, e1]]
        exact ⟨_, rfl, hJ.stay 2 (by decide) (by decide) (by show (s_ 1 && true) = true; rw [hd 1 (by kernel_rfl)]; rfl) rfl⟩
      · intro s_ a_ u V hs hd hfr hpo hJ
        have e2 : a_.tmps.getD 21 undef = .pointer (some ⟨g, 0, none⟩) := (hpo 2 21 (by kernel_rfl)).trans (hJ.get 2 (by decide) (by decide) (hd 2 (by kernel_rfl)) rfl)
        refine .inl ⟨rfl, ?_⟩
        unfold Oper.wp
        rw [show (execOp a_.eval _).run Tryz.prog u = .ok (.value (.pointer (some ⟨g, 3, none⟩))) u from by simp [go_sem, Act.eval, e2]]
        exact ⟨_, rfl, hJ.stay 3 (by decide) (by decide) (by show (s_ 2 && true) = true; rw [hd 2 (by kernel_rfl)]; rfl) rfl⟩
      · intro s_ a_ u V hs hd hfr hpo hJ
        have e3 : a_.tmps.getD 22 undef = .pointer (some ⟨g, 3, none⟩) := (hpo 3 22 (by kernel_rfl)).trans (hJ.get 3 (by decide) (by decide) (hd 3 (by kernel_rfl)) rfl)
        have hn_ : s_ 12 = false := (hJ.back 12 (by simp) (hJ.back 8 (by simp) (hJ.back 7 (by simp) (hJ.back 6 (by simp) hs))))
        have hP := hJ.pre hn_
        refine .inl ⟨rfl, ?_⟩
        exact wp_load_mid 23 (.tmp 22) rfl (g) (3) e3 (R3 us) _ (HU.out u hP) Tryz.underlying23 rfl (by kernel_rfl) ⟨_, rfl, hJ.stay 4 (by decide) (by decide) (by show (s_ 3 && true) = true; rw [hd 3 (by kernel_rfl)]; rfl) rfl⟩
      · intro s_ a_ u V hs hd hfr hpo hJ
        have f5 : a_.tmps.getD 5 undef = .pointer (some ⟨w.heap.size, 0, none⟩) := hfr 5 (by kernel_rfl)
        have hn_ : s_ 12 = false := (hJ.back 12 (by simp) (hJ.back 8 (by simp) (hJ.back 7 (by simp) (hJ.back 6 (by simp) hs))))
        have hP := hJ.pre hn_
        refine .inl ⟨rfl, ?_⟩
        exact wp_load_mid 23 (.tmp 5) rfl (w.heap.size) (0) f5 (R3 a) _ (range_box ((hP.block _ (lt_of_block ZA.out)).trans ZA.out)) Tryz.underlying23 rfl (by kernel_rfl) ⟨_, rfl, hJ.stay 5 (by decide) (by decide) rfl rfl⟩
      · intro s_ a_ u V hs hd hfr hpo hJ
        have e4 : a_.tmps.getD 23 undef = .agg (R3 us).toArray := (hpo 4 23 (by kernel_rfl)).trans (hJ.get 4 (by decide) (by decide) (hd 4 (by kernel_rfl)) rfl)
        have e5 : a_.tmps.getD 24 undef = .agg (R3 a).toArray := (hpo 5 24 (by kernel_rfl)).trans (hJ.get 5 (by decide) (by decide) (hd 5 (by kernel_rfl)) rfl)
        have hn_ : s_ 12 = false := (hJ.back 12 (by simp) (hJ.back 8 (by simp) (hJ.back 7 (by simp) hs)))
        have hP := hJ.pre hn_
        refine .inl ⟨rfl, ?_⟩
        unfold Oper.wp
        rw [show (execOp a_.eval _).run Tryz.prog u = .ok (.enter 38 #[.agg (R3 us).toArray, .agg (R3 a).toArray]) u from by simp [go_sem, Act.eval, e4, e5]]
        refine Calls.mono (CA.out u) ?_
        rintro e u2 ⟨rfl, hb⟩
        exact ⟨_, rfl, hJ.step 6 (by decide) (by decide) (by show (s_ 4 && (s_ 5 && true)) = true; rw [hd 4 (by kernel_rfl), hd 5 (by kernel_rfl)]; rfl) (fun _ hP => hP.trans (hb.mono hP.size)) (fun hq => by rw [hn_] at hq; cases hq) (fun _ _ hR => hR) rfl⟩
      · intro s_ a_ u V hs hd hfr hpo hJ
        have e6 : a_.tmps.getD 25 undef = .tuple #[.agg (R3 us2).toArray, .bool true] := (hpo 6 25 (by kernel_rfl)).trans (hJ.get 6 (by decide) (by decide) (hd 6 (by kernel_rfl)) rfl)
        refine .inl ⟨rfl, ?_⟩
        unfold Oper.wp
        rw [show (execOp a_.eval _).run Tryz.prog u = .ok (.value (.tuple #[.agg (R3 us2).toArray, .bool true])) u from by simp [go_sem, Act.eval, e6]]
        exact ⟨_, rfl, hJ.stay 7 (by decide) (by decide) (by show (s_ 6 && true) = true; rw [hd 6 (by kernel_rfl)]; rfl) rfl⟩
      · intro s_ a_ u V hs hd hfr hpo hJ
        have e7 : a_.tmps.getD 18 undef = .tuple #[.agg (R3 us2).toArray, .bool true] := (hpo 7 18 (by kernel_rfl)).trans (hJ.get 7 (by decide) (by decide) (hd 7 (by kernel_rfl)) rfl)
        refine .inl ⟨rfl, ?_⟩
        unfold Oper.wp
        rw [show (execOp a_.eval _).run Tryz.prog u = .ok (.value (.agg (R3 us2).toArray)) u from by simp [go_sem, Act.eval, e7]]
        exact ⟨_, rfl, hJ.stay 8 (by decide) (by decide) (by show (s_ 7 && true) = true; rw [hd 7 (by kernel_rfl)]; rfl) rfl⟩
      · intro s_ a_ u V hs hd hfr hpo hJ
        have e7 : a_.tmps.getD 18 undef = .tuple #[.agg (R3 us2).toArray, .bool true] := (hpo 7 18 (by kernel_rfl)).trans (hJ.get 7 (by decide) (by decide) (hd 7 (by kernel_rfl)) rfl)
        refine .inl ⟨rfl, ?_⟩
        unfold Oper.wp
        rw [show (execOp a_.eval _).run Tryz.prog u = .ok (.value (.bool true)) u from by simp [go_sem, Act.eval, e7]]
        exact ⟨_, rfl, hJ.stay 9 (by decide) (by decide) (by show (s_ 7 && true) = true; rw [hd 7 (by kernel_rfl)]; rfl) rfl⟩
      · intro s_ a_ u V hs hd hfr hpo hJ
        have e0 : a_.tmps.getD 19 undef = .pointer (some ⟨g, 0, none⟩) := (hpo 0 19 (by kernel_rfl)).trans (hJ.get 0 (by decide) (by decide) (hd 0 (by kernel_rfl)) rfl)
        refine .inl ⟨rfl, ?_⟩
        unfold Oper.wp
        rw [show (execOp a_.eval _).run Tryz.prog u = .ok (.value (.pointer (some ⟨g, 0, none⟩))) u from by simp [go_sem, Act.eval, e0]]
        exact ⟨_, rfl, hJ.stay 10 (by decide) (by decide) (by show (s_ 0 && true) = true; rw [hd 0 (by kernel_rfl)]; rfl) rfl⟩
      · intro s_ a_ u V hs hd hfr hpo hJ
        have e10 : a_.tmps.getD 28 undef = .pointer (some ⟨g, 0, none⟩) := (hpo 10 28 (by kernel_rfl)).trans (hJ.get 10 (by decide) (by decide) (hd 10 (by kernel_rfl)) rfl)
        refine .inl ⟨rfl, ?_⟩
        unfold Oper.wp
        rw [show (execOp a_.eval _).run Tryz.prog u = .ok (.value (.pointer (some ⟨g, 3, none⟩))) u from by simp [go_sem, Act.eval, e10]]
        exact ⟨_, rfl, hJ.stay 11 (by decide) (by decide) (by show (s_ 10 && true) = true; rw [hd 10 (by kernel_rfl)]; rfl) rfl⟩
      · intro s_ a_ u V hs hd hfr hpo hJ
        have e11 : a_.tmps.getD 29 undef = .pointer (some ⟨g, 3, none⟩) := (hpo 11 29 (by kernel_rfl)).trans (hJ.get 11 (by decide) (by decide) (hd 11 (by kernel_rfl)) rfl)
        have e8 : a_.tmps.getD 26 undef = .agg (R3 us2).toArray := (hpo 8 26 (by kernel_rfl)).trans (hJ.get 8 (by decide) (by decide) (hd 8 (by kernel_rfl)) rfl)
        have hn_ : s_ 12 = false := hs
        have hP := hJ.pre hn_
        have G := HG.out u hP
        refine .inl ⟨rfl, ?_⟩
        exact wp_store_mid 23 (.tmp 29) (.tmp 26) rfl g 3 (R3 us2).toArray e11 e8 (th_mid G 3 3 (show 3 + 3 ≤ 8 by decide)) (by kernel_rfl) (by simp [Value.oneCell']) ⟨undef, rfl, hJ.fire (by show (s_ 11 && (s_ 8 && true)) = true; rw [hd 11 (by kernel_rfl), hd 8 (by kernel_rfl)]; rfl) ⟨set_used us2 G, but_set hP 3 (R3 us2)⟩ _⟩
    · intro s_ V w5 hall hJ
      obtain ⟨hG5, hb5⟩ := hJ.post (hall 12 (by decide))
      obtain ⟨hm5, ht5⟩ := H4.out.but hb5
      have G5 := Lib.hid hG5
      have M5 := Lib.hid hm5
      have T5 := Lib.hid ht5
      have K5 := Lib.hid ((Kn.of_below B4.out).trans (Kn.of_but hb5 H.out.hB H4.out.isN))
      clear hall hJ hG5 hb5 hm5 ht5 CA HU HG ZA H4
      simp only [Bxs.puts, Nat.reduceAdd, put_none, Re.put_lit, List.set_cons_succ, List.set_cons_zero]
      have d6 : w5.cell? ⟨g, 6, none⟩ = some (.map (some m)) := Pt.box_cell G5.out 6 rfl
      obtain ⟨w6, hrun, hm6, ho6⟩ := Mp.run_del Tryz.underlying64 Tryz.underlying3 M5.out (key_in HIN.out)
      have HRUN := Lib.hid hrun
      have G7 := Lib.hid (only_box ho6 G5.out M5.out)
      have T7 := Lib.hid (only_tab ho6 M5.out T5.out)
      have M7 := Lib.hid (show Mp.MapAt w6 m (kvs (cut ui l)) from hm6.perm (kvs_cut H.out.ok HIN.out))
      have K7 := Lib.hid (K5.out.trans (Kn.only ho6 H.out.hm (by obtain ⟨es, c, e, _⟩ := M5.out; exact .inr (.inr (.inr ⟨es, c, e⟩)))))
      have d7 : w6.cell? ⟨g, 7, none⟩ = some (.pointer (some ⟨p, 0, none⟩)) := Pt.box_cell G7.out 7 rfl
      have CFR := Lib.hid (Pt.free_any ui w6 T7.out (by have := H.out.few; omega))
      obtain ⟨dl, hdl⟩ : ∃ dl, ((T.length : Int) - ((Pt.freeL T ui).length : Int)) = dl := ⟨_, rfl⟩
      rw [hdl] at CFR
      clear hrun hm6 ho6 hdl
      go_wp2_with (first
        | (refine Mp.wpList_delete_run rfl _ _ _ _ rfl _ _ w6 rfl rfl HRUN.out ?_)
        | (go_at_call 44; refine CFR.out.mono ?_; rintro e w8 ⟨rfl, hT8, hK8⟩; have T8 := Lib.hid hT8; have G8 := Lib.hid (kt_box hK8 T7.out G7.out); have M8 := Lib.hid (kt_map hK8 T7.out M7.out); have K8 := Lib.hid (K7.out.trans (Kn.of_kt hK8 T7.out)); clear hT8 hK8))
      go_ret
      exact ⟨rfl, ⟨m, p, _, H.out.hB, by rw [HUS2.out]; exact G8.out, H.out.hm, M8.out, T8.out, HSAME.out, HOK.out⟩, K8.out⟩
end Nn
end Go.Proofs.YtbichomjpmmjmaaGreatDoor

/-
  What was admitted, as a list of calls in memory of the law's own: all but one pod's, and one more. Conditions: the list lies in a row, it is not too long.
-/
set_option linter.unusedVariables false
set_option linter.unusedSimpArgs false
namespace Go.Proofs.YtbichomjpmmjmaaGreatDoor
open Go.ChangeShapes Go.WideShapes Go.ChangeAt Go.RowKit Go.Lib
open NumMath
namespace Nn
open Re Nd Sd
def flat9 : List Na → List Value
  | [] => []
  | x :: l => x.vals ++ flat9 l
theorem flat9_cat : ∀ (a b : List Na), flat9 (a ++ b) = flat9 a ++ flat9 b
  | [], b => rfl
  | x :: a, b => by simp only [List.cons_append, flat9, flat9_cat a b, List.append_assoc]
theorem flat9_drop : ∀ (l : List Na) (k : Nat), (flat9 l).drop (k * 9) = flat9 (l.drop k)
  | l, 0 => by simp
  | [], k + 1 => by simp [flat9]
  | x :: l, k + 1 => by
    rw [flat9, show (k + 1) * 9 = k * 9 + 9 by omega, List.drop_append, show x.vals.length = 9 from rfl, List.drop_eq_nil_of_le (show x.vals.length ≤ k * 9 + 9 by show 9 ≤ _; omega), List.nil_append, Nat.add_sub_cancel, flat9_drop l k, List.drop_succ_cons]
theorem flat9_at {l : List Na} {k j : Nat} {x : Na} (h : l[k]? = some x) (hj : j < 9) : (flat9 l)[k * 9 + j]? = x.vals[j]? := by
  have hk := (List.getElem?_eq_some_iff.1 h).1
  have e := flat9_drop l k
  rw [List.drop_eq_getElem_cons hk, (List.getElem?_eq_some_iff.1 h).2, flat9] at e
  rw [← List.getElem?_drop, e, List.getElem?_append_left (by simpa [Na.vals] using hj)]
theorem vals_one (x : Na) : ∀ u ∈ x.vals, u.oneCell' = true := by
  intro u hu
  simp only [Na.vals, List.mem_cons, List.not_mem_nil, or_false] at hu
  rcases hu with rfl | rfl | rfl | rfl | rfl | rfl | rfl | rfl | rfl <;> rfl
/-- the calls at A, a row of the law's own -/
abbrev Row9 (w : World) (B : Nat) (v : Value) (th : List Na) : Prop := w.ownsRow B 37 9 v th.length (flat9 th)
theorem row9_at {w : World} {B : Nat} {A : Option Addr} {c : Nat} {th : List Na} (h : Row9 w B (.slice A th.length c) th) {k : Nat} {x : Na} (hx : th[k]? = some x) : ∃ r, A = some ⟨r, 0, none⟩ ∧ r < w.heap.size ∧ B ≤ r ∧ w.rangeAt r (k * 9) x.vals := by
  have hk := (List.getElem?_eq_some_iff.1 hx).1
  rcases Pt.own_addr h with ⟨_, h2, _⟩ | ⟨r, rfl, hB, hr⟩
  · omega
  · refine ⟨r, rfl, hr, hB, fun j v hv => ?_⟩
    have hj : j < 9 := (List.getElem?_eq_some_iff.1 hv).1
    rw [h.cellAt (k * 9 + j) (by omega), flat9_at hx hj]
    exact hv
theorem at_nine (r k : Nat) : (⟨r, 0, none⟩ : Addr).add (k * 9) = ⟨r, k * 9, none⟩ := by unfold Addr.add; split <;> simp_all
theorem info_act : ∃ i, Tryz.prog.info? 37 = some i ∧ i.zero = some (.agg #[.int .i64 0, .int .i64 0, .string ⟨#[]⟩, .slice none 0 0, .slice none 0 0, .slice none 0 0, .int .i64 0, .int .i64 0, .int .i64 0]) ∧ i.size = 9 ∧ i.bytes = 128 := info_parts (by kernel_rfl)
theorem run_build_act (x : Na) (w : World) : (Instr.buildSlice 24 1 #[(0, .agg x.vals.toArray)]).run Tryz.prog w = .ok (.slice (some ⟨w.heap.size, 0, none⟩) 1 1) (w.alloc (.cells x.vals.toArray 37)) := by
  obtain ⟨ie, hie, hz, hs, _⟩ := info_act
  refine run_buildSlice w _ _ 1 _ _ ie _ Tryz.underlying24 hie hz (by rw [hs]; decide) (by rw [hs]; decide) ?_
  rw [hs]
  rw [show (Array.range (1 * 9)).map ((Value.agg #[.int .i64 0, .int .i64 0, .string ⟨#[]⟩, .slice none 0 0, .slice none 0 0, .slice none 0 0, .int .i64 0, .int .i64 0, .int .i64 0]).cells[· % (Value.agg #[.int .i64 0, .int .i64 0, .string ⟨#[]⟩, .slice none 0 0, .slice none 0 0, .slice none 0 0, .int .i64 0, .int .i64 0, .int .i64 0]).cells.size]!) = #[.int .i64 0, .int .i64 0, .string ⟨#[]⟩, .slice none 0 0, .slice none 0 0, .slice none 0 0, .int .i64 0, .int .i64 0, .int .i64 0] by kernel_rfl]
  simp [Instr.fill, Value.cells, Na.vals]
theorem wpList_buildAct {ops : Array Oper} {rest : List Oper} {op : Oper} {a : Act} {w : World} {Q : Exit → Act → World → Prop} (hgd : op.guard = none) (y : Operand) (ho : op.op = .buildSlice 24 1 #[(0, y)]) (x : Na) (hx : a.eval y = .agg x.vals.toArray)
    (h : wpList Tryz.prog ops Q rest (a.put op.dst (.slice (some ⟨w.heap.size, 0, none⟩) 1 1)) (w.alloc (.cells x.vals.toArray 37))) : wpList Tryz.prog ops Q (op :: rest) a w := by
  refine wpList_plain hgd fun K hK => ?_
  have hrun := run_build_act x w
  unfold Oper.wp
  simp [execOp, ho, hx, hrun, Result.andThen]
  exact hK _ _ h
theorem cells_new (w : World) (xs : List Value) (t : TypeId) : ∀ j u, xs[j]? = some u → (w.alloc (.cells xs.toArray t)).cell? ((⟨w.heap.size, 0, none⟩ : Addr).add j) = some u := fun j u hu => by
  have h := heap_alloc_new w (.cells xs.toArray t)
  rw [at_one]
  exact Pt.box_cell h j (by simpa using hu)
/-- the calls of other pods -/
def withoutA (th : List Na) (u : Int) : List Na := th.filter fun a => !decide (a.uid = u)
theorem without_snoc (th : List Na) (x : Na) (u : Int) : withoutA (th ++ [x]) u = if x.uid = u then withoutA th u else withoutA th u ++ [x] := by
  unfold withoutA
  rw [List.filter_append]
  by_cases h : x.uid = u <;> simp [h]
set_option maxRecDepth 100000 in
set_option maxHeartbeats 4000000 in
theorem without_any {B2 : Nat} {A : Option Addr} {c : Nat} (th : List Na) (ui : Int) (w : World) (h : Row9 w B2 (.slice A th.length c) th) (hfew : th.length ≤ 1000) :
    Calls Tryz.prog 22 #[.slice A th.length c, .int .i64 ui] w fun e w' => ∃ A' c', e = .returned (.slice A' (withoutA th ui).length c') ∧ Row9 w' w.heap.size (.slice A' (withoutA th ui).length c') (withoutA th ui) ∧ Below w.heap.size w w' := by
  have H := Lib.hid h
  obtain ⟨n, hln⟩ : ∃ n, th.length = n := ⟨_, rfl⟩
  have HLN := Lib.hid hln
  obtain ⟨i0, hi, hz0, hz1, hz2⟩ := info_act
  have hn' : (n : Int) ≤ 1000 := by omega
  rw [hln]
  clear h hln hfew
  go_enter Tryz.func22, Tryz.ntmps22
  go_wp2_with fail
  go_loopw [5, 6] (fun v i wr => ∃ k : Nat, k ≤ n ∧ i = .int .i64 k ∧ Hid (Below w.heap.size w wr) ∧ Hid (Row9 wr w.heap.size v (withoutA (th.take k) ui))) (fun _ i _ => n - (RowKit.intOf i).toNat)
  case atStart => exact ⟨0, Nat.zero_le _, rfl, Below.refl _ _, World.ownsRow_nil _ _ _ _⟩
  case round =>
    obtain ⟨k, hk, rfl, HW, HO⟩ := hrel
    by_cases hkn : k < n
    · have hka : (k : Int) < (n : Int) := by omega
      have hk0 : (0 : Int) ≤ (k : Int) := by omega
      obtain ⟨x, hx⟩ : ∃ x, th[k]? = some x := ⟨_, List.getElem?_eq_getElem (by have := HLN.out; omega)⟩
      obtain ⟨r, rfl, hr, _, hrg⟩ := row9_at (Pt.owns_below H.out HW.out) hx
      have eat := at_nine r k
      have k1 : wr.cell? ⟨r, k * 9 + 1, none⟩ = some (.int .i64 x.uid) := hrg 1 _ rfl
      have RG := Lib.hid hrg
      have HTK := Lib.hid (show withoutA (th.take (k + 1)) ui = if x.uid = ui then withoutA (th.take k) ui else withoutA (th.take k) ui ++ [x] by
        rw [List.take_add_one, hx]; exact without_snoc _ _ _)
      have HLE := Lib.hid (show (withoutA (th.take k) ui).length ≤ 1000 by
        have h1 := List.length_filter_le (fun a : Na => !decide (a.uid = ui)) (th.take k)
        rw [List.length_take] at h1
        unfold withoutA
        omega)
      clear hx hrg
      by_cases hu : x.uid = ui
      · have huu : (x.uid == ui) = true := by simp [hu]
        have HT2 := Lib.hid (show withoutA (th.take (k + 1)) ui = withoutA (th.take k) ui by rw [HTK.out, if_pos hu])
        clear hu
        go_wp2_with fail
        go_roundw
        case rel => exact ⟨k + 1, by omega, by go_num, HW.out, by unfold Hid; rw [HT2.out]; exact HO.out⟩
        case measure => simp [RowKit.intOf]; omega
      · have huu : (x.uid == ui) = false := by simpa using hu
        have HT2 := Lib.hid (show withoutA (th.take (k + 1)) ui = withoutA (th.take k) ui ++ [x] by rw [HTK.out, if_neg hu])
        obtain ⟨ts, hts⟩ : ∃ ts, withoutA (th.take k) ui = ts := ⟨_, rfl⟩
        rw [hts] at HO HT2 HLE
        obtain ⟨A', c', rfl⟩ := Pt.own_form HO.out
        have hle := HLE.out
        clear hu hts HTK
        go_wp2_with (first
          | (refine wpList_load_mid rfl 37 _ rfl _ _ rfl _ _ RG.out Tryz.underlying37 rfl (by kernel_rfl) ?_)
          | (refine wpList_buildAct rfl _ rfl x rfl ?_)
          | (at_builtin; refine wpList_append_own _ rfl _ _ 24 rfl w.heap.size 37 i0 (.agg #[.int .i64 0, .int .i64 0, .string ⟨#[]⟩, .slice none 0 0, .slice none 0 0, .slice none 0 0, .int .i64 0, .int .i64 0, .int .i64 0]) 9 128 Tryz.underlying24 hi hz0 hz1 hz2 rfl (by decide) _ _ _ rfl (HO.out.alloc _) ⟨wr.heap.size, 0, none⟩ 1 1 x.vals rfl rfl (cells_new _ _ _) (vals_one x) (by unfold maxLen; omega) (by omega) (by have := HW.out.size; simp; omega) ?_))
        intro v' w7 hown' hgrow _
        have HW7 := Lib.hid ((HW.out.alloc HW.out.size _).grown hgrow (by have := HW.out.size; simp; omega) (fun b hb => (HO.out.lt b hb).1))
        have HO7 := Lib.hid (show Row9 w7 w.heap.size v' (withoutA (th.take (k + 1)) ui) by
          unfold Row9
          rw [HT2.out, flat9_cat, List.length_append]
          have e : flat9 [x] = x.vals := by simp [flat9]
          rw [e]; exact hown')
        clear hown' hgrow k1
        go_wp2
        go_roundw
        case rel => exact ⟨k + 1, by omega, by go_num, HW7.out, HO7.out⟩
        case measure => simp [RowKit.intOf]; omega
    · have hka : ¬ (k : Int) < (n : Int) := by omega
      have HE := Lib.hid (show withoutA (th.take k) ui = withoutA th ui by rw [List.take_of_length_le (by have := HLN.out; omega)])
      rw [HE.out] at HO
      obtain ⟨A', c', rfl⟩ := Pt.own_form HO.out
      clear HE
      go_wp2_with fail
      go_ret
      exact ⟨A', c', rfl, HO.out, HW.out⟩
end Nn
end Go.Proofs.YtbichomjpmmjmaaGreatDoor
