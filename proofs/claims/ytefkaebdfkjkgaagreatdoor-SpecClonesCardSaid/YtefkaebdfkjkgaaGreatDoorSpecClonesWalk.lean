/-
  The walk of the law SpecClones: it returns true, and leaves all that was there as it was. Condition: as SpecStep.
-/
import Derived.Test.YtefkaebdfkjkgaaGreatDoorSpecWorks
import Derived.Test.YtefkaebdfkjkgaaGreatDoorSpecCopy
import Derived.Test.YtefkaebdfkjkgaaGreatDoorSpecRefPorts
import Derived.Test.YtefkaebdfkjkgaaGreatDoorSpecSameAll
import Derived.Test.YtefkaebdfkjkgaaGreatDoorBookSpoil
set_option linter.unusedVariables false
set_option linter.unusedSimpArgs false
namespace Go.Proofs.YtefkaebdfkjkgaaGreatDoor.SpecClonesWalk
open Go.ChangeShapes Go.WideShapes Go.ChangeAt Go.RowKit Go.Lib
open Sd Lists SpecRef SpecOwn Book

theorem own_nums {w : World} {B : Nat} {A : Option Addr} {n c : Nat} {l : List Int} (hn : n = l.length) (h : w.ownsRow B 3 1 (.slice A n c) n (l.map (Value.int .i64))) (hI : ∀ z ∈ l, (Lit.int IntKind.i64 z).wf = true) : Nums .i64 w A l := by
  subst hn
  intro k z hz
  obtain ⟨a', ha', hc⟩ := nums_of_own h k z hz
  exact ⟨hI z (List.mem_of_getElem? hz), a', ha', by have := World.block_lt_of_cell? w _ hc; rwa [add_block] at this, hc⟩
theorem own_from {w : World} {B : Nat} {e : TypeId} {size : Nat} {A : Option Addr} {n c : Nat} {xs : List Value} (h : w.ownsRow B e size (.slice A n c) n xs) : From B A := fun x hx => (h.lt x.block (by rw [hx]; rfl)).1
theorem ports_fit {w : World} {A : Option Addr} {l : List Ctr} (h : Ctrs w A l) : ∀ z ∈ l.flatMap (·.ports), (Lit.int IntKind.i64 z).wf = true := by
  intro z hz
  obtain ⟨x, hx, hzx⟩ := List.mem_flatMap.1 hz
  obtain ⟨k, hk, rfl⟩ := List.getElem_of_mem hx
  obtain ⟨_, a, P, c, _, _, _, hn⟩ := h.at hk
  obtain ⟨j, hj, rfl⟩ := List.getElem_of_mem hzx
  exact (hn j _ (List.getElem?_eq_getElem hj)).1

-- F5 BEGIN
/-- what each operation leaves -/
def F5 (S T : Spc) (LA : Option Addr) (lc : Nat) (IA : Option Addr) (ic : Nat) (MA : Option Addr) (mc : Nat) (LB : Option Addr) (ld : Nat) (IB : Option Addr) (id : Nat) (MB : Option Addr) (md : Nat) (CL : Option Addr) (cl : Nat) (CI : Option Addr) (ci : Nat) (CM : Option Addr) (cm : Nat) (q : Bool) (l : List Int) : Nat → Value → World → Prop
  | 0 => fun v _ => v = .agg #[.string S.name, .slice CL S.labels.length cl, .slice CI S.init.length ci, .slice CM S.main.length cm, .int .i64 S.restart, .int .i64 S.grace, .int .i64 S.prio]
  | 1 => fun v _ => v = .agg #[.string S.name, .slice LA S.labels.length lc, .slice IA S.init.length ic, .slice MA S.main.length mc, .int .i64 S.restart, .int .i64 S.grace, .int .i64 S.prio]
  | 2 => fun v _ => v = .bool true
  | 3 => fun v _ => v = .bool false
  | 4 => fun v _ => v = .bool false
  | 5 => fun v _ => v = .agg #[.string S.name, .slice LA S.labels.length lc, .slice IA S.init.length ic, .slice MA S.main.length mc, .int .i64 S.restart, .int .i64 S.grace, .int .i64 S.prio]
  | 6 => fun v w => ∃ A c, v = .slice A l.length c ∧ Nums .i64 w A l
  | 7 => fun v _ => v = .agg #[.string S.name, .slice LA S.labels.length lc, .slice IA S.init.length ic, .slice MA S.main.length mc, .int .i64 S.restart, .int .i64 S.grace, .int .i64 S.prio]
  | 8 => fun v w => ∃ A c, v = .slice A l.length c ∧ Nums .i64 w A l
  | 9 => fun v _ => v = .bool true
  | 10 => fun v _ => v = .bool false
  | 11 => fun v _ => v = .bool false
  | 12 => fun v _ => v = .bool false
  | 13 => fun v _ => v = .agg #[.string S.name, .slice LA S.labels.length lc, .slice IA S.init.length ic, .slice MA S.main.length mc, .int .i64 S.restart, .int .i64 S.grace, .int .i64 S.prio]
  | 14 => fun v _ => v = .agg #[.string T.name, .slice LB T.labels.length ld, .slice IB T.init.length id, .slice MB T.main.length md, .int .i64 T.restart, .int .i64 T.grace, .int .i64 T.prio]
  | 15 => fun v _ => v = .bool q
  | 16 => fun v _ => v = .agg #[.string S.name, .slice LA S.labels.length lc, .slice IA S.init.length ic, .slice MA S.main.length mc, .int .i64 S.restart, .int .i64 S.grace, .int .i64 S.prio]
  | 17 => fun v _ => v = .agg #[.string T.name, .slice LB T.labels.length ld, .slice IB T.init.length id, .slice MB T.main.length md, .int .i64 T.restart, .int .i64 T.grace, .int .i64 T.prio]
  | 18 => fun v _ => v = .bool q
  | 19 => fun v _ => v = .bool false
  | 20 => fun v _ => v = .bool false
  | 21 => fun v _ => v = .bool false
  | 22 => fun v _ => v = .agg #[.string S.name, .slice LA S.labels.length lc, .slice IA S.init.length ic, .slice MA S.main.length mc, .int .i64 S.restart, .int .i64 S.grace, .int .i64 S.prio]
  | 23 => fun v _ => v = .agg #[.string S.name, .slice CL S.labels.length cl, .slice CI S.init.length ci, .slice CM S.main.length cm, .int .i64 S.restart, .int .i64 S.grace, .int .i64 S.prio]
  | 24 => fun v _ => v = .bool true
  | 25 => fun v _ => v = .bool false
  | _ => fun v _ => v = .bool false
theorem F5_keep (S T : Spc) (LA : Option Addr) (lc : Nat) (IA : Option Addr) (ic : Nat) (MA : Option Addr) (mc : Nat) (LB : Option Addr) (ld : Nat) (IB : Option Addr) (id : Nat) (MB : Option Addr) (md : Nat) (CL : Option Addr) (cl : Nat) (CI : Option Addr) (ci : Nat) (CM : Option Addr) (cm : Nat) (q : Bool) (l : List Int) (i : Nat) (v : Value) (w w' : World) (h : F5 S T LA lc IA ic MA mc LB ld IB id MB md CL cl CI ci CM cm q l i v w) (hb : Below w.heap.size w w') : F5 S T LA lc IA ic MA mc LB ld IB id MB md CL cl CI ci CM cm q l i v w' := by
  unfold F5 at h ⊢
  split at h <;> first | exact h | (obtain ⟨A, c, h1, h2⟩ := h; exact ⟨A, c, h1, Nums.below h2 hb⟩)
-- F5 END

set_option maxRecDepth 100000 in
set_option maxHeartbeats 4000000 in
theorem walk (S : Spc) (LA : Option Addr) (lc : Nat) (IA : Option Addr) (ic : Nat) (MA : Option Addr) (mc : Nat) (T : Spc) (LB : Option Addr) (ld : Nat) (IB : Option Addr) (id : Nat) (MB : Option Addr) (md : Nat) (w : World) (hL : SLaid w) (h : S.In w LA lc IA ic MA mc) (hT : T.In w LB ld IB id MB md) :
    Calls Tryz.prog 3 #[.agg #[.string S.name, .slice LA S.labels.length lc, .slice IA S.init.length ic, .slice MA S.main.length mc, .int .i64 S.restart, .int .i64 S.grace, .int .i64 S.prio], .agg #[.string T.name, .slice LB T.labels.length ld, .slice IB T.init.length id, .slice MB T.main.length md, .int .i64 T.restart, .int .i64 T.grace, .int .i64 T.prio]] w fun e w' => e = .returned (.bool true) ∧ Below w.heap.size w w' := by
  have HL := Lib.hid hL
  have H := Lib.hid h
  have HT := Lib.hid hT
  clear hL h hT
  go_enter Tryz.func3, Tryz.ntmps3
  go_wp2_with fail
  obtain ⟨w0, hw0⟩ : ∃ w0, (w.alloc (.cells #[.string S.name, .slice LA S.labels.length lc, .slice IA S.init.length ic, .slice MA S.main.length mc, .int .i64 S.restart, .int .i64 S.grace, .int .i64 S.prio] 25)).alloc (.cells #[.string T.name, .slice LB T.labels.length ld, .slice IB T.init.length id, .slice MB T.main.length md, .int .i64 T.restart, .int .i64 T.grace, .int .i64 T.prio] 25) = w0 := ⟨_, rfl⟩
  have B0 := Lib.hid (show Below w.heap.size w w0 by rw [← hw0]; exact ((Below.refl _ _).alloc (Nat.le_refl _) _).alloc (by simp) _)
  have SB0 := Lib.hid (show SBox S LA lc IA ic MA mc w0 w.heap.size by rw [← hw0]; exact (two_new w _ _).1)
  have TB0 := Lib.hid (show SBox T LB ld IB id MB md w0 (w.heap.size + 1) by rw [← hw0]; exact (two_new w _ _).2)
  rw [hw0]
  obtain ⟨bA, hbA⟩ : ∃ b, w.heap.size = b := ⟨_, rfl⟩
  obtain ⟨bB, hbB⟩ : ∃ b, bA + 1 = b := ⟨_, rfl⟩
  rw [hbA] at SB0 TB0 ⊢
  rw [hbB] at TB0 ⊢
  clear hw0 hbA hbB
  refine (light_any S LA lc IA ic MA mc w0 (H.out.below B0.out)).mono ?_
  rintro e w1 ⟨rfl, hb1⟩
  have B1 := Lib.hid (B0.out.trans (hb1.mono B0.out.size))
  have SB1 := Lib.hid (SB0.out.below hb1)
  have TB1 := Lib.hid (TB0.out.below hb1)
  clear hb1 SB0 TB0
  cases hlt : LightB S with
  | false =>
    go_wp2_with fail
    refine (works_any w1 (HL.out.below B1.out)).mono ?_
    rintro e w3 ⟨rfl, hb3⟩
    go_wp2
    go_ret
    exact ⟨rfl, B1.out.trans (hb3.mono B1.out.size)⟩
  | true =>
    have HLT := Lib.hid (LightB_iff.1 hlt)
    clear hlt
    obtain ⟨c0, c1, c2, c3, c4, c5, c6⟩ := TB1.out.cells
    go_wp2_with fail
    refine (light_any T LB ld IB id MB md w1 (HT.out.below B1.out)).mono ?_
    rintro e w2 ⟨rfl, hb2⟩
    have B2 := Lib.hid (B1.out.trans (hb2.mono B1.out.size))
    have SB2 := Lib.hid (SB1.out.below hb2)
    have TB2 := Lib.hid (TB1.out.below hb2)
    clear hb2 SB1 TB1 c0 c1 c2 c3 c4 c5 c6
    cases hlt : LightB T with
    | false =>
      go_wp2_with fail
      refine (works_any w2 (HL.out.below B2.out)).mono ?_
      rintro e w3 ⟨rfl, hb3⟩
      go_wp2
      go_ret
      exact ⟨rfl, B2.out.trans (hb3.mono B2.out.size)⟩
    | true =>
      clear hlt
      have z1 : S.name.size ≤ 1000 := by have := HLT.out.1.1; omega
      have z2 : S.labels.length ≤ 1000 := by have := HLT.out.1.2.1; omega
      have z3 : S.init.length ≤ 1000 := by have := HLT.out.1.2.2.1; omega
      have z4 : S.main.length ≤ 1000 := by have := HLT.out.1.2.2.2; omega
      have Z5 := Lib.hid (show ∀ x ∈ S.labels, x.key.size ≤ 1000 ∧ x.val.size ≤ 1000 from fun x hx => by obtain ⟨h1, h2⟩ := HLT.out.2.1 x hx; omega)
      have Z6 := Lib.hid (show ∀ x ∈ S.init, x.name.size ≤ 1000 ∧ x.image.size ≤ 1000 ∧ x.ports.length ≤ 1000 from fun x hx => by obtain ⟨h1, h2, h3⟩ := HLT.out.2.2.1 x hx; omega)
      have Z7 := Lib.hid (show ∀ x ∈ S.main, x.name.size ≤ 1000 ∧ x.image.size ≤ 1000 ∧ x.ports.length ≤ 1000 from fun x hx => by obtain ⟨h1, h2, h3⟩ := HLT.out.2.2.2 x hx; omega)
      have ZN := Lib.hid (⟨z1, z2, z3, z4⟩ : _ ∧ _ ∧ _ ∧ _)
      have HLM := Lib.hid (⟨HLT.out.2.2.2, z4⟩ : lightCs S.main ∧ S.main.length ≤ 1000)
      clear z1 z2 z3 z4
      have hfit := ports_fit H.out.main
      have hps : (S.main.flatMap (·.ports)).length ≤ 1000 := by
        have := flat_len S.main (fun x hx => (HLT.out.2.2.2 x hx).2.2)
        have := HLT.out.1.2.2.2
        omega
      obtain ⟨l, hl⟩ : ∃ l, S.main.flatMap (·.ports) = l := ⟨_, rfl⟩
      rw [hl] at hfit hps
      have HFIT := Lib.hid hfit
      have HPS := Lib.hid hps
      have HPE := Lib.hid hl
      clear hfit hps hl
      have HCL := Lib.hid (clone_any S LA lc IA ic MA mc ZN.out.1 ZN.out.2.1 Z5.out ZN.out.2.2.1 Z6.out ZN.out.2.2.2 Z7.out w2 (H.out.below B2.out))
      obtain ⟨c0, c1, c2, c3, c4, c5, c6⟩ := SB2.out.cells
      go_wp2_with fail
      refine HCL.out.mono ?_
      rintro e w3 ⟨CL, cl, CI, ci, CM, cm, rfl, hc, fL, tL, fI, fM, _, _, _, hb3, _⟩
      have HWL := Lib.hid (wlbls (hi := w3.heap.size) hc.labels fL tL (Nat.le_refl _))
      have HWI := Lib.hid (wctrs (hi := w3.heap.size) fI (fun x hx => (Z6.out x hx).2.2) (Nat.le_refl _))
      have HWM := Lib.hid (wctrs (hi := w3.heap.size) fM (fun x hx => (Z7.out x hx).2.2) (Nat.le_refl _))
      obtain ⟨w4, hw4⟩ : ∃ w4, w3.alloc (.cells #[.string S.name, .slice CL S.labels.length cl, .slice CI S.init.length ci, .slice CM S.main.length cm, .int .i64 S.restart, .int .i64 S.grace, .int .i64 S.prio] 25) = w4 := ⟨_, rfl⟩
      have hb4 : Below w3.heap.size w3 w4 := by rw [← hw4]; exact (Below.refl _ _).alloc (Nat.le_refl _) _
      have CB4 := Lib.hid (show SBox S CL cl CI ci CM cm w4 w3.heap.size by rw [← hw4]; exact heap_alloc_new w3 _)
      have C4 := Lib.hid (hc.below hb4)
      have N4 := Lib.hid hb4
      have hb24 : Below w2.heap.size w2 w4 := hb3.trans (hb4.mono hb3.size)
      have B4 := Lib.hid (B2.out.trans (hb24.mono B2.out.size))
      have HLA := Lib.hid SB2.out.lt
      have SB4 := Lib.hid (SB2.out.below hb24)
      have TB4 := Lib.hid (TB2.out.below hb24)
      clear HCL hc fL tL fI fM hb3 hb4 hb24 SB2 TB2 c0 c1 c2 c3 c4 c5 c6
      have HCL := Lib.hid (clone_any S CL cl CI ci CM cm ZN.out.1 ZN.out.2.1 Z5.out ZN.out.2.2.1 Z6.out ZN.out.2.2.2 Z7.out w4 C4.out)
      obtain ⟨c0, c1, c2, c3, c4, c5, c6⟩ := CB4.out.cells
      go_wp2_with fail
      clear hw4 c0 c1 c2 c3 c4 c5 c6
      obtain ⟨bC, hbC⟩ : ∃ b, w3.heap.size = b := ⟨_, rfl⟩
      rw [hbC] at CB4 ⊢
      have HBC0 := Lib.hid hbC
      clear hbC
      refine HCL.out.mono ?_
      rintro e w5' ⟨DL, dl, DI, di, DM, dm, rfl, hc, fL, tL, fI, fM, _, _, _, hb5', _⟩
      obtain ⟨w5, hw5⟩ : ∃ w5, w5'.alloc (.cells #[.string S.name, .slice DL S.labels.length dl, .slice DI S.init.length di, .slice DM S.main.length dm, .int .i64 S.restart, .int .i64 S.grace, .int .i64 S.prio] 25) = w5 := ⟨_, rfl⟩
      have hb5n : Below w5'.heap.size w5' w5 := by rw [← hw5]; exact (Below.refl _ _).alloc (Nat.le_refl _) _
      have DB := Lib.hid (show SBox S DL dl DI di DM dm w5 w5'.heap.size by rw [← hw5]; exact heap_alloc_new w5' _)
      have hb45 : Below w4.heap.size w4 w5 := hb5'.trans (hb5n.mono hb5'.size)
      have hsz45 := hb5'.size
      have B5 := Lib.hid (B4.out.trans (hb45.mono B4.out.size))
      have HBA := Lib.hid (SB4.out.below hb45)
      have HBB := Lib.hid (TB4.out.below hb45)
      have HBC := Lib.hid (CB4.out.below hb45)
      have HA := Lib.hid (H.out.below B5.out)
      have HB := Lib.hid (HT.out.below B5.out)
      have HC := Lib.hid (C4.out.below hb45)
      have D5 := Lib.hid (hc.below hb5n)
      have K5 := Lib.hid hb45
      have FL := Lib.hid fL
      have FI := Lib.hid (show CtrsFrom w4.heap.size w5 DI S.init from ctrs_ab (Ab.of_below hb5n) (Nat.le_refl _) fI)
      have FM := Lib.hid (show CtrsFrom w4.heap.size w5 DM S.main from ctrs_ab (Ab.of_below hb5n) (Nat.le_refl _) fM)
      clear HCL hc fL tL fI fM hb5' hb5n hb45 SB4 TB4 CB4
      obtain ⟨q, hq⟩ : ∃ q, sameS S T = q := ⟨_, rfl⟩
      have HQ := Lib.hid hq
      clear hq
      go_wp2_with fail
      clear hw5
      obtain ⟨bD, hbD⟩ : ∃ b, w5'.heap.size = b := ⟨_, rfl⟩
      rw [hbD] at DB ⊢
      have HLD := Lib.hid (show w3.heap.size ≤ bD by rw [← hbD]; exact Nat.le_trans N4.out.size hsz45)
      clear hbD hsz45
-- R5 BEGIN
      refine Loose.wp_region_walk (by kernel_rfl) (by kernel_rfl) (F5 S T LA lc IA ic MA mc LB ld IB id MB md CL cl CI ci CM cm q l) (F5_keep S T LA lc IA ic MA mc LB ld IB id MB md CL cl CI ci CM cm q l) ?_ ?_
      · refine ⟨?_, ?_, ?_, ?_, ?_, ?_, ?_, ?_, ?_, ?_, ?_, ?_, ?_, ?_, ?_, ?_, ?_, ?_, ?_, ?_, ?_, ?_, ?_, ?_, ?_, ?_, ?_, trivial⟩
        · intro a w1 hfr hdep
          obtain ⟨hc0, hc1, hc2, hc3, hc4, hc5, hc6⟩ := (HBC.out.below hfr.below).cells
          have f0 : a.tmps.getD 5 undef = .pointer (some ⟨bC, 0, none⟩) := hfr.slot 5 (by kernel_rfl)
          refine Loose.Step.value rfl (v := .agg #[.string S.name, .slice CL S.labels.length cl, .slice CI S.init.length ci, .slice CM S.main.length cm, .int .i64 S.restart, .int .i64 S.grace, .int .i64 S.prio]) (w' := w1) ?_ rfl (Below.refl _ _)
          simp [go_sem, Act.eval, f0, hc0, hc1, hc2, hc3, hc4, hc5, hc6]
        · intro a w1 hfr hdep
          obtain ⟨hc0, hc1, hc2, hc3, hc4, hc5, hc6⟩ := (HBA.out.below hfr.below).cells
          have f0 : a.tmps.getD 2 undef = .pointer (some ⟨bA, 0, none⟩) := hfr.slot 2 (by kernel_rfl)
          refine Loose.Step.value rfl (v := .agg #[.string S.name, .slice LA S.labels.length lc, .slice IA S.init.length ic, .slice MA S.main.length mc, .int .i64 S.restart, .int .i64 S.grace, .int .i64 S.prio]) (w' := w1) ?_ rfl (Below.refl _ _)
          simp [go_sem, Act.eval, f0, hc0, hc1, hc2, hc3, hc4, hc5, hc6]
        · intro a w1 hfr hdep
          have e0 : a.tmps.getD 21 undef = .agg #[.string S.name, .slice CL S.labels.length cl, .slice CI S.init.length ci, .slice CM S.main.length cm, .int .i64 S.restart, .int .i64 S.grace, .int .i64 S.prio] := Loose.dep_of hdep 0 21 (by kernel_rfl)
          have e1 : a.tmps.getD 22 undef = .agg #[.string S.name, .slice LA S.labels.length lc, .slice IA S.init.length ic, .slice MA S.main.length mc, .int .i64 S.restart, .int .i64 S.grace, .int .i64 S.prio] := Loose.dep_of hdep 1 22 (by kernel_rfl)
          refine Loose.Step.call rfl (f := 14) (args := #[.agg #[.string S.name, .slice CL S.labels.length cl, .slice CI S.init.length ci, .slice CM S.main.length cm, .int .i64 S.restart, .int .i64 S.grace, .int .i64 S.prio], .agg #[.string S.name, .slice LA S.labels.length lc, .slice IA S.init.length ic, .slice MA S.main.length mc, .int .i64 S.restart, .int .i64 S.grace, .int .i64 S.prio]]) ?_ ?_
          · simp [go_sem, Act.eval, e0, e1]
          · refine (sameSpec_any S CL cl CI ci CM cm S LA lc IA ic MA mc w1 (HC.out.below hfr.below) (HA.out.below hfr.below)).mono ?_
            rw [(sameS_iff S S).2 rfl]
            rintro e w2 ⟨rfl, hb⟩
            exact ⟨_, rfl, rfl, hb⟩
        · intro a w1 hfr hdep
          have e0 : a.tmps.getD 23 undef = .bool true := Loose.dep_of hdep 2 23 (by kernel_rfl)
          refine Loose.Step.value rfl (v := .bool false) (w' := w1) ?_ rfl (Below.refl _ _)
          simp [go_sem, Act.eval, e0]
        · intro a w1 hfr hdep
          have e0 : a.tmps.getD 24 undef = .bool false := Loose.dep_of hdep 3 24 (by kernel_rfl)
          refine Loose.Step.value rfl (v := .bool false) (w' := w1) ?_ rfl (Below.refl _ _)
          simp [go_sem, Act.eval, e0]
        · intro a w1 hfr hdep
          obtain ⟨hc0, hc1, hc2, hc3, hc4, hc5, hc6⟩ := (HBA.out.below hfr.below).cells
          have gd : a.tmps.getD 25 undef = .bool false := Loose.dep_of hdep 4 25 (by kernel_rfl)
          have f0 : a.tmps.getD 2 undef = .pointer (some ⟨bA, 0, none⟩) := hfr.slot 2 (by kernel_rfl)
          refine Loose.Step.valueG (Loose.wanted_of rfl rfl gd) (v := .agg #[.string S.name, .slice LA S.labels.length lc, .slice IA S.init.length ic, .slice MA S.main.length mc, .int .i64 S.restart, .int .i64 S.grace, .int .i64 S.prio]) (w' := w1) ?_ rfl (Below.refl _ _)
          simp [go_sem, Act.eval, f0, hc0, hc1, hc2, hc3, hc4, hc5, hc6]
        · intro a w1 hfr hdep
          have gd : a.tmps.getD 25 undef = .bool false := Loose.dep_of hdep 4 25 (by kernel_rfl)
          have e0 : a.tmps.getD 26 undef = .agg #[.string S.name, .slice LA S.labels.length lc, .slice IA S.init.length ic, .slice MA S.main.length mc, .int .i64 S.restart, .int .i64 S.grace, .int .i64 S.prio] := Loose.dep_of hdep 5 26 (by kernel_rfl)
          refine Loose.Step.callG (Loose.wanted_of rfl rfl gd) (f := 16) (args := #[.agg #[.string S.name, .slice LA S.labels.length lc, .slice IA S.init.length ic, .slice MA S.main.length mc, .int .i64 S.restart, .int .i64 S.grace, .int .i64 S.prio]]) ?_ ?_
          · simp [go_sem, Act.eval, e0]
          · refine (ports_any S LA lc IA ic MA mc HLM.out.1 HLM.out.2 w1 (HA.out.below hfr.below)).mono ?_
            rw [HPE.out]
            rintro e w2 ⟨v, rfl, hown, hb⟩
            obtain ⟨PA, pc, rfl⟩ := own_form hown
            exact ⟨_, rfl, ⟨PA, pc, rfl, own_nums rfl hown HFIT.out⟩, hb⟩
        · intro a w1 hfr hdep
          obtain ⟨hc0, hc1, hc2, hc3, hc4, hc5, hc6⟩ := (HBA.out.below hfr.below).cells
          have gd : a.tmps.getD 25 undef = .bool false := Loose.dep_of hdep 4 25 (by kernel_rfl)
          have f0 : a.tmps.getD 2 undef = .pointer (some ⟨bA, 0, none⟩) := hfr.slot 2 (by kernel_rfl)
          refine Loose.Step.valueG (Loose.wanted_of rfl rfl gd) (v := .agg #[.string S.name, .slice LA S.labels.length lc, .slice IA S.init.length ic, .slice MA S.main.length mc, .int .i64 S.restart, .int .i64 S.grace, .int .i64 S.prio]) (w' := w1) ?_ rfl (Below.refl _ _)
          simp [go_sem, Act.eval, f0, hc0, hc1, hc2, hc3, hc4, hc5, hc6]
        · intro a w1 hfr hdep
          have gd : a.tmps.getD 25 undef = .bool false := Loose.dep_of hdep 4 25 (by kernel_rfl)
          have e0 : a.tmps.getD 28 undef = .agg #[.string S.name, .slice LA S.labels.length lc, .slice IA S.init.length ic, .slice MA S.main.length mc, .int .i64 S.restart, .int .i64 S.grace, .int .i64 S.prio] := Loose.dep_of hdep 7 28 (by kernel_rfl)
          refine Loose.Step.callG (Loose.wanted_of rfl rfl gd) (f := 17) (args := #[.agg #[.string S.name, .slice LA S.labels.length lc, .slice IA S.init.length ic, .slice MA S.main.length mc, .int .i64 S.restart, .int .i64 S.grace, .int .i64 S.prio]]) ?_ ?_
          · simp [go_sem, Act.eval, e0]
          · refine (refports_any S LA lc IA ic MA mc HLM.out.1 HLM.out.2 w1 (HA.out.below hfr.below)).mono ?_
            rw [HPE.out]
            rintro e w2 ⟨v, rfl, hown, hb⟩
            obtain ⟨PA, pc, rfl⟩ := own_form hown
            exact ⟨_, rfl, ⟨PA, pc, rfl, own_nums rfl hown HFIT.out⟩, hb⟩
        · intro a w1 hfr hdep
          have gd : a.tmps.getD 25 undef = .bool false := Loose.dep_of hdep 4 25 (by kernel_rfl)
          obtain ⟨A6, c6, e0, hn6⟩ := (Loose.dep_of hdep 6 27 (by kernel_rfl) : (fun v w => ∃ A c, v = .slice A l.length c ∧ Nums .i64 w A l) (a.tmps.getD 27 undef) w1)
          obtain ⟨A8, c8, e1, hn8⟩ := (Loose.dep_of hdep 8 29 (by kernel_rfl) : (fun v w => ∃ A c, v = .slice A l.length c ∧ Nums .i64 w A l) (a.tmps.getD 29 undef) w1)
          refine Loose.Step.callG (Loose.wanted_of rfl rfl gd) (f := 15) (args := #[.slice A6 l.length c6, .slice A8 l.length c8]) ?_ ?_
          · simp [go_sem, Act.eval, e0, e1]
          · refine (sameInts_any A6 c6 l A8 c8 l (by have := HPS.out; omega) (by have := HPS.out; omega) w1 hn6 hn8).mono ?_
            rw [sameIs_iff.2 rfl]
            rintro e w2 ⟨rfl, hb⟩
            exact ⟨_, rfl, rfl, hb⟩
        · intro a w1 hfr hdep
          have gd : a.tmps.getD 25 undef = .bool false := Loose.dep_of hdep 4 25 (by kernel_rfl)
          have e0 : a.tmps.getD 30 undef = .bool true := Loose.dep_of hdep 9 30 (by kernel_rfl)
          refine Loose.Step.valueG (Loose.wanted_of rfl rfl gd) (v := .bool false) (w' := w1) ?_ rfl (Below.refl _ _)
          simp [go_sem, Act.eval, e0]
        · intro a w1 hfr hdep
          have e0 : a.tmps.getD 25 undef = .bool false := Loose.dep_of hdep 4 25 (by kernel_rfl)
          have e1 : a.tmps.getD 31 undef = .bool false := Loose.dep_of hdep 10 31 (by kernel_rfl)
          refine Loose.Step.value rfl (v := .bool false) (w' := w1) ?_ rfl (Below.refl _ _)
          simp [go_sem, Act.eval, e0, e1]
        · intro a w1 hfr hdep
          have e0 : a.tmps.getD 32 undef = .bool false := Loose.dep_of hdep 11 32 (by kernel_rfl)
          refine Loose.Step.value rfl (v := .bool false) (w' := w1) ?_ rfl (Below.refl _ _)
          simp [go_sem, Act.eval, e0]
        · intro a w1 hfr hdep
          obtain ⟨hc0, hc1, hc2, hc3, hc4, hc5, hc6⟩ := (HBA.out.below hfr.below).cells
          have gd : a.tmps.getD 33 undef = .bool false := Loose.dep_of hdep 12 33 (by kernel_rfl)
          have f0 : a.tmps.getD 2 undef = .pointer (some ⟨bA, 0, none⟩) := hfr.slot 2 (by kernel_rfl)
          refine Loose.Step.valueG (Loose.wanted_of rfl rfl gd) (v := .agg #[.string S.name, .slice LA S.labels.length lc, .slice IA S.init.length ic, .slice MA S.main.length mc, .int .i64 S.restart, .int .i64 S.grace, .int .i64 S.prio]) (w' := w1) ?_ rfl (Below.refl _ _)
          simp [go_sem, Act.eval, f0, hc0, hc1, hc2, hc3, hc4, hc5, hc6]
        · intro a w1 hfr hdep
          obtain ⟨hc0, hc1, hc2, hc3, hc4, hc5, hc6⟩ := (HBB.out.below hfr.below).cells
          have gd : a.tmps.getD 33 undef = .bool false := Loose.dep_of hdep 12 33 (by kernel_rfl)
          have f0 : a.tmps.getD 3 undef = .pointer (some ⟨bB, 0, none⟩) := hfr.slot 3 (by kernel_rfl)
          refine Loose.Step.valueG (Loose.wanted_of rfl rfl gd) (v := .agg #[.string T.name, .slice LB T.labels.length ld, .slice IB T.init.length id, .slice MB T.main.length md, .int .i64 T.restart, .int .i64 T.grace, .int .i64 T.prio]) (w' := w1) ?_ rfl (Below.refl _ _)
          simp [go_sem, Act.eval, f0, hc0, hc1, hc2, hc3, hc4, hc5, hc6]
        · intro a w1 hfr hdep
          have gd : a.tmps.getD 33 undef = .bool false := Loose.dep_of hdep 12 33 (by kernel_rfl)
          have e0 : a.tmps.getD 34 undef = .agg #[.string S.name, .slice LA S.labels.length lc, .slice IA S.init.length ic, .slice MA S.main.length mc, .int .i64 S.restart, .int .i64 S.grace, .int .i64 S.prio] := Loose.dep_of hdep 13 34 (by kernel_rfl)
          have e1 : a.tmps.getD 35 undef = .agg #[.string T.name, .slice LB T.labels.length ld, .slice IB T.init.length id, .slice MB T.main.length md, .int .i64 T.restart, .int .i64 T.grace, .int .i64 T.prio] := Loose.dep_of hdep 14 35 (by kernel_rfl)
          refine Loose.Step.callG (Loose.wanted_of rfl rfl gd) (f := 18) (args := #[.agg #[.string S.name, .slice LA S.labels.length lc, .slice IA S.init.length ic, .slice MA S.main.length mc, .int .i64 S.restart, .int .i64 S.grace, .int .i64 S.prio], .agg #[.string T.name, .slice LB T.labels.length ld, .slice IB T.init.length id, .slice MB T.main.length md, .int .i64 T.restart, .int .i64 T.grace, .int .i64 T.prio]]) ?_ ?_
          · simp [go_sem, Act.eval, e0, e1]
          · refine (same_any S LA lc IA ic MA mc T LB ld IB id MB md w1 (HA.out.below hfr.below) (HB.out.below hfr.below)).mono ?_
            rw [HQ.out]
            rintro e w2 ⟨rfl, hb⟩
            exact ⟨_, rfl, rfl, hb⟩
        · intro a w1 hfr hdep
          obtain ⟨hc0, hc1, hc2, hc3, hc4, hc5, hc6⟩ := (HBA.out.below hfr.below).cells
          have gd : a.tmps.getD 33 undef = .bool false := Loose.dep_of hdep 12 33 (by kernel_rfl)
          have f0 : a.tmps.getD 2 undef = .pointer (some ⟨bA, 0, none⟩) := hfr.slot 2 (by kernel_rfl)
          refine Loose.Step.valueG (Loose.wanted_of rfl rfl gd) (v := .agg #[.string S.name, .slice LA S.labels.length lc, .slice IA S.init.length ic, .slice MA S.main.length mc, .int .i64 S.restart, .int .i64 S.grace, .int .i64 S.prio]) (w' := w1) ?_ rfl (Below.refl _ _)
          simp [go_sem, Act.eval, f0, hc0, hc1, hc2, hc3, hc4, hc5, hc6]
        · intro a w1 hfr hdep
          obtain ⟨hc0, hc1, hc2, hc3, hc4, hc5, hc6⟩ := (HBB.out.below hfr.below).cells
          have gd : a.tmps.getD 33 undef = .bool false := Loose.dep_of hdep 12 33 (by kernel_rfl)
          have f0 : a.tmps.getD 3 undef = .pointer (some ⟨bB, 0, none⟩) := hfr.slot 3 (by kernel_rfl)
          refine Loose.Step.valueG (Loose.wanted_of rfl rfl gd) (v := .agg #[.string T.name, .slice LB T.labels.length ld, .slice IB T.init.length id, .slice MB T.main.length md, .int .i64 T.restart, .int .i64 T.grace, .int .i64 T.prio]) (w' := w1) ?_ rfl (Below.refl _ _)
          simp [go_sem, Act.eval, f0, hc0, hc1, hc2, hc3, hc4, hc5, hc6]
        · intro a w1 hfr hdep
          have gd : a.tmps.getD 33 undef = .bool false := Loose.dep_of hdep 12 33 (by kernel_rfl)
          have e0 : a.tmps.getD 37 undef = .agg #[.string S.name, .slice LA S.labels.length lc, .slice IA S.init.length ic, .slice MA S.main.length mc, .int .i64 S.restart, .int .i64 S.grace, .int .i64 S.prio] := Loose.dep_of hdep 16 37 (by kernel_rfl)
          have e1 : a.tmps.getD 38 undef = .agg #[.string T.name, .slice LB T.labels.length ld, .slice IB T.init.length id, .slice MB T.main.length md, .int .i64 T.restart, .int .i64 T.grace, .int .i64 T.prio] := Loose.dep_of hdep 17 38 (by kernel_rfl)
          refine Loose.Step.callG (Loose.wanted_of rfl rfl gd) (f := 14) (args := #[.agg #[.string S.name, .slice LA S.labels.length lc, .slice IA S.init.length ic, .slice MA S.main.length mc, .int .i64 S.restart, .int .i64 S.grace, .int .i64 S.prio], .agg #[.string T.name, .slice LB T.labels.length ld, .slice IB T.init.length id, .slice MB T.main.length md, .int .i64 T.restart, .int .i64 T.grace, .int .i64 T.prio]]) ?_ ?_
          · simp [go_sem, Act.eval, e0, e1]
          · refine (sameSpec_any S LA lc IA ic MA mc T LB ld IB id MB md w1 (HA.out.below hfr.below) (HB.out.below hfr.below)).mono ?_
            rw [HQ.out]
            rintro e w2 ⟨rfl, hb⟩
            exact ⟨_, rfl, rfl, hb⟩
        · intro a w1 hfr hdep
          have gd : a.tmps.getD 33 undef = .bool false := Loose.dep_of hdep 12 33 (by kernel_rfl)
          have e0 : a.tmps.getD 36 undef = .bool q := Loose.dep_of hdep 15 36 (by kernel_rfl)
          have e1 : a.tmps.getD 39 undef = .bool q := Loose.dep_of hdep 18 39 (by kernel_rfl)
          refine Loose.Step.valueG (Loose.wanted_of rfl rfl gd) (v := .bool false) (w' := w1) ?_ rfl (Below.refl _ _)
          cases q <;> simp [go_sem, Act.eval, e0, e1]
        · intro a w1 hfr hdep
          have e0 : a.tmps.getD 33 undef = .bool false := Loose.dep_of hdep 12 33 (by kernel_rfl)
          have e1 : a.tmps.getD 40 undef = .bool false := Loose.dep_of hdep 19 40 (by kernel_rfl)
          refine Loose.Step.value rfl (v := .bool false) (w' := w1) ?_ rfl (Below.refl _ _)
          simp [go_sem, Act.eval, e0, e1]
        · intro a w1 hfr hdep
          have e0 : a.tmps.getD 41 undef = .bool false := Loose.dep_of hdep 20 41 (by kernel_rfl)
          refine Loose.Step.value rfl (v := .bool false) (w' := w1) ?_ rfl (Below.refl _ _)
          simp [go_sem, Act.eval, e0]
        · intro a w1 hfr hdep
          obtain ⟨hc0, hc1, hc2, hc3, hc4, hc5, hc6⟩ := (HBA.out.below hfr.below).cells
          have gd : a.tmps.getD 42 undef = .bool false := Loose.dep_of hdep 21 42 (by kernel_rfl)
          have f0 : a.tmps.getD 2 undef = .pointer (some ⟨bA, 0, none⟩) := hfr.slot 2 (by kernel_rfl)
          refine Loose.Step.valueG (Loose.wanted_of rfl rfl gd) (v := .agg #[.string S.name, .slice LA S.labels.length lc, .slice IA S.init.length ic, .slice MA S.main.length mc, .int .i64 S.restart, .int .i64 S.grace, .int .i64 S.prio]) (w' := w1) ?_ rfl (Below.refl _ _)
          simp [go_sem, Act.eval, f0, hc0, hc1, hc2, hc3, hc4, hc5, hc6]
        · intro a w1 hfr hdep
          obtain ⟨hc0, hc1, hc2, hc3, hc4, hc5, hc6⟩ := (HBC.out.below hfr.below).cells
          have gd : a.tmps.getD 42 undef = .bool false := Loose.dep_of hdep 21 42 (by kernel_rfl)
          have f0 : a.tmps.getD 5 undef = .pointer (some ⟨bC, 0, none⟩) := hfr.slot 5 (by kernel_rfl)
          refine Loose.Step.valueG (Loose.wanted_of rfl rfl gd) (v := .agg #[.string S.name, .slice CL S.labels.length cl, .slice CI S.init.length ci, .slice CM S.main.length cm, .int .i64 S.restart, .int .i64 S.grace, .int .i64 S.prio]) (w' := w1) ?_ rfl (Below.refl _ _)
          simp [go_sem, Act.eval, f0, hc0, hc1, hc2, hc3, hc4, hc5, hc6]
        · intro a w1 hfr hdep
          have gd : a.tmps.getD 42 undef = .bool false := Loose.dep_of hdep 21 42 (by kernel_rfl)
          have e0 : a.tmps.getD 43 undef = .agg #[.string S.name, .slice LA S.labels.length lc, .slice IA S.init.length ic, .slice MA S.main.length mc, .int .i64 S.restart, .int .i64 S.grace, .int .i64 S.prio] := Loose.dep_of hdep 22 43 (by kernel_rfl)
          have e1 : a.tmps.getD 44 undef = .agg #[.string S.name, .slice CL S.labels.length cl, .slice CI S.init.length ci, .slice CM S.main.length cm, .int .i64 S.restart, .int .i64 S.grace, .int .i64 S.prio] := Loose.dep_of hdep 23 44 (by kernel_rfl)
          refine Loose.Step.callG (Loose.wanted_of rfl rfl gd) (f := 18) (args := #[.agg #[.string S.name, .slice LA S.labels.length lc, .slice IA S.init.length ic, .slice MA S.main.length mc, .int .i64 S.restart, .int .i64 S.grace, .int .i64 S.prio], .agg #[.string S.name, .slice CL S.labels.length cl, .slice CI S.init.length ci, .slice CM S.main.length cm, .int .i64 S.restart, .int .i64 S.grace, .int .i64 S.prio]]) ?_ ?_
          · simp [go_sem, Act.eval, e0, e1]
          · refine (same_any S LA lc IA ic MA mc S CL cl CI ci CM cm w1 (HA.out.below hfr.below) (HC.out.below hfr.below)).mono ?_
            rw [(sameS_iff S S).2 rfl]
            rintro e w2 ⟨rfl, hb⟩
            exact ⟨_, rfl, rfl, hb⟩
        · intro a w1 hfr hdep
          have gd : a.tmps.getD 42 undef = .bool false := Loose.dep_of hdep 21 42 (by kernel_rfl)
          have e0 : a.tmps.getD 45 undef = .bool true := Loose.dep_of hdep 24 45 (by kernel_rfl)
          refine Loose.Step.valueG (Loose.wanted_of rfl rfl gd) (v := .bool false) (w' := w1) ?_ rfl (Below.refl _ _)
          simp [go_sem, Act.eval, e0]
        · intro a w1 hfr hdep
          have e0 : a.tmps.getD 42 undef = .bool false := Loose.dep_of hdep 21 42 (by kernel_rfl)
          have e1 : a.tmps.getD 46 undef = .bool false := Loose.dep_of hdep 25 46 (by kernel_rfl)
          refine Loose.Step.value rfl (v := .bool false) (w' := w1) ?_ rfl (Below.refl _ _)
          simp [go_sem, Act.eval, e0, e1]
      · intro v0 v1 v2 v3 v4 v5 v6 v7 v8 v9 v10 v11 v12 v13 v14 v15 v16 v17 v18 v19 v20 v21 v22 v23 v24 v25 v26 w6 hb6 hC
        have h26 : v26 = .bool false := hC.2
        subst h26
        clear hC
-- R5 END
        have B6 := Lib.hid (B5.out.trans (hb6.mono B5.out.size))
        have CB6 := Lib.hid (HBC.out.below hb6)
        have DB6 := Lib.hid (DB.out.below hb6)
        have SB6 := Lib.hid (HBA.out.below hb6)
        have C6 := Lib.hid (HC.out.below hb6)
        have D6 := Lib.hid (D5.out.below hb6)
        have M6 := Lib.hid hb6
        clear hb6
        simp only [SpecOwn.put_lit, List.set_cons_succ, List.set_cons_zero]
        obtain ⟨c0, c1, c2, c3, c4, c5, c6⟩ := CB6.out.cells
        go_wp2_with fail
        refine (ports_any S CL cl CI ci CM cm HLM.out.1 HLM.out.2 w6 C6.out).mono ?_
        rw [HPE.out]
        rintro e w12 ⟨v, rfl, hown, hb12⟩
        obtain ⟨PA, pc, rfl⟩ := own_form hown
        have NW := Lib.hid (wnums (hi := w12.heap.size) (own_nums rfl hown HFIT.out) (own_from hown) (thaw_own hown) (Nat.le_refl _))
        have N12 := Lib.hid hb12
        clear hb12 hown c0 c1 c2 c3 c4 c5 c6
        go_wp2_with fail
        refine (spoilInts_any w6.heap.size w12.heap.size PA _ pc (by have := HPS.out; omega) w12 NW.out).mono ?_
        rintro e w13 ⟨rfl, hk13⟩
        have hb13 : Below w6.heap.size w6 w13 := N12.out.trans (hk13.below (Nat.le_refl _) N12.out.size)
        have B13 := Lib.hid (B6.out.trans (hb13.mono B6.out.size))
        have CB13 := Lib.hid (CB6.out.below hb13)
        have DB13 := Lib.hid (DB6.out.below hb13)
        have SB13 := Lib.hid (SB6.out.below hb13)
        have C13 := Lib.hid (C6.out.below hb13)
        have D13 := Lib.hid (D6.out.below hb13)
        have M13 := Lib.hid (M6.out.trans (hb13.mono M6.out.size))
        clear hk13 hb13 N12 NW CB6 DB6 SB6 C6 D6
        obtain ⟨c0, c1, c2, c3, c4, c5, c6⟩ := CB13.out.cells
        obtain ⟨d0, d1, d2, d3, d4, d5, d6⟩ := DB13.out.cells
        go_wp2_with fail
        refine (sameSpec_any S CL cl CI ci CM cm S DL dl DI di DM dm w13 C13.out D13.out).mono ?_
        rw [(sameS_iff S S).2 rfl]
        rintro e w14 ⟨rfl, hb14⟩
        have B14 := Lib.hid (B13.out.trans (hb14.mono B13.out.size))
        have CB14 := Lib.hid (CB13.out.below hb14)
        have DB14 := Lib.hid (DB13.out.below hb14)
        have SB14 := Lib.hid (SB13.out.below hb14)
        have D14 := Lib.hid (D13.out.below hb14)
        have M14 := Lib.hid (M13.out.trans (hb14.mono M13.out.size))
        clear hb14 CB13 DB13 SB13 C13 D13 c0 c1 c2 c3 c4 c5 c6 d0 d1 d2 d3 d4 d5 d6
        have K14 := Lib.hid (show Below w3.heap.size w3 w14 from N4.out.trans ((K5.out.trans (M14.out.mono K5.out.size)).mono N4.out.size))
        obtain ⟨c0, c1, c2, c3, c4, c5, c6⟩ := CB14.out.cells
        go_wp2_with fail
        refine (spoilSpec_any w2.heap.size w3.heap.size S.name CL S.labels.length cl CI S.init.length ci CM S.main.length cm S.restart S.grace S.prio (by have := ZN.out.2.1; omega) (by have := ZN.out.2.2.1; omega) (by have := ZN.out.2.2.2; omega) w14 K14.out.size (HWL.out.kin (Kin.of_below K14.out)) (HWI.out.kin (Kin.of_below K14.out)) (HWM.out.kin (Kin.of_below K14.out))).mono ?_
        rintro e w15 ⟨rfl, hk15⟩
        have hb15 : Below w.heap.size w w15 := B14.out.trans (hk15.below B2.out.size B14.out.size)
        have hab : Ab w3.heap.size w14 w15 := hk15.ab
        have hab5 : Ab w4.heap.size w5 w15 := (Ab.of_below M14.out).trans (hab.mono N4.out.size)
        have hd : S.In w15 DL dl DI di DM dm := ⟨lbls_ab hab5 D5.out.labels FL.out, ctrs_in (ctrs_ab hab5 (Nat.le_refl _) FI.out), ctrs_in (ctrs_ab hab5 (Nat.le_refl _) FM.out), D5.out.nl, D5.out.ni, D5.out.nm, D5.out.restart, D5.out.grace, D5.out.prio⟩
        have SB15 := Lib.hid (show SBox S LA lc IA ic MA mc w15 bA from (hk15.block bA SB14.out.lt (.inl HLA.out)).trans SB14.out)
        have DB15 := Lib.hid (show SBox S DL dl DI di DM dm w15 bD from (hk15.block bD DB14.out.lt (.inr HLD.out)).trans DB14.out)
        have B15 := Lib.hid hb15
        have D15 := Lib.hid hd
        clear hk15 hb15 hab hab5 hd c0 c1 c2 c3 c4 c5 c6
        obtain ⟨c0, c1, c2, c3, c4, c5, c6⟩ := SB15.out.cells
        obtain ⟨d0, d1, d2, d3, d4, d5, d6⟩ := DB15.out.cells
        go_wp2_with fail
        refine (sameSpec_any S DL dl DI di DM dm S LA lc IA ic MA mc w15 D15.out (H.out.below B15.out)).mono ?_
        rw [(sameS_iff S S).2 rfl]
        rintro e w16 ⟨rfl, hb16⟩
        have B16 := Lib.hid (B15.out.trans (hb16.mono B15.out.size))
        clear hb16
        go_wp2_with fail
        refine (works_any w16 (HL.out.below B16.out)).mono ?_
        rintro e w17 ⟨rfl, hb17⟩
        go_wp2
        go_ret
        exact ⟨rfl, B16.out.trans (hb17.mono B16.out.size)⟩
end Go.Proofs.YtefkaebdfkjkgaaGreatDoor.SpecClonesWalk
