/-
  The walk of the law PackRaws: it returns true, and leaves all that was there as it was. Condition: as SpecStep.
-/
import Derived.Test.YtmeilidjomjocaaGreatDoorPackAll
import Derived.Test.YtmeilidjomjocaaGreatDoorPackRefSpec
set_option linter.unusedVariables false
set_option linter.unusedSimpArgs false
namespace Go.Proofs.YtmeilidjomjocaaGreatDoor.PackRawsWalk
open Go.ChangeShapes Go.WideShapes Go.ChangeAt Go.RowKit Go.Lib
open LebMath WirePure Sd Wire SpecOwn SpecRef Book Pk

theorem unwanted_of {ops : Array Oper} {o : Oper} {a : Act} {j d : Nat} {b : Bool} (hg : o.guard = some (j, !b)) (hj : (ops[j]?).bind (·.dst) = some d) (hv : a.tmps.getD d undef = .bool b) : Region.wanted o (yielded ops a.tmps) = false := by
  have hs : a.tmps[d]? = some (.bool b) := by
    rw [Array.getD_eq_getD_getElem?] at hv
    cases h : a.tmps[d]? with
    | none => rw [h] at hv; simp [undef] at hv
    | some x => rw [h] at hv; simp at hv; rw [hv]
  unfold Region.wanted
  rw [hg]
  simp [yielded, hj, hs]
theorem unwanted_no {ops : Array Oper} {o : Oper} {a : Act} {j d : Nat} {b : Bool} (hg : o.guard = some (j, b)) (hj : (ops[j]?).bind (·.dst) = some d) (hv : a.tmps.getD d undef = undef) : Region.wanted o (yielded ops a.tmps) = false := by
  rw [Array.getD_eq_getD_getElem?] at hv
  unfold Region.wanted
  rw [hg]
  cases h : a.tmps[d]? with
  | none => simp [yielded, hj, h]
  | some x =>
    rw [h] at hv
    simp only [Option.getD_some] at hv
    subst hv
    simp [yielded, hj, h, undef]

/-- what each operation leaves -/
def FZ (s : ByteArray) (S : Spc) (LA : Option Addr) (lc : Nat) (IA : Option Addr) (ic : Nat) (MA : Option Addr) (mc : Nat) (LB : Option Addr) (ld : Nat) (IB : Option Addr) (ie : Nat) (MB : Option Addr) (md : Nat) (g bx bq A1 : Nat) (c1 : Int) : Nat → Value → World → Prop
  | 0 => fun v _ => v = .pointer (some ⟨g, 0, none⟩)
  | 1 => fun v _ => v = .int .i64 0
  | 2 => fun v _ => v = .pointer (some ⟨bq, 2, none⟩)
  | 3 => fun v _ => v = .int .i64 0
  | 4 => fun v _ => v = .bool true
  | 5 => fun v _ => v = .bool true
  | 6 => fun v _ => v = .pointer (some ⟨bq, 2, none⟩)
  | 7 => fun v _ => v = .int .i64 0
  | 8 => fun v _ => v = .bool false
  | 9 => fun v _ => v = .bool false
  | 10 => fun v _ => v = .agg #[.string S.name, .slice LA S.labels.length lc, .slice IA S.init.length ic, .slice MA S.main.length mc, .int .i64 S.restart, .int .i64 S.grace, .int .i64 S.prio]
  | 11 => fun v _ => v = .agg #[.string S.name, .slice LB S.labels.length ld, .slice IB S.init.length ie, .slice MB S.main.length md, .int .i64 S.restart, .int .i64 S.grace, .int .i64 S.prio]
  | 12 => fun v _ => v = .bool true
  | 13 => fun v _ => v = .bool true
  | 14 => fun v _ => v = .pointer (some ⟨g, 0, none⟩)
  | 15 => fun v _ => v = .int .i64 ((s.size : Int) - (A1 : Int))
  | 16 => fun v _ => v = .string s
  | 17 => fun v _ => v = .int .i64 (s.size : Int)
  | 18 => fun v _ => v = .pointer (some ⟨bq, 1, none⟩)
  | 19 => fun v _ => v = .int .i64 (A1 : Int)
  | 20 => fun v _ => v = .int .i64 ((s.size : Int) - (A1 : Int))
  | 21 => fun v _ => v = .bool true
  | 22 => fun v _ => v = .bool true
  | 23 => fun v _ => v = .bool true
  | 24 => fun v _ => v = .bool true
  | 25 => fun v _ => v = .bool true
  | 26 => fun v _ => v = .bool true
  | 27 => fun v _ => v = .bool true
  | _ => fun v _ => v = .bool true
theorem FZ_keep (s : ByteArray) (S : Spc) (LA : Option Addr) (lc : Nat) (IA : Option Addr) (ic : Nat) (MA : Option Addr) (mc : Nat) (LB : Option Addr) (ld : Nat) (IB : Option Addr) (ie : Nat) (MB : Option Addr) (md : Nat) (g bx bq A1 : Nat) (c1 : Int) (i_ : Nat) (v_ : Value) (w_ w2_ : World) (h_ : FZ s S LA lc IA ic MA mc LB ld IB ie MB md g bx bq A1 c1 i_ v_ w_) (hb_ : Below w_.heap.size w_ w2_) : FZ s S LA lc IA ic MA mc LB ld IB ie MB md g bx bq A1 c1 i_ v_ w2_ := by
  unfold FZ at h_ ⊢
  split at h_ <;> exact h_

/-- what each operation leaves -/
def FN (s : ByteArray) (S : Spc) (LA : Option Addr) (lc : Nat) (IA : Option Addr) (ic : Nat) (MA : Option Addr) (mc : Nat) (LB : Option Addr) (ld : Nat) (IB : Option Addr) (ie : Nat) (MB : Option Addr) (md : Nat) (g bx bq A1 : Nat) (c1 : Int) : Nat → Value → World → Prop
  | 0 => fun v _ => v = .pointer (some ⟨g, 0, none⟩)
  | 1 => fun v _ => v = .int .i64 c1
  | 2 => fun v _ => v = .pointer (some ⟨bq, 2, none⟩)
  | 3 => fun v _ => v = .int .i64 c1
  | 4 => fun v _ => v = .bool true
  | 5 => fun v _ => v = .bool true
  | 6 => fun v _ => v = .pointer (some ⟨bq, 2, none⟩)
  | 7 => fun v _ => v = .int .i64 c1
  | 8 => fun v _ => v = .bool true
  | 9 => fun v _ => v = .bool true
  | 10 => fun v _ => v = undef
  | 11 => fun v _ => v = undef
  | 12 => fun v _ => v = undef
  | 13 => fun v _ => v = undef
  | 14 => fun v _ => v = undef
  | 15 => fun v _ => v = undef
  | 16 => fun v _ => v = undef
  | 17 => fun v _ => v = undef
  | 18 => fun v _ => v = undef
  | 19 => fun v _ => v = undef
  | 20 => fun v _ => v = undef
  | 21 => fun v _ => v = undef
  | 22 => fun v _ => v = undef
  | 23 => fun v _ => v = .bool true
  | 24 => fun v _ => v = .bool true
  | 25 => fun v _ => v = .bool true
  | 26 => fun v _ => v = .bool true
  | 27 => fun v _ => v = .bool true
  | _ => fun v _ => v = .bool true
theorem FN_keep (s : ByteArray) (S : Spc) (LA : Option Addr) (lc : Nat) (IA : Option Addr) (ic : Nat) (MA : Option Addr) (mc : Nat) (LB : Option Addr) (ld : Nat) (IB : Option Addr) (ie : Nat) (MB : Option Addr) (md : Nat) (g bx bq A1 : Nat) (c1 : Int) (i_ : Nat) (v_ : Value) (w_ w2_ : World) (h_ : FN s S LA lc IA ic MA mc LB ld IB ie MB md g bx bq A1 c1 i_ v_ w_) (hb_ : Below w_.heap.size w_ w2_) : FN s S LA lc IA ic MA mc LB ld IB ie MB md g bx bq A1 c1 i_ v_ w2_ := by
  unfold FN at h_ ⊢
  split at h_ <;> exact h_

set_option maxRecDepth 100000 in
set_option maxHeartbeats 4000000 in
theorem walk (s : ByteArray) (w : World) (hL : SLaid w) :
    Calls Tryz.prog 3 #[.string s] w fun e w' => e = .returned (.bool true) ∧ Below w.heap.size w w' := by
  have HL := Lib.hid hL
  obtain ⟨⟨S, c1, l1⟩, hq⟩ : ∃ q, specC.rd 0 s.data.toList = q := ⟨_, rfl⟩
  have HQ := Lib.hid hq
  clear hL hq
  go_enter Tryz.func3, Tryz.ntmps3
  by_cases hlen : 3000 < s.size
  · have hlen' : (3000 : Int) < (s.size : Int) := by omega
    go_wp2_with fail
    refine (works_any w HL.out).mono ?_
    rintro e w1 ⟨rfl, hb1⟩
    have B1 := Lib.hid hb1
    clear hb1
    go_wp2_with fail
    go_ret
    exact ⟨rfl, B1.out⟩
  have hlen' : ¬ (3000 : Int) < (s.size : Int) := by omega
  have HSL := Lib.hid (show s.size ≤ 3000 by omega)
  have HFW := Lib.hid (show Few s.data.toList by show s.data.toList.length ≤ 281474976710656; rw [Array.length_toList]; show s.size ≤ _; omega)
  have HA := Lib.hid (show At s 0 s.data.toList from ⟨Nat.zero_le _, rfl⟩)
  clear hlen
  go_wp2_with fail
  refine (read_any s w).mono ?_
  rintro e w1 ⟨rfl, h1, hb1, hs1⟩
  obtain ⟨g, hg⟩ : ∃ b, w.heap.size = b := ⟨_, rfl⟩
  have HGG := Lib.hid hg
  have B1 := Lib.hid hb1
  rw [hg] at h1 ⊢
  have R1 := Lib.hid h1
  clear h1 hb1 hs1 hg
  go_wp2_with fail
  refine (raw_rd g 0 s.data.toList HFW.out S c1 l1 HQ.out w1 R1.out).mono ?_
  rintro e w2 ⟨LA, lc, IA, ic, MA, mc, rfl, hup, h2, k2⟩
  have B2 := Lib.hid (B1.out.trans (k2.below (fun k hk => ⟨Nat.lt_of_lt_of_le hk B1.out.size, by have := HGG.out; omega⟩)))
  have R2 := Lib.hid h2
  have U2 := Lib.hid (show SpcUp g S w2 LA IA MA from hup.less (by have := lt_of_block R1.out; omega))
  clear h2 k2 hup
  obtain ⟨w3, hw3⟩ : ∃ v, w2.alloc (.cells #[.string S.name, .slice LA S.labels.length lc, .slice IA S.init.length ic, .slice MA S.main.length mc, .int .i64 S.restart, .int .i64 S.grace, .int .i64 S.prio] 28) = v := ⟨_, rfl⟩
  have hb3 : Below w2.heap.size w2 w3 := by rw [← hw3]; exact (Below.refl _ _).alloc (Nat.le_refl _) _
  have XB3 := Lib.hid (show w3.heap[w2.heap.size]? = some (.cells #[.string S.name, .slice LA S.labels.length lc, .slice IA S.init.length ic, .slice MA S.main.length mc, .int .i64 S.restart, .int .i64 S.grace, .int .i64 S.prio] 28) by rw [← hw3]; exact heap_alloc_new w2 _)
  have B3 := Lib.hid (B2.out.trans (hb3.mono B2.out.size))
  have R3 := Lib.hid (R2.out.below hb3)
  have U3 := Lib.hid (U2.out.below hb3)
  clear hb3 R2 U2
  go_wp2_with fail
  obtain ⟨bx, hbx⟩ : ∃ b, w2.heap.size = b := ⟨_, rfl⟩
  rw [hbx] at XB3 ⊢
  clear hbx
  first | rw [hw3] | skip
  clear hw3
  refine (take_ref s (by have := HSL.out; omega) 0 0 s.data.toList HA.out S c1 l1 HQ.out w3).mono ?_
  rintro e w4 ⟨A1, LB, IB, MB, n2, ld, n3, ie, n4, md, rfl, h4, hup4, hb4⟩
  have A4 := Lib.hid h4
  have V4 := Lib.hid hup4
  have XB4 := Lib.hid ((hb4.block bx (lt_of_block XB3.out)).trans XB3.out)
  have B4 := Lib.hid (B3.out.trans (hb4.mono B3.out.size))
  have R4 := Lib.hid (R3.out.below hb4)
  have U4 := Lib.hid (U3.out.below hb4)
  clear h4 hup4 hb4 XB3 R3 U3
  obtain ⟨w6, hw6⟩ : ∃ v, (w4.alloc (.cells #[.string s, .int .i64 A1, .int .i64 c1] 31)).alloc (.cells #[.string S.name, .slice LB n2 ld, .slice IB n3 ie, .slice MB n4 md, .int .i64 S.restart, .int .i64 S.grace, .int .i64 S.prio] 28) = v := ⟨_, rfl⟩
  have HBX := Lib.hid (two_boxes w4 _ _ w6 hw6)
  have hb46 : Below w4.heap.size w4 w6 := HBX.out.1
  have QB := Lib.hid HBX.out.2.1
  have YB := Lib.hid HBX.out.2.2
  clear HBX
  have XB := Lib.hid ((hb46.block bx (lt_of_block XB4.out)).trans XB4.out)
  have B6 := Lib.hid (B4.out.trans (hb46.mono B4.out.size))
  have R6 := Lib.hid (R4.out.below hb46)
  have U6 := Lib.hid (U4.out.below hb46)
  have V6c := Lib.hid (show c1 = 0 → n2 = S.labels.length ∧ n3 = S.init.length ∧ n4 = S.main.length ∧ SpcUp w3.heap.size S w6 LB IB MB from fun h0 => ⟨(V4.out h0).1, (V4.out h0).2.1, (V4.out h0).2.2.1, (V4.out h0).2.2.2.below hb46⟩)
  clear hb46 XB4 R4 U4 V4
  have hlen := A4.out.len
  have hle := A4.out.1
  go_wp2_with fail
  first | rw [hw6] | skip
  obtain ⟨bq, hbq⟩ : ∃ b, w4.heap.size = b := ⟨_, rfl⟩
  rw [hbq] at QB YB ⊢
  clear hw6 hbq
  by_cases hz : c1 = 0
  · subst hz
    obtain ⟨rfl, rfl, rfl, hv6⟩ := V6c.out rfl
    have V6 := Lib.hid hv6
    have HLEN := Lib.hid (show ((l1.length : Nat) : Int) = (s.size : Int) - (A1 : Int) by omega)
    have HWR := Lib.hid (show IntKind.i64.wrap ((s.size : Int) - (A1 : Int)) = (s.size : Int) - (A1 : Int) from IntWalk.i64_in _ (by omega))
    clear hv6 V6c hlen hle
    refine Loose.wp_region_walk (by kernel_rfl) (by kernel_rfl) (FZ s S LA lc IA ic MA mc LB ld IB ie MB md g bx bq A1 0) (FZ_keep s S LA lc IA ic MA mc LB ld IB ie MB md g bx bq A1 0) ?_ ?_
    · refine ⟨?_, ?_, ?_, ?_, ?_, ?_, ?_, ?_, ?_, ?_, ?_, ?_, ?_, ?_, ?_, ?_, ?_, ?_, ?_, ?_, ?_, ?_, ?_, ?_, ?_, ?_, ?_, ?_, ?_, trivial⟩
      · intro a w1 hfr hdep
        have f0 : a.tmps.getD 3 undef = .pointer (some ⟨g, 0, none⟩) := hfr.slot 3 (by kernel_rfl)
        refine Loose.Step.value rfl (v := .pointer (some ⟨g, 0, none⟩)) (w' := w1) ?_ rfl (Below.refl _ _)
        simp [go_sem, Act.eval, f0]
      · intro a w1 hfr hdep
        have e0 : a.tmps.getD 23 undef = .pointer (some ⟨g, 0, none⟩) := Loose.dep_of hdep 0 23 (by kernel_rfl)
        refine Loose.Step.call rfl (f := 14) (args := #[.pointer (some ⟨g, 0, none⟩)]) ?_ ?_
        · simp [go_sem, Act.eval, e0]
        · refine (code_any g 0 l1 w1 (R6.out.below hfr.below)).mono ?_
          rintro e w2 ⟨rfl, rfl⟩
          exact ⟨_, rfl, rfl, Below.refl _ _⟩
      · intro a w1 hfr hdep
        have f0 : a.tmps.getD 5 undef = .pointer (some ⟨bq, 0, none⟩) := hfr.slot 5 (by kernel_rfl)
        refine Loose.Step.value rfl (v := .pointer (some ⟨bq, 2, none⟩)) (w' := w1) ?_ rfl (Below.refl _ _)
        simp [go_sem, Act.eval, f0]
      · intro a w1 hfr hdep
        have hq_ := (hfr.below.block bq (lt_of_block QB.out)).trans QB.out
        have hc_ := box_cell hq_ 2 rfl
        have e0 : a.tmps.getD 25 undef = .pointer (some ⟨bq, 2, none⟩) := Loose.dep_of hdep 2 25 (by kernel_rfl)
        refine Loose.Step.value rfl (v := .int .i64 0) (w' := w1) ?_ rfl (Below.refl _ _)
        simp [go_sem, Act.eval, e0, hc_]
      · intro a w1 hfr hdep
        have e0 : a.tmps.getD 24 undef = .int .i64 0 := Loose.dep_of hdep 1 24 (by kernel_rfl)
        have e1 : a.tmps.getD 26 undef = .int .i64 0 := Loose.dep_of hdep 3 26 (by kernel_rfl)
        refine Loose.Step.value rfl (v := .bool true) (w' := w1) ?_ rfl (Below.refl _ _)
        simp [go_sem, Act.eval, e0, e1]
      · intro a w1 hfr hdep
        have e0 : a.tmps.getD 27 undef = .bool true := Loose.dep_of hdep 4 27 (by kernel_rfl)
        refine Loose.Step.value rfl (v := .bool true) (w' := w1) ?_ rfl (Below.refl _ _)
        simp [go_sem, Act.eval, e0]
      · intro a w1 hfr hdep
        have gd : a.tmps.getD 28 undef = .bool true := Loose.dep_of hdep 5 28 (by kernel_rfl)
        have f0 : a.tmps.getD 5 undef = .pointer (some ⟨bq, 0, none⟩) := hfr.slot 5 (by kernel_rfl)
        refine Loose.Step.valueG (Loose.wanted_of rfl rfl gd) (v := .pointer (some ⟨bq, 2, none⟩)) (w' := w1) ?_ rfl (Below.refl _ _)
        simp [go_sem, Act.eval, f0]
      · intro a w1 hfr hdep
        have hq_ := (hfr.below.block bq (lt_of_block QB.out)).trans QB.out
        have hc_ := box_cell hq_ 2 rfl
        have gd : a.tmps.getD 28 undef = .bool true := Loose.dep_of hdep 5 28 (by kernel_rfl)
        have e0 : a.tmps.getD 29 undef = .pointer (some ⟨bq, 2, none⟩) := Loose.dep_of hdep 6 29 (by kernel_rfl)
        refine Loose.Step.valueG (Loose.wanted_of rfl rfl gd) (v := .int .i64 0) (w' := w1) ?_ rfl (Below.refl _ _)
        simp [go_sem, Act.eval, e0, hc_]
      · intro a w1 hfr hdep
        have gd : a.tmps.getD 28 undef = .bool true := Loose.dep_of hdep 5 28 (by kernel_rfl)
        have e0 : a.tmps.getD 30 undef = .int .i64 0 := Loose.dep_of hdep 7 30 (by kernel_rfl)
        refine Loose.Step.valueG (Loose.wanted_of rfl rfl gd) (v := .bool false) (w' := w1) ?_ rfl (Below.refl _ _)
        simp [go_sem, Act.eval, e0]
      · intro a w1 hfr hdep
        have gd : a.tmps.getD 28 undef = .bool true := Loose.dep_of hdep 5 28 (by kernel_rfl)
        have e0 : a.tmps.getD 31 undef = .bool false := Loose.dep_of hdep 8 31 (by kernel_rfl)
        refine Loose.Step.valueG (Loose.wanted_of rfl rfl gd) (v := .bool false) (w' := w1) ?_ rfl (Below.refl _ _)
        simp [go_sem, Act.eval, e0]
      · intro a w1 hfr hdep
        have hq_ := (hfr.below.block bx (lt_of_block XB.out)).trans XB.out
        have hc0_ := box_cell hq_ 0 rfl
        have hc1_ := box_cell hq_ 1 rfl
        have hc2_ := box_cell hq_ 2 rfl
        have hc3_ := box_cell hq_ 3 rfl
        have hc4_ := box_cell hq_ 4 rfl
        have hc5_ := box_cell hq_ 5 rfl
        have hc6_ := box_cell hq_ 6 rfl
        have gd : a.tmps.getD 32 undef = .bool false := Loose.dep_of hdep 9 32 (by kernel_rfl)
        have f0 : a.tmps.getD 4 undef = .pointer (some ⟨bx, 0, none⟩) := hfr.slot 4 (by kernel_rfl)
        refine Loose.Step.valueG (Loose.wanted_of rfl rfl gd) (v := .agg #[.string S.name, .slice LA S.labels.length lc, .slice IA S.init.length ic, .slice MA S.main.length mc, .int .i64 S.restart, .int .i64 S.grace, .int .i64 S.prio]) (w' := w1) ?_ rfl (Below.refl _ _)
        simp [go_sem, Act.eval, f0, hc0_, hc1_, hc2_, hc3_, hc4_, hc5_, hc6_]
      · intro a w1 hfr hdep
        have hq_ := (hfr.below.block (bq + 1) (lt_of_block YB.out)).trans YB.out
        have hc0_ := box_cell hq_ 0 rfl
        have hc1_ := box_cell hq_ 1 rfl
        have hc2_ := box_cell hq_ 2 rfl
        have hc3_ := box_cell hq_ 3 rfl
        have hc4_ := box_cell hq_ 4 rfl
        have hc5_ := box_cell hq_ 5 rfl
        have hc6_ := box_cell hq_ 6 rfl
        have gd : a.tmps.getD 32 undef = .bool false := Loose.dep_of hdep 9 32 (by kernel_rfl)
        have f0 : a.tmps.getD 6 undef = .pointer (some ⟨bq + 1, 0, none⟩) := hfr.slot 6 (by kernel_rfl)
        refine Loose.Step.valueG (Loose.wanted_of rfl rfl gd) (v := .agg #[.string S.name, .slice LB S.labels.length ld, .slice IB S.init.length ie, .slice MB S.main.length md, .int .i64 S.restart, .int .i64 S.grace, .int .i64 S.prio]) (w' := w1) ?_ rfl (Below.refl _ _)
        simp [go_sem, Act.eval, f0, hc0_, hc1_, hc2_, hc3_, hc4_, hc5_, hc6_]
      · intro a w1 hfr hdep
        have gd : a.tmps.getD 32 undef = .bool false := Loose.dep_of hdep 9 32 (by kernel_rfl)
        have e0 : a.tmps.getD 33 undef = .agg #[.string S.name, .slice LA S.labels.length lc, .slice IA S.init.length ic, .slice MA S.main.length mc, .int .i64 S.restart, .int .i64 S.grace, .int .i64 S.prio] := Loose.dep_of hdep 10 33 (by kernel_rfl)
        have e1 : a.tmps.getD 34 undef = .agg #[.string S.name, .slice LB S.labels.length ld, .slice IB S.init.length ie, .slice MB S.main.length md, .int .i64 S.restart, .int .i64 S.grace, .int .i64 S.prio] := Loose.dep_of hdep 11 34 (by kernel_rfl)
        refine Loose.Step.callG (Loose.wanted_of rfl rfl gd) (f := 15) (args := #[.agg #[.string S.name, .slice LA S.labels.length lc, .slice IA S.init.length ic, .slice MA S.main.length mc, .int .i64 S.restart, .int .i64 S.grace, .int .i64 S.prio], .agg #[.string S.name, .slice LB S.labels.length ld, .slice IB S.init.length ie, .slice MB S.main.length md, .int .i64 S.restart, .int .i64 S.grace, .int .i64 S.prio]]) ?_ ?_
        · simp [go_sem, Act.eval, e0, e1]
        · refine (sameSpec_any S LA lc IA ic MA mc S LB ld IB ie MB md w1 (U6.out.below hfr.below).in (V6.out.below hfr.below).in).mono ?_
          rw [(sameS_iff S S).2 rfl]
          rintro e w2 ⟨rfl, hb⟩
          exact ⟨_, rfl, rfl, hb⟩
      · intro a w1 hfr hdep
        have gd : a.tmps.getD 32 undef = .bool false := Loose.dep_of hdep 9 32 (by kernel_rfl)
        have e0 : a.tmps.getD 35 undef = .bool true := Loose.dep_of hdep 12 35 (by kernel_rfl)
        refine Loose.Step.valueG (Loose.wanted_of rfl rfl gd) (v := .bool true) (w' := w1) ?_ rfl (Below.refl _ _)
        simp [go_sem, Act.eval, e0]
      · intro a w1 hfr hdep
        have gd : a.tmps.getD 36 undef = .bool true := Loose.dep_of hdep 13 36 (by kernel_rfl)
        have f0 : a.tmps.getD 3 undef = .pointer (some ⟨g, 0, none⟩) := hfr.slot 3 (by kernel_rfl)
        refine Loose.Step.valueG (Loose.wanted_of rfl rfl gd) (v := .pointer (some ⟨g, 0, none⟩)) (w' := w1) ?_ rfl (Below.refl _ _)
        simp [go_sem, Act.eval, f0]
      · intro a w1 hfr hdep
        have gd : a.tmps.getD 36 undef = .bool true := Loose.dep_of hdep 13 36 (by kernel_rfl)
        have e0 : a.tmps.getD 37 undef = .pointer (some ⟨g, 0, none⟩) := Loose.dep_of hdep 14 37 (by kernel_rfl)
        refine Loose.Step.callG (Loose.wanted_of rfl rfl gd) (f := 16) (args := #[.pointer (some ⟨g, 0, none⟩)]) ?_ ?_
        · simp [go_sem, Act.eval, e0]
        · refine (left_any g 0 l1 w1 (R6.out.below hfr.below)).mono ?_
          rw [HLEN.out]
          rintro e w2 ⟨rfl, rfl⟩
          exact ⟨_, rfl, rfl, Below.refl _ _⟩
      · intro a w1 hfr hdep
        have gd : a.tmps.getD 36 undef = .bool true := Loose.dep_of hdep 13 36 (by kernel_rfl)
        have f0 : a.tmps.getD 0 undef = .string s := hfr.slot 0 (by kernel_rfl)
        refine Loose.Step.valueG (Loose.wanted_of rfl rfl gd) (v := .string s) (w' := w1) ?_ rfl (Below.refl _ _)
        simp [go_sem, Act.eval, f0]
      · intro a w1 hfr hdep
        have gd : a.tmps.getD 36 undef = .bool true := Loose.dep_of hdep 13 36 (by kernel_rfl)
        have e0 : a.tmps.getD 39 undef = .string s := Loose.dep_of hdep 16 39 (by kernel_rfl)
        refine Loose.Step.valueG (Loose.wanted_of rfl rfl gd) (v := .int .i64 (s.size : Int)) (w' := w1) ?_ rfl (Below.refl _ _)
        simp [go_sem, Act.eval, e0]
      · intro a w1 hfr hdep
        have gd : a.tmps.getD 36 undef = .bool true := Loose.dep_of hdep 13 36 (by kernel_rfl)
        have f0 : a.tmps.getD 5 undef = .pointer (some ⟨bq, 0, none⟩) := hfr.slot 5 (by kernel_rfl)
        refine Loose.Step.valueG (Loose.wanted_of rfl rfl gd) (v := .pointer (some ⟨bq, 1, none⟩)) (w' := w1) ?_ rfl (Below.refl _ _)
        simp [go_sem, Act.eval, f0]
      · intro a w1 hfr hdep
        have hq_ := (hfr.below.block bq (lt_of_block QB.out)).trans QB.out
        have hc_ := box_cell hq_ 1 rfl
        have gd : a.tmps.getD 36 undef = .bool true := Loose.dep_of hdep 13 36 (by kernel_rfl)
        have e0 : a.tmps.getD 41 undef = .pointer (some ⟨bq, 1, none⟩) := Loose.dep_of hdep 18 41 (by kernel_rfl)
        refine Loose.Step.valueG (Loose.wanted_of rfl rfl gd) (v := .int .i64 (A1 : Int)) (w' := w1) ?_ rfl (Below.refl _ _)
        simp [go_sem, Act.eval, e0, hc_]
      · intro a w1 hfr hdep
        have gd : a.tmps.getD 36 undef = .bool true := Loose.dep_of hdep 13 36 (by kernel_rfl)
        have e0 : a.tmps.getD 40 undef = .int .i64 (s.size : Int) := Loose.dep_of hdep 17 40 (by kernel_rfl)
        have e1 : a.tmps.getD 42 undef = .int .i64 (A1 : Int) := Loose.dep_of hdep 19 42 (by kernel_rfl)
        refine Loose.Step.valueG (Loose.wanted_of rfl rfl gd) (v := .int .i64 ((s.size : Int) - (A1 : Int))) (w' := w1) ?_ rfl (Below.refl _ _)
        simp [go_sem, Act.eval, e0, e1, HWR.out]
      · intro a w1 hfr hdep
        have gd : a.tmps.getD 36 undef = .bool true := Loose.dep_of hdep 13 36 (by kernel_rfl)
        have e0 : a.tmps.getD 38 undef = .int .i64 ((s.size : Int) - (A1 : Int)) := Loose.dep_of hdep 15 38 (by kernel_rfl)
        have e1 : a.tmps.getD 43 undef = .int .i64 ((s.size : Int) - (A1 : Int)) := Loose.dep_of hdep 20 43 (by kernel_rfl)
        refine Loose.Step.valueG (Loose.wanted_of rfl rfl gd) (v := .bool true) (w' := w1) ?_ rfl (Below.refl _ _)
        simp [go_sem, Act.eval, e0, e1]
      · intro a w1 hfr hdep
        have gd : a.tmps.getD 32 undef = .bool false := Loose.dep_of hdep 9 32 (by kernel_rfl)
        have e0 : a.tmps.getD 36 undef = .bool true := Loose.dep_of hdep 13 36 (by kernel_rfl)
        have e1 : a.tmps.getD 44 undef = .bool true := Loose.dep_of hdep 21 44 (by kernel_rfl)
        refine Loose.Step.valueG (Loose.wanted_of rfl rfl gd) (v := .bool true) (w' := w1) ?_ rfl (Below.refl _ _)
        simp [go_sem, Act.eval, e0, e1]
      · intro a w1 hfr hdep
        have gd : a.tmps.getD 28 undef = .bool true := Loose.dep_of hdep 5 28 (by kernel_rfl)
        have e0 : a.tmps.getD 32 undef = .bool false := Loose.dep_of hdep 9 32 (by kernel_rfl)
        have e1 : a.tmps.getD 45 undef = .bool true := Loose.dep_of hdep 22 45 (by kernel_rfl)
        refine Loose.Step.valueG (Loose.wanted_of rfl rfl gd) (v := .bool true) (w' := w1) ?_ rfl (Below.refl _ _)
        simp [go_sem, Act.eval, e0, e1]
      · intro a w1 hfr hdep
        have e0 : a.tmps.getD 28 undef = .bool true := Loose.dep_of hdep 5 28 (by kernel_rfl)
        have e1 : a.tmps.getD 46 undef = .bool true := Loose.dep_of hdep 23 46 (by kernel_rfl)
        refine Loose.Step.value rfl (v := .bool true) (w' := w1) ?_ rfl (Below.refl _ _)
        simp [go_sem, Act.eval, e0, e1]
      · intro a w1 hfr hdep
        have e0 : a.tmps.getD 47 undef = .bool true := Loose.dep_of hdep 24 47 (by kernel_rfl)
        refine Loose.Step.value rfl (v := .bool true) (w' := w1) ?_ rfl (Below.refl _ _)
        simp [go_sem, Act.eval, e0]
      · intro a w1 hfr hdep
        have gd : a.tmps.getD 48 undef = .bool true := Loose.dep_of hdep 25 48 (by kernel_rfl)
        refine Loose.Step.callG (Loose.wanted_of rfl rfl gd) (f := 10) (args := #[]) ?_ ?_
        · simp [go_sem]
        · refine (works_any w1 (HL.out.below (B6.out.trans (hfr.below.mono B6.out.size)))).mono ?_
          rintro e w2 ⟨rfl, hb⟩
          exact ⟨_, rfl, rfl, hb⟩
      · intro a w1 hfr hdep
        have e0 : a.tmps.getD 48 undef = .bool true := Loose.dep_of hdep 25 48 (by kernel_rfl)
        have e1 : a.tmps.getD 49 undef = .bool true := Loose.dep_of hdep 26 49 (by kernel_rfl)
        refine Loose.Step.value rfl (v := .bool true) (w' := w1) ?_ rfl (Below.refl _ _)
        simp [go_sem, Act.eval, e0, e1]
      · intro a w1 hfr hdep
        have e0 : a.tmps.getD 50 undef = .bool true := Loose.dep_of hdep 27 50 (by kernel_rfl)
        refine Loose.Step.value rfl (v := .bool true) (w' := w1) ?_ rfl (Below.refl _ _)
        simp [go_sem, Act.eval, e0]
    · intro v0 v1 v2 v3 v4 v5 v6 v7 v8 v9 v10 v11 v12 v13 v14 v15 v16 v17 v18 v19 v20 v21 v22 v23 v24 v25 v26 v27 v28 w8 hb8 hC
      have hlast : v28 = .bool true := hC.2
      subst hlast

      have B8 := Lib.hid (B6.out.trans (hb8.mono B6.out.size))
      clear hC hb8
      simp only [SpecOwn.put_lit, List.set_cons_succ, List.set_cons_zero]
      go_wp2_with fail
      go_ret
      exact ⟨rfl, B8.out⟩
  · have HCZ := Lib.hid hz
    clear hz hlen hle V6c
    refine Loose.wp_region_walk (by kernel_rfl) (by kernel_rfl) (FN s S LA lc IA ic MA mc LB ld IB ie MB md g bx bq A1 c1) (FN_keep s S LA lc IA ic MA mc LB ld IB ie MB md g bx bq A1 c1) ?_ ?_
    · refine ⟨?_, ?_, ?_, ?_, ?_, ?_, ?_, ?_, ?_, ?_, ?_, ?_, ?_, ?_, ?_, ?_, ?_, ?_, ?_, ?_, ?_, ?_, ?_, ?_, ?_, ?_, ?_, ?_, ?_, trivial⟩
      · intro a w1 hfr hdep
        have f0 : a.tmps.getD 3 undef = .pointer (some ⟨g, 0, none⟩) := hfr.slot 3 (by kernel_rfl)
        refine Loose.Step.value rfl (v := .pointer (some ⟨g, 0, none⟩)) (w' := w1) ?_ rfl (Below.refl _ _)
        simp [go_sem, Act.eval, f0]
      · intro a w1 hfr hdep
        have e0 : a.tmps.getD 23 undef = .pointer (some ⟨g, 0, none⟩) := Loose.dep_of hdep 0 23 (by kernel_rfl)
        refine Loose.Step.call rfl (f := 14) (args := #[.pointer (some ⟨g, 0, none⟩)]) ?_ ?_
        · simp [go_sem, Act.eval, e0]
        · refine (code_any g c1 l1 w1 (R6.out.below hfr.below)).mono ?_
          rintro e w2 ⟨rfl, rfl⟩
          exact ⟨_, rfl, rfl, Below.refl _ _⟩
      · intro a w1 hfr hdep
        have f0 : a.tmps.getD 5 undef = .pointer (some ⟨bq, 0, none⟩) := hfr.slot 5 (by kernel_rfl)
        refine Loose.Step.value rfl (v := .pointer (some ⟨bq, 2, none⟩)) (w' := w1) ?_ rfl (Below.refl _ _)
        simp [go_sem, Act.eval, f0]
      · intro a w1 hfr hdep
        have hq_ := (hfr.below.block bq (lt_of_block QB.out)).trans QB.out
        have hc_ := box_cell hq_ 2 rfl
        have e0 : a.tmps.getD 25 undef = .pointer (some ⟨bq, 2, none⟩) := Loose.dep_of hdep 2 25 (by kernel_rfl)
        refine Loose.Step.value rfl (v := .int .i64 c1) (w' := w1) ?_ rfl (Below.refl _ _)
        simp [go_sem, Act.eval, e0, hc_]
      · intro a w1 hfr hdep
        have e0 : a.tmps.getD 24 undef = .int .i64 c1 := Loose.dep_of hdep 1 24 (by kernel_rfl)
        have e1 : a.tmps.getD 26 undef = .int .i64 c1 := Loose.dep_of hdep 3 26 (by kernel_rfl)
        refine Loose.Step.value rfl (v := .bool true) (w' := w1) ?_ rfl (Below.refl _ _)
        simp [go_sem, Act.eval, e0, e1]
      · intro a w1 hfr hdep
        have e0 : a.tmps.getD 27 undef = .bool true := Loose.dep_of hdep 4 27 (by kernel_rfl)
        refine Loose.Step.value rfl (v := .bool true) (w' := w1) ?_ rfl (Below.refl _ _)
        simp [go_sem, Act.eval, e0]
      · intro a w1 hfr hdep
        have gd : a.tmps.getD 28 undef = .bool true := Loose.dep_of hdep 5 28 (by kernel_rfl)
        have f0 : a.tmps.getD 5 undef = .pointer (some ⟨bq, 0, none⟩) := hfr.slot 5 (by kernel_rfl)
        refine Loose.Step.valueG (Loose.wanted_of rfl rfl gd) (v := .pointer (some ⟨bq, 2, none⟩)) (w' := w1) ?_ rfl (Below.refl _ _)
        simp [go_sem, Act.eval, f0]
      · intro a w1 hfr hdep
        have hq_ := (hfr.below.block bq (lt_of_block QB.out)).trans QB.out
        have hc_ := box_cell hq_ 2 rfl
        have gd : a.tmps.getD 28 undef = .bool true := Loose.dep_of hdep 5 28 (by kernel_rfl)
        have e0 : a.tmps.getD 29 undef = .pointer (some ⟨bq, 2, none⟩) := Loose.dep_of hdep 6 29 (by kernel_rfl)
        refine Loose.Step.valueG (Loose.wanted_of rfl rfl gd) (v := .int .i64 c1) (w' := w1) ?_ rfl (Below.refl _ _)
        simp [go_sem, Act.eval, e0, hc_]
      · intro a w1 hfr hdep
        have gd : a.tmps.getD 28 undef = .bool true := Loose.dep_of hdep 5 28 (by kernel_rfl)
        have e0 : a.tmps.getD 30 undef = .int .i64 c1 := Loose.dep_of hdep 7 30 (by kernel_rfl)
        refine Loose.Step.valueG (Loose.wanted_of rfl rfl gd) (v := .bool true) (w' := w1) ?_ rfl (Below.refl _ _)
        simp [go_sem, Act.eval, e0, HCZ.out]
      · intro a w1 hfr hdep
        have gd : a.tmps.getD 28 undef = .bool true := Loose.dep_of hdep 5 28 (by kernel_rfl)
        have e0 : a.tmps.getD 31 undef = .bool true := Loose.dep_of hdep 8 31 (by kernel_rfl)
        refine Loose.Step.valueG (Loose.wanted_of rfl rfl gd) (v := .bool true) (w' := w1) ?_ rfl (Below.refl _ _)
        simp [go_sem, Act.eval, e0]
      · intro a w1 hfr hdep
        have gd : a.tmps.getD 32 undef = .bool true := Loose.dep_of hdep 9 32 (by kernel_rfl)
        exact .inr ⟨unwanted_of rfl rfl gd, rfl⟩
      · intro a w1 hfr hdep
        have gd : a.tmps.getD 32 undef = .bool true := Loose.dep_of hdep 9 32 (by kernel_rfl)
        exact .inr ⟨unwanted_of rfl rfl gd, rfl⟩
      · intro a w1 hfr hdep
        have gd : a.tmps.getD 32 undef = .bool true := Loose.dep_of hdep 9 32 (by kernel_rfl)
        exact .inr ⟨unwanted_of rfl rfl gd, rfl⟩
      · intro a w1 hfr hdep
        have gd : a.tmps.getD 32 undef = .bool true := Loose.dep_of hdep 9 32 (by kernel_rfl)
        exact .inr ⟨unwanted_of rfl rfl gd, rfl⟩
      · intro a w1 hfr hdep
        have gd : a.tmps.getD 36 undef = undef := Loose.dep_of hdep 13 36 (by kernel_rfl)
        exact .inr ⟨unwanted_no rfl rfl gd, rfl⟩
      · intro a w1 hfr hdep
        have gd : a.tmps.getD 36 undef = undef := Loose.dep_of hdep 13 36 (by kernel_rfl)
        exact .inr ⟨unwanted_no rfl rfl gd, rfl⟩
      · intro a w1 hfr hdep
        have gd : a.tmps.getD 36 undef = undef := Loose.dep_of hdep 13 36 (by kernel_rfl)
        exact .inr ⟨unwanted_no rfl rfl gd, rfl⟩
      · intro a w1 hfr hdep
        have gd : a.tmps.getD 36 undef = undef := Loose.dep_of hdep 13 36 (by kernel_rfl)
        exact .inr ⟨unwanted_no rfl rfl gd, rfl⟩
      · intro a w1 hfr hdep
        have gd : a.tmps.getD 36 undef = undef := Loose.dep_of hdep 13 36 (by kernel_rfl)
        exact .inr ⟨unwanted_no rfl rfl gd, rfl⟩
      · intro a w1 hfr hdep
        have gd : a.tmps.getD 36 undef = undef := Loose.dep_of hdep 13 36 (by kernel_rfl)
        exact .inr ⟨unwanted_no rfl rfl gd, rfl⟩
      · intro a w1 hfr hdep
        have gd : a.tmps.getD 36 undef = undef := Loose.dep_of hdep 13 36 (by kernel_rfl)
        exact .inr ⟨unwanted_no rfl rfl gd, rfl⟩
      · intro a w1 hfr hdep
        have gd : a.tmps.getD 36 undef = undef := Loose.dep_of hdep 13 36 (by kernel_rfl)
        exact .inr ⟨unwanted_no rfl rfl gd, rfl⟩
      · intro a w1 hfr hdep
        have gd : a.tmps.getD 32 undef = .bool true := Loose.dep_of hdep 9 32 (by kernel_rfl)
        exact .inr ⟨unwanted_of rfl rfl gd, rfl⟩
      · intro a w1 hfr hdep
        have gd : a.tmps.getD 28 undef = .bool true := Loose.dep_of hdep 5 28 (by kernel_rfl)
        have e0 : a.tmps.getD 32 undef = .bool true := Loose.dep_of hdep 9 32 (by kernel_rfl)
        refine Loose.Step.valueG (Loose.wanted_of rfl rfl gd) (v := .bool true) (w' := w1) ?_ rfl (Below.refl _ _)
        simp [go_sem, Act.eval, e0]
      · intro a w1 hfr hdep
        have e0 : a.tmps.getD 28 undef = .bool true := Loose.dep_of hdep 5 28 (by kernel_rfl)
        have e1 : a.tmps.getD 46 undef = .bool true := Loose.dep_of hdep 23 46 (by kernel_rfl)
        refine Loose.Step.value rfl (v := .bool true) (w' := w1) ?_ rfl (Below.refl _ _)
        simp [go_sem, Act.eval, e0, e1]
      · intro a w1 hfr hdep
        have e0 : a.tmps.getD 47 undef = .bool true := Loose.dep_of hdep 24 47 (by kernel_rfl)
        refine Loose.Step.value rfl (v := .bool true) (w' := w1) ?_ rfl (Below.refl _ _)
        simp [go_sem, Act.eval, e0]
      · intro a w1 hfr hdep
        have gd : a.tmps.getD 48 undef = .bool true := Loose.dep_of hdep 25 48 (by kernel_rfl)
        refine Loose.Step.callG (Loose.wanted_of rfl rfl gd) (f := 10) (args := #[]) ?_ ?_
        · simp [go_sem]
        · refine (works_any w1 (HL.out.below (B6.out.trans (hfr.below.mono B6.out.size)))).mono ?_
          rintro e w2 ⟨rfl, hb⟩
          exact ⟨_, rfl, rfl, hb⟩
      · intro a w1 hfr hdep
        have e0 : a.tmps.getD 48 undef = .bool true := Loose.dep_of hdep 25 48 (by kernel_rfl)
        have e1 : a.tmps.getD 49 undef = .bool true := Loose.dep_of hdep 26 49 (by kernel_rfl)
        refine Loose.Step.value rfl (v := .bool true) (w' := w1) ?_ rfl (Below.refl _ _)
        simp [go_sem, Act.eval, e0, e1]
      · intro a w1 hfr hdep
        have e0 : a.tmps.getD 50 undef = .bool true := Loose.dep_of hdep 27 50 (by kernel_rfl)
        refine Loose.Step.value rfl (v := .bool true) (w' := w1) ?_ rfl (Below.refl _ _)
        simp [go_sem, Act.eval, e0]
    · intro v0 v1 v2 v3 v4 v5 v6 v7 v8 v9 v10 v11 v12 v13 v14 v15 v16 v17 v18 v19 v20 v21 v22 v23 v24 v25 v26 v27 v28 w8 hb8 hC
      have hlast : v28 = .bool true := hC.2
      subst hlast

      have B8 := Lib.hid (B6.out.trans (hb8.mono B6.out.size))
      clear hC hb8
      simp only [SpecOwn.put_lit, List.set_cons_succ, List.set_cons_zero]
      go_wp2_with fail
      go_ret
      exact ⟨rfl, B8.out⟩
end Go.Proofs.YtmeilidjomjocaaGreatDoor.PackRawsWalk
