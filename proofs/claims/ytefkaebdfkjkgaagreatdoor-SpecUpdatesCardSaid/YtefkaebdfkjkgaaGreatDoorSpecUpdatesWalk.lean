/-
  The walk of the law SpecUpdates: it returns true, and leaves all that was there as it was. Condition: as SpecStep.
-/
import Derived.Test.YtefkaebdfkjkgaaGreatDoorSpecWorks
import Derived.Test.YtefkaebdfkjkgaaGreatDoorSpecCopy
import Derived.Test.YtefkaebdfkjkgaaGreatDoorSpecSameAll
import Derived.Test.YtefkaebdfkjkgaaGreatDoorSpecUpMem
import Derived.Test.YtefkaebdfkjkgaaGreatDoorBookBelow
import Derived.Laws.RangeString
import Derived.Laws.RangeAny
import Derived.LoopTactic
import Derived.Laws.Concat
import Derived.RegionTactic
set_option linter.unusedVariables false
set_option linter.unusedSimpArgs false
namespace Go.Proofs.YtefkaebdfkjkgaaGreatDoor.SpecUpdatesWalk
open Go.ChangeShapes Go.WideShapes Go.ChangeAt Go.RowKit Go.Lib
open Sd Lists SpecRef SpecOwn Book

/-- the new spec's box -/
abbrev NBox (S T : Spc) (LB : Option Addr) (ld : Nat) (CI : Option Addr) (ci : Nat) (CM : Option Addr) (cm : Nat) (w : World) (g : Nat) : Prop := SBox ⟨S.name, T.labels, S.init, S.main, T.restart, T.grace, T.prio⟩ LB ld CI ci CM cm w g

set_option maxRecDepth 100000 in
set_option maxHeartbeats 4000000 in
theorem walk (S : Spc) (LA : Option Addr) (lc : Nat) (IA : Option Addr) (ic : Nat) (MA : Option Addr) (mc : Nat) (T : Spc) (LB : Option Addr) (ld : Nat) (IB : Option Addr) (id : Nat) (MB : Option Addr) (md : Nat) (which : Int) (w : World) (hL : SLaid w) (h : S.In w LA lc IA ic MA mc) (hT : T.In w LB ld IB id MB md) :
    Calls Tryz.prog 4 #[.agg #[.string S.name, .slice LA S.labels.length lc, .slice IA S.init.length ic, .slice MA S.main.length mc, .int .i64 S.restart, .int .i64 S.grace, .int .i64 S.prio], .agg #[.string T.name, .slice LB T.labels.length ld, .slice IB T.init.length id, .slice MB T.main.length md, .int .i64 T.restart, .int .i64 T.grace, .int .i64 T.prio], .int .i64 which] w fun e w' => e = .returned (.bool true) ∧ Below w.heap.size w w' := by
  have HL := Lib.hid hL
  have H := Lib.hid h
  have HT := Lib.hid hT
  clear hL h hT
  go_enter Tryz.func4, Tryz.ntmps4
  go_wp2_with fail
  obtain ⟨w1, hw1⟩ : ∃ w1, (w.alloc (.cells #[.string S.name, .slice LA S.labels.length lc, .slice IA S.init.length ic, .slice MA S.main.length mc, .int .i64 S.restart, .int .i64 S.grace, .int .i64 S.prio] 25)).alloc (.cells #[.string T.name, .slice LB T.labels.length ld, .slice IB T.init.length id, .slice MB T.main.length md, .int .i64 T.restart, .int .i64 T.grace, .int .i64 T.prio] 25) = w1 := ⟨_, rfl⟩
  have B1 := Lib.hid (show Below w.heap.size w w1 by rw [← hw1]; exact ((Below.refl _ _).alloc (Nat.le_refl _) _).alloc (by simp) _)
  have SB1 := Lib.hid (show SBox S LA lc IA ic MA mc w1 w.heap.size by rw [← hw1]; exact (two_new w _ _).1)
  have TB1 := Lib.hid (show SBox T LB ld IB id MB md w1 (w.heap.size + 1) by rw [← hw1]; exact (two_new w _ _).2)
  rw [hw1]
  obtain ⟨b, hb⟩ : ∃ b, w.heap.size = b := ⟨_, rfl⟩
  rw [hb] at SB1 TB1 ⊢
  have HBB := Lib.hid hb
  clear hw1 hb
  refine (works_any w1 (HL.out.below B1.out)).mono ?_
  rintro e w2 ⟨rfl, hb2⟩
  have B2 := Lib.hid (B1.out.trans (hb2.mono B1.out.size))
  have SB2 := Lib.hid (SB1.out.below hb2)
  have TB2 := Lib.hid (TB1.out.below hb2)
  clear hb2 SB1 TB1
  obtain ⟨c0, c1, c2, c3, c4, c5, c6⟩ := SB2.out.cells
  go_wp2_with fail
  refine (light_any S LA lc IA ic MA mc w2 (H.out.below B2.out)).mono ?_
  rintro e w3 ⟨rfl, hb3⟩
  have B3 := Lib.hid (B2.out.trans (hb3.mono B2.out.size))
  have SB3 := Lib.hid (SB2.out.below hb3)
  have TB3 := Lib.hid (TB2.out.below hb3)
  clear hb3 SB2 TB2 c0 c1 c2 c3 c4 c5 c6
  cases hlt : LightB S with
  | false =>
    go_wp2
    go_ret
    exact ⟨rfl, B3.out⟩
  | true =>
    have HLT := Lib.hid (LightB_iff.1 hlt)
    clear hlt
    obtain ⟨c0, c1, c2, c3, c4, c5, c6⟩ := TB3.out.cells
    go_wp2_with fail
    refine (light_any T LB ld IB id MB md w3 (HT.out.below B3.out)).mono ?_
    rintro e w4 ⟨rfl, hb4⟩
    have B4 := Lib.hid (B3.out.trans (hb4.mono B3.out.size))
    have SB4 := Lib.hid (SB3.out.below hb4)
    have TB4 := Lib.hid (TB3.out.below hb4)
    clear hb4 SB3 TB3 c0 c1 c2 c3 c4 c5 c6
    cases hlt : LightB T with
    | false =>
      go_wp2
      go_ret
      exact ⟨rfl, B4.out⟩
    | true =>
      clear hlt
      obtain ⟨c0, c1, c2, c3, c4, c5, c6⟩ := SB4.out.cells
      go_wp2_with fail
      refine (check_any S LA lc IA ic MA mc HLT.out w4 (HL.out.below B4.out) (H.out.below B4.out)).mono ?_
      rintro e w5 ⟨E, rfl, hE, hb5⟩
      have B5 := Lib.hid (B4.out.trans (hb5.mono B4.out.size))
      have SB5 := Lib.hid (SB4.out.below hb5)
      have TB5 := Lib.hid (TB4.out.below hb5)
      have hform := hE.form
      have hnil := hE.nil_iff
      clear hE hb5 c0 c1 c2 c3 c4 c5 c6 SB4 TB4
      rcases hform with rfl | ⟨uu, xx, rfl⟩
      · have HCHK := Lib.hid (hnil.1 rfl)
        clear hnil
        obtain ⟨c0, c1, c2, c3, c4, c5, c6⟩ := SB5.out.cells
        have z1 : S.name.size ≤ 1000 := by have := HLT.out.1.1; omega
        have z2 : S.labels.length ≤ 1000 := by have := HLT.out.1.2.1; omega
        have z3 : S.init.length ≤ 1000 := by have := HLT.out.1.2.2.1; omega
        have z4 : S.main.length ≤ 1000 := by have := HLT.out.1.2.2.2; omega
        have Z5 := Lib.hid (show ∀ x ∈ S.labels, x.key.size ≤ 1000 ∧ x.val.size ≤ 1000 from fun x hx => by obtain ⟨h1, h2⟩ := HLT.out.2.1 x hx; omega)
        have Z6 := Lib.hid (show ∀ x ∈ S.init, x.name.size ≤ 1000 ∧ x.image.size ≤ 1000 ∧ x.ports.length ≤ 1000 from fun x hx => by obtain ⟨h1, h2, h3⟩ := HLT.out.2.2.1 x hx; omega)
        have Z7 := Lib.hid (show ∀ x ∈ S.main, x.name.size ≤ 1000 ∧ x.image.size ≤ 1000 ∧ x.ports.length ≤ 1000 from fun x hx => by obtain ⟨h1, h2, h3⟩ := HLT.out.2.2.2 x hx; omega)
        have HCL := Lib.hid (clone_any S LA lc IA ic MA mc z1 z2 Z5.out z3 Z6.out z4 Z7.out w5 (H.out.below B5.out))
        clear z1 z2 z3 z4
        go_wp2_with fail
        refine HCL.out.mono ?_
        rintro e w6 ⟨CL, cl, CI, ci, CM, cm, rfl, hc, fL, tL, fI, fM, _, _, _, hb6, hi, hmid, hmain⟩
        have B6 := Lib.hid (B5.out.trans (hb6.mono B5.out.size))
        have SB6 := Lib.hid (SB5.out.below hb6)
        have TB6 := Lib.hid (TB5.out.below hb6)
        have FM := Lib.hid fM
        have MID := Lib.hid hmid
        have MAIN := Lib.hid hmain
        have B56 := Lib.hid hb6.size
        have HLT5 := Lib.hid TB5.out.lt
        clear HCL hc fL tL fI fM hb6 hmid hmain c0 c1 c2 c3 c4 c5 c6 SB5 TB5
        obtain ⟨w7, hw7⟩ : ∃ v, w6.alloc (.cells #[.string S.name, .slice CL S.labels.length cl, .slice CI S.init.length ci, .slice CM S.main.length cm, .int .i64 S.restart, .int .i64 S.grace, .int .i64 S.prio] 25) = v := ⟨_, rfl⟩
        have hb67 : Below w6.heap.size w6 w7 := by rw [← hw7]; exact (Below.refl _ _).alloc (Nat.le_refl _) _
        have nb7 : w7.heap[w6.heap.size]? = some (.cells #[.string S.name, .slice CL S.labels.length cl, .slice CI S.init.length ci, .slice CM S.main.length cm, .int .i64 S.restart, .int .i64 S.grace, .int .i64 S.prio] 25 (0, 0)) := by rw [← hw7]; exact heap_alloc_new w6 _
        have hbg : b < w6.heap.size := SB6.out.lt
        have htg : b + 1 < w6.heap.size := TB6.out.lt
        have SB7 : SBox S LA lc IA ic MA mc w7 b := SB6.out.below hb67
        have TB7 : SBox T LB ld IB id MB md w7 (b + 1) := TB6.out.below hb67
        have t1 : w7.cell? ⟨b + 1, 1, none⟩ = some (.slice LB T.labels.length ld) := TB7.cells.c1
        have n1 : w7.cell? ⟨w6.heap.size, 1, none⟩ = some (.slice CL S.labels.length cl) := by simp [World.cell?, nb7]
        have f1 : w7.frozen? ⟨w6.heap.size, 1, none⟩ = false := by simp [World.frozen?, nb7]
        obtain ⟨v1, hv1⟩ : ∃ v, w7.setCell ⟨w6.heap.size, 1, none⟩ (.slice LB T.labels.length ld) = v := ⟨_, rfl⟩
        have nb8 : v1.heap[w6.heap.size]? = some (.cells #[.string S.name, .slice LB T.labels.length ld, .slice CI S.init.length ci, .slice CM S.main.length cm, .int .i64 S.restart, .int .i64 S.grace, .int .i64 S.prio] 25 (0, 0)) := by rw [← hv1]; simpa using heap_setCell_same w7 w6.heap.size 1 _ _ (.slice LB T.labels.length ld) nb7
        have k1 : ∀ i, i ≠ w6.heap.size → v1.heap[i]? = w7.heap[i]? := fun i hi => by rw [← hv1]; exact Below.heap_setCell _ _ _ _ hi
        have t4 : v1.cell? ⟨b + 1, 4, none⟩ = some (.int .i64 T.restart) := by rw [World.cell?_of_block (w := w7) (k1 _ (by show b + 1 ≠ _; omega))]; exact TB7.cells.c4
        have n4 : v1.cell? ⟨w6.heap.size, 4, none⟩ = some (.int .i64 S.restart) := by simp [World.cell?, nb8]
        have f4 : v1.frozen? ⟨w6.heap.size, 4, none⟩ = false := by simp [World.frozen?, nb8]
        obtain ⟨v2, hv2⟩ : ∃ v, v1.setCell ⟨w6.heap.size, 4, none⟩ (.int .i64 T.restart) = v := ⟨_, rfl⟩
        have nb9 : v2.heap[w6.heap.size]? = some (.cells #[.string S.name, .slice LB T.labels.length ld, .slice CI S.init.length ci, .slice CM S.main.length cm, .int .i64 T.restart, .int .i64 S.grace, .int .i64 S.prio] 25 (0, 0)) := by rw [← hv2]; simpa using heap_setCell_same v1 w6.heap.size 4 _ _ (.int .i64 T.restart) nb8
        have k2 : ∀ i, i ≠ w6.heap.size → v2.heap[i]? = w7.heap[i]? := fun i hi => by rw [← hv2]; exact (Below.heap_setCell _ _ _ _ hi).trans (k1 i hi)
        have t5 : v2.cell? ⟨b + 1, 5, none⟩ = some (.int .i64 T.grace) := by rw [World.cell?_of_block (w := w7) (k2 _ (by show b + 1 ≠ _; omega))]; exact TB7.cells.c5
        have n5 : v2.cell? ⟨w6.heap.size, 5, none⟩ = some (.int .i64 S.grace) := by simp [World.cell?, nb9]
        have f5 : v2.frozen? ⟨w6.heap.size, 5, none⟩ = false := by simp [World.frozen?, nb9]
        obtain ⟨v3, hv3⟩ : ∃ v, v2.setCell ⟨w6.heap.size, 5, none⟩ (.int .i64 T.grace) = v := ⟨_, rfl⟩
        have nb10 : v3.heap[w6.heap.size]? = some (.cells #[.string S.name, .slice LB T.labels.length ld, .slice CI S.init.length ci, .slice CM S.main.length cm, .int .i64 T.restart, .int .i64 T.grace, .int .i64 S.prio] 25 (0, 0)) := by rw [← hv3]; simpa using heap_setCell_same v2 w6.heap.size 5 _ _ (.int .i64 T.grace) nb9
        have k3 : ∀ i, i ≠ w6.heap.size → v3.heap[i]? = w7.heap[i]? := fun i hi => by rw [← hv3]; exact (Below.heap_setCell _ _ _ _ hi).trans (k2 i hi)
        have t6 : v3.cell? ⟨b + 1, 6, none⟩ = some (.int .i64 T.prio) := by rw [World.cell?_of_block (w := w7) (k3 _ (by show b + 1 ≠ _; omega))]; exact TB7.cells.c6
        have n6 : v3.cell? ⟨w6.heap.size, 6, none⟩ = some (.int .i64 S.prio) := by simp [World.cell?, nb10]
        have f6 : v3.frozen? ⟨w6.heap.size, 6, none⟩ = false := by simp [World.frozen?, nb10]
        obtain ⟨v4, hv4⟩ : ∃ v, v3.setCell ⟨w6.heap.size, 6, none⟩ (.int .i64 T.prio) = v := ⟨_, rfl⟩
        have NB := Lib.hid (show NBox S T LB ld CI ci CM cm v4 w6.heap.size by unfold NBox SBox; rw [← hv4]; simpa using heap_setCell_same v3 w6.heap.size 6 _ _ (.int .i64 T.prio) nb10)
        have k4 : ∀ i, i ≠ w6.heap.size → v4.heap[i]? = w7.heap[i]? := fun i hi => by rw [← hv4]; exact (Below.heap_setCell _ _ _ _ hi).trans (k3 i hi)
        have SB := Lib.hid (show SBox S LA lc IA ic MA mc v4 b from (k4 b (by omega)).trans SB7)
        have hz4 : v4.heap.size = w6.heap.size + 1 := by rw [← hv4, ← hv3, ← hv2, ← hv1, ← hw7]; simp
        have hb64 : Below w6.heap.size w6 v4 := by
          rw [← hv4, ← hv3, ← hv2, ← hv1]
          exact (((hb67.setCell (p := ⟨w6.heap.size, 1, none⟩) (Nat.le_refl _) _).setCell (p := ⟨w6.heap.size, 4, none⟩) (Nat.le_refl _) _).setCell (p := ⟨w6.heap.size, 5, none⟩) (Nat.le_refl _) _).setCell (p := ⟨w6.heap.size, 6, none⟩) (Nat.le_refl _) _
        have B := Lib.hid (B6.out.trans (hb64.mono B6.out.size))
        have HB64 := Lib.hid hb64
        have s3 : v4.cell? ⟨b, 3, none⟩ = some (.slice MA S.main.length mc) := SB.out.cells.c3
        have HZ4 := Lib.hid hz4
        clear nb7 nb8 nb9 nb10 k1 k2 k3 k4 hb64 hb67 SB7 TB7 hz4
        go_wp2_with fail
        refine (below_any which S.main.length (by have := (main_some HCHK.out).1; omega) (by have := (main_some HCHK.out).2; omega) v4).mono ?_
        rintro e w8 ⟨⟨k, hk, rfl⟩, rfl⟩
        clear hw7 hv1 hv2 hv3 hv4 t1 n1 f1 t4 n4 f4 t5 n5 f5 t6 n6 f6
        obtain ⟨g, hg⟩ : ∃ g, w6.heap.size = g := ⟨_, rfl⟩
        rw [hg] at NB hbg htg HB64 ⊢
        have HGG := Lib.hid hg
        clear hg
        obtain ⟨fa, p, P, pc, hMA, hp, hc, nP⟩ := (H.out.below B.out).main.at hk
        obtain ⟨x, hx⟩ : ∃ x, S.main[k] = x := ⟨_, rfl⟩
        rw [hx] at hc fa nP
        have HX := Lib.hid (show S.main[k]? = some x by rw [List.getElem?_eq_getElem hk, hx])
        have hfine := main_fine HCHK.out HX.out
        have him1 : x.image.size ≤ 100 := (HLT.out.2.2.2 x (List.mem_of_getElem? HX.out)).2.1
        obtain ⟨n, hn, hpre, hat, hext⟩ := image_cut hfine.1
        have HPRE := Lib.hid hpre
        have HAT := Lib.hid hat
        have HFI := Lib.hid hfine
        obtain ⟨c0, c1, c2, c3, c4, c5, c6, c7, c8, c9, c10, _⟩ := hc
        obtain ⟨s, hs⟩ : ∃ s, x.image = s := ⟨_, rfl⟩
        rw [hs] at c1 hn HPRE HAT hext him1
        have HIMG := Lib.hid hs
        have HEXT := Lib.hid hext
        have FC := Lib.hid (show S.main[k]?  = some x ∧ (x.Fits) from ⟨HX.out, fa⟩)
        subst hMA
        have hka : (k : Int) < (S.main.length : Int) := by omega
        have hk0 : (S.main.length : Int) ≤ 4 := by have := (main_some HCHK.out).2; omega
        clear hx hp nP hs hext hpre hat hfine fa
        go_wp2_with fail
        go_loopw [9, 10] (fun im _ wl => im = .string s ∧ ∃ pos : Nat, pos ≤ n ∧ wl = v4.iter s pos) (fun _ _ wl => s.size - wl.iterPos v4.heap.size)
        case atStart => exact ⟨rfl, 0, Nat.zero_le _, rfl⟩
        case round =>
          obtain ⟨rfl, pos, hpos, rfl⟩ := hrel
          have hlt : pos < s.size := by omega
          by_cases hq : pos < n
          · obtain ⟨h1, h2⟩ := HPRE.out pos hlt hq
            have hnx : ∀ ty, (Instr.next (.pointer (some ⟨v4.heap.size, 0, none⟩)) true ty).run Tryz.prog (v4.iter s pos) = _ := fun ty => run_next_ascii v4 s pos ty hlt h1
            have hne : (s[pos].toNat : Int) ≠ 58 := fun e => h2 (UInt8.toNat_inj.1 (by rw [show ((58 : UInt8).toNat) = 58 from rfl]; omega))
            have hne' : ((s[pos].toNat : Int) == 58) = false := beq_eq_false_iff_ne.2 hne
            go_wp2
            go_roundw
            case rel => exact ⟨rfl, pos + 1, by omega, rfl⟩
            case measure => simp; omega
          · obtain rfl : pos = n := by omega
            have h58 := HAT.out hlt
            have hnx : ∀ ty, (Instr.next (.pointer (some ⟨v4.heap.size, 0, none⟩)) true ty).run Tryz.prog (v4.iter s pos) = _ := fun ty => run_next_ascii v4 s pos ty hlt (by rw [h58]; decide)
            have hye : ((s[pos].toNat : Int) == 58) = true := by rw [h58]; rfl
            have hps : (pos : Int) ≤ (s.size : Int) := by omega
            have HWB := Lib.hid (show Below v4.heap.size v4 (v4.iter s (pos + 1)) from (Below.refl _ _).alloc (Nat.le_refl _) _)
            obtain ⟨w9, hw9⟩ : ∃ w9, v4.iter s (pos + 1) = w9 := ⟨_, rfl⟩
            rw [hw9] at HWB hnx
            have hadd : ∀ v, (Op.stringOp .add (s.extract 0 pos) ⟨#[58, 57]⟩).run Tryz.prog v = .ok (.string (img9 s)) v := fun v => by
              have e : img9 s = s.extract 0 pos ++ ⟨#[58, 57]⟩ := by rw [HEXT.out]; rfl
              have h1 := img9_size s
              rw [e]
              exact run_string_add_sum v _ _ (by rw [e] at h1; simp at h1 ⊢; omega)
            -- the row of the clone's main containers
            have hb69 : Below w6.heap.size w6 w9 := by rw [HGG.out]; exact HB64.out.trans (HWB.out.mono (by have := HZ4.out; have := HGG.out; omega))
            have hm9 : CtrsFrom hi w9 CM S.main := ctrs_ab (Ab.of_below hb69) (Nat.le_refl _) MAIN.out
            obtain ⟨fx, a, P', c', hCM, hlo, hhi, hcx, _, _, tA, _, _⟩ := hm9 k x HX.out
            have hhi6 : a.block < w6.heap.size := by
              obtain ⟨_, a2, _, _, hCM2, _, hh, _⟩ := MAIN.out k x HX.out
              rw [hCM] at hCM2
              obtain rfl := Option.some.inj hCM2
              exact hh
            have hlo5 : w5.heap.size ≤ a.block := by
              obtain ⟨_, a2, _, _, hCM2, hh, _⟩ := FM.out k x HX.out
              rw [hCM] at hCM2
              obtain rfl := Option.some.inj hCM2
              exact hh
            have r1 : w9.cell? ⟨(a.add (k * 11)).block, (a.add (k * 11)).off + 1, none⟩ = some (.string s) := by rw [← HIMG.out]; exact hcx.2.1
            have z1 : w9.frozen? ⟨(a.add (k * 11)).block, (a.add (k * 11)).off + 1, none⟩ = false := thawed tA hCM (by show (a.add (k * 11)).block = _; rw [add_block]) r1
            obtain ⟨w10, hw10⟩ : ∃ v, w9.setCell ⟨(a.add (k * 11)).block, (a.add (k * 11)).off + 1, none⟩ (.string (img9 s)) = v := ⟨_, rfl⟩
            have hm10 : CtrsFrom hi w10 CM (S.main.set k (tagged x)) := by
              rw [← hw10, ← HIMG.out]
              exact ctrs_img hm9 HX.out hCM (img9 x.image)
            have hk10 : ∀ i, i ≠ a.block → w10.heap[i]? = w9.heap[i]? := fun i hi => by rw [← hw10]; exact Below.heap_setCell _ _ _ _ (by show i ≠ (a.add (k * 11)).block; rw [add_block]; exact hi)
            have hz10 : w10.heap.size = w9.heap.size := by rw [← hw10]; simp
            have hi10 : CtrsMid w5.heap.size hi w10 CI S.init := MID.out.keep (by rw [hz10]; exact hb69.size) (Nat.le_refl _) (fun i h1 h2 => (hk10 i (by omega)).trans (hb69.block i (by have := MID.out.1; omega)))
            have hb9 : Below w.heap.size w w9 := B.out.trans (HWB.out.mono B.out.size)
            have hb5 : w.heap.size ≤ w5.heap.size := B5.out.size
            have hb10 : Below w.heap.size w w10 := by rw [← hw10]; exact hb9.setCell (by show w.heap.size ≤ (a.add (k * 11)).block; rw [add_block]; omega) _
            have B10 := Lib.hid hb10
            have hbn : b + 1 < w5.heap.size := HLT5.out
            have SB10 := Lib.hid (show SBox S LA lc IA ic (some p) mc w10 b from (hk10 b (by omega)).trans (SB.out.below HWB.out))
            have NB10 := Lib.hid (show NBox S T LB ld CI ci CM cm w10 g from (hk10 g (by have := HGG.out; omega)).trans (NB.out.below HWB.out))
            have IN10 := Lib.hid (show (putM S T k (tagged x)).In w10 LB ld CI ci CM cm from ⟨HT.out.labels.below hb10, hi10.ctrs, ctrs_in hm10, HT.out.nl, H.out.ni, by show (S.main.set k _).length ≤ _; rw [List.length_set]; exact H.out.nm, HT.out.restart, HT.out.grace, HT.out.prio⟩)
            have M10 := Lib.hid hm10
            have I10 := Lib.hid hi10
            have HLO := Lib.hid hlo
            have HLO5 := Lib.hid hlo5
            have HHI6 := Lib.hid hhi6
            have HCM := Lib.hid hCM
            have n3 : w9.cell? ⟨g, 3, none⟩ = some (.slice CM S.main.length cm) := (NB.out.below HWB.out).cells.c3
            rw [hCM] at n3
            obtain ⟨y0, y1, y2, y3, y4, y5, y6⟩ := SB10.out.cells
            obtain ⟨m0, m1, m2, m3, m4, m5, m6⟩ := NB10.out.cells
            clear hm9 hm10 hi10 hb69 hb9 hb5 hb10 hbn hk10 hz10 fx hcx tA hlo hlo5 hhi hhi6 c0 c1 c2 c3 c4 c5 c6 c7 c8 c9 c10 s3
            rw [hCM] at m3
            clear hCM
            have HIS := Lib.hid (show ∀ y ∈ S.main, y.image.size ≤ 1000 from fun y hy => by have := (HLT.out.2.2.2 y hy).2.1; omega)
            have hxi := img9_size x.image
            rw [HIMG.out] at hxi
            have HIT := Lib.hid (show ∀ y ∈ S.main.set k (tagged x), y.image.size ≤ 1000 from fun y hy => by
              rcases List.mem_or_eq_of_mem_set hy with hy | rfl
              · exact HIS.out y hy
              · show (img9 x.image).size ≤ 1000
                rw [HIMG.out]; omega)
            have HIA := Lib.hid (show ∀ y ∈ S.main.set k (asked x), y.image.size ≤ 1000 from fun y hy => by
              rcases List.mem_or_eq_of_mem_set hy with hy | rfl
              · exact HIS.out y hy
              · show (img9 x.image).size ≤ 1000
                rw [HIMG.out]; omega)
            have hsm : S.main.length ≤ 1000000 := by omega
            have HSM := Lib.hid hsm
            have hF := frozen_any S LA lc IA ic (some p) mc (putM S T k (tagged x)) LB ld CI ci CM cm HIS.out HIT.out HSM.out w10 (HL.out.below B10.out) (H.out.below B10.out) IN10.out
            rw [(frozen_tag T HX.out HFI.out.1).1, HCM.out] at hF
            simp only [putM, List.length_set] at hF
            have HF := Lib.hid hF
            clear hF hxi hsm
            go_wp2_with fail
            refine HF.out.mono ?_
            rintro e w11 ⟨E, rfl, hE, hb11⟩
            obtain rfl : E = .nilIface := by
              rcases hE with ⟨_, _, h⟩ | ⟨h, _⟩
              · exact h
              · exact absurd rfl h
            clear hE HF
            have B11 := Lib.hid (B10.out.trans (hb11.mono B10.out.size))
            have SB11 := Lib.hid (SB10.out.below hb11)
            have NB11 := Lib.hid (NB10.out.below hb11)
            have IN11 := Lib.hid (IN10.out.below hb11)
            have HB1011 := Lib.hid hb11
            clear hb11 y0 y1 y2 y3 y4 y5 y6 m0 m1 m2 m3 m4 m5 m6 r1 z1 n3
            have hF := frozen_any (putM S T k (tagged x)) LB ld CI ci CM cm S LA lc IA ic (some p) mc HIT.out HIS.out (by show (S.main.set k _).length ≤ _; rw [List.length_set]; exact HSM.out) w11 (HL.out.below B11.out) IN11.out (H.out.below B11.out)
            rw [(frozen_tag T HX.out HFI.out.1).2, HCM.out] at hF
            simp only [putM, List.length_set] at hF
            have HF := Lib.hid hF
            clear hF
            obtain ⟨y0, y1, y2, y3, y4, y5, y6⟩ := SB11.out.cells
            obtain ⟨m0, m1, m2, m3, m4, m5, m6⟩ := NB11.out.cells
            rw [HCM.out] at m3
            go_wp2_with fail
            refine HF.out.mono ?_
            rintro e w12 ⟨E, rfl, hE, hb12⟩
            obtain rfl : E = .nilIface := by
              rcases hE with ⟨_, _, h⟩ | ⟨h, _⟩
              · exact h
              · exact absurd rfl h
            clear hE HF
            have B12 := Lib.hid (B11.out.trans (hb12.mono B11.out.size))
            have SB12 := Lib.hid (SB11.out.below hb12)
            have NB12 := Lib.hid (NB11.out.below hb12)
            have HB1012 := Lib.hid (HB1011.out.trans (hb12.mono HB1011.out.size))
            clear hb12 y0 y1 y2 y3 y4 y5 y6 m0 m1 m2 m3 m4 m5 m6
            have hm12 : CtrsFrom hi w12 CM (S.main.set k (tagged x)) := ctrs_ab (Ab.of_below HB1012.out) (Nat.le_refl _) M10.out
            have hks : (S.main.set k (tagged x))[k]? = some (tagged x) := List.getElem?_set_self hk
            obtain ⟨_, a2, P', c', hCM, _, _, hcx, _, _, tA, _, _⟩ := hm12 k _ hks
            rw [HCM.out] at hCM
            obtain rfl := Option.some.inj hCM
            obtain ⟨_, p2, P2, pc2, hMA2, _, hcs, _⟩ := (H.out.below B12.out).main k x HX.out
            obtain rfl := Option.some.inj hMA2
            have q1 : w12.cell? ⟨(p.add (k * 11)).block, (p.add (k * 11)).off + 2, none⟩ = some (.int .i64 x.rc) := hcs.2.2.1
            have r1 : w12.cell? ⟨(a.add (k * 11)).block, (a.add (k * 11)).off + 2, none⟩ = some (.int .i64 x.rc) := hcx.2.2.1
            have z1 : w12.frozen? ⟨(a.add (k * 11)).block, (a.add (k * 11)).off + 2, none⟩ = false := thawed tA HCM.out (by show (a.add (k * 11)).block = _; rw [add_block]) r1
            have m3 : w12.cell? ⟨g, 3, none⟩ = some (.slice CM S.main.length cm) := NB12.out.cells.c3
            rw [HCM.out] at m3
            have y3 : w12.cell? ⟨b, 3, none⟩ = some (.slice (some p) S.main.length mc) := SB12.out.cells.c3
            have g0 : 0 ≤ x.rc := HFI.out.2.1
            have g1 : x.rc ≤ 1099511627776 := HFI.out.2.2
            have M12 := Lib.hid hm12
            clear hcx hcs hm12 tA hCM
            go_wp2_with fail
            go_region
            obtain ⟨w14, hw14⟩ : ∃ v, (w12.setCell ⟨(a.add (k * 11)).block, (a.add (k * 11)).off + 2, none⟩ (.int .i64 (x.rc + 1))).drew = v := ⟨_, rfl⟩
            rw [hw14]
            have hm14 : CtrsFrom hi w14 CM (S.main.set k (asked x)) := by
              have h1 := ctrs_rc M12.out hks HCM.out (x.rc + 1) (by unfold I64; omega)
              rw [List.set_set] at h1
              rw [← hw14]
              exact ctrs_ab (w := w12.setCell ⟨(a.add (k * 11)).block, (a.add (k * 11)).off + 2, none⟩ (.int .i64 (x.rc + 1))) ⟨Nat.le_refl _, fun _ _ _ => rfl⟩ (Nat.le_refl _) h1
            have hk14 : ∀ i, i ≠ a.block → w14.heap[i]? = w12.heap[i]? := fun i hi => by rw [← hw14]; exact Below.heap_setCell _ _ _ _ (by show i ≠ (a.add (k * 11)).block; rw [add_block]; exact hi)
            have hz14 : w14.heap.size = w12.heap.size := by rw [← hw14]; simp [World.drew]
            have hlo := HLO.out
            have hlo5 := HLO5.out
            have hhi6 := HHI6.out
            have hb5 : w.heap.size ≤ w5.heap.size := B5.out.size
            have hbn : b + 1 < w5.heap.size := HLT5.out
            have hi14 : CtrsMid w5.heap.size hi w14 CI S.init := I10.out.keep (by rw [hz14]; exact HB1012.out.size) (Nat.le_refl _) (fun i h1 h2 => (hk14 i (by omega)).trans (HB1012.out.block i (by have := I10.out.1; omega)))
            have hb14 : Below w.heap.size w w14 := by rw [← hw14]; exact (B12.out.setCell (by show w.heap.size ≤ (a.add (k * 11)).block; rw [add_block]; omega) _).drew
            have B14 := Lib.hid hb14
            have SB14 := Lib.hid (show SBox S LA lc IA ic (some p) mc w14 b from (hk14 b (by omega)).trans SB12.out)
            have NB14 := Lib.hid (show NBox S T LB ld CI ci CM cm w14 g from (hk14 g (by have := HGG.out; omega)).trans NB12.out)
            have IN14 := Lib.hid (show (putM S T k (asked x)).In w14 LB ld CI ci CM cm from ⟨HT.out.labels.below hb14, hi14.ctrs, ctrs_in hm14, HT.out.nl, H.out.ni, by show (S.main.set k _).length ≤ _; rw [List.length_set]; exact H.out.nm, HT.out.restart, HT.out.grace, HT.out.prio⟩)
            have hF := frozen_any S LA lc IA ic (some p) mc (putM S T k (asked x)) LB ld CI ci CM cm HIS.out HIA.out HSM.out w14 (HL.out.below B14.out) (H.out.below B14.out) IN14.out
            have hS := fun wx (hbx : Below w14.heap.size w14 wx) => same_any S LA lc IA ic (some p) mc (putM S T k (asked x)) LB ld CI ci CM cm wx (H.out.below (B14.out.trans (hbx.mono B14.out.size))) (IN14.out.below hbx)
            obtain ⟨pth, hpth⟩ : ∃ q, (frozenV S (putM S T k (asked x))).2 = q := ⟨_, rfl⟩
            rw [frozen_asked T HX.out, hpth, HCM.out] at hF
            rw [not_same T HX.out, HCM.out] at hS
            simp only [putM, List.length_set] at hF hS
            have HF := Lib.hid hF
            have HS := Lib.hid hS
            obtain ⟨y0, y1, y2, y3, y4, y5, y6⟩ := SB14.out.cells
            obtain ⟨m0, m1, m2, m3, m4, m5, m6⟩ := NB14.out.cells
            rw [HCM.out] at m3
            clear hm14 hk14 hz14 hlo hlo5 hhi6 hb5 hbn hi14 hb14 hF hS hpth q1 r1 z1 hw14 hks g0 g1
            go_wp2_with fail
            refine HF.out.mono ?_
            rintro e w15 ⟨E, rfl, hE, hb15⟩
            have B15 := Lib.hid (B14.out.trans (hb15.mono B14.out.size))
            have SB15 := Lib.hid (SB14.out.below hb15)
            have NB15 := Lib.hid (NB14.out.below hb15)
            have HE := Lib.hid hE
            have HB15 := Lib.hid hb15
            clear hE hb15 y0 y1 y2 y3 y4 y5 y6 m0 m1 m2 m3 m4 m5 m6
            go_wp2_with fail
            refine (Err.code_opt HE.out (HL.out.below B15.out).err).mono ?_
            rintro e w16 ⟨rfl, hb16⟩
            have B16 := Lib.hid (B15.out.trans (hb16.mono B15.out.size))
            have HB16 := Lib.hid (HB15.out.trans (hb16.mono HB15.out.size))
            obtain ⟨y0, y1, y2, y3, y4, y5, y6⟩ := (SB15.out.below hb16).cells
            obtain ⟨m0, m1, m2, m3, m4, m5, m6⟩ := (NB15.out.below hb16).cells
            rw [HCM.out] at m3
            clear hb16
            go_wp2_with fail
            refine (HS.out w16 HB16.out).mono ?_
            rintro e w17 ⟨rfl, hb17⟩
            have B17 := Lib.hid (B16.out.trans (hb17.mono B16.out.size))
            clear hb17
            go_wp2
            go_ret
            exact ⟨rfl, B17.out⟩
      · clear hnil
        go_wp2
        go_ret
        exact ⟨rfl, B5.out⟩
end Go.Proofs.YtefkaebdfkjkgaaGreatDoor.SpecUpdatesWalk
