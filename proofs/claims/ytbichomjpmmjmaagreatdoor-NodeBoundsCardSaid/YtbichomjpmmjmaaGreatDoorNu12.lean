/-
  The contract of (*taken).container: what is said of a container, and what is taken behind. All that was there is left as it was, but what is taken. Conditions: as SpecTake.
-/
import Derived.Test.YtbichomjpmmjmaaGreatDoorNu11
import Derived.Test.YtbichomjpmmjmaaGreatDoorNu10
import Derived.Test.YtbichomjpmmjmaaGreatDoorNu9
import Derived.Test.YtbichomjpmmjmaaGreatDoorNu8
import Derived.Test.YtbichomjpmmjmaaGreatDoorNu1
import Derived.Test.YtbichomjpmmjmaaGreatDoorNu0
import Derived.Laws.OwnMore
namespace Go.Proofs.YtbichomjpmmjmaaGreatDoor
open Go.ChangeShapes Go.WideShapes Go.ChangeAt Go.RowKit Go.Lib
open Sd Lists
namespace SpecOwn
/-- what each operation leaves -/
def FBox (g b1 b2 : Nat) (x : Ctr) (N : List ByteArray) (P : List Int) (PA : Option Addr) (pc : Nat) (mp me : Int) : Nat → Value → World → Prop
  | 0 => fun v _ => v = .pointer (some ⟨g, 0, none⟩)
  | 1 => fun v _ => v = .pointer (some ⟨b1, 0, none⟩)
  | 2 => fun v _ => v = .string x.name
  | 3 => SaysK (KO g) (nameN x.name N)
  | 4 => fun v _ => v = .pointer (some ⟨b1, 1, none⟩)
  | 5 => fun v _ => v = .string x.image
  | 6 => fun v _ => v = .int .i64 (Text.codeN (Text.imageB x.image) 33)
  | 7 => TextK (KO g) t_image
  | 8 => SaysK (KO g) (newV (Text.codeN (Text.imageB x.image) 33) t_image)
  | 9 => fun v _ => v = .pointer (some ⟨b1, 2, none⟩)
  | 10 => fun v _ => v = .agg #[.int .i64 x.rc, .int .i64 x.rm, .int .i64 x.rp]
  | 11 => SaysK (KO g) (reqN x.rc x.rm x.rp)
  | 12 => fun v _ => v = .pointer (some ⟨b1, 5, none⟩)
  | 13 => fun v _ => v = .agg #[.int .i64 x.lc, .int .i64 x.lm, .int .i64 x.lp]
  | 14 => fun v _ => v = .pointer (some ⟨b1, 2, none⟩)
  | 15 => fun v _ => v = .agg #[.int .i64 x.rc, .int .i64 x.rm, .int .i64 x.rp]
  | 16 => SaysK (KO g) (limN x.lc x.lm x.lp x.rc x.rm x.rp)
  | 17 => fun v _ => v = .pointer (some ⟨g, 0, none⟩)
  | 18 => fun v _ => v = .pointer (some ⟨b1, 8, none⟩)
  | 19 => fun v _ => v = .slice PA x.ports.length pc
  | 20 => fun v _ => v = .pointer (some ⟨b2, 2, none⟩)
  | 21 => fun v _ => v = .int .i64 mp
  | 22 => SaysK (KO g) (portsL P mp x.ports)
  | 23 => fun v _ => v = .pointer (some ⟨b1, 9, none⟩)
  | 24 => fun v _ => v = .agg #[.int .i64 x.ev, .int .i64 x.fl]
  | 25 => fun v _ => v = .pointer (some ⟨b2, 3, none⟩)
  | 26 => fun v _ => v = .int .i64 me
  | 27 => SaysK (KO g) (probeN x.ev x.fl me)
  | 28 => RowK (KO g) [nameN x.name N, newV (Text.codeN (Text.imageB x.image) 33) t_image, reqN x.rc x.rm x.rp, limN x.lc x.lm x.lp x.rc x.rm x.rp, portsL P mp x.ports, probeN x.ev x.fl me]
  | 29 => SaysK (KO g) (firstV [nameN x.name N, newV (Text.codeN (Text.imageB x.image) 33) t_image, reqN x.rc x.rm x.rp, limN x.lc x.lm x.lp x.rc x.rm x.rp, portsL P mp x.ports, probeN x.ev x.fl me])
  | _ => SaysK (KO g) (firstV [nameN x.name N, newV (Text.codeN (Text.imageB x.image) 33) t_image, reqN x.rc x.rm x.rp, limN x.lc x.lm x.lp x.rc x.rm x.rp, portsL P mp x.ports, probeN x.ev x.fl me])
theorem FBox_keep (g b1 b2 : Nat) (x : Ctr) (N : List ByteArray) (P : List Int) (PA : Option Addr) (pc : Nat) (mp me : Int) (i : Nat) (v : Value) (w w' : World) (h : FBox g b1 b2 x N P PA pc mp me i v w) (hb : Av g w w') : FBox g b1 b2 x N P PA pc mp me i v w' := by
  unfold FBox at h ⊢
  split at h <;> first | exact h | exact TextK.keep h (ko_keep hb) | exact SaysK.keep h (ko_keep hb) | exact RowK.keep h (ko_keep hb)
/-- the region's plan: a name is taken, then ports -/
def boxPlan (g b1 b2 : Nat) (x : Ctr) (N : List ByteArray) (P : List Int) (PA : Option Addr) (pc : Nat) (mp me : Int) : Line.Plan where
  A := Av g
  refl := Av.refl g
  trans := Av.trans
  below := Av.of_any
  cs := [3, 6, 8, 11, 16, 22]
  G := fun j w => match j with
    | 0 => Tk w g N P
    | 1 | 2 | 3 | 4 | 5 => Tk w g (nameAfter x.name N) P
    | _ => Tk w g (nameAfter x.name N) (portsLAfter P mp x.ports)
  F := FBox g b1 b2 x N P PA pc mp me
  keepG := fun j w w' hg hb => by
    match j, hg with
    | 0, hg => exact Tk.keep hg hb
    | 1, hg => exact Tk.keep hg hb
    | 2, hg => exact Tk.keep hg hb
    | 3, hg => exact Tk.keep hg hb
    | 4, hg => exact Tk.keep hg hb
    | 5, hg => exact Tk.keep hg hb
    | _ + 6, hg => exact Tk.keep hg hb
  keepF := fun i v w w' hf hb => FBox_keep g b1 b2 x N P PA pc mp me i v w w' hf hb
theorem ctr_quiet {g b1 b2 : Nat} {x : Ctr} {N : List ByteArray} {P : List Int} {PA : Option Addr} {pc : Nat} {mp me : Int} {i : Nat} (hi : i ≠ 3 ∧ i ≠ 6 ∧ i ≠ 8 ∧ i ≠ 11 ∧ i ≠ 16 ∧ i ≠ 22) : i ∉ (boxPlan g b1 b2 x N P PA pc mp me).cs := by simpa [boxPlan] using hi
set_option maxRecDepth 100000 in
set_option maxHeartbeats 4000000 in
theorem container_any (wb : World) (hL : SLaid wb) (g : Nat) (hg0 : wb.heap.size ≤ g) (x : Ctr) (PA : Option Addr) (pc : Nat) (hp : Nums .i64 wb PA x.ports) (hs0 : x.name.size ≤ 1000) (hs1 : x.image.size ≤ 1000) (hs2 : x.ports.length ≤ 1000) (lo hi mp me : Int)
    (N : List ByteArray) (P : List Int) (hN : N.length ≤ 1000) (hP : P.length ≤ 1000) (w : World) (hb0 : Below wb.heap.size wb w) (hT : Tk w g N P) :
    Calls Tryz.prog 91 #[.pointer (some ⟨g, 0, none⟩), .agg #[.string x.name, .string x.image, .int .i64 x.rc, .int .i64 x.rm, .int .i64 x.rp, .int .i64 x.lc, .int .i64 x.lm, .int .i64 x.lp, .slice PA x.ports.length pc, .int .i64 x.ev, .int .i64 x.fl], .agg #[.int .i64 lo, .int .i64 hi, .int .i64 mp, .int .i64 me]] w
      (Took g (oneN x N P mp me) (nameAfter x.name N) (portsLAfter P mp x.ports) w) := by
  have HL := Lib.hid hL
  have HT := Lib.hid hT
  have HN := Lib.hid hp
  have HBW := Lib.hid hb0
  clear hL hT hp hb0
  go_enter Tryz.func91, Tryz.ntmps91
  go_wp2_with fail
  obtain ⟨w3, hw3⟩ : ∃ w3, (w.alloc (.cells #[.string x.name, .string x.image, .int .i64 x.rc, .int .i64 x.rm, .int .i64 x.rp, .int .i64 x.lc, .int .i64 x.lm, .int .i64 x.lp, .slice PA x.ports.length pc, .int .i64 x.ev, .int .i64 x.fl] 105)).alloc (.cells #[.int .i64 lo, .int .i64 hi, .int .i64 mp, .int .i64 me] 123) = w3 := ⟨_, rfl⟩
  have hb3 : Below w.heap.size w w3 := by rw [← hw3]; exact ((Below.refl _ _).alloc (Nat.le_refl _) _).alloc (by simp) _
  have HB3 := Lib.hid hb3
  have HT3 := Lib.hid (HT.out.keep hb3)
  have HOK := Lib.hid HT3.out.ok
  have HB0 := Lib.hid (HBW.out.trans (hb3.mono HBW.out.size))
  have HB1 := Lib.hid (show w3.heap[w.heap.size]? = some (.cells #[.string x.name, .string x.image, .int .i64 x.rc, .int .i64 x.rm, .int .i64 x.rp, .int .i64 x.lc, .int .i64 x.lm, .int .i64 x.lp, .slice PA x.ports.length pc, .int .i64 x.ev, .int .i64 x.fl] 105 (0, 0)) by
    rw [← hw3, Below.heap_alloc _ _ _ (by simp)]; exact heap_alloc_new w _)
  have HB2 := Lib.hid (show w3.heap[w.heap.size + 1]? = some (.cells #[.int .i64 lo, .int .i64 hi, .int .i64 mp, .int .i64 me] 123 (0, 0)) by
    have e : (w.alloc (.cells #[.string x.name, .string x.image, .int .i64 x.rc, .int .i64 x.rm, .int .i64 x.rp, .int .i64 x.lc, .int .i64 x.lm, .int .i64 x.lp, .slice PA x.ports.length pc, .int .i64 x.ev, .int .i64 x.fl] 105)).heap.size = w.heap.size + 1 := by simp
    rw [← hw3, ← e]; exact heap_alloc_new _ _)
  have hsz3 : w3.heap.size = w.heap.size + 2 := by rw [← hw3]; simp
  have HO1 := Lib.hid (HT.out.ok.fresh hb3 (b := w.heap.size) (Nat.le_refl _) (by omega))
  have HO2 := Lib.hid (HT.out.ok.fresh hb3 (b := w.heap.size + 1) (by omega) (by omega))
  rw [hw3]
  obtain ⟨b1, hb1⟩ : ∃ b, w.heap.size = b := ⟨_, rfl⟩
  have HBB := Lib.hid hb1
  rw [hb1] at HB1 HB2 HO1 HO2 ⊢
  obtain ⟨b2, hb2⟩ : ∃ b, b1 + 1 = b := ⟨_, rfl⟩
  rw [hb2] at HB2 HO2 ⊢
  clear hw3 hb1 hb2 hb3 hsz3
  refine Line.wp_region_walk (by kernel_rfl) (by kernel_rfl) (boxPlan g b1 b2 x N P PA pc mp me) (by kernel_rfl) (by kernel_rfl) HT3.out ?_ ?_
  · refine ⟨?_, ?_, ?_, ?_, ?_, ?_, ?_, ?_, ?_, ?_, ?_, ?_, ?_, ?_, ?_, ?_, ?_, ?_, ?_, ?_, ?_, ?_, ?_, ?_, ?_, ?_, ?_, ?_, ?_, ?_, ?_, trivial⟩
    · intro a w1 hfr hdep hG
      have hok := (hfr.kept.ok HOK.out).1
      have f0 : a.tmps.getD 0 undef = .pointer (some ⟨g, 0, none⟩) := hfr.slot 0 (by kernel_rfl)
      refine Line.Step.value (ctr_quiet (by decide)) (Line.wanted_free rfl) (v := .pointer (some ⟨g, 0, none⟩)) (w' := w1) ?_ rfl (Below.refl _ _)
      simp [go_sem, Act.eval, f0]
    · intro a w1 hfr hdep hG
      have hok := (hfr.kept.ok HOK.out).1
      have f0 : a.tmps.getD 4 undef = .pointer (some ⟨b1, 0, none⟩) := hfr.slot 4 (by kernel_rfl)
      refine Line.Step.value (ctr_quiet (by decide)) (Line.wanted_free rfl) (v := .pointer (some ⟨b1, 0, none⟩)) (w' := w1) ?_ rfl (Below.refl _ _)
      simp [go_sem, Act.eval, f0]
    · intro a w1 hfr hdep hG
      have hok := (hfr.kept.ok HOK.out).1
      have e0 : a.tmps.getD 8 undef = .pointer (some ⟨b1, 0, none⟩) := Loose.dep_of hdep 1 8 (by kernel_rfl)
      have hbk := ((hfr.kept.ok HOK.out).2 b1 HO1.out).2.trans HB1.out
      have hc0 : w1.cell? ⟨b1, 0, none⟩ = some (.string x.name) := by simp [World.cell?, hbk]
      clear hbk
      refine Line.Step.value (ctr_quiet (by decide)) (Line.wanted_free rfl) (v := .string x.name) (w' := w1) ?_ rfl (Below.refl _ _)
      simp [go_sem, Act.eval, e0, hc0]
    · intro a w1 hfr hdep hG
      have hok := (hfr.kept.ok HOK.out).1
      have e0 : a.tmps.getD 7 undef = .pointer (some ⟨g, 0, none⟩) := Loose.dep_of hdep 0 7 (by kernel_rfl)
      have e1 : a.tmps.getD 9 undef = .string x.name := Loose.dep_of hdep 2 9 (by kernel_rfl)
      refine Line.Step.write 0 rfl (Line.wanted_free rfl) (f := 107) (args := #[.pointer (some ⟨g, 0, none⟩), .string x.name]) ?_ ?_
      · simp [go_sem, Act.eval, e0, e1]
      · refine (takeName_any g x.name N P hs0 hN w1 (HL.out.below (hfr.kept.base HB0.out hg0)) (hG 0 rfl)).mono ?_
        rintro e w2 ⟨E, rfl, hE, hA, hT⟩
        exact ⟨E, rfl, Says.keep hE fun b h1 _ => ⟨⟨hT.ok, h1⟩, rfl⟩, hA, hT⟩
    · intro a w1 hfr hdep hG
      have hok := (hfr.kept.ok HOK.out).1
      have f0 : a.tmps.getD 4 undef = .pointer (some ⟨b1, 0, none⟩) := hfr.slot 4 (by kernel_rfl)
      refine Line.Step.value (ctr_quiet (by decide)) (Line.wanted_free rfl) (v := .pointer (some ⟨b1, 1, none⟩)) (w' := w1) ?_ rfl (Below.refl _ _)
      simp [go_sem, Act.eval, f0]
    · intro a w1 hfr hdep hG
      have hok := (hfr.kept.ok HOK.out).1
      have e0 : a.tmps.getD 11 undef = .pointer (some ⟨b1, 1, none⟩) := Loose.dep_of hdep 4 11 (by kernel_rfl)
      have hbk := ((hfr.kept.ok HOK.out).2 b1 HO1.out).2.trans HB1.out
      have hc0 : w1.cell? ⟨b1, 1, none⟩ = some (.string x.image) := by simp [World.cell?, hbk]
      clear hbk
      refine Line.Step.value (ctr_quiet (by decide)) (Line.wanted_free rfl) (v := .string x.image) (w' := w1) ?_ rfl (Below.refl _ _)
      simp [go_sem, Act.eval, e0, hc0]
    · intro a w1 hfr hdep hG
      have hok := (hfr.kept.ok HOK.out).1
      have e0 : a.tmps.getD 12 undef = .string x.image := Loose.dep_of hdep 5 12 (by kernel_rfl)
      refine Line.Step.write 1 rfl (Line.wanted_free rfl) (f := 108) (args := #[.string x.image]) ?_ ?_
      · simp [go_sem, Act.eval, e0]
      · refine (Text.image_any x.image (by omega) w1 (HL.out.below (hfr.kept.base HB0.out hg0)).text).mono ?_
        rintro e w2 ⟨rfl, hb⟩
        exact ⟨_, rfl, rfl, .of_any hb, Tk.keep (hG 1 rfl) hb⟩
    · intro a w1 hfr hdep hG
      have hok := (hfr.kept.ok HOK.out).1
      have hb : Below w1.heap.size w1 (w1.alloc (.cells #[.string t_image] 9)) := (Below.refl _ _).alloc (Nat.le_refl _) _
      refine Line.Step.value (ctr_quiet (by decide)) (Line.wanted_free rfl) (v := .slice (some ⟨w1.heap.size, 0, none⟩) 1 1) (w' := w1.alloc (.cells #[.string t_image] 9)) ?_ (text_made _ (ko_new hok hb (Nat.le_refl _) (by simp))) hb
      simp [go_sem, t_image]
    · intro a w1 hfr hdep hG
      have hok := (hfr.kept.ok HOK.out).1
      have e0 : a.tmps.getD 13 undef = .int .i64 (Text.codeN (Text.imageB x.image) 33) := Loose.dep_of hdep 6 13 (by kernel_rfl)
      obtain ⟨gg, e1, _, hcg⟩ : TextK (KO g) t_image (a.tmps.getD 14 undef) w1 := Loose.dep_of hdep 7 14 (by kernel_rfl)
      refine Line.Step.write 2 rfl (Line.wanted_free rfl) (f := 74) (args := #[.int .i64 (Text.codeN (Text.imageB x.image) 33), .slice (some ⟨gg, 0, none⟩) 1 1]) ?_ ?_
      · simp [go_sem, Act.eval, e0, e1]
      · refine (new_says (Text.codeN (Text.imageB x.image) 33) t_image gg 1 w1 (by decide) hcg).mono ?_
        rintro e w2 ⟨E, rfl, hE, hb⟩
        exact ⟨E, rfl, ko_tells hok hb hE, .of_any hb, Tk.keep (hG 2 rfl) hb⟩
    · intro a w1 hfr hdep hG
      have hok := (hfr.kept.ok HOK.out).1
      have f0 : a.tmps.getD 4 undef = .pointer (some ⟨b1, 0, none⟩) := hfr.slot 4 (by kernel_rfl)
      refine Line.Step.value (ctr_quiet (by decide)) (Line.wanted_free rfl) (v := .pointer (some ⟨b1, 2, none⟩)) (w' := w1) ?_ rfl (Below.refl _ _)
      simp [go_sem, Act.eval, f0]
    · intro a w1 hfr hdep hG
      have hok := (hfr.kept.ok HOK.out).1
      have e0 : a.tmps.getD 16 undef = .pointer (some ⟨b1, 2, none⟩) := Loose.dep_of hdep 9 16 (by kernel_rfl)
      have hbk := ((hfr.kept.ok HOK.out).2 b1 HO1.out).2.trans HB1.out
      have hc0 : w1.cell? ⟨b1, 2, none⟩ = some (.int .i64 x.rc) := by simp [World.cell?, hbk]
      have hc1 : w1.cell? ⟨b1, 3, none⟩ = some (.int .i64 x.rm) := by simp [World.cell?, hbk]
      have hc2 : w1.cell? ⟨b1, 4, none⟩ = some (.int .i64 x.rp) := by simp [World.cell?, hbk]
      clear hbk
      refine Line.Step.value (ctr_quiet (by decide)) (Line.wanted_free rfl) (v := .agg #[.int .i64 x.rc, .int .i64 x.rm, .int .i64 x.rp]) (w' := w1) ?_ rfl (Below.refl _ _)
      simp [go_sem, Act.eval, e0, hc0, hc1, hc2]
    · intro a w1 hfr hdep hG
      have hok := (hfr.kept.ok HOK.out).1
      have e0 : a.tmps.getD 17 undef = .agg #[.int .i64 x.rc, .int .i64 x.rm, .int .i64 x.rp] := Loose.dep_of hdep 10 17 (by kernel_rfl)
      refine Line.Step.write 3 rfl (Line.wanted_free rfl) (f := 109) (args := #[.agg #[.int .i64 x.rc, .int .i64 x.rm, .int .i64 x.rp]]) ?_ ?_
      · simp [go_sem, Act.eval, e0]
      · refine (req_any x.rc x.rm x.rp w1).mono ?_
        rintro e w2 ⟨E, rfl, hE, hb⟩
        exact ⟨E, rfl, ko_tells hok hb hE, .of_any hb, Tk.keep (hG 3 rfl) hb⟩
    · intro a w1 hfr hdep hG
      have hok := (hfr.kept.ok HOK.out).1
      have f0 : a.tmps.getD 4 undef = .pointer (some ⟨b1, 0, none⟩) := hfr.slot 4 (by kernel_rfl)
      refine Line.Step.value (ctr_quiet (by decide)) (Line.wanted_free rfl) (v := .pointer (some ⟨b1, 5, none⟩)) (w' := w1) ?_ rfl (Below.refl _ _)
      simp [go_sem, Act.eval, f0]
    · intro a w1 hfr hdep hG
      have hok := (hfr.kept.ok HOK.out).1
      have e0 : a.tmps.getD 19 undef = .pointer (some ⟨b1, 5, none⟩) := Loose.dep_of hdep 12 19 (by kernel_rfl)
      have hbk := ((hfr.kept.ok HOK.out).2 b1 HO1.out).2.trans HB1.out
      have hc0 : w1.cell? ⟨b1, 5, none⟩ = some (.int .i64 x.lc) := by simp [World.cell?, hbk]
      have hc1 : w1.cell? ⟨b1, 6, none⟩ = some (.int .i64 x.lm) := by simp [World.cell?, hbk]
      have hc2 : w1.cell? ⟨b1, 7, none⟩ = some (.int .i64 x.lp) := by simp [World.cell?, hbk]
      clear hbk
      refine Line.Step.value (ctr_quiet (by decide)) (Line.wanted_free rfl) (v := .agg #[.int .i64 x.lc, .int .i64 x.lm, .int .i64 x.lp]) (w' := w1) ?_ rfl (Below.refl _ _)
      simp [go_sem, Act.eval, e0, hc0, hc1, hc2]
    · intro a w1 hfr hdep hG
      have hok := (hfr.kept.ok HOK.out).1
      have f0 : a.tmps.getD 4 undef = .pointer (some ⟨b1, 0, none⟩) := hfr.slot 4 (by kernel_rfl)
      refine Line.Step.value (ctr_quiet (by decide)) (Line.wanted_free rfl) (v := .pointer (some ⟨b1, 2, none⟩)) (w' := w1) ?_ rfl (Below.refl _ _)
      simp [go_sem, Act.eval, f0]
    · intro a w1 hfr hdep hG
      have hok := (hfr.kept.ok HOK.out).1
      have e0 : a.tmps.getD 21 undef = .pointer (some ⟨b1, 2, none⟩) := Loose.dep_of hdep 14 21 (by kernel_rfl)
      have hbk := ((hfr.kept.ok HOK.out).2 b1 HO1.out).2.trans HB1.out
      have hc0 : w1.cell? ⟨b1, 2, none⟩ = some (.int .i64 x.rc) := by simp [World.cell?, hbk]
      have hc1 : w1.cell? ⟨b1, 3, none⟩ = some (.int .i64 x.rm) := by simp [World.cell?, hbk]
      have hc2 : w1.cell? ⟨b1, 4, none⟩ = some (.int .i64 x.rp) := by simp [World.cell?, hbk]
      clear hbk
      refine Line.Step.value (ctr_quiet (by decide)) (Line.wanted_free rfl) (v := .agg #[.int .i64 x.rc, .int .i64 x.rm, .int .i64 x.rp]) (w' := w1) ?_ rfl (Below.refl _ _)
      simp [go_sem, Act.eval, e0, hc0, hc1, hc2]
    · intro a w1 hfr hdep hG
      have hok := (hfr.kept.ok HOK.out).1
      have e0 : a.tmps.getD 20 undef = .agg #[.int .i64 x.lc, .int .i64 x.lm, .int .i64 x.lp] := Loose.dep_of hdep 13 20 (by kernel_rfl)
      have e1 : a.tmps.getD 22 undef = .agg #[.int .i64 x.rc, .int .i64 x.rm, .int .i64 x.rp] := Loose.dep_of hdep 15 22 (by kernel_rfl)
      refine Line.Step.write 4 rfl (Line.wanted_free rfl) (f := 110) (args := #[.agg #[.int .i64 x.lc, .int .i64 x.lm, .int .i64 x.lp], .agg #[.int .i64 x.rc, .int .i64 x.rm, .int .i64 x.rp]]) ?_ ?_
      · simp [go_sem, Act.eval, e0, e1]
      · refine (lim_any x.lc x.lm x.lp x.rc x.rm x.rp w1).mono ?_
        rintro e w2 ⟨E, rfl, hE, hb⟩
        exact ⟨E, rfl, ko_tells hok hb hE, .of_any hb, Tk.keep (hG 4 rfl) hb⟩
    · intro a w1 hfr hdep hG
      have hok := (hfr.kept.ok HOK.out).1
      have f0 : a.tmps.getD 0 undef = .pointer (some ⟨g, 0, none⟩) := hfr.slot 0 (by kernel_rfl)
      refine Line.Step.value (ctr_quiet (by decide)) (Line.wanted_free rfl) (v := .pointer (some ⟨g, 0, none⟩)) (w' := w1) ?_ rfl (Below.refl _ _)
      simp [go_sem, Act.eval, f0]
    · intro a w1 hfr hdep hG
      have hok := (hfr.kept.ok HOK.out).1
      have f0 : a.tmps.getD 4 undef = .pointer (some ⟨b1, 0, none⟩) := hfr.slot 4 (by kernel_rfl)
      refine Line.Step.value (ctr_quiet (by decide)) (Line.wanted_free rfl) (v := .pointer (some ⟨b1, 8, none⟩)) (w' := w1) ?_ rfl (Below.refl _ _)
      simp [go_sem, Act.eval, f0]
    · intro a w1 hfr hdep hG
      have hok := (hfr.kept.ok HOK.out).1
      have e0 : a.tmps.getD 25 undef = .pointer (some ⟨b1, 8, none⟩) := Loose.dep_of hdep 18 25 (by kernel_rfl)
      have hbk := ((hfr.kept.ok HOK.out).2 b1 HO1.out).2.trans HB1.out
      have hc0 : w1.cell? ⟨b1, 8, none⟩ = some (.slice PA x.ports.length pc) := by simp [World.cell?, hbk]
      clear hbk
      refine Line.Step.value (ctr_quiet (by decide)) (Line.wanted_free rfl) (v := .slice PA x.ports.length pc) (w' := w1) ?_ rfl (Below.refl _ _)
      simp [go_sem, Act.eval, e0, hc0]
    · intro a w1 hfr hdep hG
      have hok := (hfr.kept.ok HOK.out).1
      have f0 : a.tmps.getD 5 undef = .pointer (some ⟨b2, 0, none⟩) := hfr.slot 5 (by kernel_rfl)
      refine Line.Step.value (ctr_quiet (by decide)) (Line.wanted_free rfl) (v := .pointer (some ⟨b2, 2, none⟩)) (w' := w1) ?_ rfl (Below.refl _ _)
      simp [go_sem, Act.eval, f0]
    · intro a w1 hfr hdep hG
      have hok := (hfr.kept.ok HOK.out).1
      have e0 : a.tmps.getD 27 undef = .pointer (some ⟨b2, 2, none⟩) := Loose.dep_of hdep 20 27 (by kernel_rfl)
      have hbk := ((hfr.kept.ok HOK.out).2 b2 HO2.out).2.trans HB2.out
      have hc0 : w1.cell? ⟨b2, 2, none⟩ = some (.int .i64 mp) := by simp [World.cell?, hbk]
      clear hbk
      refine Line.Step.value (ctr_quiet (by decide)) (Line.wanted_free rfl) (v := .int .i64 mp) (w' := w1) ?_ rfl (Below.refl _ _)
      simp [go_sem, Act.eval, e0, hc0]
    · intro a w1 hfr hdep hG
      have hok := (hfr.kept.ok HOK.out).1
      have e0 : a.tmps.getD 24 undef = .pointer (some ⟨g, 0, none⟩) := Loose.dep_of hdep 17 24 (by kernel_rfl)
      have e1 : a.tmps.getD 26 undef = .slice PA x.ports.length pc := Loose.dep_of hdep 19 26 (by kernel_rfl)
      have e2 : a.tmps.getD 28 undef = .int .i64 mp := Loose.dep_of hdep 21 28 (by kernel_rfl)
      refine Line.Step.write 5 rfl (Line.wanted_free rfl) (f := 111) (args := #[.pointer (some ⟨g, 0, none⟩), .slice PA x.ports.length pc, .int .i64 mp]) ?_ ?_
      · simp [go_sem, Act.eval, e0, e1, e2]
      · refine (takePorts_any wb HL.out g hg0 PA pc x.ports mp HN.out hs2 (nameAfter x.name N) P hP w1 (hfr.kept.base HB0.out hg0) (hG 5 rfl)).mono ?_
        rintro e w2 ⟨E, rfl, hE, hA, hT⟩
        exact ⟨E, rfl, Says.keep hE fun b h1 _ => ⟨⟨hT.ok, h1⟩, rfl⟩, hA, hT⟩
    · intro a w1 hfr hdep hG
      have hok := (hfr.kept.ok HOK.out).1
      have f0 : a.tmps.getD 4 undef = .pointer (some ⟨b1, 0, none⟩) := hfr.slot 4 (by kernel_rfl)
      refine Line.Step.value (ctr_quiet (by decide)) (Line.wanted_free rfl) (v := .pointer (some ⟨b1, 9, none⟩)) (w' := w1) ?_ rfl (Below.refl _ _)
      simp [go_sem, Act.eval, f0]
    · intro a w1 hfr hdep hG
      have hok := (hfr.kept.ok HOK.out).1
      have e0 : a.tmps.getD 30 undef = .pointer (some ⟨b1, 9, none⟩) := Loose.dep_of hdep 23 30 (by kernel_rfl)
      have hbk := ((hfr.kept.ok HOK.out).2 b1 HO1.out).2.trans HB1.out
      have hc0 : w1.cell? ⟨b1, 9, none⟩ = some (.int .i64 x.ev) := by simp [World.cell?, hbk]
      have hc1 : w1.cell? ⟨b1, 10, none⟩ = some (.int .i64 x.fl) := by simp [World.cell?, hbk]
      clear hbk
      refine Line.Step.value (ctr_quiet (by decide)) (Line.wanted_free rfl) (v := .agg #[.int .i64 x.ev, .int .i64 x.fl]) (w' := w1) ?_ rfl (Below.refl _ _)
      simp [go_sem, Act.eval, e0, hc0, hc1]
    · intro a w1 hfr hdep hG
      have hok := (hfr.kept.ok HOK.out).1
      have f0 : a.tmps.getD 5 undef = .pointer (some ⟨b2, 0, none⟩) := hfr.slot 5 (by kernel_rfl)
      refine Line.Step.value (ctr_quiet (by decide)) (Line.wanted_free rfl) (v := .pointer (some ⟨b2, 3, none⟩)) (w' := w1) ?_ rfl (Below.refl _ _)
      simp [go_sem, Act.eval, f0]
    · intro a w1 hfr hdep hG
      have hok := (hfr.kept.ok HOK.out).1
      have e0 : a.tmps.getD 32 undef = .pointer (some ⟨b2, 3, none⟩) := Loose.dep_of hdep 25 32 (by kernel_rfl)
      have hbk := ((hfr.kept.ok HOK.out).2 b2 HO2.out).2.trans HB2.out
      have hc0 : w1.cell? ⟨b2, 3, none⟩ = some (.int .i64 me) := by simp [World.cell?, hbk]
      clear hbk
      refine Line.Step.value (ctr_quiet (by decide)) (Line.wanted_free rfl) (v := .int .i64 me) (w' := w1) ?_ rfl (Below.refl _ _)
      simp [go_sem, Act.eval, e0, hc0]
    · intro a w1 hfr hdep hG
      have hok := (hfr.kept.ok HOK.out).1
      have e0 : a.tmps.getD 31 undef = .agg #[.int .i64 x.ev, .int .i64 x.fl] := Loose.dep_of hdep 24 31 (by kernel_rfl)
      have e1 : a.tmps.getD 33 undef = .int .i64 me := Loose.dep_of hdep 26 33 (by kernel_rfl)
      refine Line.Step.call (ctr_quiet (by decide)) (Line.wanted_free rfl) (f := 112) (args := #[.agg #[.int .i64 x.ev, .int .i64 x.fl], .int .i64 me]) ?_ ?_
      · simp [go_sem, Act.eval, e0, e1]
      · refine (probe_any x.ev x.fl me w1).mono ?_
        rintro e w2 ⟨E, rfl, hE, hb⟩
        exact ⟨E, rfl, ko_tells hok hb hE, hb⟩
    · intro a w1 hfr hdep hG
      have hok := (hfr.kept.ok HOK.out).1
      have h0 : SaysK (KO g) (nameN x.name N) (a.tmps.getD 10 undef) w1 := Loose.dep_of hdep 3 10 (by kernel_rfl)
      have h1 : SaysK (KO g) (newV (Text.codeN (Text.imageB x.image) 33) t_image) (a.tmps.getD 15 undef) w1 := Loose.dep_of hdep 8 15 (by kernel_rfl)
      have h2 : SaysK (KO g) (reqN x.rc x.rm x.rp) (a.tmps.getD 18 undef) w1 := Loose.dep_of hdep 11 18 (by kernel_rfl)
      have h3 : SaysK (KO g) (limN x.lc x.lm x.lp x.rc x.rm x.rp) (a.tmps.getD 23 undef) w1 := Loose.dep_of hdep 16 23 (by kernel_rfl)
      have h4 : SaysK (KO g) (portsL P mp x.ports) (a.tmps.getD 29 undef) w1 := Loose.dep_of hdep 22 29 (by kernel_rfl)
      have h5 : SaysK (KO g) (probeN x.ev x.fl me) (a.tmps.getD 34 undef) w1 := Loose.dep_of hdep 27 34 (by kernel_rfl)
      have r := build6 (a.tmps.getD 10 undef) (a.tmps.getD 15 undef) (a.tmps.getD 18 undef) (a.tmps.getD 23 undef) (a.tmps.getD 29 undef) (a.tmps.getD 34 undef) w1 (cells_form (Says.form h0)) (cells_form (Says.form h1)) (cells_form (Says.form h2)) (cells_form (Says.form h3)) (cells_form (Says.form h4)) (cells_form (Says.form h5))
      have hb : Below w1.heap.size w1 (w1.alloc (.cells #[a.tmps.getD 10 undef, a.tmps.getD 15 undef, a.tmps.getD 18 undef, a.tmps.getD 23 undef, a.tmps.getD 29 undef, a.tmps.getD 34 undef] 83)) := (Below.refl _ _).alloc (Nat.le_refl _) _
      refine Line.Step.value (ctr_quiet (by decide)) (Line.wanted_free rfl) (v := .slice (some ⟨w1.heap.size, 0, none⟩) 6 6) (w' := w1.alloc (.cells #[a.tmps.getD 10 undef, a.tmps.getD 15 undef, a.tmps.getD 18 undef, a.tmps.getD 23 undef, a.tmps.getD 29 undef, a.tmps.getD 34 undef] 83)) ?_ (row_made [a.tmps.getD 10 undef, a.tmps.getD 15 undef, a.tmps.getD 18 undef, a.tmps.getD 23 undef, a.tmps.getD 29 undef, a.tmps.getD 34 undef] _ 6 rfl (ko_new hok hb (Nat.le_refl _) (by simp)) (ko_keep (.of_any hb)) ⟨h0, h1, h2, h3, h4, h5, trivial⟩) hb
      clear hb h0 h1 h2 h3 h4 h5 hdep
      simp only [Array.getD_eq_getD_getElem?] at r
      simp [execOp, Act.eval, r]
    · intro a w1 hfr hdep hG
      have hok := (hfr.kept.ok HOK.out).1
      have h0 : RowK (KO g) [nameN x.name N, newV (Text.codeN (Text.imageB x.image) 33) t_image, reqN x.rc x.rm x.rp, limN x.lc x.lm x.lp x.rc x.rm x.rp, portsL P mp x.ports, probeN x.ev x.fl me] (a.tmps.getD 35 undef) w1 := Loose.dep_of hdep 28 35 (by kernel_rfl)
      refine Line.Step.call (ctr_quiet (by decide)) (Line.wanted_free rfl) (f := 73) (args := #[a.tmps.getD 35 undef]) ?_ (row_first h0 (by simp))
      simp [go_sem, Act.eval]
    · intro a w1 hfr hdep hG
      have hok := (hfr.kept.ok HOK.out).1
      have h0 : SaysK (KO g) (firstV [nameN x.name N, newV (Text.codeN (Text.imageB x.image) 33) t_image, reqN x.rc x.rm x.rp, limN x.lc x.lm x.lp x.rc x.rm x.rp, portsL P mp x.ports, probeN x.ev x.fl me]) (a.tmps.getD 36 undef) w1 := Loose.dep_of hdep 29 36 (by kernel_rfl)
      refine Line.Step.value (ctr_quiet (by decide)) (Line.wanted_free rfl) (v := a.tmps.getD 36 undef) (w' := w1) ?_ h0 (Below.refl _ _)
      simp [go_sem, Act.eval]
  · intro v0 v1 v2 v3 v4 v5 v6 v7 v8 v9 v10 v11 v12 v13 v14 v15 v16 v17 v18 v19 v20 v21 v22 v23 v24 v25 v26 v27 v28 v29 v30 w6 hk6 hC hG6
    have hE : SaysK (KO g) (firstV [nameN x.name N, newV (Text.codeN (Text.imageB x.image) 33) t_image, reqN x.rc x.rm x.rp, limN x.lc x.lm x.lp x.rc x.rm x.rp, portsL P mp x.ports, probeN x.ev x.fl me]) v30 w6 := hC.2
    have hT6 : Tk w6 g (nameAfter x.name N) (portsLAfter P mp x.ports) := hG6
    have HX := Lib.hid (show Took g (oneN x N P mp me) (nameAfter x.name N) (portsLAfter P mp x.ports) w (.returned v30) w6 from ⟨_, rfl, Says.keep hE fun _ h1 _ => ⟨h1.2, rfl⟩, (Av.of_any HB3.out).trans hk6, hT6⟩)
    clear hC hE hT6 hG6 hk6
    simp only [put_lit, List.set_cons_succ, List.set_cons_zero]
    go_wp2_with fail
    go_ret
    exact HX.out
end SpecOwn
end Go.Proofs.YtbichomjpmmjmaaGreatDoor

/-
  The contract of (*taken).list: what is said of the containers of a pod, and what is taken behind. All that was there is left as it was, but what is taken. Conditions: as SpecTake.
-/
namespace Go.Proofs.YtbichomjpmmjmaaGreatDoor
open Go.ChangeShapes Go.WideShapes Go.ChangeAt Go.RowKit Go.Lib
open Sd Lists
namespace SpecOwn
theorem firstV_size {n : Nat} : ∀ {l : List Say}, (∀ y ∈ l, y.2.size ≤ n) → (firstV l).2.size ≤ n
  | [], _ => by show (0 : Nat) ≤ n; omega
  | y :: l, h => by
    rw [firstV_cons]
    split
    · exact firstV_size fun z hz => h z (by simp [hz])
    · exact h y (by simp)
theorem withinV_size (n l m : Int) (s : ByteArray) (k : Nat) (h : s.size ≤ k) : (withinV n l m s).2.size ≤ k := by
  unfold withinV
  split
  · exact h
  · show (0 : Nat) ≤ k; omega
theorem limitV_size (n l : Int) (s : ByteArray) (k : Nat) (h : s.size ≤ k) : (limitV n l s).2.size ≤ k := by
  unfold limitV
  split
  · show (0 : Nat) ≤ k; omega
  · exact withinV_size _ _ _ _ _ h
theorem portsN_size : ∀ (l : List Int) (P : List Int) (k : Nat), k + l.length ≤ 1000 → (portsN P k l).2.size ≤ 40
  | [], _, _, _ => by show (0 : Nat) ≤ 40; omega
  | z :: zs, P, k, h => by
    have ha : (atB t_ports k).size ≤ 40 := Nat.le_trans (SpecRef.atB_size t_ports k (by simp at h; omega)) (by decide)
    rw [portsN]
    split
    · exact ha
    · split
      · exact ha
      · exact portsN_size zs _ (k + 1) (by simp at h; omega)
theorem oneN_size (x : Ctr) (N : List ByteArray) (P : List Int) (mp me : Int) (hp : x.ports.length ≤ 1000) : (oneN x N P mp me).2.size ≤ 40 := by
  unfold oneN
  refine firstV_size fun y hy => ?_
  simp only [List.mem_cons, List.not_mem_nil, or_false] at hy
  rcases hy with rfl | rfl | rfl | rfl | rfl | rfl
  · unfold nameN
    split
    · decide
    · split <;> decide
  · unfold imageN newV
    split <;> (split <;> decide)
  · unfold reqN
    refine firstV_size fun y hy => ?_
    simp only [List.mem_cons, List.not_mem_nil, or_false] at hy
    rcases hy with rfl | rfl | rfl <;> exact withinV_size _ _ _ _ _ (by decide)
  · unfold limN
    refine firstV_size fun y hy => ?_
    simp only [List.mem_cons, List.not_mem_nil, or_false] at hy
    rcases hy with rfl | rfl | rfl <;> exact limitV_size _ _ _ _ (by decide)
  · unfold portsL
    split
    · decide
    · exact portsN_size _ _ _ (by omega)
  · unfold probeN
    refine firstV_size fun y hy => ?_
    simp only [List.mem_cons, List.not_mem_nil, or_false] at hy
    rcases hy with rfl | rfl <;> exact withinV_size _ _ _ _ _ (by decide)
/-- what a list says, from k on -/
def LsHere (name : ByteArray) (mp me : Int) (N : List ByteArray) (P : List Int) (l : List Ctr) (k : Nat) : Prop :=
  listFrom name mp me 0 N P l = listFrom name mp me k (N ++ (l.take k).map (·.name)) (P ++ (l.take k).flatMap (·.ports)) (l.drop k)
theorem ls_zero (name : ByteArray) (mp me : Int) (N : List ByteArray) (P : List Int) (l : List Ctr) : LsHere name mp me N P l 0 := by
  unfold LsHere; simp
theorem ls_at {name : ByteArray} {mp me : Int} {N : List ByteArray} {P : List Int} {l : List Ctr} {k : Nat} (h : LsHere name mp me N P l k) (hk : k < l.length) :
    listFrom name mp me 0 N P l = if (oneN l[k] (N ++ (l.take k).map (·.name)) (P ++ (l.take k).flatMap (·.ports)) mp me).1 = 0 then
      listFrom name mp me (k + 1) (N ++ (l.take k).map (·.name) ++ [l[k].name]) (P ++ (l.take k).flatMap (·.ports) ++ l[k].ports) (l.drop (k + 1)) else inV (atB name k) (oneN l[k] (N ++ (l.take k).map (·.name)) (P ++ (l.take k).flatMap (·.ports)) mp me) := by
  unfold LsHere at h
  rw [h, List.drop_eq_getElem_cons hk, listFrom]
theorem take_next (N : List ByteArray) (P : List Int) (l : List Ctr) {k : Nat} (hk : k < l.length) : N ++ (l.take (k + 1)).map (·.name) = N ++ (l.take k).map (·.name) ++ [l[k].name] ∧ P ++ (l.take (k + 1)).flatMap (·.ports) = P ++ (l.take k).flatMap (·.ports) ++ l[k].ports := by
  rw [List.take_succ_eq_append_getElem hk, List.map_append, List.flatMap_append, ← List.append_assoc, ← List.append_assoc]
  exact ⟨rfl, by simp⟩
theorem ls_next {name : ByteArray} {mp me : Int} {N : List ByteArray} {P : List Int} {l : List Ctr} {k : Nat} (h : LsHere name mp me N P l k) (hk : k < l.length)
    (h0 : (oneN l[k] (N ++ (l.take k).map (·.name)) (P ++ (l.take k).flatMap (·.ports)) mp me).1 = 0) : LsHere name mp me N P l (k + 1) := by
  have := ls_at h hk
  rw [if_pos h0] at this
  unfold LsHere
  rw [this, (take_next N P l hk).1, (take_next N P l hk).2]
theorem ls_end {name : ByteArray} {mp me : Int} {N : List ByteArray} {P : List Int} {l : List Ctr} {k : Nat} (h : LsHere name mp me N P l k) (hk : l.length ≤ k) : listFrom name mp me 0 N P l = fine := by
  unfold LsHere at h
  rw [h, List.drop_eq_nil_of_le hk]; rfl
theorem flat_len (l : List Ctr) (h : ∀ x ∈ l, x.ports.length ≤ 10) : (l.flatMap (·.ports)).length ≤ 10 * l.length := by
  induction l with
  | nil => simp
  | cons x l ih =>
    have h1 := h x (by simp)
    have h2 := ih fun y hy => h y (by simp [hy])
    simp only [List.flatMap_cons, List.length_append, List.length_cons]
    omega
/-- a call ends with what says y; where nothing is wrong, N and P are taken -/
def TookList (g : Nat) (y : Say) (N : List ByteArray) (P : List Int) (n p : Nat) (w : World) (e : Ending) (w' : World) : Prop :=
  ∃ N' P', Took g y N' P' w e w' ∧ (y.1 = 0 → N' = N ∧ P' = P) ∧ N'.length ≤ n ∧ P'.length ≤ p
set_option maxRecDepth 100000 in
set_option maxHeartbeats 4000000 in
theorem list_any (wb : World) (hL : SLaid wb) (g : Nat) (hg0 : wb.heap.size ≤ g) (name : ByteArray) (hn : name.size ≤ 100) (IA : Option Addr) (ic : Nat) (l : List Ctr) (hl : Ctrs wb IA l) (hlight : ∀ x ∈ l, x.name.size ≤ 100 ∧ x.image.size ≤ 100 ∧ x.ports.length ≤ 10)
    (least most mp me : Int) (hmost : most ≤ 10) (hmp0 : 0 ≤ mp) (hmp : mp ≤ 10) (N : List ByteArray) (P : List Int) (hN : N.length ≤ 200) (hP : P.length ≤ 400) (w : World) (hb0 : Below wb.heap.size wb w) (hT : Tk w g N P) :
    Calls Tryz.prog 72 #[.pointer (some ⟨g, 0, none⟩), .string name, .slice IA l.length ic, .agg #[.int .i64 least, .int .i64 most, .int .i64 mp, .int .i64 me]] w
      (TookList g (listN name least most mp me N P l) (N ++ l.map (·.name)) (P ++ l.flatMap (·.ports)) (N.length + 20) (P.length + 200) w) := by
  have HL := Lib.hid hL
  have HT := Lib.hid hT
  have HC := Lib.hid hl
  have HBW := Lib.hid hb0
  have HLI := Lib.hid hlight
  have HOK := Lib.hid hT.ok
  have hlt := hT.lt
  clear hL hT hl hb0 hlight
  have long : ∀ w1 : World, Below w.heap.size w w1 → (l.length : Int) < least ∨ most < (l.length : Int) → ∀ e w2, Tells (newV 2 name) w1 e w2 → TookList g (listN name least most mp me N P l) (N ++ l.map (·.name)) (P ++ l.flatMap (·.ports)) (N.length + 20) (P.length + 200) w e w2 := by
    intro w1 h1 hc e w2 ht
    obtain ⟨E, rfl, h2, h3⟩ := ht
    have hE : listN name least most mp me N P l = newV 2 name := by unfold listN newV; rw [if_pos hc, if_neg (by decide)]
    rw [hE]
    exact ⟨N, P, tells_on (HT.out.keep h1) (.of_any h1) ⟨E, rfl, h2, h3⟩, fun h => by simp [newV] at h, by omega, by omega⟩
  have LONG := Lib.hid long
  clear long
  by_cases h1 : (l.length : Int) < least
  · go_enter Tryz.func72, Tryz.ntmps72
    go_wp2_with fail
    refine (new_says 2 name (w.heap.size + 1) 1 _ (by omega) (by simp)).mono ?_
    rintro e w2 hE
    have HX := Lib.hid (LONG.out _ (((Below.refl w.heap.size w).alloc (Nat.le_refl _) _).alloc (by simp) _) (.inl h1) e w2 hE)
    obtain ⟨E, rfl, _⟩ := hE
    go_wp2_with fail
    go_ret
    exact HX.out
  · by_cases h2 : most < (l.length : Int)
    · go_enter Tryz.func72, Tryz.ntmps72
      go_wp2_with fail
      refine (new_says 2 name (w.heap.size + 1) 1 _ (by omega) (by simp)).mono ?_
      rintro e w2 hE
      have HX := Lib.hid (LONG.out _ (((Below.refl w.heap.size w).alloc (Nat.le_refl _) _).alloc (by simp) _) (.inr h2) e w2 hE)
      obtain ⟨E, rfl, _⟩ := hE
      go_wp2_with fail
      go_ret
      exact HX.out
    · have HE := Lib.hid (show listN name least most mp me N P l = listFrom name mp me 0 N P l by unfold listN; rw [if_neg (by omega)])
      clear LONG
      go_enter Tryz.func72, Tryz.ntmps72
      go_wp2_with fail
      obtain ⟨w3, hw3⟩ : ∃ w3, w.alloc (.cells #[.int .i64 least, .int .i64 most, .int .i64 mp, .int .i64 me] 123) = w3 := ⟨_, rfl⟩
      have hb3 : Below w.heap.size w w3 := by rw [← hw3]; exact (Below.refl _ _).alloc (Nat.le_refl _) _
      have HB3 := Lib.hid hb3
      have HT3 := Lib.hid (HT.out.keep hb3)
      have HOK3 := Lib.hid HT3.out.ok
      have HB0 := Lib.hid (HBW.out.trans (hb3.mono HBW.out.size))
      have HB2 := Lib.hid (show w3.heap[w.heap.size]? = some (.cells #[.int .i64 least, .int .i64 most, .int .i64 mp, .int .i64 me] 123 (0, 0)) by
        rw [← hw3]; exact heap_alloc_new w _)
      have HO2 := Lib.hid (HT.out.ok.fresh hb3 (b := w.heap.size) (Nat.le_refl _) (by rw [← hw3]; simp))
      rw [hw3]
      obtain ⟨b2, hb2⟩ : ∃ b, w.heap.size = b := ⟨_, rfl⟩
      rw [hb2] at HB2 HO2 ⊢
      clear hw3 hb2 hb3
      go_loopw [29] (fun i wr => ∃ k : Nat, k ≤ l.length ∧ i = .int .i64 k ∧ Hid (Tk wr g (N ++ (l.take k).map (·.name)) (P ++ (l.take k).flatMap (·.ports))) ∧ Hid (Av g w3 wr) ∧ Hid (LsHere name mp me N P l k)) (fun i _ => l.length - (RowKit.intOf i).toNat)
      case atStart => exact ⟨0, Nat.zero_le _, rfl, by unfold Hid; simpa using HT3.out, Av.refl _ _, ls_zero _ _ _ _ _ _⟩
      case round =>
        obtain ⟨k, hk, rfl, HTk, HAv, HLs⟩ := hrel
        by_cases hkl : k < l.length
        · have hkn : (k : Int) < (l.length : Int) := by omega
          have HBr := Lib.hid (HAv.out.base HB0.out hg0)
          obtain ⟨hfit, a, PA, pc, hIA, ha, hcell, hnum⟩ := (HC.out).at hkl
          have HNX := Lib.hid hnum
          have hcr := hcell.keep (w' := wr) (by rw [add_block]; exact HBr.out.block _ ha)
          have hlx := HLI.out _ (List.getElem_mem hkl)
          have HAT := Lib.hid (ls_at HLs.out hkl)
          have HNEXT := Lib.hid (ls_next HLs.out hkl)
          have HTN := Lib.hid (take_next N P l hkl)
          have hlen1 : (N ++ (l.take k).map (·.name)).length ≤ N.length + 10 := by simp [List.length_take]; omega
          have hlen2 : (P ++ (l.take k).flatMap (·.ports)).length ≤ P.length + 100 := by
            have := flat_len (l.take k) (fun x hx => (HLI.out x (List.mem_of_mem_take hx)).2.2)
            rw [List.length_take] at this
            rw [List.length_append]; omega
          obtain ⟨x, hx⟩ : ∃ x, l[k] = x := ⟨_, rfl⟩
          rw [hx] at hcr hlx HAT HNEXT HNX HTN
          obtain ⟨Nk, hNk⟩ : ∃ Nk, N ++ (l.take k).map (·.name) = Nk := ⟨_, rfl⟩
          obtain ⟨Pk, hPk⟩ : ∃ Pk, P ++ (l.take k).flatMap (·.ports) = Pk := ⟨_, rfl⟩
          rw [hNk] at HTk HAT HNEXT hlen1 HTN
          rw [hPk] at HTk HAT HNEXT hlen2 HTN
          have hbk := ((HAv.out.ok HOK3.out).2 b2 HO2.out).2.trans HB2.out
          have hbl := SpecOwn.lt_of_block hbk
          have HALL := Lib.hid (fun o => (Below.heap_alloc wr o b2 hbl).trans hbk)
          have g0 : ∀ o, (wr.alloc o).cell? ⟨b2, 0, none⟩ = some (.int .i64 least) := fun o => by simp [World.cell?, HALL.out o]
          have g1 : ∀ o, (wr.alloc o).cell? ⟨b2, 1, none⟩ = some (.int .i64 most) := fun o => by simp [World.cell?, HALL.out o]
          have g2 : ∀ o, (wr.alloc o).cell? ⟨b2, 2, none⟩ = some (.int .i64 mp) := fun o => by simp [World.cell?, HALL.out o]
          have g3 : ∀ o, (wr.alloc o).cell? ⟨b2, 3, none⟩ = some (.int .i64 me) := fun o => by simp [World.cell?, HALL.out o]
          obtain ⟨y0, y1, y2⟩ := hlx
          have hrun := fun (wn : World) (h1 : Below wb.heap.size wb wn) (h2 : Tk wn g Nk Pk) => container_any wb HL.out g hg0 x PA pc HNX.out (by omega) (by omega) (by omega) least most mp me Nk Pk (by omega) (by omega) wn h1 h2
          have hsz := oneN_size x Nk Pk mp me (by omega)
          obtain ⟨f0, f1, f2, f3, f4, f5, f6, f7, f8, f9, f10, _⟩ := hcr
          subst hIA
          clear hcell hnum hx hNk hPk hbk
          go_wp2_with fail
          have hal : Below wr.heap.size wr (wr.alloc (.cells #[.string x.name, .string x.image, .int .i64 x.rc, .int .i64 x.rm, .int .i64 x.rp, .int .i64 x.lc, .int .i64 x.lm, .int .i64 x.lp, .slice PA x.ports.length pc, .int .i64 x.ev, .int .i64 x.fl] 105)) := (Below.refl _ _).alloc (Nat.le_refl _) _
          have HAL := Lib.hid hal
          refine (hrun _ (HBr.out.trans (hal.mono HBr.out.size)) (HTk.out.keep hal)).mono ?_
          rintro e w5 ⟨E, rfl, hE, hA, hT⟩
          have HAV5 := Lib.hid (HAv.out.trans ((Av.of_any hal).trans hA))
          have HT5 := Lib.hid hT
          have HE5 := Lib.hid hE
          have hnil := hE.nil_iff
          clear hrun hal hA hT g0 g1 g2 g3 f0 f1 f2 f3 f4 f5 f6 f7 f8 f9 f10
          obtain ⟨y, hy⟩ : ∃ y, oneN x Nk Pk mp me = y := ⟨_, rfl⟩
          rw [hy] at HE5 HAT HNEXT hsz hnil
          have HY := Lib.hid hy
          by_cases hz : y.1 = 0
          · obtain rfl := hnil.2 hz
            have HNX2 := Lib.hid (HNEXT.out hz)
            have hna : nameAfter x.name Nk = Nk ++ [x.name] := by
              refine nameAfter_fine (firstV_fine (l := [nameN x.name Nk, imageN x.image, reqN x.rc x.rm x.rp, limN x.lc x.lm x.lp x.rc x.rm x.rp, portsL Pk mp x.ports, probeN x.ev x.fl me]) (show (oneN x Nk Pk mp me).1 = 0 by rw [hy]; exact hz) _ (by simp))
            have hpa : portsLAfter Pk mp x.ports = Pk ++ x.ports := by
              refine portsLAfter_fine (firstV_fine (l := [nameN x.name Nk, imageN x.image, reqN x.rc x.rm x.rp, limN x.lc x.lm x.lp x.rc x.rm x.rp, portsL Pk mp x.ports, probeN x.ev x.fl me]) (show (oneN x Nk Pk mp me).1 = 0 by rw [hy]; exact hz) _ (by simp))
            have HT6 := Lib.hid (show Tk w5 g (N ++ (l.take (k + 1)).map (·.name)) (P ++ (l.take (k + 1)).flatMap (·.ports)) by
              rw [HTN.out.1, HTN.out.2, ← hna, ← hpa]; exact HT5.out)
            clear hE hy hnil hna hpa
            go_wp2
            go_roundw
            case rel => exact ⟨k + 1, by omega, by go_num, HT6.out, HAV5.out, HNX2.out⟩
            case measure => simp [RowKit.intOf]; omega
          · obtain ⟨uu, xx, rfl⟩ : ∃ uu xx, E = .iface uu xx := by
              rcases hE.form with h | h
              · exact absurd (hnil.1 h) hz
              · exact h
            have HF := Lib.hid (show listFrom name mp me 0 N P l = inV (atB name k) y by rw [HAT.out, if_neg hz])
            have HZ := Lib.hid hz
            have asz := SpecRef.atB_size name k (by omega)
            have hN2 := nameAfter_len x.name Nk
            have hP2 := portsLAfter_len x.ports Pk mp hmp0
            have HB5 := Lib.hid (HAV5.out.base HB0.out hg0)
            clear hE hy hnil hz
            go_wp2_with fail
            refine (member_any name k (by omega) (by omega) w5 (HL.out.below HB5.out).tab).mono ?_
            rintro e w6 ⟨rfl, hb6⟩
            obtain ⟨u, hu⟩ : ∃ u, atB name k = u := ⟨_, rfl⟩
            rw [hu] at HF asz ⊢
            have HT6 := Lib.hid (HT5.out.keep hb6)
            have HE6 := Lib.hid (Says.keep (D' := Off g w6) (w' := w6) HE5.out fun b h _ => ((Av.of_any hb6).ok HT5.out.ok).2 b h)
            have HAV6 := Lib.hid (HAV5.out.trans (.of_any hb6))
            clear hb6 hu
            go_wp2_with fail
            refine (in_says HE6.out u (by omega)).mono ?_
            rintro e w7 ⟨E', rfl, hE7, hb7⟩
            have HX := Lib.hid (show TookList g (inV u y) (N ++ l.map (·.name)) (P ++ l.flatMap (·.ports)) (N.length + 20) (P.length + 200) w (.returned E') w7 from
              ⟨_, _, ⟨_, rfl, Says.keep hE7 fun b hd hlt => ⟨hd.elim (fun h => ((Av.of_any hb7).ok HT6.out.ok).2 b h |>.1) fun h => HT6.out.ok.fresh hb7 h hlt, rfl⟩, (Av.of_any HB3.out).trans (HAV6.out.trans (.of_any hb7)), HT6.out.keep hb7⟩,
                fun h => absurd h (by unfold inV; rw [if_neg HZ.out]; exact HZ.out), by omega, by omega⟩)
            clear hE7 hb7
            go_wp2
            go_ret
            rw [HE.out, HF.out]
            exact HX.out
        · have HF := Lib.hid (show listFrom name mp me 0 N P l = fine from ls_end HLs.out (by omega))
          have hkk : k = l.length := by omega
          subst hkk
          go_wp2
          go_ret
          rw [HE.out, HF.out]
          have ht := HTk.out
          rw [List.take_length] at ht
          refine ⟨_, _, ⟨_, rfl, .inl ⟨rfl, rfl⟩, (Av.of_any HB3.out).trans HAv.out, ht⟩, fun _ => ⟨rfl, rfl⟩, ?_, ?_⟩
          · simp; omega
          · have := flat_len l (fun x hx => (HLI.out x hx).2.2)
            rw [List.length_append]; omega
end SpecOwn
end Go.Proofs.YtbichomjpmmjmaaGreatDoor

/-
  The contract of spec.Ports: the ports of the main containers, in a row of the call's own. All that was there is left as it was. Condition: there are not too many.
-/
namespace Go.Proofs.YtbichomjpmmjmaaGreatDoor
open Go.ChangeShapes Go.WideShapes Go.ChangeAt Go.RowKit Go.Lib
open Sd Lists Book
namespace SpecOwn
theorem run_append_none {P : Program} {w : World} (base : Nat) (t ty e : TypeId) (i : TypeInfo) (size : Nat) (ht : P.underlying t = some (.slice e)) (hi : P.info? e = some i)
    (v : Value) (n c : Nat) (xs : List Value) (hown : w.ownsRow base e size v n xs) : (Builtin.append_ #[t, t] ty #[v, .slice none 0 c]).run P w = .ok v w := by
  rcases hown.2 with ⟨rfl, rfl⟩ | ⟨g, cap, cur, rfl, _, _, hnc, _⟩
  · simp [Builtin.append_, run_underlying ht, sizeOf, typeInfo, hi, Builtin.lenOf, Builtin.firstCells]
  · simp [Builtin.append_, run_underlying ht, sizeOf, typeInfo, hi, Builtin.lenOf, Builtin.firstCells, hnc, storeCells]
theorem wpList_append_or {P : Program} {w : World} {ops : Array Oper} {rest : List Oper} {o : Oper} {a : Act} {Q : Exit → Act → World → Prop} (hgd : o.guard = none) (s x : Operand) (t : TypeId)
    (ho : o.op = .call { callee := .builtin .append, args := #[s, x], argTypes := #[t, t] })
    (base : Nat) (e : TypeId) (i : TypeInfo) (z : Value) (size bytes : Nat) (ht : P.underlying t = some (.slice e)) (hi : P.info? e = some i) (hz : i.zero = some z)
    (hsize : i.size = size) (hby : i.bytes = bytes) (hzs : z.cells.size = size) (hsz : 0 < size)
    (v : Value) (n : Nat) (xs : List Value) (hs : a.eval s = v) (hown : w.ownsRow base e size v n xs)
    (A : Option Addr) (m c : Nat) (news : List Value) (hx : a.eval x = .slice A m c) (hl : news.length = m * size)
    (hsrc : (A = none ∧ m = 0) ∨ ∃ ad, A = some ad ∧ ∀ j u, news[j]? = some u → w.cell? (ad.add j) = some u) (h1 : ∀ u ∈ news, u.oneCell' = true)
    (h63 : n + m ≤ maxLen) (hbytes : (n + m) * bytes ≤ 140737488355328) (hbase : base ≤ w.heap.size)
    (h : ∀ v' w', w'.ownsRow base e size v' (n + m) (xs ++ news) → w.grownBy w' v.ownBlock → wpList P ops Q rest (a.put o.dst v') w') : wpList P ops Q (o :: rest) a w := by
  rcases hsrc with ⟨rfl, rfl⟩ | ⟨ad, rfl, hc⟩
  · refine wpList_plain hgd fun K hK => ?_
    have hrun := run_append_none (P := P) (w := w) base t o.type e i size ht hi v n c xs hown
    unfold Oper.wp
    simp [execOp, ho, resolve, invoke, builtin, hs, hx, hrun, Result.andThen]
    have hn : news = [] := List.eq_nil_of_length_eq_zero (by simpa using hl)
    exact hK _ _ (h v w (by rw [hn]; simpa using hown) ⟨rfl, rfl, rfl, Nat.le_refl _, fun _ _ _ => rfl⟩)
  · exact wpList_plain hgd fun K hK => wp_append_own w s x t ho base e i z size bytes ht hi hz hsize hby hzs hsz v n xs hs hown ad m c news hx hl hc h1 h63 hbytes hbase fun v' w' h2 h3 _ => hK _ _ (h v' w' h2 h3)
/-- a call ends with a row of its own that holds the numbers -/
def OwnNums (l : List Int) (w : World) (e : Ending) (w' : World) : Prop := ∃ v, e = .returned v ∧ w'.ownsRow w.heap.size 3 1 v l.length (l.map (Value.int .i64)) ∧ Below w.heap.size w w'
set_option maxRecDepth 100000 in
set_option maxHeartbeats 4000000 in
theorem ports_any (S : Spc) (LA : Option Addr) (lc : Nat) (IA : Option Addr) (ic : Nat) (MA : Option Addr) (mc : Nat) (hLt : lightCs S.main) (hml : S.main.length ≤ 1000) (w : World) (hS : S.In w LA lc IA ic MA mc) :
    Calls Tryz.prog 43 #[.agg #[.string S.name, .slice LA S.labels.length lc, .slice IA S.init.length ic, .slice MA S.main.length mc, .int .i64 S.restart, .int .i64 S.grace, .int .i64 S.prio]] w (OwnNums (S.main.flatMap (·.ports)) w) := by
  have HS := Lib.hid hS
  have HLT := Lib.hid hLt
  have hml' : (S.main.length : Int) ≤ 1000 := by omega
  obtain ⟨i0, hi, hz0, hz1, hz2⟩ := info_parts info_int
  clear hS hLt
  go_enter Tryz.func43, Tryz.ntmps43
  go_wp2_with fail
  obtain ⟨w3, hw3⟩ : ∃ w3, w.alloc (.cells #[.string S.name, .slice LA S.labels.length lc, .slice IA S.init.length ic, .slice MA S.main.length mc, .int .i64 S.restart, .int .i64 S.grace, .int .i64 S.prio] 35) = w3 := ⟨_, rfl⟩
  have HB3 := Lib.hid (show Below w.heap.size w w3 by rw [← hw3]; exact (Below.refl _ _).alloc (Nat.le_refl _) _)
  rw [hw3]
  clear hw3
  go_loopw [3, 9] (fun v i wr => ∃ k : Nat, k ≤ S.main.length ∧ i = .int .i64 k ∧ Hid (Below w.heap.size w wr) ∧ Hid (wr.ownsRow w.heap.size 3 1 v ((S.main.take k).flatMap (·.ports)).length (((S.main.take k).flatMap (·.ports)).map (Value.int .i64)))) (fun _ i _ => S.main.length - (RowKit.intOf i).toNat)
  case atStart => exact ⟨0, Nat.zero_le _, rfl, HB3.out, World.ownsRow_nil _ _ _ _⟩
  case round =>
    obtain ⟨k, hk, rfl, HW, HO⟩ := hrel
    by_cases hlt : k < S.main.length
    · have hka : (k : Int) < (S.main.length : Int) := by omega
      obtain ⟨fa, p, P, pc, hMA, hp, hc, nP⟩ := (HS.out.below HW.out).main.at hlt
      have hlx := HLT.out _ (List.getElem_mem hlt)
      have HTK := Lib.hid (show (S.main.take (k + 1)).flatMap (·.ports) = (S.main.take k).flatMap (·.ports) ++ S.main[k].ports by
        rw [List.take_succ_eq_append_getElem hlt, List.flatMap_append]; simp)
      have hlen : ((S.main.take k).flatMap (·.ports)).length ≤ 10000 := by
        have := flat_len (S.main.take k) (fun x hx => (HLT.out x (List.mem_of_mem_take hx)).2.2)
        rw [List.length_take] at this
        omega
      obtain ⟨x, hx⟩ : ∃ x, S.main[k] = x := ⟨_, rfl⟩
      rw [hx] at hc nP fa hlx HTK
      obtain ⟨l, hl⟩ : ∃ l, (S.main.take k).flatMap (·.ports) = l := ⟨_, rfl⟩
      rw [hl] at HO HTK hlen
      obtain ⟨A', c', rfl⟩ := own_form HO.out
      subst hMA
      obtain ⟨c0, c1, c2, c3, c4, c5, c6, c7, c8, c9, c10, _⟩ := hc
      have NP := Lib.hid nP
      have hx3 := hlx.2.2
      clear hx hl hp fa nP hlx
      have hal := fun o => (Below.refl wr.heap.size wr).alloc (Nat.le_refl _) o
      have HAL := Lib.hid hal
      have hsrc : ∀ o, (P = none ∧ x.ports.length = 0) ∨ ∃ ad, P = some ad ∧ ∀ (j : Nat) u, (x.ports.map (Value.int .i64))[j]? = some u → (wr.alloc o).cell? (ad.add j) = some u := by
        intro o
        cases P with
        | none =>
          refine .inl ⟨rfl, ?_⟩
          cases hq : x.ports with
          | nil => rfl
          | cons z zs =>
            obtain ⟨_, a, ha, _⟩ := NP.out 0 z (by rw [hq]; rfl)
            cases ha
        | some ad =>
          refine .inr ⟨ad, rfl, fun j u hu => ?_⟩
          rw [List.getElem?_map] at hu
          obtain ⟨z, hz, rfl⟩ := Option.map_eq_some_iff.1 hu
          obtain ⟨_, a, ha, hla, hca⟩ := NP.out j z hz
          injection ha with ha
          subst ha
          exact ((HAL.out o).cell (by rw [add_block]; exact hla)).trans hca
      clear hal
      go_wp2_with (at_builtin; refine wpList_append_or rfl _ _ 49 rfl w.heap.size 3 i0 (.int .i64 0) 1 8 Tryz.underlying49 hi hz0 hz1 hz2 rfl (by decide) _ _ _ rfl (HO.out.alloc _) P x.ports.length pc (x.ports.map (Value.int .i64)) rfl (by simp) (hsrc _) (by intro u hu; obtain ⟨y, _, rfl⟩ := List.mem_map.1 hu; rfl) (by unfold maxLen; omega) (by omega) (by have := HW.out.size; simp; omega) ?_)
      intro v' w7 hown' hgrow
      have HW7 := Lib.hid ((HW.out.trans ((HAL.out _).mono HW.out.size)).grown hgrow (by have := HW.out.size; simp; omega) (fun b hb => (HO.out.lt b hb).1))
      have HO7 := Lib.hid (show w7.ownsRow w.heap.size 3 1 v' ((S.main.take (k + 1)).flatMap (·.ports)).length (((S.main.take (k + 1)).flatMap (·.ports)).map (Value.int .i64)) by
        rw [HTK.out, List.length_append, List.map_append]; exact hown')
      clear hown' hgrow hsrc c0 c1 c2 c3 c4 c5 c6 c7 c8 c9 c10
      go_wp2
      go_roundw
      case rel => exact ⟨k + 1, by omega, by go_num, HW7.out, HO7.out⟩
      case measure => simp [RowKit.intOf]; omega
    · have hkk : k = S.main.length := by omega
      subst hkk
      go_wp2
      go_ret
      have ho := HO.out
      rw [List.take_length] at ho
      exact ⟨_, rfl, ho, HW.out⟩
end SpecOwn
end Go.Proofs.YtbichomjpmmjmaaGreatDoor

/-
  The contract of the document's Ports: the ports of the main containers, in a row of the call's own. All that was there is left as it was. Condition: there are not too many.
-/
namespace Go.Proofs.YtbichomjpmmjmaaGreatDoor
open Go.ChangeShapes Go.WideShapes Go.ChangeAt Go.RowKit Go.Lib
open Sd Lists Book
namespace SpecOwn
end SpecOwn
end Go.Proofs.YtbichomjpmmjmaaGreatDoor

/-
  The document's answers for nodes: may a spec be, does a pod fit. All that was there is left as it was. Conditions: the spec is not too long and lies in memory, the pods lie in a row.
-/
set_option linter.unusedVariables false
set_option linter.unusedSimpArgs false
namespace Go.Proofs.YtbichomjpmmjmaaGreatDoor
open Go.ChangeShapes Go.WideShapes Go.ChangeAt Go.RowKit Go.Lib
open NumMath
namespace Nd
open Re Sd
theorem usedF_ok : ∀ (l : Pods) {s : Rx}, s.Ok → (usedF s l).Ok
  | [], _, h => h
  | x :: l, s, h => usedF_ok l (s := (addR s x.ask).1) (add_ok s x.ask)
/-- what a spec comes to -/
def askS (S : Spc) : Ask := ⟨decide ((checkV S).1 = 0), (ofR (S.init.map rq) (S.main.map rq)).1, S.main.flatMap (·.ports)⟩
theorem ask_rx {S : Spc} {w : World} {LA : Option Addr} {lc : Nat} {IA : Option Addr} {ic : Nat} {MA : Option Addr} {mc : Nat} (h : S.In w LA lc IA ic MA mc) : (askS S).ask.Ok := of_ok fun y hy => by
  obtain ⟨x, hx, rfl⟩ := List.mem_map.1 hy
  obtain ⟨k, hk, e⟩ := List.getElem_of_mem hx
  exact rq_ok (h.init k x (by rw [List.getElem?_eq_getElem hk, e])).1
theorem fit_wrong {has : Rx} {l : Pods} {q : Ask} (h : q.right = false) : fitC has l q = 1 := by unfold fitC; rw [if_pos h]
theorem fit_no {has : Rx} {l : Pods} {q : Ask} (h : q.right = true) (h2 : room has l q = false) : fitC has l q = 160 := by unfold fitC; rw [if_neg (by rw [h]; decide), if_pos h2]
theorem fit_own {has : Rx} {l : Pods} {q : Ask} (h : q.right = true) (h2 : room has l q = true) {p : Int} (h3 : p ∈ q.ports) (h4 : ownR l p ≠ 0) : fitC has l q = 150 := by
  unfold fitC
  rw [if_neg (by rw [h]; decide), if_neg (by rw [h2]; decide), if_pos]
  exact List.any_eq_true.2 ⟨p, h3, by simpa using h4⟩
theorem fit_yes {has : Rx} {l : Pods} {q : Ask} (h : q.right = true) (h2 : room has l q = true) (h3 : ∀ p ∈ q.ports, ownR l p = 0) : fitC has l q = 0 := by
  unfold fitC
  rw [if_neg (by rw [h]; decide), if_neg (by rw [h2]; decide), if_neg]
  intro h4
  obtain ⟨p, h5, h6⟩ := List.any_eq_true.1 h4
  rw [h3 p h5] at h6
  exact absurd h6 (by decide)
theorem at_one (r k : Nat) : (⟨r, 0, none⟩ : Addr).add k = ⟨r, k, none⟩ := by unfold Addr.add; split <;> simp_all
end Nd
end Go.Proofs.YtbichomjpmmjmaaGreatDoor

/-
  Labels and containers in rows of a call's own, cell by cell; blocks from one on; blocks that may be written. No condition.
-/
namespace Go.Proofs.YtbichomjpmmjmaaGreatDoor
open Go.RowKit
open Sd Lists
namespace SpecOwn
end SpecOwn
end Go.Proofs.YtbichomjpmmjmaaGreatDoor

/-
  A spec that may be: what its containers ask for is from 0 on, they are few; ALL THAT IT ASKS FOR, of the plain functions; a list of containers as cells, and the containers of a row of the call's own. No condition.
-/
set_option linter.unusedVariables false
set_option linter.unusedSimpArgs false
namespace Go.Proofs.YtbichomjpmmjmaaGreatDoor
open Go.ChangeShapes Go.WideShapes Go.ChangeAt Go.RowKit Go.Lib
open NumMath
namespace Re
open Sd SpecOwn
theorem numsV_in {a b c : Int} (h : ¬ 0 ≤ numsV false a b c 0 0 0) : (0 ≤ a ∧ a ≤ big) ∧ (0 ≤ b ∧ b ≤ big) ∧ (0 ≤ c ∧ c ≤ big) := by
  unfold numsV at h
  have e : ∀ n : Int, numV false n 0 = false → 0 ≤ n ∧ n ≤ big := fun n hn => by
    simp [numV] at hn
    omega
  cases h0 : numV false a 0 with
  | true => rw [h0] at h; simp at h
  | false =>
    cases h1 : numV false b 0 with
    | true => rw [h0, h1] at h; simp at h
    | false =>
      cases h2 : numV false c 0 with
      | true => rw [h0, h1, h2] at h; simp at h
      | false => exact ⟨e _ h0, e _ h1, e _ h2⟩
theorem one_in {x : Ctr} {ahead : List Ctr} {i : Bool} (h : (oneV x ahead i).1 = 0) : In big (rq x) := by
  unfold oneV at h
  split at h
  · exact absurd h (by simp)
  split at h
  · exact absurd h (by simp)
  split at h
  · exact absurd h (by simp)
  split at h
  · exact absurd h (by simp)
  rename_i h4
  obtain ⟨h1, h2, h3⟩ := numsV_in h4
  exact ⟨h1, h2, h3⟩
theorem ctrs_in (name : ByteArray) (i : Bool) : ∀ (l : List Ctr) {n : Nat} {ahead : List Ctr}, (ctrsFrom name i n ahead l).1 = 0 → ∀ x ∈ l, In big (rq x)
  | [], _, _, _, x, hx => by cases hx
  | y :: l, n, ahead, h, x, hx => by
    unfold ctrsFrom at h
    split at h
    · rename_i h1; exact absurd h h1
    · rename_i h1
      rcases List.mem_cons.1 hx with rfl | hx
      · exact one_in (Decidable.byContradiction h1)
      · exact ctrs_in name i l h x hx
theorem checked {S : Spc} (h : (checkV S).1 = 0) : S.init.length ≤ 3 ∧ S.main.length ≤ 4 ∧ (∀ x ∈ S.init, In big (rq x)) ∧ (∀ x ∈ S.main, In big (rq x)) := by
  unfold checkV at h
  split at h
  · exact absurd h (by decide)
  split at h
  · rename_i h1; exact absurd h h1
  split at h
  · exact absurd h (by decide)
  split at h
  · rename_i h1; exact absurd h h1
  split at h
  · exact absurd h (by decide)
  split at h
  · rename_i h1; exact absurd h h1
  rename_i h1 h2 h3 h4
  exact ⟨by omega, by omega, ctrs_in _ _ _ (Decidable.byContradiction h2), ctrs_in _ _ _ (Decidable.byContradiction h4)⟩
theorem in_map {k : Int} {l : List Ctr} (h : ∀ x ∈ l, In k (rq x)) : ∀ y ∈ l.map rq, In k y := fun y hy => by
  obtain ⟨x, hx, rfl⟩ := List.mem_map.1 hy
  exact h x hx
end Re
end Go.Proofs.YtbichomjpmmjmaaGreatDoor
