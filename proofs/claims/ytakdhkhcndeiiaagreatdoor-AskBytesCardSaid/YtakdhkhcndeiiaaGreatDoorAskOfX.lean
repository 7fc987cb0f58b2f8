/-
 The contract of ask.Of: the call that the bytes say, or the first error. Conditions: as AskCheck; the text has at most 2^48 bytes. And what follows of it, part by part, each with its conditions.
-/
import Derived.Test.YtakdhkhcndeiiaaGreatDoorAskAll
set_option linter.unusedVariables false
set_option linter.unusedSimpArgs false
namespace Go.Proofs.YtakdhkhcndeiiaaGreatDoor
open Go.ChangeShapes Go.WideShapes Go.ChangeAt Go.RowKit Go.Lib
open LebMath WirePure Sd Wire SpecOwn SpecRef Book Pk
namespace Ak

structure CalUp (B : Nat) (c : Cal) (w : World) (LA IA MA SA : Option Addr) : Prop where
 spec : SpcUp B c.spec w LA IA MA
 sel : Lbls w SA c.sel
 sfrom : From B SA
 rev : c.rev < 18446744073709551616
 light : LightC c
theorem CalUp.in {B : Nat} {c : Cal} {w : World} {LA IA MA SA : Option Addr} {lc ic mc : Nat} (h : CalUp B c w LA IA MA SA) : c.In w LA lc IA ic MA mc SA :=
 ⟨h.spec.in, h.sel, by have := h.light.sel.1; omega, h.rev⟩
theorem CalUp.below {B : Nat} {c : Cal} {w v : World} {LA IA MA SA : Option Addr} (h : CalUp B c w LA IA MA SA) (hb : Below w.heap.size w v) : CalUp B c v LA IA MA SA := ⟨h.spec.below hb, h.sel.below hb, h.sfrom, h.rev, h.light⟩
theorem CalUp.aside {B g : Nat} {c : Cal} {w v : World} {LA IA MA SA : Option Addr} (h : CalUp B c w LA IA MA SA) (hg : g < B) (hk : Wire.Aside g w v) : CalUp B c v LA IA MA SA := ⟨h.spec.aside hg hk, lbls_aside h.sel h.sfrom hg hk, h.sfrom, h.rev, h.light⟩
theorem CalUp.only {B b : Nat} {c : Cal} {w v : World} {LA IA MA SA : Option Addr} (h : CalUp B c w LA IA MA SA) (ho : Only b w v) (hb : b < B) : CalUp B c v LA IA MA SA := ⟨ho.spc h.spec hb (Nat.le_refl _), ho.lbls h.sel (fun a ha => by have := h.sfrom a ha; omega), h.sfrom, h.rev, h.light⟩
theorem CalUp.less {B B' : Nat} {c : Cal} {w : World} {LA IA MA SA : Option Addr} (h : CalUp B c w LA IA MA SA) (hB : B' ≤ B) : CalUp B' c w LA IA MA SA := ⟨spc_less h.spec hB, h.sel, fun a ha => Nat.le_trans hB (h.sfrom a ha), h.rev, h.light⟩
theorem CallAt.up {b B : Nat} {c : Cal} {w : World} (h : CallAt b B c w) : ∃ (LA : Option Addr) (lc : Nat) (IA : Option Addr) (ic : Nat) (MA : Option Addr) (mc : Nat) (SA : Option Addr) (sc : Nat), w.heap[b]? = some (.cells #[.int .i64 c.kind, .int .i64 c.uid, .int .u64 c.rev, .string c.spec.name, .slice LA c.spec.labels.length lc, .slice IA c.spec.init.length ic, .slice MA c.spec.main.length mc, .int .i64 c.spec.restart, .int .i64 c.spec.grace, .int .i64 c.spec.prio, .int .i64 c.grace, .int .i64 c.ctr, .int .i64 c.id, .int .i64 c.most, .string c.data, .slice SA c.sel.length sc] 41 (0, 0)) ∧ CalUp B c w LA IA MA SA := by
 obtain ⟨LA, lc, IA, ic, MA, mc, SA, sc, h1, h2, h3, h4, h5, h6⟩ := h
 exact ⟨LA, lc, IA, ic, MA, mc, SA, sc, h1, h2, h3, h4, h5, h6⟩
theorem z0_light : Light Z0 := LightB_iff.1 (by decide +kernel)
theorem zero_light (k : Int) : LightC (zeroC k) := ⟨z0_light, ⟨by simp [zeroC], fun x hx => by simp [zeroC] at hx⟩, by show (0 : Nat) < 300; decide⟩
theorem zero_up (B : Nat) (w : World) : SpcUp B Z0 w none none none :=
 ⟨fun k x hk => (by simp [Z0] at hk), fun a ha => (by cases ha), fun k x hk => (by simp [Z0] at hk), fun k x hk => (by simp [Z0] at hk), ⟨⟨by simp [Z0], by simp [Z0], by simp [Z0]⟩, by unfold I64 Z0; decide, by unfold I64 Z0; decide, by unfold I64 Z0; decide⟩⟩
theorem zero_at {b B : Nat} {k : Int} {w : World} (h : w.heap[b]? = some (.cells #[.int .i64 k, .int .i64 0, .int .u64 0, .string ⟨#[]⟩, .slice none 0 0, .slice none 0 0, .slice none 0 0, .int .i64 0, .int .i64 0, .int .i64 0, .int .i64 0, .int .i64 0, .int .i64 0, .int .i64 0, .string ⟨#[]⟩, .slice none 0 0] 41 (0, 0))) : CallAt b B (zeroC k) w :=
 ⟨none, 0, none, 0, none, 0, none, 0, h, zero_up B w, fun k x hk => (by simp [zeroC] at hk), fun a ha => (by cases ha), by show (0 : Nat) < _; decide, zero_light k⟩
theorem zero_in (k : Int) (w : World) : (zeroC k).In w none 0 none 0 none 0 none :=
 ⟨z0_in w, fun k x hk => (by simp [zeroC] at hk), by simp [zeroC], by show (0 : Nat) < _; decide⟩

def cval (c : Cal) (LA : Option Addr) (lc : Nat) (IA : Option Addr) (ic : Nat) (MA : Option Addr) (mc : Nat) (SA : Option Addr) (sc : Nat) : Value := .agg #[.int .i64 c.kind, .int .i64 c.uid, .int .u64 c.rev, .string c.spec.name, .slice LA c.spec.labels.length lc, .slice IA c.spec.init.length ic, .slice MA c.spec.main.length mc, .int .i64 c.spec.restart, .int .i64 c.spec.grace, .int .i64 c.spec.prio, .int .i64 c.grace, .int .i64 c.ctr, .int .i64 c.id, .int .i64 c.most, .string c.data, .slice SA c.sel.length sc]
theorem isin_num {D : Nat → Prop} {w v : World} {E : Value} {c : Int} {p : List ByteArray} {b : Nat} {q : IntKind} {z : Int} (h : IsIn D w E c p) (ho : Only b w v) (h0 : w.cell? ⟨b, 0, none⟩ = some (.int q z)) : IsIn (KB 0 v) v E c p := by
 induction h with
 | code c => exact .code c
 | step b' E s c p hd h2 h3 hr ih =>
  by_cases e : b' = b
  · subst e
    rw [h0] at h2
    cases h2
  · have hk := ho.block b' e
    exact .step b' E s c p (Nat.zero_le _) ((World.cell?_of_block (w := w) (a := ⟨b', 0, none⟩) hk).trans h2) ((World.cell?_of_block (w := w) (a := ⟨b', 1, none⟩) hk).trans h3) ih
theorem _root_.Go.Proofs.YtakdhkhcndeiiaaGreatDoor.Pk.Only.says3 {D : Nat → Prop} {w v : World} {E : Value} {y : Say} {b : Nat} {q : IntKind} {z : Int} {xs : List Value} {t : TypeId} (ho : Only b w v) (h : Says D w E y) (hz : w.heap[b]? = some (.cells (Value.int q z :: xs).toArray t (0, 0))) : Says (KB 0 v) v E y := by
 rcases h with h | ⟨h0, hs, p, h1, h2, h4⟩
 · exact .inl h
 · exact .inr ⟨h0, hs, p, isin_num h1 ho (q := q) (z := z) (by simp [World.cell?, hz]), h2, h4⟩
def FOf (g : Nat) (e1 : Int) (l1 : List UInt8) (c : Cal) (LA : Option Addr) (lc : Nat) (IA : Option Addr) (ic : Nat) (MA : Option Addr) (mc : Nat) (SA : Option Addr) (sc : Nat) : Nat → Value → World → Prop
 | 0 => fun v _ => v = .pointer (some ⟨g, 0, none⟩)
 | 1 => fun v _ => v = .int .i64 (endE e1 l1)
 | 2 => TextK (KR g) t_wire
 | 3 => SaysK (KR g) (newV (endE e1 l1) t_wire)
 | 4 => fun v _ => v = cval c LA lc IA ic MA mc SA sc
 | 5 => SaysK (KR g) (checkC c)
 | 6 => RowK (KR g) [newV (endE e1 l1) t_wire, checkC c]
 | 7 => SaysK (KR g) (firstV [newV (endE e1 l1) t_wire, checkC c])
 | _ => SaysK (KR g) (firstV [newV (endE e1 l1) t_wire, checkC c])
theorem FOf_keep (g : Nat) (e1 : Int) (l1 : List UInt8) (c : Cal) (LA : Option Addr) (lc : Nat) (IA : Option Addr) (ic : Nat) (MA : Option Addr) (mc : Nat) (SA : Option Addr) (sc : Nat) (i : Nat) (v : Value) (w w' : World) (h : FOf g e1 l1 c LA lc IA ic MA mc SA sc i v w) (hb : AR g w w') : FOf g e1 l1 c LA lc IA ic MA mc SA sc i v w' := by
 unfold FOf at h ⊢
 split at h <;> first | exact h | exact TextK.keep h (kr_keep hb.1) | exact SaysK.keep h (kr_keep hb.1) | exact RowK.keep h (kr_keep hb.1)
def ofPlan (g : Nat) (e1 : Int) (l1 : List UInt8) (c : Cal) (LA : Option Addr) (lc : Nat) (IA : Option Addr) (ic : Nat) (MA : Option Addr) (mc : Nat) (SA : Option Addr) (sc : Nat) : Line.Plan where
 A := AR g
 refl := fun w => ⟨Wire.Aside.refl g w, fun h => h⟩
 trans := fun h k => ⟨h.1.trans k.1, fun x => k.2 (h.2 x)⟩
 below := fun h => ⟨Wire.Aside.of_below h, fun ⟨z, hz⟩ => ⟨z, (h.cell (World.block_lt_of_cell? _ _ hz)).trans hz⟩⟩
 cs := [1]
 G := fun j w => if j = 0 then Rd w g e1 l1 else Rd w g (endE e1 l1) l1
 F := FOf g e1 l1 c LA lc IA ic MA mc SA sc
 keepG := fun j w w' hg hb => by
  split at hg
  · next e => rw [if_pos e]; exact hg.below hb
  · next e => rw [if_neg e]; exact hg.below hb
 keepF := fun i v w w' hf hb => FOf_keep g e1 l1 c LA lc IA ic MA mc SA sc i v w w' hf hb
theorem of_quiet {g : Nat} {e1 : Int} {l1 : List UInt8} {c : Cal} {LA : Option Addr} {lc : Nat} {IA : Option Addr} {ic : Nat} {MA : Option Addr} {mc : Nat} {SA : Option Addr} {sc : Nat} {i : Nat} (hi : i ≠ 1) : i ∉ (ofPlan g e1 l1 c LA lc IA ic MA mc SA sc).cs := by simpa [ofPlan] using hi
theorem results_of (tmps : Array Value) (w : World) (b : Nat) (E : Value) (m0 m1 m2 m7 m8 m9 m10 m11 m12 m13 : Int) (s3 s14 : ByteArray) (A4 A5 A6 A15 : Option Addr) (l4 l5 l6 l15 k4 k5 k6 k15 : Nat)
 (h2 : tmps.getD 2 undef = .pointer (some ⟨b, 0, none⟩)) (h3 : tmps.getD 3 undef = E)
 (c0 : w.cell? ⟨b, 0, none⟩ = some (.int .i64 m0)) (c1 : w.cell? ⟨b, 1, none⟩ = some (.int .i64 m1)) (c2 : w.cell? ⟨b, 2, none⟩ = some (.int .u64 m2)) (c3 : w.cell? ⟨b, 3, none⟩ = some (.string s3))
 (c4 : w.cell? ⟨b, 4, none⟩ = some (.slice A4 l4 k4)) (c5 : w.cell? ⟨b, 5, none⟩ = some (.slice A5 l5 k5)) (c6 : w.cell? ⟨b, 6, none⟩ = some (.slice A6 l6 k6))
 (c7 : w.cell? ⟨b, 7, none⟩ = some (.int .i64 m7)) (c8 : w.cell? ⟨b, 8, none⟩ = some (.int .i64 m8)) (c9 : w.cell? ⟨b, 9, none⟩ = some (.int .i64 m9)) (c10 : w.cell? ⟨b, 10, none⟩ = some (.int .i64 m10)) (c11 : w.cell? ⟨b, 11, none⟩ = some (.int .i64 m11))
 (c12 : w.cell? ⟨b, 12, none⟩ = some (.int .i64 m12)) (c13 : w.cell? ⟨b, 13, none⟩ = some (.int .i64 m13)) (c14 : w.cell? ⟨b, 14, none⟩ = some (.string s14)) (c15 : w.cell? ⟨b, 15, none⟩ = some (.slice A15 l15 k15)) :
 (results Tryz.f27 tmps).run Tryz.prog w = .ok (.tuple #[.agg #[.int .i64 m0, .int .i64 m1, .int .u64 m2, .string s3, .slice A4 l4 k4, .slice A5 l5 k5, .slice A6 l6 k6, .int .i64 m7, .int .i64 m8, .int .i64 m9, .int .i64 m10, .int .i64 m11, .int .i64 m12, .int .i64 m13, .string s14, .slice A15 l15 k15], E]) w := by
 simp only [Array.getD_eq_getD_getElem?] at h2 h3
 simp [results, Tryz.results27, go_sem, h2, h3, c0, c1, c2, c3, c4, c5, c6, c7, c8, c9, c10, c11, c12, c13, c14, c15]

theorem rdFs_take (fl : List Int) (c : Cal) (e : Int) (l : List UInt8) (j : Nat) (f : Int) (hf : fl[j]? = some f) : rdFs (fl.take (j + 1)) c e l = rdF f (rdFs (fl.take j) c e l).1 (rdFs (fl.take j) c e l).2.1 (rdFs (fl.take j) c e l).2.2 := by
 rw [List.take_add_one, hf]
 exact rdFs_snoc _ f c e l

set_option maxRecDepth 100000 in
set_option maxHeartbeats 4000000 in
theorem ofC_a (s : ByteArray) (hx : (kindC.rd 0 s.data.toList).2.1 = 0 ∧ (kindC.rd 0 s.data.toList).1 = 0) (hl : Few s.data.toList) (w : World) (hL : Laid w) :
 Calls Tryz.prog 27 #[.string s] w fun e w' => ∃ E, Says (KB 0 w') w' E (ofC s.data.toList) ∧ Below w.heap.size w w' ∧
  (((ofC s.data.toList).1 = 0 ∧ ∃ (LA : Option Addr) (lc : Nat) (IA : Option Addr) (ic : Nat) (MA : Option Addr) (mc : Nat) (SA : Option Addr) (sc : Nat), e = .returned (.tuple #[.agg #[.int .i64 (rdC s.data.toList).1.kind, .int .i64 (rdC s.data.toList).1.uid, .int .u64 (rdC s.data.toList).1.rev, .string (rdC s.data.toList).1.spec.name, .slice LA (rdC s.data.toList).1.spec.labels.length lc, .slice IA (rdC s.data.toList).1.spec.init.length ic, .slice MA (rdC s.data.toList).1.spec.main.length mc, .int .i64 (rdC s.data.toList).1.spec.restart, .int .i64 (rdC s.data.toList).1.spec.grace, .int .i64 (rdC s.data.toList).1.spec.prio, .int .i64 (rdC s.data.toList).1.grace, .int .i64 (rdC s.data.toList).1.ctr, .int .i64 (rdC s.data.toList).1.id, .int .i64 (rdC s.data.toList).1.most, .string (rdC s.data.toList).1.data, .slice SA (rdC s.data.toList).1.sel.length sc], .nilIface]) ∧ CalUp w.heap.size (rdC s.data.toList).1 w' LA IA MA SA) ∨
   ((ofC s.data.toList).1 ≠ 0 ∧ e = .returned (.tuple #[.agg #[.int .i64 0, .int .i64 0, .int .u64 0, .string ⟨#[]⟩, .slice none 0 0, .slice none 0 0, .slice none 0 0, .int .i64 0, .int .i64 0, .int .i64 0, .int .i64 0, .int .i64 0, .int .i64 0, .int .i64 0, .string ⟨#[]⟩, .slice none 0 0], E]))) := by
 have HL := Lib.hid hL
 have HFW := Lib.hid hl
 obtain ⟨⟨k, e0, l0⟩, hqk⟩ : ∃ t, kindC.rd 0 s.data.toList = t := ⟨_, rfl⟩
 have HQK := Lib.hid hqk
 obtain ⟨⟨c, e1, l1⟩, hqc⟩ : ∃ t, rdFs (fieldsV k) (zeroC k) e0 l0 = t := ⟨_, rfl⟩
 have HQC := Lib.hid hqc
 have HRC := Lib.hid (show rdC s.data.toList = (c, e1, l1) by unfold rdC; rw [hqk]; exact hqc)
 have HFW0 := Lib.hid (few (C := kindC) hqk hl)
 have hkr := kindC.okay 0 s.data.toList
 rw [hqk] at hkr
 have hkr' := int_rng (show (intC 12 (by decide)).ok k from hkr)
 rw [HRC.out]
 obtain ⟨w1, hw1⟩ : ∃ v, w.alloc (.cells #[.int .i64 0, .int .i64 0, .int .u64 0, .string ⟨#[]⟩, .slice none 0 0, .slice none 0 0, .slice none 0 0, .int .i64 0, .int .i64 0, .int .i64 0, .int .i64 0, .int .i64 0, .int .i64 0, .int .i64 0, .string ⟨#[]⟩, .slice none 0 0] 41) = v := ⟨_, rfl⟩
 have B1 := Lib.hid (show Below w.heap.size w w1 by rw [← hw1]; exact (Below.refl _ _).alloc (Nat.le_refl _) _)
 have Z1 := Lib.hid (show w1.heap[w.heap.size]? = some (.cells #[.int .i64 0, .int .i64 0, .int .u64 0, .string ⟨#[]⟩, .slice none 0 0, .slice none 0 0, .slice none 0 0, .int .i64 0, .int .i64 0, .int .i64 0, .int .i64 0, .int .i64 0, .int .i64 0, .int .i64 0, .string ⟨#[]⟩, .slice none 0 0] 41) by rw [← hw1]; exact heap_alloc_new w _)
 clear hL hl hqk hqc hkr
 go_enter Tryz.func27, Tryz.ntmps27
 go_wp2_with fail
 refine (read_any s w1).mono ?_
 rintro e w2 ⟨rfl, h2, hb2, _⟩
 clear hw1
 obtain ⟨b0, hb0⟩ : ∃ b, w.heap.size = b := ⟨_, rfl⟩
 obtain ⟨g, hg⟩ : ∃ b, w1.heap.size = b := ⟨_, rfl⟩
 have hz2 := (hb2.block w.heap.size (lt_of_block Z1.out)).trans Z1.out
 have hbg : b0 < g := by rw [← hb0, ← hg]; exact lt_of_block Z1.out
 rw [hb0] at hz2 ⊢
 rw [hg] at h2 ⊢
 have R2 := Lib.hid h2
 have B2 := Lib.hid (B1.out.trans (hb2.mono B1.out.size))
 have Z2 := Lib.hid hz2
 have HB0 := Lib.hid hb0
 clear h2 hb2 hz2 hb0 hg
 go_wp2_with fail
 refine (num_rd g 12 12 (by decide) (by decide) (by decide) 0 s.data.toList HFW.out k e0 l0 HQK.out w2 R2.out).mono ?_
 rintro e w3 ⟨rfl, h3, k3⟩
 have B3 := Lib.hid (B2.out.trans (k3.below (fun i hi => ⟨Nat.lt_of_lt_of_le hi B2.out.size, by have := HB0.out; omega⟩)))
 have Z3 := Lib.hid ((k3.block b0 ⟨lt_of_block Z2.out, by omega⟩).trans Z2.out)
 have R3 := Lib.hid h3
 have hg3 : g < w3.heap.size := h3.lt
 clear h3 k3 B2 Z2 R2
 go_wp2_with fail
 obtain ⟨w4, hw4⟩ : ∃ v, w3.alloc (.cells #[.int .i64 k, .int .i64 0, .int .u64 0, .string ⟨#[]⟩, .slice none 0 0, .slice none 0 0, .slice none 0 0, .int .i64 0, .int .i64 0, .int .i64 0, .int .i64 0, .int .i64 0, .int .i64 0, .int .i64 0, .string ⟨#[]⟩, .slice none 0 0] 41) = v := ⟨_, rfl⟩
 have hb4 : Below w3.heap.size w3 w4 := by rw [← hw4]; exact (Below.refl _ _).alloc (Nat.le_refl _) _
 have SB4 := Lib.hid (show w4.heap[w3.heap.size]? = some (.cells #[.int .i64 k, .int .i64 0, .int .u64 0, .string ⟨#[]⟩, .slice none 0 0, .slice none 0 0, .slice none 0 0, .int .i64 0, .int .i64 0, .int .i64 0, .int .i64 0, .int .i64 0, .int .i64 0, .int .i64 0, .string ⟨#[]⟩, .slice none 0 0] 41) by rw [← hw4]; exact heap_alloc_new w3 _)
 have Z4 := Lib.hid ((hb4.block b0 (lt_of_block Z3.out)).trans Z3.out)
 have R4 := Lib.hid (R3.out.below hb4)
 have B4 := Lib.hid (B3.out.trans (hb4.mono B3.out.size))
 rw [hw4]
 obtain ⟨bS, hbS⟩ : ∃ b, w3.heap.size = b := ⟨_, rfl⟩
 rw [hbS] at SB4 hg3 ⊢
 have hbS4 : bS < w4.heap.size := lt_of_block SB4.out
 clear hb4 hw4 hbS Z3 R3 B3
 refine (code_any g e0 l0 w4 R4.out).mono ?_
 rintro e w5 ⟨rfl, rfl⟩
 rw [HQK.out] at hx
 obtain ⟨rfl, rfl⟩ : e0 = 0 ∧ k = 0 := hx
 have HOFC := Lib.hid (show ofC s.data.toList = (80, a_kind) by unfold ofC; rw [HQK.out]; rw [if_pos ⟨rfl, rfl⟩])
 have hck : checkC (zeroC 0) = (80, a_kind) := by unfold checkC; rw [if_pos (.inl (by decide))]
 have y0 := box_cell SB4.out 0 rfl
 have y1 := box_cell SB4.out 1 rfl
 have y2 := box_cell SB4.out 2 rfl
 have y3 := box_cell SB4.out 3 rfl
 have y4 := box_cell SB4.out 4 rfl
 have y5 := box_cell SB4.out 5 rfl
 have y6 := box_cell SB4.out 6 rfl
 have y7 := box_cell SB4.out 7 rfl
 have y8 := box_cell SB4.out 8 rfl
 have y9 := box_cell SB4.out 9 rfl
 have y10 := box_cell SB4.out 10 rfl
 have y11 := box_cell SB4.out 11 rfl
 have y12 := box_cell SB4.out 12 rfl
 have y13 := box_cell SB4.out 13 rfl
 have y14 := box_cell SB4.out 14 rfl
 have y15 := box_cell SB4.out 15 rfl
 go_wp2_with fail
 have hrun := checkC_any (zeroC 0) none 0 none 0 none 0 none 0 (zero_light 0) w4 (HL.out.below B4.out) (zero_in 0 w4)
 rw [hck] at hrun
 refine hrun.mono ?_
 rintro e w6 ⟨E, rfl, hE, hb6⟩
 have HE := Lib.hid hE
 have B6 := Lib.hid (B4.out.trans (hb6.mono B4.out.size))
 have z6 := (hb6.block b0 (lt_of_block Z4.out)).trans Z4.out
 have HVZ := Lib.hid z6
 clear hE hb6 hrun hck y0 y1 y2 y3 y4 y5 y6 y7 y8 y9 y10 y11 y12 y13 y14 y15
 have vc0 := box_cell z6 0 rfl
 have vf0 := box_free z6 0
 obtain ⟨v1, ve1⟩ : ∃ v, w6.setCell ⟨b0, 0, none⟩ (.int .i64 0) = v := ⟨_, rfl⟩
 have vz1 := box_set z6 0 (.int .i64 0) (B := #[.int .i64 0, .int .i64 0, .int .u64 0, .string ⟨#[]⟩, .slice none 0 0, .slice none 0 0, .slice none 0 0, .int .i64 0, .int .i64 0, .int .i64 0, .int .i64 0, .int .i64 0, .int .i64 0, .int .i64 0, .string ⟨#[]⟩, .slice none 0 0]) rfl
 rw [ve1] at vz1
 have vo1 : Only b0 w6 v1 := by rw [← ve1]; exact (Only.refl b0 w6).set 0 _
 have vc1 := box_cell vz1 1 rfl
 have vf1 := box_free vz1 1
 obtain ⟨v2, ve2⟩ : ∃ v, v1.setCell ⟨b0, 1, none⟩ (.int .i64 0) = v := ⟨_, rfl⟩
 have vz2 := box_set vz1 1 (.int .i64 0) (B := #[.int .i64 0, .int .i64 0, .int .u64 0, .string ⟨#[]⟩, .slice none 0 0, .slice none 0 0, .slice none 0 0, .int .i64 0, .int .i64 0, .int .i64 0, .int .i64 0, .int .i64 0, .int .i64 0, .int .i64 0, .string ⟨#[]⟩, .slice none 0 0]) rfl
 rw [ve2] at vz2
 have vo2 : Only b0 w6 v2 := by rw [← ve2]; exact vo1.set 1 _
 have vc2 := box_cell vz2 2 rfl
 have vf2 := box_free vz2 2
 obtain ⟨v3, ve3⟩ : ∃ v, v2.setCell ⟨b0, 2, none⟩ (.int .u64 0) = v := ⟨_, rfl⟩
 have vz3 := box_set vz2 2 (.int .u64 0) (B := #[.int .i64 0, .int .i64 0, .int .u64 0, .string ⟨#[]⟩, .slice none 0 0, .slice none 0 0, .slice none 0 0, .int .i64 0, .int .i64 0, .int .i64 0, .int .i64 0, .int .i64 0, .int .i64 0, .int .i64 0, .string ⟨#[]⟩, .slice none 0 0]) rfl
 rw [ve3] at vz3
 have vo3 : Only b0 w6 v3 := by rw [← ve3]; exact vo2.set 2 _
 have vc3 := box_cell vz3 3 rfl
 have vf3 := box_free vz3 3
 obtain ⟨v4, ve4⟩ : ∃ v, v3.setCell ⟨b0, 3, none⟩ (.string ⟨#[]⟩) = v := ⟨_, rfl⟩
 have vz4 := box_set vz3 3 (.string ⟨#[]⟩) (B := #[.int .i64 0, .int .i64 0, .int .u64 0, .string ⟨#[]⟩, .slice none 0 0, .slice none 0 0, .slice none 0 0, .int .i64 0, .int .i64 0, .int .i64 0, .int .i64 0, .int .i64 0, .int .i64 0, .int .i64 0, .string ⟨#[]⟩, .slice none 0 0]) rfl
 rw [ve4] at vz4
 have vo4 : Only b0 w6 v4 := by rw [← ve4]; exact vo3.set 3 _
 have vc4 := box_cell vz4 4 rfl
 have vf4 := box_free vz4 4
 obtain ⟨v5, ve5⟩ : ∃ v, v4.setCell ⟨b0, 4, none⟩ (.slice none 0 0) = v := ⟨_, rfl⟩
 have vz5 := box_set vz4 4 (.slice none 0 0) (B := #[.int .i64 0, .int .i64 0, .int .u64 0, .string ⟨#[]⟩, .slice none 0 0, .slice none 0 0, .slice none 0 0, .int .i64 0, .int .i64 0, .int .i64 0, .int .i64 0, .int .i64 0, .int .i64 0, .int .i64 0, .string ⟨#[]⟩, .slice none 0 0]) rfl
 rw [ve5] at vz5
 have vo5 : Only b0 w6 v5 := by rw [← ve5]; exact vo4.set 4 _
 have vc5 := box_cell vz5 5 rfl
 have vf5 := box_free vz5 5
 obtain ⟨v6, ve6⟩ : ∃ v, v5.setCell ⟨b0, 5, none⟩ (.slice none 0 0) = v := ⟨_, rfl⟩
 have vz6 := box_set vz5 5 (.slice none 0 0) (B := #[.int .i64 0, .int .i64 0, .int .u64 0, .string ⟨#[]⟩, .slice none 0 0, .slice none 0 0, .slice none 0 0, .int .i64 0, .int .i64 0, .int .i64 0, .int .i64 0, .int .i64 0, .int .i64 0, .int .i64 0, .string ⟨#[]⟩, .slice none 0 0]) rfl
 rw [ve6] at vz6
 have vo6 : Only b0 w6 v6 := by rw [← ve6]; exact vo5.set 5 _
 have vc6 := box_cell vz6 6 rfl
 have vf6 := box_free vz6 6
 obtain ⟨v7, ve7⟩ : ∃ v, v6.setCell ⟨b0, 6, none⟩ (.slice none 0 0) = v := ⟨_, rfl⟩
 have vz7 := box_set vz6 6 (.slice none 0 0) (B := #[.int .i64 0, .int .i64 0, .int .u64 0, .string ⟨#[]⟩, .slice none 0 0, .slice none 0 0, .slice none 0 0, .int .i64 0, .int .i64 0, .int .i64 0, .int .i64 0, .int .i64 0, .int .i64 0, .int .i64 0, .string ⟨#[]⟩, .slice none 0 0]) rfl
 rw [ve7] at vz7
 have vo7 : Only b0 w6 v7 := by rw [← ve7]; exact vo6.set 6 _
 have vc7 := box_cell vz7 7 rfl
 have vf7 := box_free vz7 7
 obtain ⟨v8, ve8⟩ : ∃ v, v7.setCell ⟨b0, 7, none⟩ (.int .i64 0) = v := ⟨_, rfl⟩
 have vz8 := box_set vz7 7 (.int .i64 0) (B := #[.int .i64 0, .int .i64 0, .int .u64 0, .string ⟨#[]⟩, .slice none 0 0, .slice none 0 0, .slice none 0 0, .int .i64 0, .int .i64 0, .int .i64 0, .int .i64 0, .int .i64 0, .int .i64 0, .int .i64 0, .string ⟨#[]⟩, .slice none 0 0]) rfl
 rw [ve8] at vz8
 have vo8 : Only b0 w6 v8 := by rw [← ve8]; exact vo7.set 7 _
 have vc8 := box_cell vz8 8 rfl
 have vf8 := box_free vz8 8
 obtain ⟨v9, ve9⟩ : ∃ v, v8.setCell ⟨b0, 8, none⟩ (.int .i64 0) = v := ⟨_, rfl⟩
 have vz9 := box_set vz8 8 (.int .i64 0) (B := #[.int .i64 0, .int .i64 0, .int .u64 0, .string ⟨#[]⟩, .slice none 0 0, .slice none 0 0, .slice none 0 0, .int .i64 0, .int .i64 0, .int .i64 0, .int .i64 0, .int .i64 0, .int .i64 0, .int .i64 0, .string ⟨#[]⟩, .slice none 0 0]) rfl
 rw [ve9] at vz9
 have vo9 : Only b0 w6 v9 := by rw [← ve9]; exact vo8.set 8 _
 have vc9 := box_cell vz9 9 rfl
 have vf9 := box_free vz9 9
 obtain ⟨v10, ve10⟩ : ∃ v, v9.setCell ⟨b0, 9, none⟩ (.int .i64 0) = v := ⟨_, rfl⟩
 have vz10 := box_set vz9 9 (.int .i64 0) (B := #[.int .i64 0, .int .i64 0, .int .u64 0, .string ⟨#[]⟩, .slice none 0 0, .slice none 0 0, .slice none 0 0, .int .i64 0, .int .i64 0, .int .i64 0, .int .i64 0, .int .i64 0, .int .i64 0, .int .i64 0, .string ⟨#[]⟩, .slice none 0 0]) rfl
 rw [ve10] at vz10
 have vo10 : Only b0 w6 v10 := by rw [← ve10]; exact vo9.set 9 _
 have vc10 := box_cell vz10 10 rfl
 have vf10 := box_free vz10 10
 obtain ⟨v11, ve11⟩ : ∃ v, v10.setCell ⟨b0, 10, none⟩ (.int .i64 0) = v := ⟨_, rfl⟩
 have vz11 := box_set vz10 10 (.int .i64 0) (B := #[.int .i64 0, .int .i64 0, .int .u64 0, .string ⟨#[]⟩, .slice none 0 0, .slice none 0 0, .slice none 0 0, .int .i64 0, .int .i64 0, .int .i64 0, .int .i64 0, .int .i64 0, .int .i64 0, .int .i64 0, .string ⟨#[]⟩, .slice none 0 0]) rfl
 rw [ve11] at vz11
 have vo11 : Only b0 w6 v11 := by rw [← ve11]; exact vo10.set 10 _
 have vc11 := box_cell vz11 11 rfl
 have vf11 := box_free vz11 11
 obtain ⟨v12, ve12⟩ : ∃ v, v11.setCell ⟨b0, 11, none⟩ (.int .i64 0) = v := ⟨_, rfl⟩
 have vz12 := box_set vz11 11 (.int .i64 0) (B := #[.int .i64 0, .int .i64 0, .int .u64 0, .string ⟨#[]⟩, .slice none 0 0, .slice none 0 0, .slice none 0 0, .int .i64 0, .int .i64 0, .int .i64 0, .int .i64 0, .int .i64 0, .int .i64 0, .int .i64 0, .string ⟨#[]⟩, .slice none 0 0]) rfl
 rw [ve12] at vz12
 have vo12 : Only b0 w6 v12 := by rw [← ve12]; exact vo11.set 11 _
 have vc12 := box_cell vz12 12 rfl
 have vf12 := box_free vz12 12
 obtain ⟨v13, ve13⟩ : ∃ v, v12.setCell ⟨b0, 12, none⟩ (.int .i64 0) = v := ⟨_, rfl⟩
 have vz13 := box_set vz12 12 (.int .i64 0) (B := #[.int .i64 0, .int .i64 0, .int .u64 0, .string ⟨#[]⟩, .slice none 0 0, .slice none 0 0, .slice none 0 0, .int .i64 0, .int .i64 0, .int .i64 0, .int .i64 0, .int .i64 0, .int .i64 0, .int .i64 0, .string ⟨#[]⟩, .slice none 0 0]) rfl
 rw [ve13] at vz13
 have vo13 : Only b0 w6 v13 := by rw [← ve13]; exact vo12.set 12 _
 have vc13 := box_cell vz13 13 rfl
 have vf13 := box_free vz13 13
 obtain ⟨v14, ve14⟩ : ∃ v, v13.setCell ⟨b0, 13, none⟩ (.int .i64 0) = v := ⟨_, rfl⟩
 have vz14 := box_set vz13 13 (.int .i64 0) (B := #[.int .i64 0, .int .i64 0, .int .u64 0, .string ⟨#[]⟩, .slice none 0 0, .slice none 0 0, .slice none 0 0, .int .i64 0, .int .i64 0, .int .i64 0, .int .i64 0, .int .i64 0, .int .i64 0, .int .i64 0, .string ⟨#[]⟩, .slice none 0 0]) rfl
 rw [ve14] at vz14
 have vo14 : Only b0 w6 v14 := by rw [← ve14]; exact vo13.set 13 _
 have vc14 := box_cell vz14 14 rfl
 have vf14 := box_free vz14 14
 obtain ⟨v15, ve15⟩ : ∃ v, v14.setCell ⟨b0, 14, none⟩ (.string ⟨#[]⟩) = v := ⟨_, rfl⟩
 have vz15 := box_set vz14 14 (.string ⟨#[]⟩) (B := #[.int .i64 0, .int .i64 0, .int .u64 0, .string ⟨#[]⟩, .slice none 0 0, .slice none 0 0, .slice none 0 0, .int .i64 0, .int .i64 0, .int .i64 0, .int .i64 0, .int .i64 0, .int .i64 0, .int .i64 0, .string ⟨#[]⟩, .slice none 0 0]) rfl
 rw [ve15] at vz15
 have vo15 : Only b0 w6 v15 := by rw [← ve15]; exact vo14.set 14 _
 have vc15 := box_cell vz15 15 rfl
 have vf15 := box_free vz15 15
 obtain ⟨v16, ve16⟩ : ∃ v, v15.setCell ⟨b0, 15, none⟩ (.slice none 0 0) = v := ⟨_, rfl⟩
 have vz16 := box_set vz15 15 (.slice none 0 0) (B := #[.int .i64 0, .int .i64 0, .int .u64 0, .string ⟨#[]⟩, .slice none 0 0, .slice none 0 0, .slice none 0 0, .int .i64 0, .int .i64 0, .int .i64 0, .int .i64 0, .int .i64 0, .int .i64 0, .int .i64 0, .string ⟨#[]⟩, .slice none 0 0]) rfl
 rw [ve16] at vz16
 have vo16 : Only b0 w6 v16 := by rw [← ve16]; exact vo15.set 15 _
 have vr0 := box_cell vz16 0 rfl
 have vr1 := box_cell vz16 1 rfl
 have vr2 := box_cell vz16 2 rfl
 have vr3 := box_cell vz16 3 rfl
 have vr4 := box_cell vz16 4 rfl
 have vr5 := box_cell vz16 5 rfl
 have vr6 := box_cell vz16 6 rfl
 have vr7 := box_cell vz16 7 rfl
 have vr8 := box_cell vz16 8 rfl
 have vr9 := box_cell vz16 9 rfl
 have vr10 := box_cell vz16 10 rfl
 have vr11 := box_cell vz16 11 rfl
 have vr12 := box_cell vz16 12 rfl
 have vr13 := box_cell vz16 13 rfl
 have vr14 := box_cell vz16 14 rfl
 have vr15 := box_cell vz16 15 rfl
 have vO := Lib.hid vo16
 clear vz1 vo1 vz2 vo2 vz3 vo3 vz4 vo4 vz5 vo5 vz6 vo6 vz7 vo7 vz8 vo8 vz9 vo9 vz10 vo10 vz11 vo11 vz12 vo12 vz13 vo13 vz14 vo14 vz15 vo15 vz16 vo16
 clear z6
 go_wp2_with fail
 refine bodyPost_ret (v := .tuple #[.agg #[.int .i64 0, .int .i64 0, .int .u64 0, .string ⟨#[]⟩, .slice none 0 0, .slice none 0 0, .slice none 0 0, .int .i64 0, .int .i64 0, .int .i64 0, .int .i64 0, .int .i64 0, .int .i64 0, .int .i64 0, .string ⟨#[]⟩, .slice none 0 0], E]) ?hres rfl ?_
 case hres => simp [results, Tryz.results27, go_sem, vr0, vr1, vr2, vr3, vr4, vr5, vr6, vr7, vr8, vr9, vr10, vr11, vr12, vr13, vr14, vr15]
 exact ⟨E, by rw [HOFC.out]; exact vO.out.says3 HE.out HVZ.out, vO.out.below B6.out (by have := HB0.out; omega), .inr ⟨by rw [HOFC.out]; decide, rfl⟩⟩

end Ak
end Go.Proofs.YtakdhkhcndeiiaaGreatDoor

set_option linter.unusedVariables false
set_option linter.unusedSimpArgs false
namespace Go.Proofs.YtakdhkhcndeiiaaGreatDoor
open Go.ChangeShapes Go.WideShapes Go.ChangeAt Go.RowKit Go.Lib
open LebMath WirePure Sd Wire SpecOwn SpecRef Book Pk
namespace Ak

set_option maxRecDepth 100000 in
set_option maxHeartbeats 4000000 in
theorem ofC_c1 (s : ByteArray) (hx : (kindC.rd 0 s.data.toList).2.1 = 0) (hy : ¬ (kindC.rd 0 s.data.toList).1 = 0) (hv : (ofC s.data.toList).1 = 0) (hl : Few s.data.toList) (w : World) (hL : Laid w) :
 Calls Tryz.prog 27 #[.string s] w fun e w' => ∃ E, Says (KB 0 w') w' E (ofC s.data.toList) ∧ Below w.heap.size w w' ∧
  (((ofC s.data.toList).1 = 0 ∧ ∃ (LA : Option Addr) (lc : Nat) (IA : Option Addr) (ic : Nat) (MA : Option Addr) (mc : Nat) (SA : Option Addr) (sc : Nat), e = .returned (.tuple #[.agg #[.int .i64 (rdC s.data.toList).1.kind, .int .i64 (rdC s.data.toList).1.uid, .int .u64 (rdC s.data.toList).1.rev, .string (rdC s.data.toList).1.spec.name, .slice LA (rdC s.data.toList).1.spec.labels.length lc, .slice IA (rdC s.data.toList).1.spec.init.length ic, .slice MA (rdC s.data.toList).1.spec.main.length mc, .int .i64 (rdC s.data.toList).1.spec.restart, .int .i64 (rdC s.data.toList).1.spec.grace, .int .i64 (rdC s.data.toList).1.spec.prio, .int .i64 (rdC s.data.toList).1.grace, .int .i64 (rdC s.data.toList).1.ctr, .int .i64 (rdC s.data.toList).1.id, .int .i64 (rdC s.data.toList).1.most, .string (rdC s.data.toList).1.data, .slice SA (rdC s.data.toList).1.sel.length sc], .nilIface]) ∧ CalUp w.heap.size (rdC s.data.toList).1 w' LA IA MA SA) ∨
   ((ofC s.data.toList).1 ≠ 0 ∧ e = .returned (.tuple #[.agg #[.int .i64 0, .int .i64 0, .int .u64 0, .string ⟨#[]⟩, .slice none 0 0, .slice none 0 0, .slice none 0 0, .int .i64 0, .int .i64 0, .int .i64 0, .int .i64 0, .int .i64 0, .int .i64 0, .int .i64 0, .string ⟨#[]⟩, .slice none 0 0], E]))) := by
 have HL := Lib.hid hL
 have HFW := Lib.hid hl
 obtain ⟨⟨k, e0, l0⟩, hqk⟩ : ∃ t, kindC.rd 0 s.data.toList = t := ⟨_, rfl⟩
 have HQK := Lib.hid hqk
 obtain ⟨⟨c, e1, l1⟩, hqc⟩ : ∃ t, rdFs (fieldsV k) (zeroC k) e0 l0 = t := ⟨_, rfl⟩
 have HQC := Lib.hid hqc
 have HRC := Lib.hid (show rdC s.data.toList = (c, e1, l1) by unfold rdC; rw [hqk]; exact hqc)
 have HFW0 := Lib.hid (few (C := kindC) hqk hl)
 have hkr := kindC.okay 0 s.data.toList
 rw [hqk] at hkr
 have hkr' := int_rng (show (intC 12 (by decide)).ok k from hkr)
 rw [HRC.out]
 obtain ⟨w1, hw1⟩ : ∃ v, w.alloc (.cells #[.int .i64 0, .int .i64 0, .int .u64 0, .string ⟨#[]⟩, .slice none 0 0, .slice none 0 0, .slice none 0 0, .int .i64 0, .int .i64 0, .int .i64 0, .int .i64 0, .int .i64 0, .int .i64 0, .int .i64 0, .string ⟨#[]⟩, .slice none 0 0] 41) = v := ⟨_, rfl⟩
 have B1 := Lib.hid (show Below w.heap.size w w1 by rw [← hw1]; exact (Below.refl _ _).alloc (Nat.le_refl _) _)
 have Z1 := Lib.hid (show w1.heap[w.heap.size]? = some (.cells #[.int .i64 0, .int .i64 0, .int .u64 0, .string ⟨#[]⟩, .slice none 0 0, .slice none 0 0, .slice none 0 0, .int .i64 0, .int .i64 0, .int .i64 0, .int .i64 0, .int .i64 0, .int .i64 0, .int .i64 0, .string ⟨#[]⟩, .slice none 0 0] 41) by rw [← hw1]; exact heap_alloc_new w _)
 clear hL hl hqk hqc hkr
 go_enter Tryz.func27, Tryz.ntmps27
 go_wp2_with fail
 refine (read_any s w1).mono ?_
 rintro e w2 ⟨rfl, h2, hb2, _⟩
 clear hw1
 obtain ⟨b0, hb0⟩ : ∃ b, w.heap.size = b := ⟨_, rfl⟩
 obtain ⟨g, hg⟩ : ∃ b, w1.heap.size = b := ⟨_, rfl⟩
 have hz2 := (hb2.block w.heap.size (lt_of_block Z1.out)).trans Z1.out
 have hbg : b0 < g := by rw [← hb0, ← hg]; exact lt_of_block Z1.out
 rw [hb0] at hz2 ⊢
 rw [hg] at h2 ⊢
 have R2 := Lib.hid h2
 have B2 := Lib.hid (B1.out.trans (hb2.mono B1.out.size))
 have Z2 := Lib.hid hz2
 have HB0 := Lib.hid hb0
 clear h2 hb2 hz2 hb0 hg
 go_wp2_with fail
 refine (num_rd g 12 12 (by decide) (by decide) (by decide) 0 s.data.toList HFW.out k e0 l0 HQK.out w2 R2.out).mono ?_
 rintro e w3 ⟨rfl, h3, k3⟩
 have B3 := Lib.hid (B2.out.trans (k3.below (fun i hi => ⟨Nat.lt_of_lt_of_le hi B2.out.size, by have := HB0.out; omega⟩)))
 have Z3 := Lib.hid ((k3.block b0 ⟨lt_of_block Z2.out, by omega⟩).trans Z2.out)
 have R3 := Lib.hid h3
 have hg3 : g < w3.heap.size := h3.lt
 clear h3 k3 B2 Z2 R2
 go_wp2_with fail
 obtain ⟨w4, hw4⟩ : ∃ v, w3.alloc (.cells #[.int .i64 k, .int .i64 0, .int .u64 0, .string ⟨#[]⟩, .slice none 0 0, .slice none 0 0, .slice none 0 0, .int .i64 0, .int .i64 0, .int .i64 0, .int .i64 0, .int .i64 0, .int .i64 0, .int .i64 0, .string ⟨#[]⟩, .slice none 0 0] 41) = v := ⟨_, rfl⟩
 have hb4 : Below w3.heap.size w3 w4 := by rw [← hw4]; exact (Below.refl _ _).alloc (Nat.le_refl _) _
 have SB4 := Lib.hid (show w4.heap[w3.heap.size]? = some (.cells #[.int .i64 k, .int .i64 0, .int .u64 0, .string ⟨#[]⟩, .slice none 0 0, .slice none 0 0, .slice none 0 0, .int .i64 0, .int .i64 0, .int .i64 0, .int .i64 0, .int .i64 0, .int .i64 0, .int .i64 0, .string ⟨#[]⟩, .slice none 0 0] 41) by rw [← hw4]; exact heap_alloc_new w3 _)
 have Z4 := Lib.hid ((hb4.block b0 (lt_of_block Z3.out)).trans Z3.out)
 have R4 := Lib.hid (R3.out.below hb4)
 have B4 := Lib.hid (B3.out.trans (hb4.mono B3.out.size))
 rw [hw4]
 obtain ⟨bS, hbS⟩ : ∃ b, w3.heap.size = b := ⟨_, rfl⟩
 rw [hbS] at SB4 hg3 ⊢
 have hbS4 : bS < w4.heap.size := lt_of_block SB4.out
 clear hb4 hw4 hbS Z3 R3 B3
 refine (code_any g e0 l0 w4 R4.out).mono ?_
 rintro e w5 ⟨rfl, rfl⟩
 have HV := Lib.hid hv
 clear hv
 rw [HQK.out] at hx hy
 have hx1 : e0 = 0 := hx
 have hy1 : ¬ k = 0 := hy
 have hx0 : ¬ (e0 = 0 ∧ k = 0) := fun h => hy1 h.2
 have hw0 : (e0 == 0) = true := by simpa using hx1
 have hw1 : (k == 0) = false := by simpa using hy1
 clear hx hy hx1 hy1
 have HOFC := Lib.hid (show ofC s.data.toList = firstV [newV (endE e1 l1) t_wire, checkC c] by unfold ofC; rw [HQK.out, if_neg (fun h => hx0 h), HRC.out])
 have hk0 := box_cell SB4.out 0 rfl
 clear hx0
 go_wp2_with fail
 refine (fields_any k w4).mono ?_
 rintro e w5 ⟨OA, oc, rfl, hon, hof, hoc, hb5⟩
 have B5 := Lib.hid (B4.out.trans (hb5.mono B4.out.size))
 have CA5 := Lib.hid ((zero_at (B := w4.heap.size) SB4.out).below hb5)
 have R5 := Lib.hid (R4.out.below hb5)
 have Z5 := Lib.hid ((hb5.block b0 (lt_of_block Z4.out)).trans Z4.out)
 have ON := Lib.hid hon
 have HOF := Lib.hid hof
 have HS5 := Lib.hid (show w4.heap.size ≤ w5.heap.size from hb5.size)
 have HFL := Lib.hid (fields_lt k)
 have hlen3 := fields_len k
 obtain ⟨fl, hfl⟩ : ∃ l, fieldsV k = l := ⟨_, rfl⟩
 rw [hfl] at ON HFL hlen3 HQC ⊢
 clear hon hof hoc hb5 hfl hk0
 have hlen3' : (fl.length : Int) ≤ 3 := by omega
 obtain ⟨B, hB⟩ : ∃ b, w4.heap.size = b := ⟨_, rfl⟩
 rw [hB] at CA5 HOF HS5 hbS4
 have HBX := Lib.hid hB
 clear hB
 go_wp2_with fail
 go_loopw [29] (fun i wi => ∃ j : Nat, j ≤ fl.length ∧ i = .int .i64 j ∧ Hid (Rd wi g (rdFs (fl.take j) (zeroC k) e0 l0).2.1 (rdFs (fl.take j) (zeroC k) e0 l0).2.2) ∧ Hid (CallAt bS B (rdFs (fl.take j) (zeroC k) e0 l0).1 wi) ∧ Hid (Two g bS w5 wi)) (fun i _ => fl.length - (RowKit.intOf i).toNat)
 case atStart => exact ⟨0, Nat.zero_le _, rfl, R5.out, CA5.out, Two.refl _ _ _⟩
 case round =>
  obtain ⟨j, hj, rfl, HR, HC, HT⟩ := hrel
  by_cases hlt : j < fl.length
  · have hlt' : (j : Int) < (fl.length : Int) := by omega
    obtain ⟨f, hf⟩ : ∃ f, fl[j] = f := ⟨_, rfl⟩
    have hfj : fl[j]? = some f := by rw [List.getElem?_eq_getElem hlt, hf]
    have ONR : Lists.Nums .i64 wr OA fl := nums_move ON.out HT.out.size (fun a ha _ hl => HT.out.block a.block hl (by have := HOF.out a ha; omega) (by have := HOF.out a ha; omega))
    obtain ⟨hwf, oa, hoa, hol, hocell⟩ := ONR j f hfj
    subst hoa
    have HSN := Lib.hid (rdFs_take fl (zeroC k) e0 l0 j f hfj)
    have hf9 := HFL.out f (List.mem_of_getElem? hfj)
    have hfew : Few (rdFs (fl.take j) (zeroC k) e0 l0).2.2 := Nat.le_trans (rdFs_len _ _ _ _) HFW0.out
    clear hf hfj hwf ONR
    go_wp2_with fail
    refine (take_f g bS B (by omega) (by omega) hbS4 _ _ hfew _ wr (Nat.le_trans HS5.out HT.out.size) HR.out HC.out f hf9).mono ?_
    rintro r w8 ⟨rfl, h8, c8, t8⟩
    rw [← HSN.out] at h8 c8
    have HR8 := Lib.hid h8
    have HC8 := Lib.hid c8
    have HT8 := Lib.hid (HT.out.trans t8)
    clear h8 c8 t8 hocell hol
    go_wp2
    go_roundw
    case rel => exact ⟨j + 1, by omega, by go_num, HR8.out, HC8.out, HT8.out⟩
    case measure => simp [RowKit.intOf]; omega
  · obtain rfl : j = fl.length := by omega
    have hlt' : ¬ (fl.length : Int) < (fl.length : Int) := by omega
    rw [List.take_length, HQC.out] at HR HC
    obtain ⟨LA, lc, IA, ic, MA, mc, SA, sc, hbox, hup⟩ := HC.out.up
    have SBZ := Lib.hid hbox
    have U4z := Lib.hid hup
    have R4z := Lib.hid HR.out
    have hgB : g < B := by omega
    have hb0B : b0 < B := by omega
    have HBB := Lib.hid (show w.heap.size ≤ B by have := HB0.out; omega)
    have B4z := Lib.hid (show Below w.heap.size w wr from HT.out.below B5.out (by have := B5.out.size; omega) (by have := HB0.out; omega) (by have := HB0.out; omega))
    have Z4z := Lib.hid ((HT.out.block b0 (lt_of_block Z5.out) (by omega) (by omega)).trans Z5.out)
    clear hbox hup HR HC HT ON SB4 Z4 R4 B4 R5 CA5 Z5
    have SB4 := SBZ
    have U4 := U4z
    have R4 := R4z
    have B4 := B4z
    have Z4 := Z4z
    clear SBZ U4z R4z B4z Z4z
    go_wp2_with fail
    refine Line.wp_region_walk (by kernel_rfl) (by kernel_rfl) (ofPlan g e1 l1 c LA lc IA ic MA mc SA sc) (by kernel_rfl) (by kernel_rfl) R4.out ?_ ?_
    · refine ⟨?_, ?_, ?_, ?_, ?_, ?_, ?_, ?_, ?_, trivial⟩
      · intro a w5 hfr hdep hG
        have f0 : a.tmps.getD 4 undef = .pointer (some ⟨g, 0, none⟩) := hfr.slot 4 (by kernel_rfl)
        refine Line.Step.value (of_quiet (by decide)) (Line.wanted_free rfl) (v := .pointer (some ⟨g, 0, none⟩)) (w' := w5) ?_ rfl (Below.refl _ _)
        simp [go_sem, Act.eval, f0]
      · intro a w5 hfr hdep hG
        have e0 : a.tmps.getD 37 undef = .pointer (some ⟨g, 0, none⟩) := Loose.dep_of hdep 0 37 (by kernel_rfl)
        refine Line.Step.write 0 rfl (Line.wanted_free rfl) (f := 85) (args := #[.pointer (some ⟨g, 0, none⟩)]) ?_ ?_
        · simp [go_sem, Act.eval, e0]
        · refine (rend_any g e1 l1 w5 (hG 0 rfl)).mono ?_
          rintro e w6 ⟨rfl, h6, k6⟩
          exact ⟨_, rfl, rfl, ⟨k6, fun _ => ⟨_, (Wire.two_cells h6).1⟩⟩, h6⟩
      · intro a w5 hfr hdep hG
        refine Line.Step.value (of_quiet (by decide)) (Line.wanted_free rfl) (v := .slice (some ⟨w5.heap.size, 0, none⟩) 1 1) (w' := w5.alloc (.cells #[.string t_wire] 9)) ?_ (text_made t_wire ?_) ((Below.refl _ _).alloc (Nat.le_refl _) _)
        · simp [go_sem, t_wire]
        · have := hfr.kept.1.size
          have := R4.out.lt
          show w5.heap.size ≠ g
          omega
      · intro a w5 hfr hdep hG
        have e0 : a.tmps.getD 38 undef = .int .i64 (endE e1 l1) := Loose.dep_of hdep 1 38 (by kernel_rfl)
        obtain ⟨gg, ee, _, hcg⟩ : TextK (KR g) t_wire (a.tmps.getD 39 undef) w5 := Loose.dep_of hdep 2 39 (by kernel_rfl)
        refine Line.Step.call (of_quiet (by decide)) (Line.wanted_free rfl) (f := 62) (args := #[.int .i64 (endE e1 l1), .slice (some ⟨gg, 0, none⟩) 1 1]) ?_ ?_
        · simp [go_sem, Act.eval, e0, ee]
        · obtain ⟨z, hz⟩ := hfr.kept.2 ⟨_, (Wire.two_cells R4.out).1⟩
          refine (new_says (endE e1 l1) t_wire gg 1 w5 (by decide) hcg).mono ?_
          rintro e w6 ⟨E, rfl, hE, hb⟩
          exact ⟨E, rfl, says_off hE ((hb.cell (World.block_lt_of_cell? _ _ hz)).trans hz), hb⟩
      · intro a w5 hfr hdep hG
        have f0 : a.tmps.getD 5 undef = .pointer (some ⟨bS, 0, none⟩) := hfr.slot 5 (by kernel_rfl)
        have hsb := (hfr.kept.1.block bS ⟨lt_of_block SB4.out, by omega⟩).trans SB4.out
        have hc0 := box_cell hsb 0 rfl
        have hc1 := box_cell hsb 1 rfl
        have hc2 := box_cell hsb 2 rfl
        have hc3 := box_cell hsb 3 rfl
        have hc4 := box_cell hsb 4 rfl
        have hc5 := box_cell hsb 5 rfl
        have hc6 := box_cell hsb 6 rfl
        have hc7 := box_cell hsb 7 rfl
        have hc8 := box_cell hsb 8 rfl
        have hc9 := box_cell hsb 9 rfl
        have hc10 := box_cell hsb 10 rfl
        have hc11 := box_cell hsb 11 rfl
        have hc12 := box_cell hsb 12 rfl
        have hc13 := box_cell hsb 13 rfl
        have hc14 := box_cell hsb 14 rfl
        have hc15 := box_cell hsb 15 rfl
        clear hsb
        refine Line.Step.value (of_quiet (by decide)) (Line.wanted_free rfl) (v := cval c LA lc IA ic MA mc SA sc) (w' := w5) ?_ rfl (Below.refl _ _)
        simp [go_sem, Act.eval, f0, cval, hc0, hc1, hc2, hc3, hc4, hc5, hc6, hc7, hc8, hc9, hc10, hc11, hc12, hc13, hc14, hc15]
      · intro a w5 hfr hdep hG
        have e0 : a.tmps.getD 41 undef = cval c LA lc IA ic MA mc SA sc := Loose.dep_of hdep 4 41 (by kernel_rfl)
        refine Line.Step.call (of_quiet (by decide)) (Line.wanted_free rfl) (f := 21) (args := #[cval c LA lc IA ic MA mc SA sc]) ?_ ?_
        · simp [go_sem, Act.eval, e0]
        · obtain ⟨z, hz⟩ := hfr.kept.2 ⟨_, (Wire.two_cells R4.out).1⟩
          have hbw : Below w.heap.size w w5 := B4.out.trans (hfr.kept.1.below (fun k hk => ⟨Nat.lt_of_lt_of_le hk B4.out.size, by have := HB0.out; omega⟩))
          refine (checkC_any c LA lc IA ic MA mc SA sc U4.out.light w5 (HL.out.below hbw) (U4.out.aside hgB hfr.kept.1).in).mono ?_
          rintro e w6 ⟨E, rfl, hE, hb⟩
          exact ⟨E, rfl, says_off hE ((hb.cell (World.block_lt_of_cell? _ _ hz)).trans hz), hb⟩
      · intro a w5 hfr hdep hG
        have h0 : SaysK (KR g) (newV (endE e1 l1) t_wire) (a.tmps.getD 40 undef) w5 := Loose.dep_of hdep 3 40 (by kernel_rfl)
        have h1 : SaysK (KR g) (checkC c) (a.tmps.getD 42 undef) w5 := Loose.dep_of hdep 5 42 (by kernel_rfl)
        have r := build2 (a.tmps.getD 40 undef) (a.tmps.getD 42 undef) w5 (cells_form (Says.form h0)) (cells_form (Says.form h1))
        have hb : Below w5.heap.size w5 (w5.alloc (.cells #[a.tmps.getD 40 undef, a.tmps.getD 42 undef] 44)) := (Below.refl _ _).alloc (Nat.le_refl _) _
        have hne : w5.heap.size ≠ g := by have := hfr.kept.1.size; have := R4.out.lt; omega
        refine Line.Step.value (of_quiet (by decide)) (Line.wanted_free rfl) (v := .slice (some ⟨w5.heap.size, 0, none⟩) 2 2) (w' := w5.alloc (.cells #[a.tmps.getD 40 undef, a.tmps.getD 42 undef] 44)) ?_ (row_made [a.tmps.getD 40 undef, a.tmps.getD 42 undef] _ 2 rfl hne (kr_keep (Wire.Aside.of_below hb)) ⟨h0, h1, trivial⟩) hb
        clear hb h0 h1 hdep
        simp only [Array.getD_eq_getD_getElem?] at r
        simp [execOp, Act.eval, r]
      · intro a w5 hfr hdep hG
        have h0 : RowK (KR g) [newV (endE e1 l1) t_wire, checkC c] (a.tmps.getD 43 undef) w5 := Loose.dep_of hdep 6 43 (by kernel_rfl)
        refine Line.Step.call (of_quiet (by decide)) (Line.wanted_free rfl) (f := 84) (args := #[a.tmps.getD 43 undef]) ?_ (row_first h0 (by simp))
        simp [go_sem, Act.eval]
      · intro a w5 hfr hdep hG
        have h0 : SaysK (KR g) (firstV [newV (endE e1 l1) t_wire, checkC c]) (a.tmps.getD 44 undef) w5 := Loose.dep_of hdep 7 44 (by kernel_rfl)
        refine Line.Step.value (of_quiet (by decide)) (Line.wanted_free rfl) (v := a.tmps.getD 44 undef) (w' := w5) ?_ h0 (Below.refl _ _)
        simp [go_sem, Act.eval]
    · intro v0 v1 v2 v3 v4 v5 v6 v7 v8 w6 hk6 hC hG6
      have hE : SaysK (KR g) (firstV [newV (endE e1 l1) t_wire, checkC c]) v8 w6 := hC.2
      have hform := Says.form hE
      have hnil := Says.nil_iff hE
      have HE := Lib.hid (show Says (KB 0 w6) w6 v8 (firstV [newV (endE e1 l1) t_wire, checkC c]) from Says.keep hE fun b _ _ => ⟨Nat.zero_le b, rfl⟩)
      have z6 := (hk6.1.block b0 ⟨lt_of_block Z4.out, by omega⟩).trans Z4.out
      have HVZ := Lib.hid z6
      have SB6 := Lib.hid ((hk6.1.block bS ⟨lt_of_block SB4.out, by omega⟩).trans SB4.out)
      have U6 := Lib.hid (U4.out.aside hgB hk6.1)
      have B6 := Lib.hid (B4.out.trans (hk6.1.below (fun i hi => ⟨Nat.lt_of_lt_of_le hi B4.out.size, by have := HB0.out; omega⟩)))
      clear hC hG6 hk6 hE
      simp only [SpecOwn.put_lit, List.set_cons_succ, List.set_cons_zero]
      rcases hform with rfl | ⟨uu, xx, rfl⟩
      · have HZ := Lib.hid (hnil.1 rfl)
        clear hnil
        obtain ⟨n0, hn0⟩ : ∃ z, c.kind = z := ⟨_, rfl⟩
        obtain ⟨n1, hn1⟩ : ∃ z, c.uid = z := ⟨_, rfl⟩
        obtain ⟨n2, hn2⟩ : ∃ z, c.rev = z := ⟨_, rfl⟩
        obtain ⟨n3, hn3⟩ : ∃ z, c.spec.name = z := ⟨_, rfl⟩
        obtain ⟨n4, hn4⟩ : ∃ z, c.spec.labels.length = z := ⟨_, rfl⟩
        obtain ⟨n5, hn5⟩ : ∃ z, c.spec.init.length = z := ⟨_, rfl⟩
        obtain ⟨n6, hn6⟩ : ∃ z, c.spec.main.length = z := ⟨_, rfl⟩
        obtain ⟨n7, hn7⟩ : ∃ z, c.spec.restart = z := ⟨_, rfl⟩
        obtain ⟨n8, hn8⟩ : ∃ z, c.spec.grace = z := ⟨_, rfl⟩
        obtain ⟨n9, hn9⟩ : ∃ z, c.spec.prio = z := ⟨_, rfl⟩
        obtain ⟨n10, hn10⟩ : ∃ z, c.grace = z := ⟨_, rfl⟩
        obtain ⟨n11, hn11⟩ : ∃ z, c.ctr = z := ⟨_, rfl⟩
        obtain ⟨n12, hn12⟩ : ∃ z, c.id = z := ⟨_, rfl⟩
        obtain ⟨n13, hn13⟩ : ∃ z, c.most = z := ⟨_, rfl⟩
        obtain ⟨n14, hn14⟩ : ∃ z, c.data = z := ⟨_, rfl⟩
        obtain ⟨n15, hn15⟩ : ∃ z, c.sel.length = z := ⟨_, rfl⟩
        rw [hn0, hn1, hn2, hn3, hn4, hn5, hn6, hn7, hn8, hn9, hn10, hn11, hn12, hn13, hn14, hn15] at SB6
        have HN0 := Lib.hid hn0
        have HN1 := Lib.hid hn1
        have HN2 := Lib.hid hn2
        have HN3 := Lib.hid hn3
        have HN4 := Lib.hid hn4
        have HN5 := Lib.hid hn5
        have HN6 := Lib.hid hn6
        have HN7 := Lib.hid hn7
        have HN8 := Lib.hid hn8
        have HN9 := Lib.hid hn9
        have HN10 := Lib.hid hn10
        have HN11 := Lib.hid hn11
        have HN12 := Lib.hid hn12
        have HN13 := Lib.hid hn13
        have HN14 := Lib.hid hn14
        have HN15 := Lib.hid hn15
        clear hn0 hn1 hn2 hn3 hn4 hn5 hn6 hn7 hn8 hn9 hn10 hn11 hn12 hn13 hn14 hn15
        have y0 := box_cell SB6.out 0 rfl
        have y1 := box_cell SB6.out 1 rfl
        have y2 := box_cell SB6.out 2 rfl
        have y3 := box_cell SB6.out 3 rfl
        have y4 := box_cell SB6.out 4 rfl
        have y5 := box_cell SB6.out 5 rfl
        have y6 := box_cell SB6.out 6 rfl
        have y7 := box_cell SB6.out 7 rfl
        have y8 := box_cell SB6.out 8 rfl
        have y9 := box_cell SB6.out 9 rfl
        have y10 := box_cell SB6.out 10 rfl
        have y11 := box_cell SB6.out 11 rfl
        have y12 := box_cell SB6.out 12 rfl
        have y13 := box_cell SB6.out 13 rfl
        have y14 := box_cell SB6.out 14 rfl
        have y15 := box_cell SB6.out 15 rfl
        have vc0 := box_cell z6 0 rfl
        have vf0 := box_free z6 0
        obtain ⟨v1, ve1⟩ : ∃ v, w6.setCell ⟨b0, 0, none⟩ (.int .i64 n0) = v := ⟨_, rfl⟩
        have vz1 := box_set z6 0 (.int .i64 n0) (B := #[.int .i64 n0, .int .i64 0, .int .u64 0, .string ⟨#[]⟩, .slice none 0 0, .slice none 0 0, .slice none 0 0, .int .i64 0, .int .i64 0, .int .i64 0, .int .i64 0, .int .i64 0, .int .i64 0, .int .i64 0, .string ⟨#[]⟩, .slice none 0 0]) rfl
        rw [ve1] at vz1
        have vo1 : Only b0 w6 v1 := by rw [← ve1]; exact (Only.refl b0 w6).set 0 _
        have vc1 := box_cell vz1 1 rfl
        have vf1 := box_free vz1 1
        obtain ⟨v2, ve2⟩ : ∃ v, v1.setCell ⟨b0, 1, none⟩ (.int .i64 n1) = v := ⟨_, rfl⟩
        have vz2 := box_set vz1 1 (.int .i64 n1) (B := #[.int .i64 n0, .int .i64 n1, .int .u64 0, .string ⟨#[]⟩, .slice none 0 0, .slice none 0 0, .slice none 0 0, .int .i64 0, .int .i64 0, .int .i64 0, .int .i64 0, .int .i64 0, .int .i64 0, .int .i64 0, .string ⟨#[]⟩, .slice none 0 0]) rfl
        rw [ve2] at vz2
        have vo2 : Only b0 w6 v2 := by rw [← ve2]; exact vo1.set 1 _
        have vc2 := box_cell vz2 2 rfl
        have vf2 := box_free vz2 2
        obtain ⟨v3, ve3⟩ : ∃ v, v2.setCell ⟨b0, 2, none⟩ (.int .u64 n2) = v := ⟨_, rfl⟩
        have vz3 := box_set vz2 2 (.int .u64 n2) (B := #[.int .i64 n0, .int .i64 n1, .int .u64 n2, .string ⟨#[]⟩, .slice none 0 0, .slice none 0 0, .slice none 0 0, .int .i64 0, .int .i64 0, .int .i64 0, .int .i64 0, .int .i64 0, .int .i64 0, .int .i64 0, .string ⟨#[]⟩, .slice none 0 0]) rfl
        rw [ve3] at vz3
        have vo3 : Only b0 w6 v3 := by rw [← ve3]; exact vo2.set 2 _
        have vc3 := box_cell vz3 3 rfl
        have vf3 := box_free vz3 3
        obtain ⟨v4, ve4⟩ : ∃ v, v3.setCell ⟨b0, 3, none⟩ (.string n3) = v := ⟨_, rfl⟩
        have vz4 := box_set vz3 3 (.string n3) (B := #[.int .i64 n0, .int .i64 n1, .int .u64 n2, .string n3, .slice none 0 0, .slice none 0 0, .slice none 0 0, .int .i64 0, .int .i64 0, .int .i64 0, .int .i64 0, .int .i64 0, .int .i64 0, .int .i64 0, .string ⟨#[]⟩, .slice none 0 0]) rfl
        rw [ve4] at vz4
        have vo4 : Only b0 w6 v4 := by rw [← ve4]; exact vo3.set 3 _
        have vc4 := box_cell vz4 4 rfl
        have vf4 := box_free vz4 4
        obtain ⟨v5, ve5⟩ : ∃ v, v4.setCell ⟨b0, 4, none⟩ (.slice LA n4 lc) = v := ⟨_, rfl⟩
        have vz5 := box_set vz4 4 (.slice LA n4 lc) (B := #[.int .i64 n0, .int .i64 n1, .int .u64 n2, .string n3, .slice LA n4 lc, .slice none 0 0, .slice none 0 0, .int .i64 0, .int .i64 0, .int .i64 0, .int .i64 0, .int .i64 0, .int .i64 0, .int .i64 0, .string ⟨#[]⟩, .slice none 0 0]) rfl
        rw [ve5] at vz5
        have vo5 : Only b0 w6 v5 := by rw [← ve5]; exact vo4.set 4 _
        have vc5 := box_cell vz5 5 rfl
        have vf5 := box_free vz5 5
        obtain ⟨v6, ve6⟩ : ∃ v, v5.setCell ⟨b0, 5, none⟩ (.slice IA n5 ic) = v := ⟨_, rfl⟩
        have vz6 := box_set vz5 5 (.slice IA n5 ic) (B := #[.int .i64 n0, .int .i64 n1, .int .u64 n2, .string n3, .slice LA n4 lc, .slice IA n5 ic, .slice none 0 0, .int .i64 0, .int .i64 0, .int .i64 0, .int .i64 0, .int .i64 0, .int .i64 0, .int .i64 0, .string ⟨#[]⟩, .slice none 0 0]) rfl
        rw [ve6] at vz6
        have vo6 : Only b0 w6 v6 := by rw [← ve6]; exact vo5.set 5 _
        have vc6 := box_cell vz6 6 rfl
        have vf6 := box_free vz6 6
        obtain ⟨v7, ve7⟩ : ∃ v, v6.setCell ⟨b0, 6, none⟩ (.slice MA n6 mc) = v := ⟨_, rfl⟩
        have vz7 := box_set vz6 6 (.slice MA n6 mc) (B := #[.int .i64 n0, .int .i64 n1, .int .u64 n2, .string n3, .slice LA n4 lc, .slice IA n5 ic, .slice MA n6 mc, .int .i64 0, .int .i64 0, .int .i64 0, .int .i64 0, .int .i64 0, .int .i64 0, .int .i64 0, .string ⟨#[]⟩, .slice none 0 0]) rfl
        rw [ve7] at vz7
        have vo7 : Only b0 w6 v7 := by rw [← ve7]; exact vo6.set 6 _
        have vc7 := box_cell vz7 7 rfl
        have vf7 := box_free vz7 7
        obtain ⟨v8, ve8⟩ : ∃ v, v7.setCell ⟨b0, 7, none⟩ (.int .i64 n7) = v := ⟨_, rfl⟩
        have vz8 := box_set vz7 7 (.int .i64 n7) (B := #[.int .i64 n0, .int .i64 n1, .int .u64 n2, .string n3, .slice LA n4 lc, .slice IA n5 ic, .slice MA n6 mc, .int .i64 n7, .int .i64 0, .int .i64 0, .int .i64 0, .int .i64 0, .int .i64 0, .int .i64 0, .string ⟨#[]⟩, .slice none 0 0]) rfl
        rw [ve8] at vz8
        have vo8 : Only b0 w6 v8 := by rw [← ve8]; exact vo7.set 7 _
        have vc8 := box_cell vz8 8 rfl
        have vf8 := box_free vz8 8
        obtain ⟨v9, ve9⟩ : ∃ v, v8.setCell ⟨b0, 8, none⟩ (.int .i64 n8) = v := ⟨_, rfl⟩
        have vz9 := box_set vz8 8 (.int .i64 n8) (B := #[.int .i64 n0, .int .i64 n1, .int .u64 n2, .string n3, .slice LA n4 lc, .slice IA n5 ic, .slice MA n6 mc, .int .i64 n7, .int .i64 n8, .int .i64 0, .int .i64 0, .int .i64 0, .int .i64 0, .int .i64 0, .string ⟨#[]⟩, .slice none 0 0]) rfl
        rw [ve9] at vz9
        have vo9 : Only b0 w6 v9 := by rw [← ve9]; exact vo8.set 8 _
        have vc9 := box_cell vz9 9 rfl
        have vf9 := box_free vz9 9
        obtain ⟨v10, ve10⟩ : ∃ v, v9.setCell ⟨b0, 9, none⟩ (.int .i64 n9) = v := ⟨_, rfl⟩
        have vz10 := box_set vz9 9 (.int .i64 n9) (B := #[.int .i64 n0, .int .i64 n1, .int .u64 n2, .string n3, .slice LA n4 lc, .slice IA n5 ic, .slice MA n6 mc, .int .i64 n7, .int .i64 n8, .int .i64 n9, .int .i64 0, .int .i64 0, .int .i64 0, .int .i64 0, .string ⟨#[]⟩, .slice none 0 0]) rfl
        rw [ve10] at vz10
        have vo10 : Only b0 w6 v10 := by rw [← ve10]; exact vo9.set 9 _
        have vc10 := box_cell vz10 10 rfl
        have vf10 := box_free vz10 10
        obtain ⟨v11, ve11⟩ : ∃ v, v10.setCell ⟨b0, 10, none⟩ (.int .i64 n10) = v := ⟨_, rfl⟩
        have vz11 := box_set vz10 10 (.int .i64 n10) (B := #[.int .i64 n0, .int .i64 n1, .int .u64 n2, .string n3, .slice LA n4 lc, .slice IA n5 ic, .slice MA n6 mc, .int .i64 n7, .int .i64 n8, .int .i64 n9, .int .i64 n10, .int .i64 0, .int .i64 0, .int .i64 0, .string ⟨#[]⟩, .slice none 0 0]) rfl
        rw [ve11] at vz11
        have vo11 : Only b0 w6 v11 := by rw [← ve11]; exact vo10.set 10 _
        have vc11 := box_cell vz11 11 rfl
        have vf11 := box_free vz11 11
        obtain ⟨v12, ve12⟩ : ∃ v, v11.setCell ⟨b0, 11, none⟩ (.int .i64 n11) = v := ⟨_, rfl⟩
        have vz12 := box_set vz11 11 (.int .i64 n11) (B := #[.int .i64 n0, .int .i64 n1, .int .u64 n2, .string n3, .slice LA n4 lc, .slice IA n5 ic, .slice MA n6 mc, .int .i64 n7, .int .i64 n8, .int .i64 n9, .int .i64 n10, .int .i64 n11, .int .i64 0, .int .i64 0, .string ⟨#[]⟩, .slice none 0 0]) rfl
        rw [ve12] at vz12
        have vo12 : Only b0 w6 v12 := by rw [← ve12]; exact vo11.set 11 _
        have vc12 := box_cell vz12 12 rfl
        have vf12 := box_free vz12 12
        obtain ⟨v13, ve13⟩ : ∃ v, v12.setCell ⟨b0, 12, none⟩ (.int .i64 n12) = v := ⟨_, rfl⟩
        have vz13 := box_set vz12 12 (.int .i64 n12) (B := #[.int .i64 n0, .int .i64 n1, .int .u64 n2, .string n3, .slice LA n4 lc, .slice IA n5 ic, .slice MA n6 mc, .int .i64 n7, .int .i64 n8, .int .i64 n9, .int .i64 n10, .int .i64 n11, .int .i64 n12, .int .i64 0, .string ⟨#[]⟩, .slice none 0 0]) rfl
        rw [ve13] at vz13
        have vo13 : Only b0 w6 v13 := by rw [← ve13]; exact vo12.set 12 _
        have vc13 := box_cell vz13 13 rfl
        have vf13 := box_free vz13 13
        obtain ⟨v14, ve14⟩ : ∃ v, v13.setCell ⟨b0, 13, none⟩ (.int .i64 n13) = v := ⟨_, rfl⟩
        have vz14 := box_set vz13 13 (.int .i64 n13) (B := #[.int .i64 n0, .int .i64 n1, .int .u64 n2, .string n3, .slice LA n4 lc, .slice IA n5 ic, .slice MA n6 mc, .int .i64 n7, .int .i64 n8, .int .i64 n9, .int .i64 n10, .int .i64 n11, .int .i64 n12, .int .i64 n13, .string ⟨#[]⟩, .slice none 0 0]) rfl
        rw [ve14] at vz14
        have vo14 : Only b0 w6 v14 := by rw [← ve14]; exact vo13.set 13 _
        have vc14 := box_cell vz14 14 rfl
        have vf14 := box_free vz14 14
        obtain ⟨v15, ve15⟩ : ∃ v, v14.setCell ⟨b0, 14, none⟩ (.string n14) = v := ⟨_, rfl⟩
        have vz15 := box_set vz14 14 (.string n14) (B := #[.int .i64 n0, .int .i64 n1, .int .u64 n2, .string n3, .slice LA n4 lc, .slice IA n5 ic, .slice MA n6 mc, .int .i64 n7, .int .i64 n8, .int .i64 n9, .int .i64 n10, .int .i64 n11, .int .i64 n12, .int .i64 n13, .string n14, .slice none 0 0]) rfl
        rw [ve15] at vz15
        have vo15 : Only b0 w6 v15 := by rw [← ve15]; exact vo14.set 14 _
        have vc15 := box_cell vz15 15 rfl
        have vf15 := box_free vz15 15
        obtain ⟨v16, ve16⟩ : ∃ v, v15.setCell ⟨b0, 15, none⟩ (.slice SA n15 sc) = v := ⟨_, rfl⟩
        have vz16 := box_set vz15 15 (.slice SA n15 sc) (B := #[.int .i64 n0, .int .i64 n1, .int .u64 n2, .string n3, .slice LA n4 lc, .slice IA n5 ic, .slice MA n6 mc, .int .i64 n7, .int .i64 n8, .int .i64 n9, .int .i64 n10, .int .i64 n11, .int .i64 n12, .int .i64 n13, .string n14, .slice SA n15 sc]) rfl
        rw [ve16] at vz16
        have vo16 : Only b0 w6 v16 := by rw [← ve16]; exact vo15.set 15 _
        have vr0 := box_cell vz16 0 rfl
        have vr1 := box_cell vz16 1 rfl
        have vr2 := box_cell vz16 2 rfl
        have vr3 := box_cell vz16 3 rfl
        have vr4 := box_cell vz16 4 rfl
        have vr5 := box_cell vz16 5 rfl
        have vr6 := box_cell vz16 6 rfl
        have vr7 := box_cell vz16 7 rfl
        have vr8 := box_cell vz16 8 rfl
        have vr9 := box_cell vz16 9 rfl
        have vr10 := box_cell vz16 10 rfl
        have vr11 := box_cell vz16 11 rfl
        have vr12 := box_cell vz16 12 rfl
        have vr13 := box_cell vz16 13 rfl
        have vr14 := box_cell vz16 14 rfl
        have vr15 := box_cell vz16 15 rfl
        have vO := Lib.hid vo16
        clear vz1 vo1 vz2 vo2 vz3 vo3 vz4 vo4 vz5 vo5 vz6 vo6 vz7 vo7 vz8 vo8 vz9 vo9 vz10 vo10 vz11 vo11 vz12 vo12 vz13 vo13 vz14 vo14 vz15 vo15 vz16 vo16
        clear z6
        go_wp2_with fail
        refine bodyPost_ret (v := .tuple #[.agg #[.int .i64 n0, .int .i64 n1, .int .u64 n2, .string n3, .slice LA n4 lc, .slice IA n5 ic, .slice MA n6 mc, .int .i64 n7, .int .i64 n8, .int .i64 n9, .int .i64 n10, .int .i64 n11, .int .i64 n12, .int .i64 n13, .string n14, .slice SA n15 sc], .nilIface]) (results_of _ _ b0 .nilIface _ _ _ _ _ _ _ _ _ _ _ _ _ _ _ _ _ _ _ _ _ _ _ _ rfl rfl vr0 vr1 vr2 vr3 vr4 vr5 vr6 vr7 vr8 vr9 vr10 vr11 vr12 vr13 vr14 vr15) rfl ?_
        clear vr0 vr1 vr2 vr3 vr4 vr5 vr6 vr7 vr8 vr9 vr10 vr11 vr12 vr13 vr14 vr15
        exact ⟨.nilIface, by rw [HOFC.out]; exact .inl ⟨Says.zero HE.out HZ.out, rfl⟩, vO.out.below B6.out (by have := HB0.out; omega), .inl ⟨by rw [HOFC.out]; exact HZ.out, LA, lc, IA, ic, MA, mc, SA, sc, by show _ = Ending.returned (.tuple #[.agg #[.int .i64 c.kind, .int .i64 c.uid, .int .u64 c.rev, .string c.spec.name, .slice LA c.spec.labels.length lc, .slice IA c.spec.init.length ic, .slice MA c.spec.main.length mc, .int .i64 c.spec.restart, .int .i64 c.spec.grace, .int .i64 c.spec.prio, .int .i64 c.grace, .int .i64 c.ctr, .int .i64 c.id, .int .i64 c.most, .string c.data, .slice SA c.sel.length sc], .nilIface]); rw [HN0.out, HN1.out, HN2.out, HN3.out, HN4.out, HN5.out, HN6.out, HN7.out, HN8.out, HN9.out, HN10.out, HN11.out, HN12.out, HN13.out, HN14.out, HN15.out], (U6.out.only vO.out hb0B).less (by have := HBB.out; omega)⟩⟩
      · have h0 := HV.out
        rw [HOFC.out] at h0
        have h1 := hnil.2 h0
        cases h1

end Ak
end Go.Proofs.YtakdhkhcndeiiaaGreatDoor
